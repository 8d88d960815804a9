/- The reference's relations: Less, Turned. -/
import Derived.Test.YtbcbhofbikdfiaaDoorPaiD
namespace Go.Proofs.YtbcbhofbikdfiaaDoor
set_option maxRecDepth 100000
open Go.RowKit M

def turnQ (l : List (Nat × Nat)) : List (Nat × Nat) := l.map fun p => (p.2, p.1)

set_option maxRecDepth 100000 in
set_option maxHeartbeats 4000000 in
theorem lessR_any (l m : List (Nat × Nat)) (hl : l.length ≤ 100000) (hm : m.length ≤ 100000) (v u : Value) (w : World) (h : PIn w v l) (k : PIn w u m) :
    Calls Tryd.prog 21 #[v, u] w fun e w' => ∃ v', e = .returned v' ∧ PIn w' v' (lessQ l m) ∧ Below w.heap.size w w' := by
  obtain ⟨p0, c0, rfl⟩ := SlIn.slice h
  obtain ⟨p1, c1, rfl⟩ := SlIn.slice k
  have R0 := Box.mk (newRow w w.heap.size 36 2 (Nat.le_refl _))
  have HB := Box.mk h
  have KB := Box.mk k
  have BB := Box.mk (aset w (.cells #[] 36))
  clear h k
  obtain ⟨ln, hln⟩ : ∃ ln, ln = l.length := ⟨_, rfl⟩
  obtain ⟨mn, hmn⟩ : ∃ mn, mn = m.length := ⟨_, rfl⟩
  rw [← hln] at HB ⊢
  rw [← hmn] at KB ⊢
  have HLN := Box.mk hln
  rw [← hln] at hl
  clear hln hmn
  go_enter Tryd.func21, Tryd.ntmps21
  go_wp2_with fail
  generalize (w.alloc (.cells #[] 36)) = W at *
  go_loopw [5, 11] (fun o iv wr => ∃ (i g n cap : Nat) (F : List (Nat × Nat)), i ≤ ln ∧ n ≤ i ∧ iv = .int .i64 (i : Int) ∧ o = .slice (some ⟨g, 0, none⟩) n cap ∧ F.length = n ∧ Box (F = lessQ (l.take i) m) ∧ Box (wr.ownsRow w.heap.size 36 2 (.slice (some ⟨g, 0, none⟩) n cap) n (prs F)) ∧ Box (Below w.heap.size w wr)) (fun _ iv _ => ln - (intOf iv).toNat)
  case atStart => exact ⟨0, _, 0, 0, [], by omega, by omega, rfl, rfl, rfl, ⟨rfl⟩, R0, BB⟩
  case round =>
    clear R0 BB
    obtain ⟨i, g, n, cap, F, hi, hni, rfl, rfl, hF, HF, ROW, BB⟩ := hrel
    by_cases hlt : i < ln
    · obtain ⟨⟨x, y⟩, hxy⟩ : ∃ p, l[i]? = some p := ⟨_, List.getElem?_eq_getElem (by rw [← HLN.out]; exact hlt)⟩
      obtain ⟨bk, off, cc, hv, hbl, k0, k1⟩ := (HB.out.below BB.out).at hxy
      rw [← HLN.out] at hv
      obtain ⟨rfl, _, rfl⟩ := Value.slice.inj hv
      have l0 := BB.out.size
      have hnx : lessQ (l.take (i + 1)) m = lessQ (l.take i) m ++ (if (!hasQ m (x : Int) (y : Int)) then [(x, y)] else []) := by
        unfold lessQ
        rw [List.take_add_one, hxy, List.filter_append]
        congr 1
        cases hq : hasQ m (x : Int) (y : Int) <;> simp [hq]
      have HNX := Box.mk hnx
      have HW := hasR_any m hm (.slice p1 mn c1) (x : Int) (y : Int) (wr.alloc (.cells #[.int .i64 (x : Int), .int .i64 (y : Int)] 36)) (KB.out.below (bel' BB.out l0 (aset wr (.cells #[.int .i64 (x : Int), .int .i64 (y : Int)] 36))))
      have PX : Box ((wr.alloc (.cells #[.int .i64 (x : Int), .int .i64 (y : Int)] 36)).heap[wr.heap.size]? = some (.cells #[.int .i64 (x : Int), .int .i64 (y : Int)] 36 (0, 0))) := ⟨heap_alloc_new _ _⟩
      have B1 := Box.mk (bel' BB.out l0 (aset wr (.cells #[.int .i64 (x : Int), .int .i64 (y : Int)] 36)))
      have ROW1 := Box.mk (ROW.out.alloc (.cells #[.int .i64 (x : Int), .int .i64 (y : Int)] 36))
      clear hxy hv hnx BB ROW
      cases hq : hasQ m (x : Int) (y : Int) with
      | true =>
        rw [hq] at HW HNX
        have HH := Box.mk HW
        clear HW hq
        go_wp2_with (first
          | (go_at_call 13; ((with_reducible refine HH.out.mono ?_); rintro e w2 ⟨rfl, b2⟩; have B2 := Box.mk (bel' B1.out (by simp; omega) b2); have ROW2 := Box.mk (rowBel ROW1.out b2); clear b2))
          | fail)
        go_roundw
        case rel => exact ⟨i + 1, g, n, cap, F, by omega, by omega, by go_num, rfl, hF, ⟨by rw [HNX.out, HF.out]; simp⟩, ROW2, B2⟩
        case measure => simp [intOf]; omega
      | false =>
        rw [hq] at HW HNX
        have HH := Box.mk HW
        clear HW hq
        go_wp2_with (first
          | (go_at_call 13; ((with_reducible refine HH.out.mono ?_); rintro e w2 ⟨rfl, b2⟩; have PX2 := (b2.block wr.heap.size (by simp)).trans PX.out; obtain ⟨q0, q1⟩ := pair_cells PX2; have B2 := Box.mk (bel' B1.out (by simp; omega) b2); have ROW2 := Box.mk (rowBel ROW1.out b2); clear b2 PX2))
          | (at_builtin; refine wpList_append_rows w.heap.size (by have := B2.out.size; simp; omega) rfl (.tmp 19) (.tmp 21) 26 36 2 16 (.agg #[.int .i64 0, .int .i64 0]) (by rfl) Tryd.underlying26 info_pair rfl (by decide) (by decide) g n cap (prs F) (by rfl) (ROW2.out.alloc _) _ 1 [.int .i64 (x : Int), .int .i64 (y : Int)] (by rfl) (news_pair (heap_alloc_new w2 _)) (by intro u hu; simp at hu; rcases hu with rfl | rfl <;> rfl) (by omega) ?_; intro g' cap' w4 r4 b4 _; have ROW4 := Box.mk r4; have B4 := Box.mk b4; clear r4 b4))
        go_roundw
        case rel =>
          have s2 := B2.out.size
          refine ⟨i + 1, g', n + 1, cap', F ++ [(x, y)], by omega, by omega, by go_num, rfl, by simp [hF], ⟨by rw [HNX.out, HF.out]; simp⟩, ⟨by rw [← prs_app]; exact ROW4.out⟩, ⟨(bel' B2.out s2 (aset w2 _)).trans B4.out⟩⟩
        case measure => simp [intOf]; omega
    · obtain rfl : i = ln := by omega
      have hfin : F = lessQ l m := by rw [HF.out, HLN.out, List.take_length]
      have i5 : ((i : Int) < (i : Int)) = False := by simp
      clear hlt
      go_wp2_with fail
      go_ret
      refine ⟨_, rfl, ?_, BB.out⟩
      rw [← hfin]
      unfold PIn
      rw [hF]
      exact rowSlIn ROW.out

set_option maxRecDepth 100000 in
set_option maxHeartbeats 4000000 in
theorem turnR_any (l : List (Nat × Nat)) (hl : l.length ≤ 100000) (v : Value) (w : World) (h : PIn w v l) :
    Calls Tryd.prog 23 #[v] w fun e w' => ∃ v', e = .returned v' ∧ PIn w' v' (turnQ l) ∧ Below w.heap.size w w' := by
  obtain ⟨p0, c0, rfl⟩ := SlIn.slice h
  have R0 := Box.mk (newRow w w.heap.size 36 2 (Nat.le_refl _))
  have HB := Box.mk h
  have BB := Box.mk (aset w (.cells #[] 36))
  clear h
  obtain ⟨ln, hln⟩ : ∃ ln, ln = l.length := ⟨_, rfl⟩
  rw [← hln] at HB ⊢
  have HLN := Box.mk hln
  rw [← hln] at hl
  clear hln
  go_enter Tryd.func23, Tryd.ntmps23
  go_wp2_with fail
  generalize (w.alloc (.cells #[] 36)) = W at *
  go_loopw [3, 9] (fun o iv wr => ∃ (i g n cap : Nat) (F : List (Nat × Nat)), i ≤ ln ∧ n ≤ i ∧ iv = .int .i64 (i : Int) ∧ o = .slice (some ⟨g, 0, none⟩) n cap ∧ F.length = n ∧ Box (F = turnQ (l.take i)) ∧ Box (wr.ownsRow w.heap.size 36 2 (.slice (some ⟨g, 0, none⟩) n cap) n (prs F)) ∧ Box (Below w.heap.size w wr)) (fun _ iv _ => ln - (intOf iv).toNat)
  case atStart => exact ⟨0, _, 0, 0, [], by omega, by omega, rfl, rfl, rfl, ⟨rfl⟩, R0, BB⟩
  case round =>
    clear R0 BB
    obtain ⟨i, g, n, cap, F, hi, hni, rfl, rfl, hF, HF, ROW, BB⟩ := hrel
    by_cases hlt : i < ln
    · obtain ⟨⟨x, y⟩, hxy⟩ : ∃ p, l[i]? = some p := ⟨_, List.getElem?_eq_getElem (by rw [← HLN.out]; exact hlt)⟩
      obtain ⟨bk, off, cc, hv, hbl, k0, k1⟩ := (HB.out.below BB.out).at hxy
      rw [← HLN.out] at hv
      obtain ⟨rfl, _, rfl⟩ := Value.slice.inj hv
      have l0 := BB.out.size
      have hnx : turnQ (l.take (i + 1)) = turnQ (l.take i) ++ [(y, x)] := by
        unfold turnQ
        rw [List.take_add_one, hxy, List.map_append]
        rfl
      have HNX := Box.mk hnx
      have PX : Box ((wr.alloc (.cells #[.int .i64 (x : Int), .int .i64 (y : Int)] 36)).heap[wr.heap.size]? = some (.cells #[.int .i64 (x : Int), .int .i64 (y : Int)] 36 (0, 0))) := ⟨heap_alloc_new _ _⟩
      have NEW : Box (((wr.alloc (.cells #[.int .i64 (x : Int), .int .i64 (y : Int)] 36)).alloc (.cells #[.int .i64 (y : Int), .int .i64 (x : Int)] 36)).heap[wr.heap.size + 1]? = some (.cells #[.int .i64 (y : Int), .int .i64 (x : Int)] 36 (0, 0))) := ⟨by have := heap_alloc_new (wr.alloc (.cells #[.int .i64 (x : Int), .int .i64 (y : Int)] 36)) (.cells #[.int .i64 (y : Int), .int .i64 (x : Int)] 36); rw [World.size_alloc] at this; exact this⟩
      have B1 := Box.mk (bel' BB.out l0 (aset wr (.cells #[.int .i64 (x : Int), .int .i64 (y : Int)] 36)))
      have ROW1 := Box.mk (ROW.out.alloc (.cells #[.int .i64 (x : Int), .int .i64 (y : Int)] 36))
      clear hxy hv hnx BB ROW
      go_wp2_with (at_builtin; refine wpList_append_rows w.heap.size (by have := B1.out.size; simp at this; simp; omega) rfl (.tmp 13) (.tmp 19) 26 36 2 16 (.agg #[.int .i64 0, .int .i64 0]) (by rfl) Tryd.underlying26 info_pair rfl (by decide) (by decide) g n cap (prs F) (by rfl) (ROW1.out.alloc _) _ 1 [.int .i64 (y : Int), .int .i64 (x : Int)] (by rfl) (news_pair NEW.out) (by intro u hu; simp at hu; rcases hu with rfl | rfl <;> rfl) (by omega) ?_; intro g' cap' w4 r4 b4 _; have ROW4 := Box.mk r4; have B4 := Box.mk b4; clear r4 b4)
      go_roundw
      case rel =>
        exact ⟨i + 1, g', n + 1, cap', F ++ [(y, x)], by omega, by omega, by go_num, rfl, by simp [hF], ⟨by rw [HNX.out, HF.out]⟩, ⟨by rw [← prs_app]; exact ROW4.out⟩, ⟨(bel' B1.out (by have := B1.out.size; simpa using this) (aset _ (.cells #[.int .i64 (y : Int), .int .i64 (x : Int)] 36))).trans B4.out⟩⟩
      case measure => simp [intOf]; omega
    · obtain rfl : i = ln := by omega
      have hfin : F = turnQ l := by rw [HF.out, HLN.out, List.take_length]
      have i5 : ((i : Int) < (i : Int)) = False := by simp
      clear hlt
      go_wp2_with fail
      go_ret
      refine ⟨_, rfl, ?_, BB.out⟩
      rw [← hfin]
      unfold PIn
      rw [hF]
      exact rowSlIn ROW.out
end Go.Proofs.YtbcbhofbikdfiaaDoor
