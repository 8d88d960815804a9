/- The reference's relations: With, whatever the pair; Same. -/
import Derived.Test.YtbcbhofbikdfiaaDoorPaiC
namespace Go.Proofs.YtbcbhofbikdfiaaDoor
set_option maxRecDepth 100000
open Go.RowKit M

set_option maxRecDepth 100000 in
set_option maxHeartbeats 4000000 in
theorem withR_old (l : List (Nat × Nat)) (hl : l.length ≤ 100000) (v : Value) (a b : Int) (hab : a < 0 ∨ (0 ≤ a ∧ 15 < a) ∨ (0 ≤ a ∧ a ≤ 15 ∧ b < 0) ∨ (0 ≤ a ∧ a ≤ 15 ∧ 0 ≤ b ∧ 15 < b) ∨ (0 ≤ a ∧ a ≤ 15 ∧ 0 ≤ b ∧ b ≤ 15 ∧ hasQ l a b = true)) (w : World) (h : PIn w v l) :
    Calls Tryd.prog 15 #[v, .agg #[.int .i64 a, .int .i64 b]] w fun e w' => e = .returned v ∧ Below w.heap.size w w' := by
  obtain ⟨p0, c0, rfl⟩ := SlIn.slice h
  have H := Box.mk (h.below (aset w (.cells #[.int .i64 a, .int .i64 b] 36)))
  have BB := Box.mk (aset w (.cells #[.int .i64 a, .int .i64 b] 36))
  clear h
  rcases hab with i1 | ⟨i1, i2⟩ | ⟨i1, i2, i3⟩ | ⟨i1, i2, i3, i4⟩ | ⟨i1, i2, i3, i4, i5⟩
  · go_enter Tryd.func15, Tryd.ntmps15
    go_wp2_with fail
    go_ret
    exact ⟨rfl, BB.out⟩
  · have j1 : ¬ a < 0 := by omega
    go_enter Tryd.func15, Tryd.ntmps15
    go_wp2_with fail
    go_ret
    exact ⟨rfl, BB.out⟩
  · have j1 : ¬ a < 0 := by omega
    have j2 : ¬ (15 : Int) < a := by omega
    go_enter Tryd.func15, Tryd.ntmps15
    go_wp2_with fail
    go_ret
    exact ⟨rfl, BB.out⟩
  · have j1 : ¬ a < 0 := by omega
    have j2 : ¬ (15 : Int) < a := by omega
    have j3 : ¬ b < 0 := by omega
    go_enter Tryd.func15, Tryd.ntmps15
    go_wp2_with fail
    go_ret
    exact ⟨rfl, BB.out⟩
  · have j1 : ¬ a < 0 := by omega
    have j2 : ¬ (15 : Int) < a := by omega
    have j3 : ¬ b < 0 := by omega
    have j4 : ¬ (15 : Int) < b := by omega
    have hh := hasR_any l hl (.slice p0 l.length c0) a b (w.alloc (.cells #[.int .i64 a, .int .i64 b] 36)) H.out
    rw [i5] at hh
    have HH := Box.mk hh
    clear hh i5
    go_enter Tryd.func15, Tryd.ntmps15
    go_wp2_with (first
      | (go_at_call 13; ((with_reducible refine HH.out.mono ?_); rintro e w0 ⟨rfl, b0⟩; have B0 := Box.mk b0; clear b0))
      | fail)
    go_ret
    exact ⟨rfl, bel BB.out B0.out⟩
theorem withR_own (l : List (Nat × Nat)) (hl : l.length ≤ 100000) (v : Value) (a b : Int) (w : World) (h : PIn w v l) :
    Calls Tryd.prog 15 #[v, .agg #[.int .i64 a, .int .i64 b]] w fun e w' => ∃ v', e = .returned v' ∧ PIn w' v' (withQ l a b) ∧ Below w.heap.size w w' ∧ ∀ k, v'.ownBlock = some k → v.ownBlock = some k ∨ w.heap.size ≤ k := by
  by_cases hc : (0 ≤ a ∧ a < 16) ∧ (0 ≤ b ∧ b < 16) ∧ hasQ l a b = false
  · have e : withQ l a b = l ++ [(a.toNat, b.toNat)] := if_pos hc
    rw [e]
    obtain ⟨⟨h1, h2⟩, ⟨h3, h4⟩, h5⟩ := hc
    obtain ⟨x, rfl⟩ := Int.eq_ofNat_of_zero_le h1
    obtain ⟨y, rfl⟩ := Int.eq_ofNat_of_zero_le h3
    exact (withR_new l hl v x y (by omega) (by omega) h5 w h).mono fun e w' ⟨v', h1, h2, h3, h4⟩ => ⟨v', h1, h2, h3, fun k hk => .inr (h4 k hk)⟩
  · have e : withQ l a b = l := if_neg hc
    rw [e]
    refine (withR_old l hl v a b ?_ w h).mono fun e w' ⟨h1, h2⟩ => ⟨v, h1, h.below h2, h2, fun k hk => .inl hk⟩
    cases hq : hasQ l a b with
    | true => simp only [and_true]; omega
    | false => rw [hq] at hc; simp only [and_true] at hc; omega
theorem withR_any (l : List (Nat × Nat)) (hl : l.length ≤ 100000) (v : Value) (a b : Int) (w : World) (h : PIn w v l) :
    Calls Tryd.prog 15 #[v, .agg #[.int .i64 a, .int .i64 b]] w fun e w' => ∃ v', e = .returned v' ∧ PIn w' v' (withQ l a b) ∧ Below w.heap.size w w' := (withR_own l hl v a b w h).mono fun _ _ ⟨v', h1, h2, h3, _⟩ => ⟨v', h1, h2, h3⟩
theorem pair_cells {w : World} {b : Nat} {x y : Int} (h : w.heap[b]? = some (.cells #[.int .i64 x, .int .i64 y] 36 (0, 0))) : w.cell? ⟨b, 0, none⟩ = some (.int .i64 x) ∧ w.cell? ⟨b, 1, none⟩ = some (.int .i64 y) := ⟨by rw [cOf' h]; rfl, by rw [cOf' h]; rfl⟩
def andQ (l m : List (Nat × Nat)) : List (Nat × Nat) := l.filter fun p => hasQ m (p.1 : Int) (p.2 : Int)
def lessQ (l m : List (Nat × Nat)) : List (Nat × Nat) := l.filter fun p => !hasQ m (p.1 : Int) (p.2 : Int)

set_option maxRecDepth 100000 in
set_option maxHeartbeats 4000000 in
theorem andR_any (l m : List (Nat × Nat)) (hl : l.length ≤ 100000) (hm : m.length ≤ 100000) (v u : Value) (w : World) (h : PIn w v l) (k : PIn w u m) :
    Calls Tryd.prog 19 #[v, u] w fun e w' => ∃ v', e = .returned v' ∧ PIn w' v' (andQ l m) ∧ Below w.heap.size w w' := by
  obtain ⟨p0, c0, rfl⟩ := SlIn.slice h
  obtain ⟨p1, c1, rfl⟩ := SlIn.slice k
  have R0 := Box.mk (newRow w w.heap.size 36 2 (Nat.le_refl _))
  have HB := Box.mk h
  have KB := Box.mk k
  have BB := Box.mk (aset w (.cells #[] 36))
  clear h k
  obtain ⟨ln, hln⟩ : ∃ ln, ln = l.length := ⟨_, rfl⟩
  obtain ⟨mn, hmn⟩ : ∃ mn, mn = m.length := ⟨_, rfl⟩
  rw [← hln] at HB ⊢
  rw [← hmn] at KB ⊢
  have HLN := Box.mk hln
  rw [← hln] at hl
  clear hln hmn
  go_enter Tryd.func19, Tryd.ntmps19
  go_wp2_with fail
  generalize (w.alloc (.cells #[] 36)) = W at *
  go_loopw [5, 11] (fun o iv wr => ∃ (i g n cap : Nat) (F : List (Nat × Nat)), i ≤ ln ∧ n ≤ i ∧ iv = .int .i64 (i : Int) ∧ o = .slice (some ⟨g, 0, none⟩) n cap ∧ F.length = n ∧ Box (F = andQ (l.take i) m) ∧ Box (wr.ownsRow w.heap.size 36 2 (.slice (some ⟨g, 0, none⟩) n cap) n (prs F)) ∧ Box (Below w.heap.size w wr)) (fun _ iv _ => ln - (intOf iv).toNat)
  case atStart => exact ⟨0, _, 0, 0, [], by omega, by omega, rfl, rfl, rfl, ⟨rfl⟩, R0, BB⟩
  case round =>
    clear R0 BB
    obtain ⟨i, g, n, cap, F, hi, hni, rfl, rfl, hF, HF, ROW, BB⟩ := hrel
    by_cases hlt : i < ln
    · obtain ⟨⟨x, y⟩, hxy⟩ : ∃ p, l[i]? = some p := ⟨_, List.getElem?_eq_getElem (by rw [← HLN.out]; exact hlt)⟩
      obtain ⟨bk, off, cc, hv, hbl, k0, k1⟩ := (HB.out.below BB.out).at hxy
      rw [← HLN.out] at hv
      obtain ⟨rfl, _, rfl⟩ := Value.slice.inj hv
      have l0 := BB.out.size
      have hnx : andQ (l.take (i + 1)) m = andQ (l.take i) m ++ (if (hasQ m (x : Int) (y : Int)) then [(x, y)] else []) := by
        unfold andQ
        rw [List.take_add_one, hxy, List.filter_append]
        congr 1
        cases hq : hasQ m (x : Int) (y : Int) <;> simp [hq]
      have HNX := Box.mk hnx
      have HW := hasR_any m hm (.slice p1 mn c1) (x : Int) (y : Int) (wr.alloc (.cells #[.int .i64 (x : Int), .int .i64 (y : Int)] 36)) (KB.out.below (bel' BB.out l0 (aset wr (.cells #[.int .i64 (x : Int), .int .i64 (y : Int)] 36))))
      have PX : Box ((wr.alloc (.cells #[.int .i64 (x : Int), .int .i64 (y : Int)] 36)).heap[wr.heap.size]? = some (.cells #[.int .i64 (x : Int), .int .i64 (y : Int)] 36 (0, 0))) := ⟨heap_alloc_new _ _⟩
      have B1 := Box.mk (bel' BB.out l0 (aset wr (.cells #[.int .i64 (x : Int), .int .i64 (y : Int)] 36)))
      have ROW1 := Box.mk (ROW.out.alloc (.cells #[.int .i64 (x : Int), .int .i64 (y : Int)] 36))
      clear hxy hv hnx BB ROW
      cases hq : hasQ m (x : Int) (y : Int) with
      | true =>
        rw [hq] at HW HNX
        have HH := Box.mk HW
        clear HW hq
        go_wp2_with (first
          | (go_at_call 13; ((with_reducible refine HH.out.mono ?_); rintro e w2 ⟨rfl, b2⟩; have PX2 := (b2.block wr.heap.size (by simp)).trans PX.out; obtain ⟨q0, q1⟩ := pair_cells PX2; have B2 := Box.mk (bel' B1.out (by simp; omega) b2); have ROW2 := Box.mk (rowBel ROW1.out b2); clear b2 PX2))
          | (at_builtin; refine wpList_append_rows w.heap.size (by have := B2.out.size; simp; omega) rfl (.tmp 18) (.tmp 20) 26 36 2 16 (.agg #[.int .i64 0, .int .i64 0]) (by rfl) Tryd.underlying26 info_pair rfl (by decide) (by decide) g n cap (prs F) (by rfl) (ROW2.out.alloc _) _ 1 [.int .i64 (x : Int), .int .i64 (y : Int)] (by rfl) (news_pair (heap_alloc_new w2 _)) (by intro u hu; simp at hu; rcases hu with rfl | rfl <;> rfl) (by omega) ?_; intro g' cap' w4 r4 b4 _; have ROW4 := Box.mk r4; have B4 := Box.mk b4; clear r4 b4))
        go_roundw
        case rel =>
          have s2 := B2.out.size
          refine ⟨i + 1, g', n + 1, cap', F ++ [(x, y)], by omega, by omega, by go_num, rfl, by simp [hF], ⟨by rw [HNX.out, HF.out]; simp⟩, ⟨by rw [← prs_app]; exact ROW4.out⟩, ⟨(bel' B2.out s2 (aset w2 _)).trans B4.out⟩⟩
        case measure => simp [intOf]; omega
      | false =>
        rw [hq] at HW HNX
        have HH := Box.mk HW
        clear HW hq
        go_wp2_with (first
          | (go_at_call 13; ((with_reducible refine HH.out.mono ?_); rintro e w2 ⟨rfl, b2⟩; have B2 := Box.mk (bel' B1.out (by simp; omega) b2); have ROW2 := Box.mk (rowBel ROW1.out b2); clear b2))
          | fail)
        go_roundw
        case rel => exact ⟨i + 1, g, n, cap, F, by omega, by omega, by go_num, rfl, hF, ⟨by rw [HNX.out, HF.out]; simp⟩, ROW2, B2⟩
        case measure => simp [intOf]; omega
    · obtain rfl : i = ln := by omega
      have hfin : F = andQ l m := by rw [HF.out, HLN.out, List.take_length]
      have i5 : ((i : Int) < (i : Int)) = False := by simp
      clear hlt
      go_wp2_with fail
      go_ret
      refine ⟨_, rfl, ?_, BB.out⟩
      rw [← hfin]
      unfold PIn
      rw [hF]
      exact rowSlIn ROW.out
end Go.Proofs.YtbcbhofbikdfiaaDoor
