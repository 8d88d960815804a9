/- Told, Count; With out of bounds. -/
import Derived.Test.YtbcbhofbikdfiaaDoorPaiG
namespace Go.Proofs.YtbcbhofbikdfiaaDoor
set_option maxRecDepth 100000
open Go.RowKit M

def tellRow (r : List Nat) (a n : Nat) : List (Nat × Nat) := ((List.range n).filter fun b => R.has r a b).map fun b => (a, b)
def tellTo (r : List Nat) (k : Nat) : List (Nat × Nat) := (List.range k).flatMap fun a => tellRow r a 16
def tellQ (r : List Nat) : List (Nat × Nat) := tellTo r 16
theorem tellRow_succ (r : List Nat) (a n : Nat) : tellRow r a (n + 1) = tellRow r a n ++ (if R.has r a n then [(a, n)] else []) := by
  unfold tellRow
  rw [List.range_succ, List.filter_append, List.map_append]
  congr 1
  cases h : R.has r a n <;> simp [h]
theorem tellTo_succ (r : List Nat) (k : Nat) : tellTo r (k + 1) = tellTo r k ++ tellRow r k 16 := by unfold tellTo; rw [List.range_succ, List.flatMap_append]; simp
theorem tellRow_len (r : List Nat) (a n : Nat) : (tellRow r a n).length ≤ n := by unfold tellRow; rw [List.length_map]; exact Nat.le_trans (List.length_filter_le _ _) (by simp)
theorem tellTo_len (r : List Nat) : ∀ k, (tellTo r k).length ≤ k * 16
  | 0 => by simp [tellTo]
  | k + 1 => by rw [tellTo_succ, List.length_append, Nat.succ_mul]; have := tellTo_len r k; have := tellRow_len r k 16; omega

set_option maxRecDepth 100000 in
set_option maxHeartbeats 4000000 in
theorem told16_any (r : List Nat) (hr : R.Wf r) (w : World) :
    Calls Tryd.prog 10 #[.agg (w16 r).toArray] w fun e w' => ∃ v', e = .returned v' ∧ PIn w' v' (tellQ r) ∧ Below w.heap.size w w' := by
  have HR := Box.mk hr
  have IR := Box.mk (infoL hr)
  have R0 := Box.mk (newRow (w.alloc (.cells (w16 r).toArray 25)) (w.heap.size + 1) 36 2 (by simp))
  have RB0 := Box.mk ((RB.new w r).alloc (.cells #[] 36))
  have BB := Box.mk (bel (aset w (.cells (w16 r).toArray 25)) (aset _ (.cells #[] 36)))
  rw [World.size_alloc] at R0
  clear hr
  go_enter Tryd.func10, Tryd.ntmps10
  go_wp2_with fail
  generalize ((w.alloc (.cells (w16 r).toArray 25)).alloc (.cells #[] 36)) = W at *
  go_loopw [3, 4] (fun o av wr => ∃ (k g n cap : Nat) (F : List (Nat × Nat)), k ≤ 16 ∧ n ≤ k * 16 ∧ av = .int .i64 (k : Int) ∧ o = .slice (some ⟨g, 0, none⟩) n cap ∧ F.length = n ∧ Box (F = tellTo r k) ∧ Box (wr.ownsRow (w.heap.size + 1) 36 2 (.slice (some ⟨g, 0, none⟩) n cap) n (prs F)) ∧ Box (RB wr w.heap.size r) ∧ Box (Below w.heap.size w wr)) (fun _ av _ => 16 - (intOf av).toNat)
  case atStart => exact ⟨0, _, 0, 0, [], by omega, by omega, rfl, rfl, rfl, ⟨rfl⟩, R0, RB0, BB⟩
  case round =>
    clear R0 RB0 BB
    obtain ⟨a, g, n, cap, F, ha, hn, rfl, rfl, hF, HF, ROW, RR, BB⟩ := hrel
    by_cases hlt : a < 16
    · have i1 : (0 : Int) ≤ (a : Int) := by omega
      have i2 : (a : Int) < 16 := by omega
      go_wp2_with fail
      go_loopw [3, 5] (fun o bv wr => ∃ (b g n cap : Nat) (F : List (Nat × Nat)), b ≤ 16 ∧ n ≤ a * 16 + b ∧ bv = .int .i64 (b : Int) ∧ o = .slice (some ⟨g, 0, none⟩) n cap ∧ F.length = n ∧ Box (F = tellTo r a ++ tellRow r a b) ∧ Box (wr.ownsRow (w.heap.size + 1) 36 2 (.slice (some ⟨g, 0, none⟩) n cap) n (prs F)) ∧ Box (RB wr w.heap.size r) ∧ Box (Below w.heap.size w wr)) (fun _ bv _ => 16 - (intOf bv).toNat)
      case atStart => exact ⟨0, g, n, cap, F, by omega, by omega, rfl, rfl, hF, ⟨by rw [HF.out]; simp [tellRow]⟩, ROW, RR, BB⟩
      case round =>
        clear ROW RR BB hF HF hn
        obtain ⟨b, g, n, cap, F, hb, hn, rfl, rfl, hF, HF, ROW, RR, BB⟩ := hrel
        by_cases hbt : b < 16
        · have i3 : (0 : Int) ≤ (b : Int) := by omega
          have i4 : (b : Int) < 16 := by omega
          have hc := has_any r HR.out (a : Int) (b : Int) wr
          rw [hasI_nat] at hc
          have hnx : tellTo r a ++ tellRow r a (b + 1) = F ++ (if R.has r a b then [(a, b)] else []) := by rw [tellRow_succ, HF.out, List.append_assoc]
          have l0 := BB.out.size
          cases hq : R.has r a b with
          | true =>
            rw [hq] at hc hnx
            have HC := Box.mk hc; have HNX := Box.mk hnx
            clear hc hnx hq
            go_wp2_with (first
              | ((with_reducible refine at_load 25 (.tmp 1) ?_); refine wpList_load_mid rfl 25 (.tmp 1) (by rfl) w.heap.size 0 (by rfl) (w16 r) _ RR.out.range undR rfl IR.out ?_)
              | (go_at_call 12; ((with_reducible refine HC.out.mono ?_); rintro e w2 ⟨rfl, b2⟩; have B2 := Box.mk (bel' BB.out l0 b2); have ROW2 := Box.mk (rowBel ROW.out b2); have RR2 := Box.mk (RR.out.below b2); have s2 := B2.out.size; clear b2))
              | (at_builtin; refine wpList_append_rows (w.heap.size + 1) (by simp; omega) rfl (.tmp 19) (.tmp 23) 26 36 2 16 (.agg #[.int .i64 0, .int .i64 0]) (by rfl) Tryd.underlying26 info_pair rfl (by decide) (by decide) g n cap (prs F) (by rfl) (ROW2.out.alloc _) _ 1 [.int .i64 (a : Int), .int .i64 (b : Int)] (by rfl) (news_pair (heap_alloc_new w2 _)) (by intro u hu; simp at hu; rcases hu with rfl | rfl <;> rfl) (by omega) ?_; intro g' cap' w4 r4 b4 hg4; have ROW4 := Box.mk r4; have B4 := Box.mk b4; have G4 := Box.mk hg4; clear r4 b4 hg4))
            go_roundw
            case rel =>
              have RR4 : RB w4 w.heap.size r := (B4.out.block _ (by omega)).trans (RR2.out.alloc _)
              exact ⟨b + 1, g', n + 1, cap', F ++ [(a, b)], by omega, by omega, by go_num, rfl, by simp [hF], ⟨by rw [HNX.out]; simp⟩, ⟨by rw [← prs_app]; exact ROW4.out⟩, ⟨RR4⟩, ⟨(bel' B2.out s2 (aset w2 _)).trans (B4.out.mono (by omega))⟩⟩
            case measure => simp [intOf]; omega
          | false =>
            rw [hq] at hc hnx
            have HC := Box.mk hc; have HNX := Box.mk hnx
            clear hc hnx hq
            go_wp2_with (first
              | ((with_reducible refine at_load 25 (.tmp 1) ?_); refine wpList_load_mid rfl 25 (.tmp 1) (by rfl) w.heap.size 0 (by rfl) (w16 r) _ RR.out.range undR rfl IR.out ?_)
              | (go_at_call 12; ((with_reducible refine HC.out.mono ?_); rintro e w2 ⟨rfl, b2⟩; have B2 := Box.mk (bel' BB.out l0 b2); have ROW2 := Box.mk (rowBel ROW.out b2); have RR2 := Box.mk (RR.out.below b2); clear b2)))
            go_roundw
            case rel => exact ⟨b + 1, g, n, cap, F, by omega, by omega, by go_num, rfl, hF, ⟨by rw [HNX.out]; simp⟩, ROW2, RR2, B2⟩
            case measure => simp [intOf]; omega
        · obtain rfl : b = 16 := by omega
          have i5 : ((16 : Int) < 16) = False := by simp
          have HX : Box (F = tellTo r (a + 1)) := ⟨by rw [tellTo_succ]; exact HF.out⟩
          go_wp2_with fail
          go_roundw
          case rel => exact ⟨a + 1, g, n, cap, F, by omega, by omega, by go_num, rfl, hF, HX, ROW, RR, BB⟩
          case measure => simp [intOf]; omega
    · obtain rfl : a = 16 := by omega
      have i5 : ((16 : Int) < 16) = False := by simp
      have hfin : F = tellQ r := HF.out
      go_wp2_with fail
      go_ret
      refine ⟨_, rfl, ?_, BB.out⟩
      rw [← hfin]
      unfold PIn
      rw [hF]
      exact rowSlIn ROW.out
end Go.Proofs.YtbcbhofbikdfiaaDoor
