/- Contracts of rel: closed, around. -/
import Derived.Test.YtbcbhofbikdfiaaDoorRelB
namespace Go.Proofs.YtbcbhofbikdfiaaDoor
set_option maxRecDepth 100000
open Go.RowKit M

theorem closeTo_succ (r : List Nat) (n : Nat) : R.closeTo r (n + 1) = R.roundTo (R.closeTo r n) n 16 := by unfold R.closeTo; rw [List.range_succ, List.foldl_append]; rfl
theorem roundTo_succ (r : List Nat) (k m : Nat) : R.roundTo r k (m + 1) = R.stepC k (R.roundTo r k m) m := by unfold R.roundTo; rw [List.range_succ, List.foldl_append]; rfl

set_option maxRecDepth 100000 in
set_option maxHeartbeats 2000000 in
theorem closed_any (r : List Nat) (hr : R.Wf r) (w : World) :
    Calls Tryd.prog 26 #[.agg (w16 r).toArray] w fun e w' => e = .returned (.agg (w16 (R.closeM r)).toArray) ∧ Below w.heap.size w w' := by
  obtain ⟨S, hS⟩ : ∃ S, S = R.closeM r := ⟨_, rfl⟩
  have HW : Box (R.Wf S) := ⟨by rw [hS]; exact R.close_wf hr⟩
  have HS := Box.mk hS
  rw [← hS]
  clear hS
  go_enter Tryd.func26, Tryd.ntmps26
  go_wp2_with fail
  have b1 : Below w.heap.size w ((w.alloc (.cells (w16 r).toArray 25)).alloc (.cells (w16 R.zeroM).toArray 25)) := (aset w _).trans ((aset _ _).mono (by simp))
  have rb0 := (RB.new w r).alloc (.cells (w16 R.zeroM).toArray 25)
  have rb2 := RB.new (w.alloc (.cells (w16 r).toArray 25)) R.zeroM
  rw [sum_zero] at b1 rb0 rb2
  simp only [World.size_alloc] at rb2
  generalize ((w.alloc (.cells (w16 r).toArray 25)).alloc (.cells #[.int .u16 0, .int .u16 0, .int .u16 0, .int .u16 0, .int .u16 0, .int .u16 0, .int .u16 0, .int .u16 0, .int .u16 0, .int .u16 0, .int .u16 0, .int .u16 0, .int .u16 0, .int .u16 0, .int .u16 0, .int .u16 0] 25)) = W at *
  have RB0 := Box.mk rb0; have RB2 := Box.mk rb2; have B1 := Box.mk b1; have HR := Box.mk hr
  clear rb0 rb2 b1 hr
  go_loopw [5] (fun i wr => ∃ n : Nat, n ≤ 16 ∧ i = .int .i64 (n : Int) ∧ Box (RB wr w.heap.size (R.closeTo r n)) ∧ Box (RB wr (w.heap.size + 1) R.zeroM) ∧ Box (Below w.heap.size w wr)) (fun i _ => 16 - (intOf i).toNat)
  case atStart => exact ⟨0, by omega, rfl, RB0, RB2, B1⟩
  case round =>
    clear RB0 RB2 B1
    obtain ⟨n, hn, rfl, h0, h2, hb⟩ := hrel
    by_cases hlt : n < 16
    · obtain ⟨T0, hT0⟩ : ∃ T, T = R.closeTo r n := ⟨_, rfl⟩
      have HT0 : Box (R.Wf T0) := ⟨by rw [hT0]; exact (R.closeTo_spec HR.out n (by omega)).1⟩
      have HE := Box.mk hT0
      rw [← hT0] at h0
      clear hT0
      have i3 : (0 : Int) ≤ (n : Int) := by omega
      have i4 : (n : Int) < 16 := by omega
      go_wp2_with fail
      go_loopw [8] (fun i wr => ∃ m : Nat, m ≤ 16 ∧ i = .int .i64 (m : Int) ∧ Box (RB wr w.heap.size (R.roundTo T0 n m)) ∧ Box (RB wr (w.heap.size + 1) R.zeroM) ∧ Box (Below w.heap.size w wr)) (fun i _ => 16 - (intOf i).toNat)
      case atStart => exact ⟨0, by omega, rfl, h0, h2, hb⟩
      case round =>
        clear h0 h2 hb
        obtain ⟨m, hm, rfl, h0, h2, hb⟩ := hrel
        by_cases hmt : m < 16
        · obtain ⟨T, hT⟩ : ∃ T, T = R.roundTo T0 n m := ⟨_, rfl⟩
          have HT : Box (R.Wf T) := ⟨by rw [hT]; exact (R.roundTo_spec HT0.out m (by omega)).1⟩
          have HE2 := Box.mk hT
          rw [← hT] at h0
          clear hT
          have hc := has_any T HT.out (m : Int) (n : Int) wr
          rw [hasI_nat] at hc
          have HC := Box.mk hc
          clear hc
          have i1 : (0 : Int) ≤ (m : Int) := by omega
          have i2 : (m : Int) < 16 := by omega
          by_cases hh : R.has T m n = true
          · rw [hh] at HC
            have k0 := h0.out.cell HT.out hmt
            have k1 := h0.out.cell HT.out hlt
            have z0 := h0.out.fz m
            have n0 := or16 (HT.out.lt m) (HT.out.lt n)
            have e1 : R.roundTo T0 n (m + 1) = T.set m (R.g T m ||| R.g T n) := by rw [roundTo_succ, ← HE2.out]; unfold R.stepC; rw [if_pos hh]
            have E1 := Box.mk e1
            have hlm := h0.out.lt
            clear e1 hh
            generalize R.g T m = x at *
            generalize R.g T n = y at *
            generalize x ||| y = z at *
            go_wp2_with (first
              | ((with_reducible refine at_load 25 (.tmp 1) ?_); refine wpList_load_mid rfl 25 (.tmp 1) (by rfl) w.heap.size 0 (by rfl) (w16 T) _ h0.out.range undR rfl (infoL HT.out) ?_)
              | (go_at_call 12; ((with_reducible refine HC.out.mono ?_); rintro e w2 ⟨rfl, b2⟩; have B2 := Box.mk b2; replace k0 := (b2.cell (p := ⟨w.heap.size, m, none⟩) hlm).trans k0; replace k1 := (b2.cell (p := ⟨w.heap.size, n, none⟩) hlm).trans k1; replace z0 := (h0.out.below b2).fz m; clear b2)))
            have H0 := Box.mk (h0.out.below B2.out)
            have H2 := Box.mk (h2.out.below B2.out)
            have HB := Box.mk (hb.out.trans (B2.out.mono hb.out.size))
            clear h0 h2 hb B2
            go_still_tail 8, (by kernel_rfl)
            change wpList _ _ _ _ _ w2.drew
            go_wp2_with fail
            go_roundw
            case rel => exact ⟨m + 1, by omega, by go_num, ⟨by rw [E1.out]; exact H0.out.set m z⟩, ⟨(H2.out.other (by omega) _ _).drew⟩, ⟨(bset HB.out _ _ _ (Nat.le_refl _)).drew⟩⟩
            case measure => simp [intOf]; omega
          · have hh' : R.has T m n = false := by simpa using hh
            rw [hh'] at HC
            have e1 : R.roundTo T0 n (m + 1) = T := by rw [roundTo_succ, ← HE2.out]; unfold R.stepC; rw [if_neg hh]
            have E1 := Box.mk e1
            clear e1 hh hh'
            go_wp2_with (first
              | ((with_reducible refine at_load 25 (.tmp 1) ?_); refine wpList_load_mid rfl 25 (.tmp 1) (by rfl) w.heap.size 0 (by rfl) (w16 T) _ h0.out.range undR rfl (infoL HT.out) ?_)
              | (go_at_call 12; ((with_reducible refine HC.out.mono ?_); rintro e w2 ⟨rfl, b2⟩; have B2 := Box.mk b2; clear b2)))
            go_roundw
            case rel => exact ⟨m + 1, by omega, by go_num, ⟨by rw [E1.out]; exact h0.out.below B2.out⟩, ⟨h2.out.below B2.out⟩, ⟨hb.out.trans (B2.out.mono hb.out.size)⟩⟩
            case measure => simp [intOf]; omega
        · obtain rfl : m = 16 := by omega
          go_wp2_with fail
          go_roundw
          case rel => exact ⟨n + 1, by omega, by go_num, ⟨by rw [closeTo_succ, ← HE.out]; exact h0.out⟩, h2, hb⟩
          case measure => simp [intOf]; omega
    · obtain rfl : n = 16 := by omega
      have h0' : Box (RB wr w.heap.size S) := ⟨by rw [HS.out]; exact h0.out⟩
      clear h0
      go_wp2_with (first
        | ((with_reducible refine at_load 25 (.tmp 1) ?_); refine wpList_load_mid rfl 25 (.tmp 1) (by rfl) w.heap.size 0 (by rfl) (w16 S) _ h0'.out.range undR rfl (infoL HW.out) ?_)
        | ((with_reducible refine at_store 25 (.tmp 2) (.tmp 25) ?_); refine wpList_store_mid rfl 25 (.tmp 2) (.tmp 25) (by rfl) (w.heap.size + 1) 0 (w16 S).toArray (by rfl) (by rfl) (thereL h2.out HW.out) (infoA HW.out) (all_oneCell_toArray (w16_one _)) ?_))
      have RZ := h2.out.all R.zero_wf HW.out
      refine bodyPost_ret (v := .agg (w16 S).toArray) (results_one rfl (by rfl) (loadR RZ HW.out)) rfl ⟨rfl, ?_⟩
      exact bsets (by omega) _ _ _ hb.out

set_option maxRecDepth 100000 in
set_option maxHeartbeats 2000000 in
theorem around_any (r : List Nat) (hr : R.Wf r) (w : World) :
    Calls Tryd.prog 28 #[.agg (w16 r).toArray] w fun e w' => e = .returned (.bool (R.roundM r)) ∧ Below w.heap.size w w' := by
  obtain ⟨S, hS⟩ : ∃ S, S = R.closeM r := ⟨_, rfl⟩
  have HW : Box (R.Wf S) := ⟨by rw [hS]; exact R.close_wf hr⟩
  have hq : R.roundM r = (List.range 16).any fun a => R.has S a a := by rw [hS]; rfl
  have CC := Box.mk (fun w => closed_any r hr w)
  rw [← hS] at CC
  have hY : (∃ a, a < 16 ∧ R.has S a a = true) → R.roundM r = true := fun ⟨a, h1, h2⟩ => by rw [hq]; exact List.any_eq_true.2 ⟨a, by simpa using h1, h2⟩
  have hN : (∀ a, a < 16 → R.has S a a = false) → R.roundM r = false := fun h => by
    rw [hq]; apply List.any_eq_false.2; intro a ha; rw [h a (by simpa using ha)]; simp
  have HY := Box.mk hY; have HN := Box.mk hN
  clear hY hN hq
  generalize R.roundM r = q at *
  have rb0 := RB.new w r
  have RB0 := Box.mk rb0
  have HR := Box.mk hr
  clear rb0 hS hr
  go_enter Tryd.func28, Tryd.ntmps28
  go_wp2_with (first
    | ((with_reducible refine at_load 25 (.tmp 1) ?_); refine wpList_load_mid rfl 25 (.tmp 1) (by rfl) w.heap.size 0 (by rfl) (w16 r) _ RB0.out.range undR rfl (infoL HR.out) ?_)
    | (go_at_call 26; ((with_reducible refine (CC.out _).mono ?_); rintro e w2 ⟨rfl, b2⟩; have B2 := Box.mk b2; have RN := Box.mk (RB.new w2 R.zeroM); rw [sum_zero] at RN; clear b2))
    | ((with_reducible refine at_store 25 (.tmp 3) (.tmp 6) ?_); refine wpList_store_mid rfl 25 (.tmp 3) (.tmp 6) (by rfl) w2.heap.size 0 (w16 S).toArray (by rfl) (by rfl) (thereL RN.out HW.out) (infoA HW.out) (all_oneCell_toArray (w16_one _)) ?_))
  have RZ := Box.mk (RN.out.all R.zero_wf HW.out)
  have BZ := Box.mk (bsets (B := w.heap.size) (W := w) (a := w2.heap.size) (by have := B2.out.size; simp at this; omega) (w16 S) _ 0 (((aset w _).trans ((B2.out).mono (by simp))).trans ((aset w2 (.cells #[.int .u16 0, .int .u16 0, .int .u16 0, .int .u16 0, .int .u16 0, .int .u16 0, .int .u16 0, .int .u16 0, .int .u16 0, .int .u16 0, .int .u16 0, .int .u16 0, .int .u16 0, .int .u16 0, .int .u16 0, .int .u16 0] 25)).mono (by have := B2.out.size; simp at this; omega))))
  generalize ((w2.alloc (.cells #[.int .u16 0, .int .u16 0, .int .u16 0, .int .u16 0, .int .u16 0, .int .u16 0, .int .u16 0, .int .u16 0, .int .u16 0, .int .u16 0, .int .u16 0, .int .u16 0, .int .u16 0, .int .u16 0, .int .u16 0, .int .u16 0] 25)).setCells w2.heap.size 0 (w16 S)) = V at *
  generalize w2.heap.size = b3 at *
  clear RB0 B2 RN
  go_loopw [7] (fun i wr => ∃ n : Nat, n ≤ 16 ∧ i = .int .i64 (n : Int) ∧ Box (∀ a, a < n → R.has S a a = false) ∧ Box (RB wr b3 S) ∧ Box (Below w.heap.size w wr)) (fun i _ => 16 - (intOf i).toNat)
  case atStart => exact ⟨0, by omega, rfl, ⟨fun a h => by omega⟩, RZ, BZ⟩
  case round =>
    clear RZ BZ
    obtain ⟨n, hn, rfl, hno, h0, hb⟩ := hrel
    by_cases hlt : n < 16
    · have hc := has_any S HW.out (n : Int) (n : Int) wr
      rw [hasI_nat] at hc
      have HC := Box.mk hc
      clear hc
      by_cases hh : R.has S n n = true
      · rw [hh] at HC
        have hq := HY.out ⟨n, hlt, hh⟩
        clear hh
        subst hq
        go_wp2_with (first
          | ((with_reducible refine at_load 25 (.tmp 3) ?_); refine wpList_load_mid rfl 25 (.tmp 3) (by rfl) b3 0 (by rfl) (w16 S) _ h0.out.range undR rfl (infoL HW.out) ?_)
          | (go_at_call 12; ((with_reducible refine HC.out.mono ?_); rintro e w2 ⟨rfl, b2⟩; have B2 := Box.mk b2; clear b2)))
        go_ret
        exact ⟨rfl, hb.out.trans (B2.out.mono hb.out.size)⟩
      · have hh' : R.has S n n = false := by simpa using hh
        rw [hh'] at HC
        have HH := Box.mk hh'
        clear hh hh'
        go_wp2_with (first
          | ((with_reducible refine at_load 25 (.tmp 3) ?_); refine wpList_load_mid rfl 25 (.tmp 3) (by rfl) b3 0 (by rfl) (w16 S) _ h0.out.range undR rfl (infoL HW.out) ?_)
          | (go_at_call 12; ((with_reducible refine HC.out.mono ?_); rintro e w2 ⟨rfl, b2⟩; have B2 := Box.mk b2; clear b2)))
        go_roundw
        case rel => exact ⟨n + 1, by omega, by go_num, ⟨fun a h => by
          rcases Nat.lt_or_ge a n with h1 | h1
          · exact hno.out a h1
          · rw [show a = n by omega]; exact HH.out⟩, ⟨h0.out.below B2.out⟩, ⟨hb.out.trans (B2.out.mono hb.out.size)⟩⟩
        case measure => simp [intOf]; omega
    · obtain rfl : n = 16 := by omega
      have hq := HN.out (fun a h => hno.out a h)
      subst hq
      go_wp2_with fail
      go_ret
      exact ⟨rfl, hb.out⟩
end Go.Proofs.YtbcbhofbikdfiaaDoor
