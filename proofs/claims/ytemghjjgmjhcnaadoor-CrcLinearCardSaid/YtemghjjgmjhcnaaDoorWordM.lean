/- Contracts of ordealref01: numbers that are moved. -/
import Derived.Test.YtemghjjgmjhcnaaDoorWordL
namespace Go.Proofs.YtemghjjgmjhcnaaDoor
open Go.RowKit M

/-- moved by n: bit by bit, up to place i -/
def mvf (v : Nat) (n : Int) (i : Nat) : Nat → Nat := fun j => if 0 ≤ (j : Int) - n ∧ (j : Int) - n < i then v / 2 ^ ((j : Int) - n).toNat % 2 else 0
theorem mvf_zero (v : Nat) (n : Int) : mvf v n 0 = fun _ => 0 := by funext j; unfold mvf; rw [if_neg (by omega)]
theorem mvf_le (v : Nat) (n : Int) (i j : Nat) : mvf v n i j ≤ 1 := by unfold mvf; split <;> omega
theorem mvf_step {v : Nat} {n : Int} {i d : Nat} (hd : (d : Int) = i + n) : (fun j => if j = d then v / 2 ^ i % 2 else mvf v n i j) = mvf v n (i + 1) := by
  funext j; unfold mvf
  by_cases h : j = d
  · subst h
    rw [if_pos rfl, if_pos (by omega), show ((j : Int) - n).toNat = i by omega]
  · rw [if_neg h]
    by_cases h2 : 0 ≤ (j : Int) - n ∧ (j : Int) - n < i
    · rw [if_pos h2, if_pos (by omega)]
    · rw [if_neg h2, if_neg (by omega)]
theorem mvf_skip {v : Nat} {n : Int} {i : Nat} (h : ¬ (0 ≤ (i : Int) + n ∧ (i : Int) + n < 64)) : fl (mvf v n i) = fl (mvf v n (i + 1)) := by
  apply fl_congr
  intro j hj
  unfold mvf
  by_cases h2 : 0 ≤ (j : Int) - n ∧ (j : Int) - n < i
  · rw [if_pos h2, if_pos (by omega)]
  · rw [if_neg h2, if_neg (by omega)]

/-- moved left by n (right, below 0) -/
def movN (v : Nat) (n : Int) : Nat := if 0 ≤ n then v * 2 ^ n.toNat % 18446744073709551616 else v / 2 ^ (-n).toNat

theorem movN_val {v : Nat} (hv : v < 18446744073709551616) (n : Int) : val (fl (mvf v n 64)) = movN v n := by
  have hv' : v < 2 ^ 64 := by rw [p64]; exact hv
  unfold movN
  by_cases hn : 0 ≤ n
  · rw [if_pos hn]
    refine val_fl (fun i _ => mvf_le _ _ _ i) (Nat.mod_lt _ (by decide)) (fun i hi => ?_)
    rw [show (18446744073709551616 : Nat) = 2 ^ 64 by rw [p64], Nat.testBit_mod_two_pow, Nat.mul_comm, Nat.testBit_two_pow_mul]
    unfold mvf
    by_cases h : n.toNat ≤ i
    · rw [if_pos (by omega), bit_tb, show ((i : Int) - n).toNat = i - n.toNat by omega]
      simp [hi, h]
    · rw [if_neg (by omega)]
      simp [h]
  · rw [if_neg hn]
    refine val_fl (fun i _ => mvf_le _ _ _ i) (Nat.lt_of_le_of_lt (Nat.div_le_self _ _) hv) (fun i hi => ?_)
    rw [Nat.testBit_div_two_pow]
    unfold mvf
    by_cases h : i + (-n).toNat < 64
    · rw [if_pos (by omega), bit_tb, show ((i : Int) - n).toNat = i + (-n).toNat by omega]
    · rw [if_neg (by omega)]
      have : v.testBit (i + (-n).toNat) = false := Nat.testBit_lt_two_pow (Nat.lt_of_lt_of_le hv' (Nat.pow_le_pow_right (by decide) (by omega)))
      simp [this]

set_option maxRecDepth 100000 in
set_option maxHeartbeats 1000000 in
theorem refMove_any (v : Nat) (n : Int) (hv : v < 18446744073709551616) (h1 : -64 < n) (h2 : n < 64) (w : World) :
    Calls Tryd.prog 29 #[.int .u64 v, .int .i64 n] w fun e w' => e = .returned (.int .u64 (movN v n : Nat)) ∧ Below w.heap.size w w' := by
  obtain ⟨i0, hi, hz0, hz1, hz2⟩ := info_parts info_int
  go_enter Tryd.func29, Tryd.ntmps29
  go_wp2_with fail
  refine (bits_any v hv w).mono ?_
  rintro e w1 ⟨g, cap, rfl, hcap, hg, hown, hb⟩
  have HO := Box.mk hown; clear hown
  have HB := Box.mk hb; clear hb
  go_wp2_with (at_make; refine wpList_make_full _ rfl _ _ 53 rfl w1.heap.size 3 i0 (.int .i64 0) 1 Tryd.underlying53 hi hz0 hz1 .i64 .i64 (64 : Int) (64 : Int) 64 rfl rfl rfl rfl (by rw [hz2]; omega) (by unfold maxLen; omega) (Nat.le_refl _) ?_; intro w2 hown2 hg2)
  have hown3 : w2.ownsRow w1.heap.size 3 1 (.slice (some ⟨w1.heap.size, 0, none⟩) 64 64) 64 (ints (fl (mvf v n 0))) := by
    have h := hown2
    rw [show (Value.int IntKind.i64 0).cells = #[.int .i64 0] from rfl, toList_madeCells_one, Nat.mul_one] at h
    rw [mvf_zero]; exact h
  have hb2 := (Below.refl w1.heap.size w1).grown hg2 (Nat.le_refl _) (fun k h => by cases h)
  have hgl : g < w1.heap.size := ((HO.out).lt g rfl).2
  have hbl : w2.ownsRow w.heap.size 3 1 (.slice (some ⟨g, 0, none⟩) 64 cap) 64 (ints (fl fun i => v / 2 ^ i % 2)) := by rw [← fl_bl]; exact own_below HO.out hb2 hgl
  have HO2 := Box.mk hbl; clear hbl hown2 hg2
  have hlt2 : w1.heap.size < w2.heap.size := (hown3.lt _ rfl).2
  have HLT := Box.mk hlt2; clear hlt2
  go_loopw [7, 13] (fun _ i wr => ∃ j : Nat, j ≤ 64 ∧ i = .int .i64 j ∧ wr.ownsRow w1.heap.size 3 1 (.slice (some ⟨w1.heap.size, 0, none⟩) 64 64) 64 (ints (fl (mvf v n j))) ∧ Below w1.heap.size w2 wr) (fun _ i _ => 64 - (intOf i).toNat)
  case atStart => exact ⟨0, by omega, rfl, hown3, Below.refl _ _⟩
  case round =>
    clear hown3
    obtain ⟨j, hj, rfl, hown, hbr⟩ := hrel
    by_cases hlt : j < 64
    · by_cases hin : 0 ≤ (j : Int) + n ∧ (j : Int) + n < 64
      · obtain ⟨d, hd⟩ := Int.eq_ofNat_of_zero_le hin.1
        have hd64 : d < 64 := by omega
        have hs := own_at (own_below HO2.out hbr hgl) j hlt
        have hc := own_at hown d hd64
        have hfz := hown.frozenAt d
        have hst := own_store hown d (v / 2 ^ j % 2)
        rw [fl_set, mvf_step hd.symm] at hst
        obtain ⟨y, hy⟩ : ∃ y, y = v / 2 ^ j % 2 := ⟨_, rfl⟩
        rw [← hy] at hst hs
        clear hy
        have HST := Box.mk hst; clear hst hown
        have d2 : decide ((d : Int) < 64) = true := by simp; omega
        clear hin
        go_wp2
        go_roundw
        case rel => exact ⟨j + 1, by omega, by go_num, HST.out, hbr.setCell (Nat.le_refl _) _⟩
        case measure => simp [intOf]; omega
      · rw [mvf_skip hin] at hown
        have HOW := Box.mk hown; clear hown
        have hc : (decide (0 ≤ (j : Int) + n) = false) ∨ (decide (0 ≤ (j : Int) + n) = true ∧ decide ((j : Int) + n < 64) = false) := by
          by_cases h : 0 ≤ (j : Int) + n
          · exact .inr ⟨by simpa using h, by simp; omega⟩
          · exact .inl (by simpa using h)
        clear hin
        rcases hc with d1 | ⟨d1, d2⟩
        all_goals
          go_wp2
          go_roundw
          case rel => exact ⟨j + 1, by omega, by go_num, HOW.out, hbr⟩
          case measure => simp [intOf]; omega
    · obtain rfl : j = 64 := by omega
      have hval := movN_val hv n
      have HV := Box.mk hval
      have HOW := Box.mk hown
      clear hval hown
      go_wp2_with (go_at_call 53; refine (value_own _ (fun i _ => mvf_le _ _ _ i) HOW.out).mono ?_; rw [HV.out]; rintro e w3 ⟨rfl, rfl⟩)
      go_ret
      exact ⟨rfl, (HB.out.trans (hb2.mono HB.out.size)).trans (hbr.mono HB.out.size)⟩
end Go.Proofs.YtemghjjgmjhcnaaDoor
