/- Contracts of ordealref01: numbers that are moved. -/
import Derived.Test.YtalinhjalnndhaaWordL
namespace Go.Proofs.Ytalinhjalnndhaa
set_option maxRecDepth 100000
open Go.RowKit M

/-- moved by n: bit by bit, up to place i -/
def mvf (v : Nat) (n : Int) (i : Nat) : Nat → Nat := fun j => if 0 ≤ (j : Int) - n ∧ (j : Int) - n < i then v / 2 ^ ((j : Int) - n).toNat % 2 else 0
theorem mvf_zero (v : Nat) (n : Int) : mvf v n 0 = fun _ => 0 := by funext j; unfold mvf; rw [if_neg (by omega)]
theorem mvf_le (v : Nat) (n : Int) (i j : Nat) : mvf v n i j ≤ 1 := by unfold mvf; split <;> omega
theorem mvf_step {v : Nat} {n : Int} {i d : Nat} (hd : (d : Int) = i + n) : (fun j => if j = d then v / 2 ^ i % 2 else mvf v n i j) = mvf v n (i + 1) := by
  funext j; unfold mvf
  by_cases h : j = d
  · subst h
    rw [if_pos rfl, if_pos (by omega), show ((j : Int) - n).toNat = i by omega]
  · rw [if_neg h]
    by_cases h2 : 0 ≤ (j : Int) - n ∧ (j : Int) - n < i
    · rw [if_pos h2, if_pos (by omega)]
    · rw [if_neg h2, if_neg (by omega)]
theorem mvf_skip {v : Nat} {n : Int} {i : Nat} (h : ¬ (0 ≤ (i : Int) + n ∧ (i : Int) + n < 64)) : fl (mvf v n i) = fl (mvf v n (i + 1)) := by
  apply fl_congr
  intro j hj
  unfold mvf
  by_cases h2 : 0 ≤ (j : Int) - n ∧ (j : Int) - n < i
  · rw [if_pos h2, if_pos (by omega)]
  · rw [if_neg h2, if_neg (by omega)]

/-- moved left by n (right, below 0) -/
def movN (v : Nat) (n : Int) : Nat := if 0 ≤ n then v * 2 ^ n.toNat % 18446744073709551616 else v / 2 ^ (-n).toNat

theorem movN_val {v : Nat} (hv : v < 18446744073709551616) (n : Int) : val (fl (mvf v n 64)) = movN v n := by
  have hv' : v < 2 ^ 64 := by rw [p64]; exact hv
  unfold movN
  by_cases hn : 0 ≤ n
  · rw [if_pos hn]
    refine val_fl (fun i _ => mvf_le _ _ _ i) (Nat.mod_lt _ (by decide)) (fun i hi => ?_)
    rw [show (18446744073709551616 : Nat) = 2 ^ 64 by rw [p64], Nat.testBit_mod_two_pow, Nat.mul_comm, Nat.testBit_two_pow_mul]
    unfold mvf
    by_cases h : n.toNat ≤ i
    · rw [if_pos (by omega), bit_tb, show ((i : Int) - n).toNat = i - n.toNat by omega]
      simp [hi, h]
    · rw [if_neg (by omega)]
      simp [h]
  · rw [if_neg hn]
    refine val_fl (fun i _ => mvf_le _ _ _ i) (Nat.lt_of_le_of_lt (Nat.div_le_self _ _) hv) (fun i hi => ?_)
    rw [Nat.testBit_div_two_pow]
    unfold mvf
    by_cases h : i + (-n).toNat < 64
    · rw [if_pos (by omega), bit_tb, show ((i : Int) - n).toNat = i + (-n).toNat by omega]
    · rw [if_neg (by omega)]
      have : v.testBit (i + (-n).toNat) = false := Nat.testBit_lt_two_pow (Nat.lt_of_lt_of_le hv' (Nat.pow_le_pow_right (by decide) (by omega)))
      simp [this]

end Go.Proofs.Ytalinhjalnndhaa
