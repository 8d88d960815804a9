/- Contracts of ordealref01: signed fields. -/
import Derived.Test.YtalinhjalnndhaaWordI
import Derived.Deep.DeepCutAuto
import Derived.Deep.CutBlock
namespace Go.Proofs.Ytalinhjalnndhaa
set_option maxRecDepth 100000
open Go.RowKit M

/-- bits of v up to k, then (up to i) the number t, then bits of v again -/
def sxf (k v t i : Nat) : Nat → Nat := fun j => if k ≤ j ∧ j < i then t else v / 2 ^ j % 2
theorem sxf_start (k v t : Nat) : fl (sxf k v t k) = bl 64 v := by
  rw [fl_bl]; apply fl_congr; intro i _; unfold sxf; rw [if_neg (by omega)]
theorem sxf_step (k v t i : Nat) (hk : k ≤ i) : (fun j => if j = i then t else sxf k v t i j) = sxf k v t (i + 1) := by
  funext j; unfold sxf
  by_cases h : j = i
  · subst h; rw [if_pos rfl, if_pos (by omega)]
  · rw [if_neg h]
    by_cases h2 : k ≤ j ∧ j < i
    · rw [if_pos h2, if_pos (by omega)]
    · rw [if_neg h2, if_neg (by omega)]
theorem sxf_le {k v t i : Nat} (ht : t ≤ 1) (j : Nat) : sxf k v t i j ≤ 1 := by unfold sxf; split <;> omega

/-- up to i the others -/
def cpf (f : Nat → Nat) (i : Nat) : Nat → Nat := fun j => if j < i then 1 - f j else f j
theorem cpf_start (f : Nat → Nat) : cpf f 0 = f := by funext j; simp [cpf]
theorem cpf_step (f : Nat → Nat) (i : Nat) : (fun j => if j = i then 1 - f i else cpf f i j) = cpf f (i + 1) := by
  funext j; unfold cpf
  by_cases h : j = i
  · subst h; rw [if_pos rfl, if_pos (by omega)]
  · rw [if_neg h]
    by_cases h2 : j < i
    · rw [if_pos h2, if_pos (by omega)]
    · rw [if_neg h2, if_neg (by omega)]

theorem val_sx0 {k v : Nat} (hv : v < 18446744073709551616) (_hk : k ≤ 64) : val (fl (sxf k v 0 64)) = v % 2 ^ k := by
  refine val_fl (fun i _ => sxf_le (by omega) i) (Nat.lt_of_le_of_lt (Nat.mod_le _ _) hv) (fun i hi => ?_)
  rw [Nat.testBit_mod_two_pow, ← bit_tb]
  unfold sxf
  by_cases h : i < k
  · rw [if_neg (by omega)]; simp [h]
  · rw [if_pos (by omega)]; simp [h]
theorem val_sx1 {k v : Nat} (_hk : k ≤ 64) : val (fl (cpf (sxf k v 1 64) 64)) = 2 ^ k - (v % 2 ^ k + 1) := by
  have hp := pow_pos' k
  have h64 : 2 ^ k ≤ 2 ^ 64 := Nat.pow_le_pow_right (by decide) (by omega)
  rw [p64] at h64
  refine val_fl (fun i hi => ?_) (by omega) (fun i hi => ?_)
  · unfold cpf; rw [if_pos hi]; omega
  · rw [Nat.testBit_two_pow_sub_succ (Nat.mod_lt _ hp), Nat.testBit_mod_two_pow, ← bit_tb]
    unfold cpf sxf
    rw [if_pos hi]
    by_cases h : i < k
    · rw [if_neg (by omega)]
      rcases (by omega : v / 2 ^ i % 2 = 0 ∨ v / 2 ^ i % 2 = 1) with e | e <;> simp [h, e]
    · rw [if_pos (by omega)]; simp [h]

theorem sgn0 {k v : Nat} (_hk : 1 ≤ k) (h : v / 2 ^ (k - 1) % 2 = 0) : sgn k v = ((v % 2 ^ k : Nat) : Int) := by
  unfold sgn; rw [if_neg (by omega)]
theorem sgn1 {k v : Nat} (h : v / 2 ^ (k - 1) % 2 = 1) : sgn k v = -(((2 ^ k - (v % 2 ^ k + 1) : Nat)) : Int) - 1 := by
  unfold sgn; rw [if_pos h]
  have hp := pow_pos' k
  have := Nat.mod_lt v hp
  omega
theorem low_small {k v : Nat} (h1 : 1 ≤ k) (h2 : k ≤ 64) (h : v / 2 ^ (k - 1) % 2 = 0) : v % 2 ^ k ≤ 9223372036854775807 := by
  obtain ⟨j, rfl⟩ : ∃ j, k = j + 1 := ⟨k - 1, by omega⟩
  simp only [Nat.add_sub_cancel] at h
  have := mod_top v j
  have := Nat.mod_lt v (pow_pos' j)
  have := pow_lt64 (show j < 64 by omega)
  rw [h] at *
  omega
theorem high_small {k v : Nat} (h1 : 1 ≤ k) (h2 : k ≤ 64) (h : v / 2 ^ (k - 1) % 2 = 1) : 2 ^ k - (v % 2 ^ k + 1) ≤ 9223372036854775807 := by
  obtain ⟨j, rfl⟩ : ∃ j, k = j + 1 := ⟨k - 1, by omega⟩
  simp only [Nat.add_sub_cancel] at h
  have := mod_top v j
  have := Nat.mod_lt v (pow_pos' j)
  have := pow_lt64 (show j < 64 by omega)
  have : 2 ^ (j + 1) = 2 * 2 ^ j := by rw [Nat.pow_succ]; omega
  rw [h] at *
  omega

end Go.Proofs.Ytalinhjalnndhaa
