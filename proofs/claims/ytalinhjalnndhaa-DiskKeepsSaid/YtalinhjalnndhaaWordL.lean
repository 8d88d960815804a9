/- Contracts of ordealref01: numbers that are turned and moved. -/
import Derived.Test.YtalinhjalnndhaaWordK
import Derived.RegionTactic
namespace Go.Proofs.Ytalinhjalnndhaa
set_option maxRecDepth 100000
open Go.RowKit M

/-- a list of A numbers -/
def flA (A : Nat) (f : Nat → Nat) : List Nat := (List.range A).map f
theorem flA_length (A : Nat) (f : Nat → Nat) : (flA A f).length = A := by simp [flA]
theorem flA_set (A : Nat) (f : Nat → Nat) (j x : Nat) : (flA A f).set j x = flA A fun i => if i = j then x else f i := by
  apply List.ext_getElem
  · simp [flA]
  · intro i h1 h2
    rw [List.getElem_set]
    by_cases h : j = i
    · subst h; simp [flA]
    · rw [if_neg h]; simp [flA, Ne.symm h]
theorem flA_zero (A : Nat) : ints (flA A fun _ => 0) = List.replicate A (.int .i64 0) := by
  apply List.ext_getElem
  · simp [ints, flA]
  · intro i h1 h2; simp [ints, flA]

/-- turned by s of A: bit by bit, up to place i -/
def tnf (v A s i : Nat) : Nat → Nat := fun j => if (j + A - s) % A < i then v / 2 ^ ((j + A - s) % A) % 2 else 0

theorem flA_congr {A : Nat} {f g : Nat → Nat} (h : ∀ i, i < A → f i = g i) : flA A f = flA A g := by
  apply List.map_congr_left; intro i hi; exact h i (by simpa using hi)
theorem flA_le {A : Nat} {f : Nat → Nat} (h : ∀ i, i < A → f i ≤ 1) : ∀ b ∈ flA A f, b ≤ 1 := by
  intro b hb; simp [flA] at hb; obtain ⟨i, hi, rfl⟩ := hb; exact h i hi
theorem flA_getD (A : Nat) (f : Nat → Nat) (i : Nat) : (flA A f).getD i 0 = if i < A then f i else 0 := by
  by_cases h : i < A <;> simp [flA, List.getD, h]

theorem turn_index {A j : Nat} {n : Int} (hA : 1 ≤ A) : ∃ q q2 : Int, ∃ d : Nat, q = n.tmod A ∧ q2 = ((j : Int) + q).tmod A ∧ d < A ∧ (q2 + A).tmod A = d ∧ (q2 + A) % A = d ∧ d = (j + (n % A).toNat) % A ∧ -A < q ∧ q < A ∧ -A < q2 ∧ q2 < A := by
  have hA' : (0 : Int) < A := by omega
  have t1 := Int.lt_tmod_of_pos n hA'
  have t2 := Int.tmod_lt_of_pos n hA'
  have t3 := Int.lt_tmod_of_pos ((j : Int) + n.tmod A) hA'
  have t4 := Int.tmod_lt_of_pos ((j : Int) + n.tmod A) hA'
  have m1 := Int.emod_lt_of_pos n hA'
  have m2 := Int.emod_nonneg n (show (A : Int) ≠ 0 by omega)
  have hk : ∀ x : Int, ∃ k : Int, x.tmod A = x + A * k := fun x => ⟨-(x.tdiv A), by have h := Int.mul_tdiv_add_tmod x A; rw [Int.mul_neg]; omega⟩
  obtain ⟨k1, e1⟩ := hk n
  obtain ⟨k2, e2⟩ := hk ((j : Int) + n.tmod A)
  have hd : (((j + (n % A).toNat) % A : Nat) : Int) = (((j : Int) + n.tmod A).tmod A + A) % A := by
    rw [e2, e1, Int.natCast_emod, Int.natCast_add, Int.toNat_of_nonneg m2]
    have e3 : (j : Int) + (n + A * k1) + A * k2 + A = ((j : Int) + n) + A * (k1 + k2 + 1) := by simp only [Int.mul_add]; omega
    rw [e3, Int.add_mul_emod_self_left, Int.add_emod, Int.emod_emod, ← Int.add_emod]
  refine ⟨_, _, (j + (n % A).toNat) % A, rfl, rfl, Nat.mod_lt _ (by omega), ?_, hd.symm, rfl, t1, t2, t3, t4⟩
  rw [Int.tmod_eq_emod_of_nonneg (by omega)]
  exact hd.symm

/-- places go round -/
theorem turn_back {A j s : Nat} (hj : j < A) (hs : s < A) : ((j + s) % A + A - s) % A = j := by
  rcases Nat.lt_or_ge (j + s) A with h | h
  · rw [Nat.mod_eq_of_lt h, show j + s + A - s = j + A by omega, Nat.add_mod_right, Nat.mod_eq_of_lt hj]
  · have : (j + s) % A = j + s - A := by rw [Nat.mod_eq_sub_mod h, Nat.mod_eq_of_lt (by omega)]
    rw [this, show j + s - A + A - s = j by omega, Nat.mod_eq_of_lt hj]
theorem turn_inj {A i j s : Nat} (hi : i < A) (hs : s < A) (h : (i + A - s) % A = j) : i = (j + s) % A := by
  subst h
  rcases Nat.lt_or_ge i s with h | h
  · rw [Nat.mod_eq_of_lt (show i + A - s < A by omega), show i + A - s + s = i + A by omega, Nat.add_mod_right, Nat.mod_eq_of_lt hi]
  · have : (i + A - s) % A = i - s := by rw [show i + A - s = (i - s) + A by omega, Nat.add_mod_right, Nat.mod_eq_of_lt (by omega)]
    rw [this, show i - s + s = i by omega, Nat.mod_eq_of_lt hi]

theorem tnf_step {v A s j : Nat} (hj : j < A) (hs : s < A) : (flA A fun i => if i = (j + s) % A then v / 2 ^ j % 2 else tnf v A s j i) = flA A (tnf v A s (j + 1)) := by
  apply flA_congr
  intro i hi
  unfold tnf
  by_cases h : i = (j + s) % A
  · subst h; rw [if_pos rfl, turn_back hj hs, if_pos (by omega)]
  · rw [if_neg h]
    have hne : (i + A - s) % A ≠ j := fun e => h (turn_inj hi hs e)
    by_cases h2 : (i + A - s) % A < j
    · rw [if_pos h2, if_pos (by omega)]
    · rw [if_neg h2, if_neg (by omega)]

/-- v's lowest A bits turned left by s -/
def rotA (v A s : Nat) : Nat := (v % 2 ^ A) * 2 ^ s % 2 ^ A ||| (v % 2 ^ A) / 2 ^ (A - s)

theorem rotA_val {v A s : Nat} (hs : s < A) : val (flA A (tnf v A s A)) = rotA v A s := by
  refine val_eq_of (flA_le fun i _ => by unfold tnf; split <;> omega) _ (fun i => ?_)
  rw [flA_getD]
  unfold rotA
  have e2 : ((v % 2 ^ A) / 2 ^ (A - s)).testBit i = (decide (A - s + i < A) && v.testBit (A - s + i)) := by
    rw [Nat.testBit_div_two_pow, Nat.testBit_mod_two_pow, Nat.add_comm i]
  rw [Nat.testBit_or, Nat.testBit_mod_two_pow, Nat.mul_comm, Nat.testBit_two_pow_mul, Nat.testBit_mod_two_pow, e2]
  by_cases hi : i < A
  · rw [if_pos hi]
    have hm : (i + A - s) % A < A := Nat.mod_lt _ (by omega)
    unfold tnf
    rw [if_pos hm, bit_tb]
    rcases Nat.lt_or_ge i s with h | h
    · rw [Nat.mod_eq_of_lt (show i + A - s < A by omega), show A - s + i = i + A - s by omega]
      simp [hi, show ¬ s ≤ i by omega, show i + A - s < A by omega]
    · rw [show (i + A - s) % A = i - s by rw [show i + A - s = (i - s) + A by omega, Nat.add_mod_right, Nat.mod_eq_of_lt (by omega)]]
      simp [hi, h, show ¬ A - s + i < A by omega, show i - s < A by omega]
  · rw [if_neg hi]
    simp [hi, show ¬ A - s + i < A by omega]

end Go.Proofs.Ytalinhjalnndhaa
