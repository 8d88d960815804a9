/- Contracts of ordealref01: fields that are laid; numbers that are turned and moved. -/
import Derived.Test.YtalinhjalnndhaaWordJ
namespace Go.Proofs.Ytalinhjalnndhaa
set_option maxRecDepth 100000
open Go.RowKit M

/-- v's bits, but from a on (so many as i) those of x -/
def lyf (v x a i : Nat) : Nat → Nat := fun j => if a ≤ j ∧ j < a + i then x / 2 ^ (j - a) % 2 else v / 2 ^ j % 2
theorem lyf_zero (v x a : Nat) : fl (lyf v x a 0) = bl 64 v := by
  rw [fl_bl]; apply fl_congr; intro i _; unfold lyf; rw [if_neg (by omega)]
theorem lyf_step (v x a i : Nat) : (fun j => if j = a + i then x / 2 ^ i % 2 else lyf v x a i j) = lyf v x a (i + 1) := by
  funext j; unfold lyf
  by_cases h : j = a + i
  · subst h; rw [if_pos rfl, if_pos (by omega), show a + i - a = i by omega]
  · rw [if_neg h]
    by_cases h2 : a ≤ j ∧ j < a + i
    · rw [if_pos h2, if_pos (by omega)]
    · rw [if_neg h2, if_neg (by omega)]
theorem lyf_le (v x a i j : Nat) : lyf v x a i j ≤ 1 := by unfold lyf; split <;> omega

/-- so many bits are laid -/
def lyc (a n : Int) : Nat := if 0 ≤ a ∧ a < 64 then min (cl n) (64 - a.toNat) else 0

theorem mask_tb {a n i : Nat} (hn : n ≤ 64) (hi : i < 64) : (18446744073709551615 % 2 ^ n * 2 ^ a % 18446744073709551616).testBit i = decide (a ≤ i ∧ i < a + n) := by
  rw [show (18446744073709551616 : Nat) = 2 ^ 64 by rw [p64], Nat.testBit_mod_two_pow, Nat.mul_comm, Nat.testBit_two_pow_mul, Nat.testBit_mod_two_pow, show (18446744073709551615 : Nat) = 2 ^ 64 - 1 by rw [p64], Nat.testBit_two_pow_sub_one]
  by_cases h1 : a ≤ i
  · by_cases h2 : i < a + n
    · simp [hi, h1, h2]; omega
    · simp [hi, h2]; omega
  · simp [h1]

theorem lay_val {v x : Nat} (hv : v < 18446744073709551616) (a n : Int) : val (fl (lyf v x a.toNat (lyc a n))) = layN v a n x := by
  unfold layN lyc
  by_cases ha : 0 ≤ a ∧ a < 64
  · rw [if_pos ha, if_pos ha]
    have hcl : cl n ≤ 64 := by rcases cl_cases n with ⟨_, e⟩ | ⟨_, e⟩ | ⟨k, _, hk, e⟩ <;> omega
    have hm : maskN a n < 18446744073709551616 := Nat.mod_lt _ (by decide)
    have ha' : a.toNat < 64 := by omega
    refine val_fl (fun i _ => lyf_le _ _ _ _ i) ?_ (fun i hi => ?_)
    · rw [← p64]; exact Nat.or_lt_two_pow (Nat.lt_of_le_of_lt Nat.and_le_left (by rw [p64]; exact hv)) (Nat.lt_of_le_of_lt Nat.and_le_right (by rw [p64]; exact hm))
    · have e1 : 18446744073709551615 - maskN a n = 2 ^ 64 - (maskN a n + 1) := by rw [p64]; omega
      rw [Nat.testBit_or, Nat.testBit_and, Nat.testBit_and, e1, Nat.testBit_two_pow_sub_succ (by rw [p64]; exact hm)]
      have e2 : (maskN a n).testBit i = decide (a.toNat ≤ i ∧ i < a.toNat + cl n) := mask_tb hcl hi
      rw [e2]
      unfold lyf
      by_cases h : a.toNat ≤ i ∧ i < a.toNat + cl n
      · rw [if_pos ⟨h.1, by omega⟩]
        have e3 : (x * 2 ^ a.toNat % 18446744073709551616).testBit i = x.testBit (i - a.toNat) := by
          rw [show (18446744073709551616 : Nat) = 2 ^ 64 by rw [p64], Nat.testBit_mod_two_pow, Nat.mul_comm, Nat.testBit_two_pow_mul]
          simp [hi, h.1]
        rw [e3, bit_tb]
        simp [h, hi]
      · rw [if_neg (by omega), bit_tb, decide_eq_false h]
        simp [hi]
  · rw [if_neg ha, if_neg ha]
    rw [show fl (lyf v x a.toNat 0) = bl 64 v from lyf_zero _ _ _, val_bl]
    exact Nat.mod_eq_of_lt (by rw [p64]; exact hv)

/-- what is owned stays owned where only other blocks have turned -/
theorem own_below {w w' : World} {B e z g cap n C : Nat} {xs : List Value} (h : w.ownsRow B e z (.slice (some ⟨g, 0, none⟩) n cap) n xs) (hb : Below C w w') (hg : g < C) : w'.ownsRow B e z (.slice (some ⟨g, 0, none⟩) n cap) n xs := by
  refine ⟨h.1, ?_⟩
  rcases h.2 with hn | ⟨g', cap', cur, hv, hB, hgg, rest⟩
  · exact .inl hn
  · simp only [Value.slice.injEq, Option.some.injEq, Addr.mk.injEq, and_true, true_and] at hv
    obtain ⟨rfl, rfl⟩ := hv
    exact .inr ⟨g, cap, cur, rfl, hB, by rw [hb.block g hg]; exact hgg, rest⟩

/-- where the loop of Lay ends -/
theorem lay_end {b i : Nat} {n : Int} (hb : b < 64) (hi : i ≤ lyc (b : Int) n) (h : ¬ i < lyc (b : Int) n) : (decide ((i : Int) < 64) = false) ∨ (decide ((i : Int) < 64) = true ∧ decide ((i : Int) < n) = false) ∨
    (decide ((i : Int) < 64) = true ∧ decide ((i : Int) < n) = true ∧ decide ((b : Int) < 64 - (i : Int)) = false) := by
  unfold lyc at hi h
  rw [if_pos (by omega)] at hi h
  by_cases h1 : (i : Int) < 64
  · by_cases h2 : (i : Int) < n
    · refine .inr (.inr ⟨by simpa using h1, by simpa using h2, ?_⟩)
      simp
      rcases cl_cases n with ⟨_, e⟩ | ⟨_, e⟩ | ⟨k, _, hk, e⟩ <;> omega
    · exact .inr (.inl ⟨by simpa using h1, by simpa using h2⟩)
  · exact .inl (by simpa using h1)
theorem lay_go {b i : Nat} {n : Int} (hb : b < 64) (h : i < lyc (b : Int) n) : i < 64 ∧ (i : Int) < n ∧ b + i < 64 := by
  unfold lyc at h
  rw [if_pos (by omega)] at h
  rcases cl_cases n with ⟨_, e⟩ | ⟨_, e⟩ | ⟨k, _, hk, e⟩ <;> omega

end Go.Proofs.Ytalinhjalnndhaa
