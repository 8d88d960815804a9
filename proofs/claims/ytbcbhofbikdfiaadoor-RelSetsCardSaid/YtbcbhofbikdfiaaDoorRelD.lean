/- The things of a set, one by one: what the iterator hands over. -/
import Derived.Test.YtbcbhofbikdfiaaDoorRelC
import Derived.RangeFuncNested
import Derived.RangeFuncBound
import Derived.RangeFuncCalls
import Derived.RangeFuncLeaves
import Derived.Shelf.Abstract
import Derived.Shelf.RegionOpen
import Derived.OwnWalkIn
import Derived.TacticsInMore
import Derived.LoopNIn
import Derived.LoopIn
namespace Go.Proofs.YtbcbhofbikdfiaaDoor
set_option maxRecDepth 100000
open Go.RowKit M
attribute [local go_sem] Oper.semAt_some

theorem bl_bit (v i : Nat) (h : i < 64) : ((bl 64 v).getD i 0 = 1) ↔ v.testBit i = true := by
  rw [bl_getD 64 v i h, Nat.testBit_eq_decide_div_mod_eq]; simp
/-- the lowest thing of a set -/
theorem low_bit {s : Nat} (hs : s < 65536) (h0 : s ≠ 0) : ∃ k, ctz s = k ∧ k < 16 ∧ s.testBit k = true ∧ ∀ i, i < k → s.testBit i = false := by
  have hne : R.els s ≠ [] := fun e => h0 (R.els_nil hs e)
  have hex : ∃ k, s.testBit k = true := by
    obtain ⟨a, l, e⟩ := List.exists_cons_of_ne_nil hne
    exact ⟨a, (R.mem_els.1 (by rw [e]; simp : a ∈ R.els s)).2⟩
  obtain ⟨k, hk, hmin⟩ : ∃ k, s.testBit k = true ∧ ∀ i, i < k → s.testBit i = false := by
    obtain ⟨k, hk⟩ := hex
    induction k using Nat.strongRecOn with
    | _ k ih =>
      rcases Classical.em (∃ i, i < k ∧ s.testBit i = true) with ⟨i, h1, h2⟩ | h
      · exact ih i h1 h2
      · exact ⟨k, hk, fun i hi => by
          cases hb : s.testBit i with
          | false => rfl
          | true => exact absurd ⟨i, hi, hb⟩ h⟩
  have hk16 : k < 16 := by
    rcases Nat.lt_or_ge k 16 with h | h
    · exact h
    · have h1 := Nat.ge_two_pow_of_testBit hk
      have h2 : 2 ^ 16 ≤ 2 ^ k := Nat.pow_le_pow_right (by decide) h
      omega
  refine ⟨k, ?_, hk16, hk, hmin⟩
  exact ctz_eq (by omega) ((bl_bit s k (by omega)).2 hk) (fun i hi e => by
    have := (bl_bit s i (by omega)).1 e
    rw [hmin i hi] at this; cases this)
theorem and_pred {s k : Nat} (hk : s.testBit k = true) (hmin : ∀ i, i < k → s.testBit i = false) : s &&& (s - 1) = R.andN s (2 ^ k) := by
  obtain ⟨q, hq⟩ : ∃ q, s = 2 ^ k * (2 * q + 1) := by
    have h1 : s % 2 ^ k = 0 := by
      apply Nat.eq_of_testBit_eq
      intro i
      rw [Nat.testBit_mod_two_pow, Nat.zero_testBit]
      by_cases hi : i < k
      · rw [hmin i hi]; simp
      · simp [hi]
    have h2 : s / 2 ^ k % 2 = 1 := by
      rw [Nat.testBit_eq_decide_div_mod_eq] at hk; simpa using hk
    refine ⟨s / 2 ^ k / 2, ?_⟩
    have h3 : 2 * (s / 2 ^ k / 2) + 1 = s / 2 ^ k := by omega
    rw [h3]
    have := Nat.div_add_mod s (2 ^ k)
    omega
  have hp : 0 < 2 ^ k := Nat.pow_pos (by decide)
  have e1 : s - 1 = 2 ^ k * (2 * q) + (2 ^ k - 1) := by
    rw [hq, Nat.mul_add, Nat.mul_one]; omega
  have e2 : s = 2 ^ k * (2 * q + 1) + 0 := by rw [hq]; rfl
  apply Nat.eq_of_testBit_eq
  intro i
  rw [Nat.testBit_and, R.andN_bit, Nat.testBit_two_pow, e1, Nat.testBit_two_pow_mul_add _ (by omega)]
  by_cases hi : i < k
  · rw [hmin i hi]; rfl
  · rw [if_neg hi]
    by_cases he : i = k
    · subst he
      simp
    · have : (2 * q).testBit (i - k) = s.testBit i := by
        have e3 : s.testBit i = (2 * q + 1).testBit (i - k) := by
          rw [e2, Nat.testBit_two_pow_mul_add _ hp, if_neg hi]
        rw [e3]
        obtain ⟨d, hd⟩ : ∃ d, i - k = d + 1 := ⟨i - k - 1, by omega⟩
        rw [hd, Nat.testBit_succ, Nat.testBit_succ]
        congr 1
        omega
      rw [this]
      have hne : ¬ k = i := fun e => he e.symm
      simp [hne]
theorem els_cons {s k : Nat} (hk16 : k < 16) (hk : s.testBit k = true) (hmin : ∀ i, i < k → s.testBit i = false) : R.els s = k :: R.els (R.andN s (2 ^ k)) := by
  have hr : List.range 16 = List.range' 0 k ++ (k :: List.range' (k + 1) (15 - k)) := by
    rw [List.range_eq_range']
    have : List.range' 0 16 = List.range' 0 (k + (16 - k)) := by congr 1; omega
    rw [this, ← List.range'_append_1 (s := 0) (m := k) (n := 16 - k), show 16 - k = (15 - k) + 1 by omega, List.range'_succ]
    simp
  have h1 : ∀ (p : Nat → Bool), (∀ i, i < k → p i = false) → (List.range' 0 k).filter p = [] := fun p hp => by
    rw [List.filter_eq_nil_iff]
    intro a ha
    rw [hp a (by simpa using (List.mem_range'_1.1 ha).2)]; simp
  unfold R.els
  rw [hr, List.filter_append, List.filter_append, h1 _ hmin, h1 _ (fun i hi => by rw [R.andN_bit, hmin i hi]; rfl), List.nil_append, List.nil_append, List.filter_cons_of_pos hk, List.filter_cons_of_neg (by rw [R.andN_bit, Nat.testBit_two_pow_self]; simp)]
  congr 1
  apply List.filter_congr
  intro a ha
  have := (List.mem_range'_1.1 ha).1
  rw [R.andN_bit, Nat.testBit_two_pow_of_ne (by omega)]
  simp
end Go.Proofs.YtbcbhofbikdfiaaDoor
