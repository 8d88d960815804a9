/- The registers that a thread sets, as the reference has them. -/
import Derived.Test.YtnlcmdgjoikljaaDoorLitW
namespace Go.Proofs.YtnlcmdgjoikljaaDoor
set_option maxRecDepth 100000
open Go.RowKit

theorem eq_of_pw : ∀ (A B : List Int), A.Pairwise (· < ·) → B.Pairwise (· < ·) → (∀ x, x ∈ A ↔ x ∈ B) → A = B
  | [], B, _, _, h => by
    cases B with
    | nil => rfl
    | cons b r => exact absurd ((h b).2 (by simp)) (by simp)
  | a :: r, B, hA, hB, h => by
    cases B with
    | nil => exact absurd ((h a).1 (by simp)) (by simp)
    | cons b s =>
      rw [List.pairwise_cons] at hA hB
      have hab : a = b := by
        have h1 := (h a).1 (by simp)
        have h2 := (h b).2 (by simp)
        rw [List.mem_cons] at h1 h2
        rcases h1 with h1 | h1
        · exact h1
        · rcases h2 with h2 | h2
          · exact h2.symm
          · have := hA.1 b h2
            have := hB.1 a h1
            omega
      subst hab
      refine congrArg (a :: ·) (eq_of_pw r s hA.2 hB.2 fun x => ⟨fun hx => ?_, fun hx => ?_⟩)
      · have h1 := (h x).1 (by simp [hx])
        rw [List.mem_cons] at h1
        rcases h1 with rfl | h1
        · have := hA.1 x hx; omega
        · exact h1
      · have h1 := (h x).2 (by simp [hx])
        rw [List.mem_cons] at h1
        rcases h1 with rfl | h1
        · have := hB.1 x hx; omega
        · exact h1
theorem compactTo (d : Array Int) : ∀ m, m ≤ d.size → (∀ i, i + 1 < d.size → d[i]! ≤ d[i + 1]!) → (Lib.compactUpTo d m).Pairwise (· < ·) ∧ (∀ x ∈ Lib.compactUpTo d m, m ≠ 0 → x ≤ d[m - 1]!) ∧ (∀ x, x ∈ Lib.compactUpTo d m ↔ ∃ i, i < m ∧ d[i]! = x)
  | 0, _, _ => by simp [Lib.compactUpTo]
  | m + 1, hm, hs => by
    obtain ⟨h1, h2, h3⟩ := compactTo d m (by omega) hs
    rw [Lib.compactUpTo_succ]
    by_cases hm0 : m = 0
    · subst hm0
      have e : Lib.compactUpTo d 0 = [] := by simp [Lib.compactUpTo]
      have k : Lib.keeps d 0 = true := Lib.keeps_lt_one d 0 (by omega)
      rw [e, k]
      refine ⟨by simp, fun x hx _ => ?_, fun x => ?_⟩
      · simp at hx; subst hx; simp
      · simp only [if_true, List.nil_append, List.mem_singleton]
        constructor
        · rintro rfl; exact ⟨0, by omega, rfl⟩
        · rintro ⟨i, hi, rfl⟩
          have : i = 0 := by omega
          subst this; rfl
    · have hle : d[m - 1]! ≤ d[m]! := by
        have := hs (m - 1) (by omega)
        rwa [show m - 1 + 1 = m by omega] at this
      by_cases hk : d[m]! = d[m - 1]!
      · rw [Lib.keeps_neg (by omega) hk]
        simp only [Bool.false_eq_true, if_false, List.append_nil]
        refine ⟨h1, fun x hx _ => ?_, fun x => ?_⟩
        · have := h2 x hx hm0
          rw [show m + 1 - 1 = m by omega]; omega
        · rw [h3]
          constructor
          · rintro ⟨i, hi, e⟩; exact ⟨i, by omega, e⟩
          · rintro ⟨i, hi, e⟩
            by_cases him : i = m
            · subst him; exact ⟨i - 1, by omega, by rw [← hk, e]⟩
            · exact ⟨i, by omega, e⟩
      · rw [Lib.keeps_pos hk]
        simp only [if_true]
        refine ⟨?_, fun x hx _ => ?_, fun x => ?_⟩
        · rw [List.pairwise_append]
          refine ⟨h1, by simp, fun x hx y hy => ?_⟩
          simp at hy; subst hy
          have := h2 x hx hm0
          omega
        · rw [show m + 1 - 1 = m by omega]
          rw [List.mem_append] at hx
          rcases hx with hx | hx
          · have := h2 x hx hm0; omega
          · simp at hx; omega
        · rw [List.mem_append, h3]
          simp only [List.mem_singleton]
          constructor
          · rintro (⟨i, hi, e⟩ | rfl)
            · exact ⟨i, by omega, e⟩
            · exact ⟨m, by omega, rfl⟩
          · rintro ⟨i, hi, e⟩
            by_cases him : i = m
            · subst him; exact .inr e.symm
            · exact .inl ⟨i, by omega, e⟩
theorem sortZ_mem (l : List Int) (x : Int) : x ∈ sortZ l ↔ x ∈ l := List.mem_mergeSort
theorem sortZ_pw (l : List Int) : (sortZ l).Pairwise (· ≤ ·) := by
  have := List.pairwise_mergeSort (le := fun x y : Int => decide (x ≤ y)) (by intro a b c; simp; omega) (by intro a b; simp; omega) l
  exact this.imp (by simp)
theorem regsM_pw (l : List Ins) : (regsM l).Pairwise (· < ·) ∧ ∀ x, x ∈ regsM l ↔ x ∈ regsOf l := by
  unfold regsM Lib.compact
  have hs : ∀ i, i + 1 < (sortZ (regsOf l)).toArray.size → (sortZ (regsOf l)).toArray[i]! ≤ (sortZ (regsOf l)).toArray[i + 1]! := fun i hi => by
    have h := List.pairwise_iff_getElem.1 (sortZ_pw (regsOf l)) i (i + 1) (by simpa using Nat.lt_of_succ_lt hi) (by simpa using hi) (by omega)
    have h1 : i < (sortZ (regsOf l)).toArray.size := by omega
    rw [getElem!_pos _ i h1, getElem!_pos _ (i + 1) hi]
    simpa using h
  obtain ⟨h1, _, h3⟩ := compactTo (sortZ (regsOf l)).toArray (sortZ (regsOf l)).length (by simp) hs
  refine ⟨h1, fun x => ?_⟩
  rw [h3, ← sortZ_mem]
  constructor
  · rintro ⟨i, hi, e⟩
    have h1 : i < (sortZ (regsOf l)).toArray.size := by simpa using hi
    rw [getElem!_pos _ i h1] at e
    rw [← e]; simp
  · intro hx
    obtain ⟨i, hi, e⟩ := List.mem_iff_getElem.1 hx
    refine ⟨i, hi, ?_⟩
    have h1 : i < (sortZ (regsOf l)).toArray.size := by simpa using hi
    rw [getElem!_pos _ i h1]; simpa using e
/-- does a thread set a register? -/
def hasR (l : List Ins) (r : Int) : Bool := l.any fun x => setsM x.op && decide (x.rd = r)
/-- the first k registers that are set -/
def regF (l : List Ins) (k : Nat) : List Int := ((List.range k).map fun (n : Nat) => (n : Int)).filter (hasR l)
theorem regF_succ (l : List Ins) (k : Nat) : regF l (k + 1) = regF l k ++ (if hasR l (k : Int) then [(k : Int)] else []) := by
  unfold regF
  rw [List.range_succ, List.map_append, List.filter_append]
  congr 1
  cases h : hasR l (k : Int) <;> simp [h]
theorem regF_len (l : List Ins) : ∀ k, (regF l k).length ≤ k
  | 0 => by simp [regF]
  | k + 1 => by
    have := regF_len l k
    rw [regF_succ, List.length_append]
    split <;> simp <;> omega
theorem hasR_mem (l : List Ins) (r : Int) : hasR l r = true ↔ r ∈ regsOf l := by
  unfold hasR regsOf
  simp only [List.any_eq_true, List.mem_map, List.mem_filter, Bool.and_eq_true, decide_eq_true_eq]
  constructor
  · rintro ⟨x, hx, h1, h2⟩; exact ⟨x, ⟨hx, h1⟩, h2⟩
  · rintro ⟨x, ⟨hx, h1⟩, h2⟩; exact ⟨x, hx, h1, h2⟩
theorem regs_eq (l : List Ins) (h : ∀ x ∈ l, 0 ≤ x.rd ∧ x.rd < 8) : regF l 8 = regsM l := by
  obtain ⟨h1, h2⟩ := regsM_pw l
  refine eq_of_pw _ _ ?_ h1 fun x => ?_
  · unfold regF
    refine List.Pairwise.filter _ ?_
    have : ((List.range 8).map fun (n : Nat) => (n : Int)) = [0, 1, 2, 3, 4, 5, 6, 7] := by decide
    rw [this]; decide
  · rw [h2, ← hasR_mem]
    unfold regF
    rw [List.mem_filter, List.mem_map]
    constructor
    · rintro ⟨_, h3⟩; exact h3
    · intro h3
      refine ⟨?_, h3⟩
      have h4 := (hasR_mem l x).1 h3
      unfold regsOf at h4
      obtain ⟨y, hy, rfl⟩ := List.mem_map.1 h4
      have hb := h y (List.mem_filter.1 hy).1
      exact ⟨y.rd.toNat, by rw [List.mem_range]; omega, by omega⟩
end Go.Proofs.YtnlcmdgjoikljaaDoor
