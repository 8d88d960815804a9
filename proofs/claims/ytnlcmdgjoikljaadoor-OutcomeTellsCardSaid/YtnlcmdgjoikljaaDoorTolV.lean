/- Numbers, one by one, in rows of eight: mathematics for OutcomeTells. -/
import Derived.Test.YtnlcmdgjoikljaaDoorLitW
namespace Go.Proofs.YtnlcmdgjoikljaaDoor
set_option maxRecDepth 100000
open Go.RowKit

/-- n numbers from b on, of which the first k are there -/
def numF (nums : List Int) (b n k : Nat) : List Int := (List.range n).map fun j => if j < k then nums.getD (b + j) 0 else 0
theorem numF_len (nums : List Int) (b n k : Nat) : (numF nums b n k).length = n := by simp [numF]
theorem numF_get (nums : List Int) (b n k j : Nat) (hj : j < n) : (numF nums b n k)[j]? = some (if j < k then nums.getD (b + j) 0 else 0) := by simp [numF, hj]
theorem numF_zero (nums : List Int) (b n : Nat) : numF nums b n 0 = List.replicate n 0 := by
  apply List.ext_getElem?
  intro i
  by_cases h : i < n
  · rw [numF_get _ _ _ _ _ h]; simp [h]
  · rw [List.getElem?_eq_none (by rw [numF_len]; omega), List.getElem?_eq_none (by simp; omega)]
theorem numF_set (nums : List Int) (b n k : Nat) (hk : k < n) : (numF nums b n k).set k (nums.getD (b + k) 0) = numF nums b n (k + 1) := by
  apply List.ext_getElem?
  intro i
  by_cases h : i < n
  · rw [numF_get _ _ _ _ _ h]
    by_cases e : i = k
    · subst e
      rw [List.getElem?_set_self (by rw [numF_len]; exact h), if_pos (by omega)]
    · rw [List.getElem?_set_ne (fun h => e h.symm), numF_get _ _ _ _ _ h]
      by_cases h1 : i < k
      · rw [if_pos h1, if_pos (by omega)]
      · rw [if_neg h1, if_neg (by omega)]
  · rw [List.getElem?_eq_none (by rw [List.length_set, numF_len]; omega), List.getElem?_eq_none (by rw [numF_len]; omega)]
theorem numF_same (nums : List Int) (b n k : Nat) (h : nums.getD (b + k) 0 = 0) : numF nums b n k = numF nums b n (k + 1) := by
  unfold numF
  apply List.map_congr_left
  intro i _
  by_cases e : i = k
  · subst e; rw [if_neg (by omega), if_pos (by omega), h]
  · by_cases h1 : i < k
    · rw [if_pos h1, if_pos (by omega)]
    · rw [if_neg h1, if_neg (by omega)]
/-- a row's cells -/
def numC (l : List Int) : Array Value := (l.map (Value.int .u64)).toArray
theorem numC_size (l : List Int) : (numC l).size = l.length := by simp [numC]
theorem numC_get (l : List Int) (j : Nat) (x : Int) (h : l[j]? = some x) : (numC l)[j]? = some (.int .u64 x) := by
  unfold numC
  simp [h]
theorem numC_set (l : List Int) (j : Nat) (x : Int) : (numC l).setIfInBounds j (.int .u64 x) = numC (l.set j x) := by
  unfold numC
  simp [List.map_set]
/-- m numbers from b on -/
def rowM (nums : List Int) (b m : Nat) : List Int := (List.range m).map fun r => nums.getD (b + r) 0
theorem rowM_len (nums : List Int) (b m : Nat) : (rowM nums b m).length = m := by simp [rowM]
theorem rowM_succ (nums : List Int) (b m : Nat) : rowM nums b (m + 1) = rowM nums b m ++ [nums.getD (b + m) 0] := by simp [rowM, List.range_succ]
theorem numF_full (nums : List Int) (b n : Nat) : numF nums b n n = rowM nums b n := by
  unfold numF rowM
  apply List.map_congr_left
  intro i hi
  rw [if_pos (List.mem_range.1 hi)]
/-- rows of eight -/
def regRR (nums : List Int) (n : Nat) : List (List Int) := (List.range n).map fun i => rowM nums (i * 8) 8
theorem regRR_len (nums : List Int) (n : Nat) : (regRR nums n).length = n := by simp [regRR]
theorem regRR_get (nums : List Int) (n i : Nat) (h : i < n) : (regRR nums n)[i]? = some (rowM nums (i * 8) 8) := by simp [regRR, h]
theorem regRR_row (nums : List Int) (n : Nat) : ∀ l ∈ regRR nums n, l.length = 8 := by
  intro l hl
  obtain ⟨i, _, rfl⟩ := List.mem_map.1 hl
  exact rowM_len _ _ _
theorem rowM_add (nums : List Int) (b m k : Nat) : rowM nums b (m + k) = rowM nums b m ++ rowM nums (b + m) k := by
  unfold rowM
  rw [List.range_add, List.map_append, List.map_map]
  congr 1
  apply List.map_congr_left
  intro i _
  simp [Nat.add_assoc]
theorem regRR_flat (nums : List Int) : ∀ n, (regRR nums n).flatMap (fun l => l.map (Value.int .u64)) = (rowM nums 0 (n * 8)).map (Value.int .u64)
  | 0 => by simp [regRR, rowM]
  | n + 1 => by
    have e : regRR nums (n + 1) = regRR nums n ++ [rowM nums (n * 8) 8] := by simp [regRR, List.range_succ]
    rw [e, List.flatMap_append, regRR_flat nums n, Nat.succ_mul, rowM_add, List.map_append, Nat.zero_add]
    simp
end Go.Proofs.YtnlcmdgjoikljaaDoor
