/- Plain mathematics of layer 4. -/
import Derived.Test.YtdhbeeeofaheeaaDoorWordP
namespace Go.Proofs.YtdhbeeeofaheeaaDoor
set_option maxRecDepth 100000
open M

/-- the lowest n bytes of v, the highest first -/
def fx (n v : Nat) : List Nat := (bytesN n v).reverse
/-- the number of bytes, the highest first -/
def un (l : List Nat) : Nat := num 8 l.reverse

theorem fx_length (n v : Nat) : (fx n v).length = n := by simp [fx, bytesN_length]
theorem fx_lt (n v : Nat) : ∀ d ∈ fx n v, d < 2 ^ 8 := fun d hd => bytesN_lt n v d (by simpa [fx] using hd)
theorem un_fx (n v : Nat) : un (fx n v) = v % 2 ^ (8 * n) := by unfold un fx; rw [List.reverse_reverse, num_bytesN]
theorem fx_un {l : List Nat} (h : ∀ d ∈ l, d < 2 ^ 8) : fx l.length (un l) = l := by
  unfold un fx
  have e := bytesN_num (l := l.reverse) (fun d hd => h d (by simpa using hd))
  rw [List.length_reverse] at e
  rw [e, List.reverse_reverse]
theorem un_lt {l : List Nat} (h : ∀ d ∈ l, d < 2 ^ 8) : un l < 2 ^ (8 * l.length) := by
  have e := num_lt 8 l.reverse (fun d hd => h d (by simpa using hd))
  rwa [List.length_reverse] at e
theorem un_nil : un [] = 0 := rfl
theorem un_one (b : Nat) : un [b] = b := by simp [un, num]

theorem bytesN_getElem (k v i : Nat) (h : i < (bytesN k v).length) : (bytesN k v)[i] = byt v i := by simp [bytesN]

theorem byt_num {l : List Nat} (h : ∀ d ∈ l, d < 2 ^ 8) (i : Nat) : byt (num 8 l) i = l.getD i 0 := num_digit l h i

theorem byt_shift {v a b : Nat} (h : 8 * b + a + 8 ≤ 64) (h8 : 8 ∣ a) : byt (v * 2 ^ a % 18446744073709551616) (b + a / 8) = byt v b := by
  unfold byt
  obtain ⟨q, rfl⟩ := h8
  rw [Nat.mul_div_cancel_left _ (by decide)]
  have e : 8 * (b + q) = 8 * q + 8 * b := by omega
  rw [e]
  apply Nat.eq_of_testBit_eq
  intro i
  rw [show (256 : Nat) = 2 ^ 8 by decide, show (18446744073709551616 : Nat) = 2 ^ 64 by decide, Nat.testBit_mod_two_pow, Nat.testBit_mod_two_pow, Nat.testBit_div_two_pow, Nat.testBit_div_two_pow, Nat.testBit_mod_two_pow, Nat.testBit_mul_two_pow]
  by_cases hi : i < 8
  · have h1 : i + (8 * q + 8 * b) < 64 := by omega
    have h2 : 8 * q ≤ i + (8 * q + 8 * b) := by omega
    have h3 : i + (8 * q + 8 * b) - 8 * q = i + 8 * b := by omega
    simp [hi, h1, h2, h3]
  · simp [hi]

theorem rev_getD (n x i : Nat) (h : i < n) : (bytesN n x).reverse.getD i 0 = byt x (n - 1 - i) := by
  rw [List.getD, List.getElem?_reverse (by rw [bytesN_length]; exact h), bytesN_length, List.getElem?_eq_getElem (by rw [bytesN_length]; omega), bytesN_getElem]
  rfl

/-- Bytes(Swap(v << (64 - 8 n)), n) -/
theorem bytes_swap {n v : Nat} (h1 : 1 ≤ n) (h8 : n ≤ 8) : bytesN n (revN 8 (v * 2 ^ (64 - 8 * n) % 18446744073709551616)) = fx n v := by
  apply List.ext_getElem
  · rw [bytesN_length, fx_length]
  · intro i hi1 hi2
    have e2 : (fx n v)[i]'hi2 = byt v (n - 1 - i) := by
      have h := rev_getD n v i (by rwa [fx_length] at hi2)
      rw [← h]
      show _ = (fx n v).getD i 0
      simp [List.getD, hi2]
    rw [bytesN_length] at hi1
    rw [bytesN_getElem, e2]
    unfold revN
    rw [byt_num (fun d hd => bytesN_lt 8 _ d (by simpa using hd)), rev_getD 8 _ i (by omega)]
    have h := byt_shift (v := v) (a := 64 - 8 * n) (b := n - 1 - i) (by omega) (by omega)
    rw [show n - 1 - i + (64 - 8 * n) / 8 = 8 - 1 - i by omega] at h
    exact h

theorem num_zeros (k : Nat) (m : List Nat) : num 8 (List.replicate k 0 ++ m) = 2 ^ (8 * k) * num 8 m := by
  rw [num_append]
  have : num 8 (List.replicate k 0) = 0 := by
    induction k with
    | zero => rfl
    | succ k ih => simp [List.replicate_succ, num, ih]
  rw [this]; simp

theorem bytes_pad {l : List Nat} (h : ∀ d ∈ l, d < 2 ^ 8) (hl : l.length ≤ 8) : bytesN 8 (num 8 l) = l ++ List.replicate (8 - l.length) 0 := by
  apply List.ext_getElem
  · rw [bytesN_length]; simp; omega
  · intro i h1 h2
    rw [bytesN_getElem, byt_num h, List.getElem_append]
    by_cases hi : i < l.length
    · simp [hi, List.getD]
    · simp [hi, List.getD]

/-- Swap(Number(s)) >> (64 - 8 n) -/
theorem swap_num {l : List Nat} (h : ∀ d ∈ l, d < 2 ^ 8) (hl : l.length ≤ 8) : revN 8 (num 8 l) / 2 ^ (64 - 8 * l.length) = un l := by
  unfold revN un
  rw [bytes_pad h hl, List.reverse_append, List.reverse_replicate, num_zeros, show 8 * (8 - l.length) = 64 - 8 * l.length by omega]
  exact Nat.mul_div_cancel_left _ (Nat.pow_pos (by decide))
theorem swap_none (n : Nat) : revN 8 (num 8 []) / 2 ^ n = 0 := by
  have : revN 8 (num 8 []) = 0 := by decide
  rw [this]; simp

/-- how many bytes a number needs -/
def szN (v : Nat) : Nat := if v < 256 then 1 else if v < 65536 then 2 else if v < 16777216 then 3 else if v < 4294967296 then 4 else if v < 1099511627776 then 5 else if v < 281474976710656 then 6 else if v < 72057594037927936 then 7 else 8
theorem szN_bd (v : Nat) : 1 ≤ szN v ∧ szN v ≤ 8 := by unfold szN; (repeat' split) <;> omega
theorem szN_lt {v : Nat} (h : v < 18446744073709551616) : v < 2 ^ (8 * szN v) := by
  unfold szN; (repeat' split) <;> (simp; omega)
theorem szN_mono {a b : Nat} (h : a ≤ b) : szN a ≤ szN b := by unfold szN; (repeat' split) <;> omega
/-- the bytes of a number -/
def numL (v : Nat) : List Nat := if v < 248 then [v] else (247 + szN v) :: fx (szN v) v
/-- the bytes of a text -/
def txtL (s : List Nat) : List Nat := numL s.length ++ s
theorem numL_lt (v : Nat) : ∀ d ∈ numL v, d < 2 ^ 8 := by
  intro d hd
  unfold numL at hd
  have := szN_bd v
  split at hd
  · simp at hd; omega
  · simp only [List.mem_cons] at hd
    rcases hd with rfl | hd
    · omega
    · exact fx_lt _ _ d hd
end Go.Proofs.YtdhbeeeofaheeaaDoor
