/- The laws of layer 1 (word): there and back; fields that are laid. -/
import Derived.Test.YtdhbeeeofaheeaaDoorWordO
namespace Go.Proofs.YtdhbeeeofaheeaaDoor
set_option maxRecDepth 100000
open Go.RowKit M

theorem rotN_tb {v s i : Nat} (hv : v < 18446744073709551616) (hs : s < 64) (hi : i < 64) : (rotN v s).testBit i = v.testBit ((i + 64 - s) % 64) := by
  rw [← rot64_same hv, ← rotA_val hs, testBit_val _ (flA_le fun i _ => by unfold tnf; split <;> omega), flA_getD, if_pos hi]
  unfold tnf
  rw [if_pos (Nat.mod_lt _ (by decide)), bit_tb]
theorem rotN_lt {v s : Nat} (hv : v < 18446744073709551616) : rotN v s < 18446744073709551616 := by
  unfold rotN
  have h1 : v * 2 ^ s % 18446744073709551616 < 2 ^ 64 := by rw [p64]; exact Nat.mod_lt _ (by decide)
  have h2 : v / 2 ^ (64 - s) < 2 ^ 64 := by rw [p64]; exact Nat.lt_of_le_of_lt (Nat.div_le_self _ _) hv
  rw [← p64]; exact Nat.or_lt_two_pow h1 h2
theorem eq_of_tb {a b : Nat} (ha : a < 18446744073709551616) (hb : b < 18446744073709551616) (h : ∀ i, i < 64 → a.testBit i = b.testBit i) : a = b := by
  apply Nat.eq_of_testBit_eq
  intro i
  by_cases hi : i < 64
  · exact h i hi
  · have e : ∀ x : Nat, x < 18446744073709551616 → x.testBit i = false := fun x hx =>
      Nat.testBit_lt_two_pow (Nat.lt_of_lt_of_le (by rw [← p64] at hx; exact hx) (Nat.pow_le_pow_right (by decide) (by omega)))
    rw [e a ha, e b hb]
theorem rot_back {v : Nat} (hv : v < 18446744073709551616) (n : Int) : rotN (rotN v (n % 64).toNat) ((-n) % 64).toNat = v := by
  refine eq_of_tb (rotN_lt (rotN_lt hv)) hv (fun i hi => ?_)
  rw [rotN_tb (rotN_lt hv) (by omega) hi, rotN_tb hv (by omega) (Nat.mod_lt _ (by decide))]
  congr 1
  omega

theorem num_digit : ∀ (l : List Nat) (_ : ∀ d ∈ l, d < 2 ^ 8) (i : Nat), num 8 l / 2 ^ (8 * i) % 256 = l.getD i 0
  | [], _, i => by simp [num]
  | d :: l, h, 0 => by
    have := h d (by simp)
    simp [num]; omega
  | d :: l, h, i + 1 => by
    have h1 := h d (by simp)
    have ih := num_digit l (fun c hc => h c (by simp [hc])) i
    have e : num 8 (d :: l) / 2 ^ (8 * (i + 1)) = num 8 l / 2 ^ (8 * i) := by
      rw [show 8 * (i + 1) = 8 + 8 * i by omega, Nat.pow_add, ← Nat.div_div_eq_div_mul]
      congr 1
      simp only [num]
      omega
    rw [e, ih]
    simp
theorem num_bytesN (k v : Nat) : num 8 (bytesN k v) = v % 2 ^ (8 * k) := by
  induction k with
  | zero => simp [bytesN, num, Nat.mod_one]
  | succ k ih =>
    rw [bytesN_succ, num_append, ih, bytesN_length, show 8 * (k + 1) = 8 * k + 8 by omega, Nat.pow_add, Nat.mod_mul]
    simp [num, byt]
theorem bytesN_num {l : List Nat} (h : ∀ d ∈ l, d < 2 ^ 8) : bytesN l.length (num 8 l) = l := by
  apply List.ext_getElem
  · simp [bytesN]
  · intro i h1 h2
    simp only [bytesN, List.getElem_map, List.getElem_range]
    have := num_digit l h i
    unfold byt
    rw [this]; simp [List.getD, h2]
theorem revN_lt8 (v : Nat) : revN 8 v < 18446744073709551616 := by
  have h1 := num_lt 8 (bytesN 8 v).reverse (fun b hb => bytesN_lt 8 v b (by simpa using hb))
  have e : (bytesN 8 v).reverse.length = 8 := by simp [bytesN]
  rw [e] at h1
  unfold revN; rw [← p64]; exact h1
theorem rev_back {v : Nat} (hv : v < 18446744073709551616) : revN 8 (revN 8 v) = v := by
  have h := bytesN_num (l := (bytesN 8 v).reverse) (fun b hb => bytesN_lt 8 v b (by simpa using hb))
  have e : (bytesN 8 v).reverse.length = 8 := by simp [bytesN]
  rw [e] at h
  show num 8 (bytesN 8 (num 8 (bytesN 8 v).reverse)).reverse = v
  rw [h, List.reverse_reverse, num_bytesN]
  exact Nat.mod_eq_of_lt (by rw [p64]; exact hv)
theorem num_back {v : Nat} (hv : v < 18446744073709551616) : numN (bs (bytesN 8 v)) = v := by
  rw [num_bnl _ (bytesN_length 8 v) (bytesN_lt 8 v), num_bytesN]
  exact Nat.mod_eq_of_lt (by rw [p64]; exact hv)
theorem fold_nonneg (z : Int) : ∃ m : Nat, foldI z = m := ⟨(foldI z).toNat, by unfold foldI; split <;> omega⟩
theorem unfold_fold {z : Int} {m : Nat} (h : foldI z = m) : unfoldI m = z := by
  unfold foldI at h; unfold unfoldI
  split at h <;> split <;> omega
theorem fold_unfold (v : Nat) : foldI (unfoldI v) = v := by
  unfold foldI unfoldI
  split <;> split <;> omega
theorem unfold_bd {v : Nat} (hv : v < 18446744073709551616) : -9223372036854775808 ≤ unfoldI v ∧ unfoldI v ≤ 9223372036854775807 := by
  unfold unfoldI
  split <;> omega

theorem layN_lt {v x : Nat} (hv : v < 18446744073709551616) (a n : Int) : layN v a n x < 18446744073709551616 := by
  rw [← lay_val (x := x) hv a n]
  have := val_lt (fl (lyf v x a.toNat (lyc a n))) (fl_le fun i _ => lyf_le _ _ _ _ i)
  rwa [fl_length, p64] at this
theorem layN_tb {v x a n i : Nat} (hv : v < 18446744073709551616) (hn : n ≤ 64) (han : a + n ≤ 64) (hn1 : 1 ≤ n) (hi : i < 64) :
    (layN v a n x).testBit i = if a ≤ i ∧ i < a + n then x.testBit (i - a) else v.testBit i := by
  have hc : lyc (a : Int) (n : Int) = n := by
    unfold lyc
    rw [if_pos (by omega)]
    rcases cl_cases (n : Int) with ⟨_, e⟩ | ⟨_, e⟩ | ⟨k, h, hk, e⟩ <;> omega
  rw [← lay_val (x := x) hv (a : Int) (n : Int), testBit_val _ (fl_le fun i _ => lyf_le _ _ _ _ i), fl_getD, if_pos hi, hc]
  unfold lyf
  simp only [Int.toNat_natCast]
  split
  · rw [bit_tb]
  · rw [bit_tb]
theorem cl_nat {n : Nat} (h : n ≤ 64) : cl (n : Int) = n := by
  rcases cl_cases (n : Int) with ⟨_, e⟩ | ⟨_, e⟩ | ⟨k, h, hk, e⟩ <;> omega
theorem field_lay {v x a n : Nat} (hv : v < 18446744073709551616) (hn1 : 1 ≤ n) (han : a + n ≤ 64) : fieldN (layN v a n x) a n = x % 2 ^ n := by
  unfold fieldN
  rw [if_pos (by omega), cl_nat (by omega)]
  simp only [Int.toNat_natCast]
  apply Nat.eq_of_testBit_eq
  intro i
  rw [Nat.testBit_mod_two_pow, Nat.testBit_div_two_pow, Nat.testBit_mod_two_pow]
  by_cases h : i < n
  · rw [layN_tb hv (by omega) han hn1 (by omega), if_pos (by omega), show i + a - a = i by omega]
  · simp [h]
theorem lay_back {v x a n : Nat} (hv : v < 18446744073709551616) (hn1 : 1 ≤ n) (han : a + n ≤ 64) : layN (layN v a n x) a n (fieldN v a n) = v := by
  refine eq_of_tb (layN_lt (layN_lt hv _ _) _ _) hv (fun i hi => ?_)
  rw [layN_tb (layN_lt hv _ _) (by omega) han hn1 hi]
  by_cases h : a ≤ i ∧ i < a + n
  · rw [if_pos h]
    unfold fieldN
    rw [if_pos (by omega), cl_nat (by omega)]
    simp only [Int.toNat_natCast]
    rw [Nat.testBit_mod_two_pow, Nat.testBit_div_two_pow, show i - a + a = i by omega]
    simp; omega
  · rw [if_neg h, layN_tb hv (by omega) han hn1 hi, if_neg h]
theorem bit_lay {v x a n i : Nat} (hv : v < 18446744073709551616) (hn1 : 1 ≤ n) (han : a + n ≤ 64) (hi : i < 64) (h : ¬ (a ≤ i ∧ i < a + n)) : bitB (layN v a n x) i = bitB v i := by
  have e := layN_tb (x := x) hv (show n ≤ 64 by omega) han hn1 hi
  rw [if_neg h, ← bit_tb, ← bit_tb] at e
  unfold bitB
  simp only [Int.toNat_natCast]
  rw [Bool.eq_iff_iff] at e ⊢
  simp only [decide_eq_true_eq] at e ⊢
  omega

end Go.Proofs.YtdhbeeeofaheeaaDoor
