/- WordO, WordP, PackM, in one text. -/
import Derived.Test.YteilmohlgfgmnaaDoorHc
namespace Go.Proofs.YteilmohlgfgmnaaDoor
set_option maxRecDepth 100000
open Go.RowKit M

theorem nb_cases (n : Int) : (n = 1 ∧ nb n = 8) ∨ (n = 2 ∧ nb n = 16) ∨ (n = 4 ∧ nb n = 32) ∨ ((n == 1) = false ∧ (n == 2) = false ∧ (n == 4) = false ∧ nb n = 64) := by
  unfold nb
  by_cases h1 : n = 1
  · subst h1; exact .inl ⟨rfl, by simp⟩
  by_cases h2 : n = 2
  · subst h2; exact .inr (.inl ⟨rfl, by simp⟩)
  by_cases h4 : n = 4
  · subst h4; exact .inr (.inr (.inl ⟨rfl, by simp⟩))
  · exact .inr (.inr (.inr ⟨by simpa using h1, by simpa using h2, by simpa using h4, by rw [if_neg (by omega)]⟩))

end Go.Proofs.YteilmohlgfgmnaaDoor
namespace Go.Proofs.YteilmohlgfgmnaaDoor
set_option maxRecDepth 100000
open Go.RowKit M

theorem rotN_tb {v s i : Nat} (hv : v < 18446744073709551616) (hs : s < 64) (hi : i < 64) : (rotN v s).testBit i = v.testBit ((i + 64 - s) % 64) := by
  rw [← rot64_same hv, ← rotA_val hs, testBit_val _ (flA_le fun i _ => by unfold tnf; split <;> omega), flA_getD, if_pos hi]
  unfold tnf
  rw [if_pos (Nat.mod_lt _ (by decide)), bit_tb]
theorem rotN_lt {v s : Nat} (hv : v < 18446744073709551616) : rotN v s < 18446744073709551616 := by
  unfold rotN
  have h1 : v * 2 ^ s % 18446744073709551616 < 2 ^ 64 := by rw [p64]; exact Nat.mod_lt _ (by decide)
  have h2 : v / 2 ^ (64 - s) < 2 ^ 64 := by rw [p64]; exact Nat.lt_of_le_of_lt (Nat.div_le_self _ _) hv
  rw [← p64]; exact Nat.or_lt_two_pow h1 h2
theorem eq_of_tb {a b : Nat} (ha : a < 18446744073709551616) (hb : b < 18446744073709551616) (h : ∀ i, i < 64 → a.testBit i = b.testBit i) : a = b := by
  apply Nat.eq_of_testBit_eq
  intro i
  by_cases hi : i < 64
  · exact h i hi
  · have e : ∀ x : Nat, x < 18446744073709551616 → x.testBit i = false := fun x hx =>
      Nat.testBit_lt_two_pow (Nat.lt_of_lt_of_le (by rw [← p64] at hx; exact hx) (Nat.pow_le_pow_right (by decide) (by omega)))
    rw [e a ha, e b hb]
theorem rot_back {v : Nat} (hv : v < 18446744073709551616) (n : Int) : rotN (rotN v (n % 64).toNat) ((-n) % 64).toNat = v := by
  refine eq_of_tb (rotN_lt (rotN_lt hv)) hv (fun i hi => ?_)
  rw [rotN_tb (rotN_lt hv) (by omega) hi, rotN_tb hv (by omega) (Nat.mod_lt _ (by decide))]
  congr 1
  omega

theorem num_digit : ∀ (l : List Nat) (_ : ∀ d ∈ l, d < 2 ^ 8) (i : Nat), num 8 l / 2 ^ (8 * i) % 256 = l.getD i 0
  | [], _, i => by simp [num]
  | d :: l, h, 0 => by
    have := h d (by simp)
    simp [num]; omega
  | d :: l, h, i + 1 => by
    have h1 := h d (by simp)
    have ih := num_digit l (fun c hc => h c (by simp [hc])) i
    have e : num 8 (d :: l) / 2 ^ (8 * (i + 1)) = num 8 l / 2 ^ (8 * i) := by
      rw [show 8 * (i + 1) = 8 + 8 * i by omega, Nat.pow_add, ← Nat.div_div_eq_div_mul]
      congr 1
      simp only [num]
      omega
    rw [e, ih]
    simp
theorem num_bytesN (k v : Nat) : num 8 (bytesN k v) = v % 2 ^ (8 * k) := by
  induction k with
  | zero => simp [bytesN, num, Nat.mod_one]
  | succ k ih =>
    rw [bytesN_succ, num_append, ih, bytesN_length, show 8 * (k + 1) = 8 * k + 8 by omega, Nat.pow_add, Nat.mod_mul]
    simp [num, byt]
theorem bytesN_num {l : List Nat} (h : ∀ d ∈ l, d < 2 ^ 8) : bytesN l.length (num 8 l) = l := by
  apply List.ext_getElem
  · simp [bytesN]
  · intro i h1 h2
    simp only [bytesN, List.getElem_map, List.getElem_range]
    have := num_digit l h i
    unfold byt
    rw [this]; simp [List.getD, h2]
theorem revN_lt8 (v : Nat) : revN 8 v < 18446744073709551616 := by
  have h1 := num_lt 8 (bytesN 8 v).reverse (fun b hb => bytesN_lt 8 v b (by simpa using hb))
  have e : (bytesN 8 v).reverse.length = 8 := by simp [bytesN]
  rw [e] at h1
  unfold revN; rw [← p64]; exact h1
theorem rev_back {v : Nat} (hv : v < 18446744073709551616) : revN 8 (revN 8 v) = v := by
  have h := bytesN_num (l := (bytesN 8 v).reverse) (fun b hb => bytesN_lt 8 v b (by simpa using hb))
  have e : (bytesN 8 v).reverse.length = 8 := by simp [bytesN]
  rw [e] at h
  show num 8 (bytesN 8 (num 8 (bytesN 8 v).reverse)).reverse = v
  rw [h, List.reverse_reverse, num_bytesN]
  exact Nat.mod_eq_of_lt (by rw [p64]; exact hv)
theorem num_back {v : Nat} (hv : v < 18446744073709551616) : numN (bs (bytesN 8 v)) = v := by
  rw [num_bnl _ (bytesN_length 8 v) (bytesN_lt 8 v), num_bytesN]
  exact Nat.mod_eq_of_lt (by rw [p64]; exact hv)
theorem fold_nonneg (z : Int) : ∃ m : Nat, foldI z = m := ⟨(foldI z).toNat, by unfold foldI; split <;> omega⟩
theorem unfold_fold {z : Int} {m : Nat} (h : foldI z = m) : unfoldI m = z := by
  unfold foldI at h; unfold unfoldI
  split at h <;> split <;> omega
theorem fold_unfold (v : Nat) : foldI (unfoldI v) = v := by
  unfold foldI unfoldI
  split <;> split <;> omega
theorem unfold_bd {v : Nat} (hv : v < 18446744073709551616) : -9223372036854775808 ≤ unfoldI v ∧ unfoldI v ≤ 9223372036854775807 := by
  unfold unfoldI
  split <;> omega

theorem layN_lt {v x : Nat} (hv : v < 18446744073709551616) (a n : Int) : layN v a n x < 18446744073709551616 := by
  rw [← lay_val (x := x) hv a n]
  have := val_lt (fl (lyf v x a.toNat (lyc a n))) (fl_le fun i _ => lyf_le _ _ _ _ i)
  rwa [fl_length, p64] at this
theorem layN_tb {v x a n i : Nat} (hv : v < 18446744073709551616) (hn : n ≤ 64) (han : a + n ≤ 64) (hn1 : 1 ≤ n) (hi : i < 64) :
    (layN v a n x).testBit i = if a ≤ i ∧ i < a + n then x.testBit (i - a) else v.testBit i := by
  have hc : lyc (a : Int) (n : Int) = n := by
    unfold lyc
    rw [if_pos (by omega)]
    rcases cl_cases (n : Int) with ⟨_, e⟩ | ⟨_, e⟩ | ⟨k, h, hk, e⟩ <;> omega
  rw [← lay_val (x := x) hv (a : Int) (n : Int), testBit_val _ (fl_le fun i _ => lyf_le _ _ _ _ i), fl_getD, if_pos hi, hc]
  unfold lyf
  simp only [Int.toNat_natCast]
  split
  · rw [bit_tb]
  · rw [bit_tb]
theorem cl_nat {n : Nat} (h : n ≤ 64) : cl (n : Int) = n := by
  rcases cl_cases (n : Int) with ⟨_, e⟩ | ⟨_, e⟩ | ⟨k, h, hk, e⟩ <;> omega
theorem field_lay {v x a n : Nat} (hv : v < 18446744073709551616) (hn1 : 1 ≤ n) (han : a + n ≤ 64) : fieldN (layN v a n x) a n = x % 2 ^ n := by
  unfold fieldN
  rw [if_pos (by omega), cl_nat (by omega)]
  simp only [Int.toNat_natCast]
  apply Nat.eq_of_testBit_eq
  intro i
  rw [Nat.testBit_mod_two_pow, Nat.testBit_div_two_pow, Nat.testBit_mod_two_pow]
  by_cases h : i < n
  · rw [layN_tb hv (by omega) han hn1 (by omega), if_pos (by omega), show i + a - a = i by omega]
  · simp [h]
theorem lay_back {v x a n : Nat} (hv : v < 18446744073709551616) (hn1 : 1 ≤ n) (han : a + n ≤ 64) : layN (layN v a n x) a n (fieldN v a n) = v := by
  refine eq_of_tb (layN_lt (layN_lt hv _ _) _ _) hv (fun i hi => ?_)
  rw [layN_tb (layN_lt hv _ _) (by omega) han hn1 hi]
  by_cases h : a ≤ i ∧ i < a + n
  · rw [if_pos h]
    unfold fieldN
    rw [if_pos (by omega), cl_nat (by omega)]
    simp only [Int.toNat_natCast]
    rw [Nat.testBit_mod_two_pow, Nat.testBit_div_two_pow, show i - a + a = i by omega]
    simp; omega
  · rw [if_neg h, layN_tb hv (by omega) han hn1 hi, if_neg h]
theorem bit_lay {v x a n i : Nat} (hv : v < 18446744073709551616) (hn1 : 1 ≤ n) (han : a + n ≤ 64) (hi : i < 64) (h : ¬ (a ≤ i ∧ i < a + n)) : bitB (layN v a n x) i = bitB v i := by
  have e := layN_tb (x := x) hv (show n ≤ 64 by omega) han hn1 hi
  rw [if_neg h, ← bit_tb, ← bit_tb] at e
  unfold bitB
  simp only [Int.toNat_natCast]
  rw [Bool.eq_iff_iff] at e ⊢
  simp only [decide_eq_true_eq] at e ⊢
  omega

end Go.Proofs.YteilmohlgfgmnaaDoor
namespace Go.Proofs.YteilmohlgfgmnaaDoor
set_option maxRecDepth 100000
open M

/-- the lowest n bytes of v, the highest first -/
def fx (n v : Nat) : List Nat := (bytesN n v).reverse
/-- the number of bytes, the highest first -/
def un (l : List Nat) : Nat := num 8 l.reverse

theorem fx_length (n v : Nat) : (fx n v).length = n := by simp [fx, bytesN_length]
theorem fx_lt (n v : Nat) : ∀ d ∈ fx n v, d < 2 ^ 8 := fun d hd => bytesN_lt n v d (by simpa [fx] using hd)
theorem un_fx (n v : Nat) : un (fx n v) = v % 2 ^ (8 * n) := by unfold un fx; rw [List.reverse_reverse, num_bytesN]
theorem fx_un {l : List Nat} (h : ∀ d ∈ l, d < 2 ^ 8) : fx l.length (un l) = l := by
  unfold un fx
  have e := bytesN_num (l := l.reverse) (fun d hd => h d (by simpa using hd))
  rw [List.length_reverse] at e
  rw [e, List.reverse_reverse]
theorem un_lt {l : List Nat} (h : ∀ d ∈ l, d < 2 ^ 8) : un l < 2 ^ (8 * l.length) := by
  have e := num_lt 8 l.reverse (fun d hd => h d (by simpa using hd))
  rwa [List.length_reverse] at e
theorem un_nil : un [] = 0 := rfl
theorem un_one (b : Nat) : un [b] = b := by simp [un, num]

theorem bytesN_getElem (k v i : Nat) (h : i < (bytesN k v).length) : (bytesN k v)[i] = byt v i := by simp [bytesN]

theorem byt_num {l : List Nat} (h : ∀ d ∈ l, d < 2 ^ 8) (i : Nat) : byt (num 8 l) i = l.getD i 0 := num_digit l h i

theorem byt_shift {v a b : Nat} (h : 8 * b + a + 8 ≤ 64) (h8 : 8 ∣ a) : byt (v * 2 ^ a % 18446744073709551616) (b + a / 8) = byt v b := by
  unfold byt
  obtain ⟨q, rfl⟩ := h8
  rw [Nat.mul_div_cancel_left _ (by decide)]
  have e : 8 * (b + q) = 8 * q + 8 * b := by omega
  rw [e]
  apply Nat.eq_of_testBit_eq
  intro i
  rw [show (256 : Nat) = 2 ^ 8 by decide, show (18446744073709551616 : Nat) = 2 ^ 64 by decide, Nat.testBit_mod_two_pow, Nat.testBit_mod_two_pow, Nat.testBit_div_two_pow, Nat.testBit_div_two_pow, Nat.testBit_mod_two_pow, Nat.testBit_mul_two_pow]
  by_cases hi : i < 8
  · have h1 : i + (8 * q + 8 * b) < 64 := by omega
    have h2 : 8 * q ≤ i + (8 * q + 8 * b) := by omega
    have h3 : i + (8 * q + 8 * b) - 8 * q = i + 8 * b := by omega
    simp [hi, h1, h2, h3]
  · simp [hi]

theorem rev_getD (n x i : Nat) (h : i < n) : (bytesN n x).reverse.getD i 0 = byt x (n - 1 - i) := by
  rw [List.getD, List.getElem?_reverse (by rw [bytesN_length]; exact h), bytesN_length, List.getElem?_eq_getElem (by rw [bytesN_length]; omega), bytesN_getElem]
  rfl

/-- Bytes(Swap(v << (64 - 8 n)), n) -/
theorem bytes_swap {n v : Nat} (h1 : 1 ≤ n) (h8 : n ≤ 8) : bytesN n (revN 8 (v * 2 ^ (64 - 8 * n) % 18446744073709551616)) = fx n v := by
  apply List.ext_getElem
  · rw [bytesN_length, fx_length]
  · intro i hi1 hi2
    have e2 : (fx n v)[i]'hi2 = byt v (n - 1 - i) := by
      have h := rev_getD n v i (by rwa [fx_length] at hi2)
      rw [← h]
      show _ = (fx n v).getD i 0
      simp [List.getD, hi2]
    rw [bytesN_length] at hi1
    rw [bytesN_getElem, e2]
    unfold revN
    rw [byt_num (fun d hd => bytesN_lt 8 _ d (by simpa using hd)), rev_getD 8 _ i (by omega)]
    have h := byt_shift (v := v) (a := 64 - 8 * n) (b := n - 1 - i) (by omega) (by omega)
    rw [show n - 1 - i + (64 - 8 * n) / 8 = 8 - 1 - i by omega] at h
    exact h

theorem num_zeros (k : Nat) (m : List Nat) : num 8 (List.replicate k 0 ++ m) = 2 ^ (8 * k) * num 8 m := by
  rw [num_append]
  have : num 8 (List.replicate k 0) = 0 := by
    induction k with
    | zero => rfl
    | succ k ih => simp [List.replicate_succ, num, ih]
  rw [this]; simp

theorem bytes_pad {l : List Nat} (h : ∀ d ∈ l, d < 2 ^ 8) (hl : l.length ≤ 8) : bytesN 8 (num 8 l) = l ++ List.replicate (8 - l.length) 0 := by
  apply List.ext_getElem
  · rw [bytesN_length]; simp; omega
  · intro i h1 h2
    rw [bytesN_getElem, byt_num h, List.getElem_append]
    by_cases hi : i < l.length
    · simp [hi, List.getD]
    · simp [hi, List.getD]

/-- Swap(Number(s)) >> (64 - 8 n) -/
theorem swap_num {l : List Nat} (h : ∀ d ∈ l, d < 2 ^ 8) (hl : l.length ≤ 8) : revN 8 (num 8 l) / 2 ^ (64 - 8 * l.length) = un l := by
  unfold revN un
  rw [bytes_pad h hl, List.reverse_append, List.reverse_replicate, num_zeros, show 8 * (8 - l.length) = 64 - 8 * l.length by omega]
  exact Nat.mul_div_cancel_left _ (Nat.pow_pos (by decide))
theorem swap_none (n : Nat) : revN 8 (num 8 []) / 2 ^ n = 0 := by
  have : revN 8 (num 8 []) = 0 := by decide
  rw [this]; simp

/-- how many bytes a number needs -/
def szN (v : Nat) : Nat := if v < 256 then 1 else if v < 65536 then 2 else if v < 16777216 then 3 else if v < 4294967296 then 4 else if v < 1099511627776 then 5 else if v < 281474976710656 then 6 else if v < 72057594037927936 then 7 else 8
theorem szN_bd (v : Nat) : 1 ≤ szN v ∧ szN v ≤ 8 := by unfold szN; (repeat' split) <;> omega
theorem szN_lt {v : Nat} (h : v < 18446744073709551616) : v < 2 ^ (8 * szN v) := by
  unfold szN; (repeat' split) <;> (simp; omega)
theorem szN_mono {a b : Nat} (h : a ≤ b) : szN a ≤ szN b := by unfold szN; (repeat' split) <;> omega
/-- the bytes of a number -/
def numL (v : Nat) : List Nat := if v < 248 then [v] else (247 + szN v) :: fx (szN v) v
/-- the bytes of a text -/
def txtL (s : List Nat) : List Nat := numL s.length ++ s
theorem numL_lt (v : Nat) : ∀ d ∈ numL v, d < 2 ^ 8 := by
  intro d hd
  unfold numL at hd
  have := szN_bd v
  split at hd
  · simp at hd; omega
  · simp only [List.mem_cons] at hd
    rcases hd with rfl | hd
    · omega
    · exact fx_lt _ _ d hd
end Go.Proofs.YteilmohlgfgmnaaDoor
