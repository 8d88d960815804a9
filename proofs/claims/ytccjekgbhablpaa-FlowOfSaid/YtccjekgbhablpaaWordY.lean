/- XCount, XWordD, XWordE, XWordF, XWordG, XWordH, XWordI, XWordJ, XWordK, XWordL, XWordM, in one text. -/
import Derived.Test.YtccjekgbhablpaaGa
import Derived.Lib.LaidTab
import Derived.Lib.ConvBytes
import Derived.Deep.DeepCutAuto
import Derived.Deep.CutBlock
import Derived.RegionTactic
namespace Go.Proofs.Ytccjekgbhablpaa.M
set_option maxRecDepth 100000
open Go.RowKit Go Go.PlainAid

/-- bits and numbers in two pieces -/
theorem and_pieces (k a b c d : Nat) (ha : a < 2 ^ k) (hc : c < 2 ^ k) : (a + 2 ^ k * b) &&& (c + 2 ^ k * d) = (a &&& c) + 2 ^ k * (b &&& d) := by
  apply Nat.eq_of_testBit_eq
  intro i
  have hac : a &&& c < 2 ^ k := Nat.lt_of_le_of_lt Nat.and_le_left ha
  rw [Nat.testBit_and, Nat.add_comm a, Nat.add_comm c, Nat.add_comm (a &&& c), Nat.testBit_two_pow_mul_add _ ha, Nat.testBit_two_pow_mul_add _ hc, Nat.testBit_two_pow_mul_add _ hac]
  by_cases h : i < k <;> simp [h]

/-- the number of a list of digits of k bits each, the lowest first -/
def num (k : Nat) : List Nat → Nat
  | [] => 0
  | d :: l => d + 2 ^ k * num k l
def pairs : List Nat → List Nat
  | a :: b :: l => (a + b) :: pairs l
  | _ => []
/-- n digits of k bits, each m -/
def rep (k m : Nat) : Nat → Nat
  | 0 => 0
  | n + 1 => m + 2 ^ k * rep k m n

theorem num_lt (k : Nat) (l : List Nat) (h : ∀ d ∈ l, d < 2 ^ k) : num k l < 2 ^ (k * l.length) := by
  induction l with
  | nil => simp [num]
  | cons d l ih =>
    have h1 := h d (by simp)
    have h2 := ih (fun c hc => h c (by simp [hc]))
    have e : 2 ^ (k * (d :: l).length) = 2 ^ k * 2 ^ (k * l.length) := by rw [← Nat.pow_add, List.length_cons, Nat.mul_add, Nat.mul_one, Nat.add_comm]
    rw [e]
    simp only [num]
    have h3 : 2 ^ k * (num k l + 1) ≤ 2 ^ k * 2 ^ (k * l.length) := Nat.mul_le_mul_left _ h2
    rw [Nat.mul_add, Nat.mul_one] at h3
    omega

theorem rep_lt (k m : Nat) (hm : m < 2 ^ k) (n : Nat) : rep k m n < 2 ^ (k * n) := by
  induction n with
  | zero => simp [rep]
  | succ n ih =>
    have e : 2 ^ (k * (n + 1)) = 2 ^ k * 2 ^ (k * n) := by rw [← Nat.pow_add, Nat.mul_add, Nat.mul_one, Nat.add_comm]
    rw [e]
    simp only [rep]
    have h3 : 2 ^ k * (rep k m n + 1) ≤ 2 ^ k * 2 ^ (k * n) := Nat.mul_le_mul_left _ ih
    rw [Nat.mul_add, Nat.mul_one] at h3
    omega

theorem low_mask (k a b : Nat) (ha : a < 2 ^ k) : (a + 2 ^ k * b) &&& (2 ^ k - 1) = a := by
  rw [Nat.and_two_pow_sub_one_eq_mod, Nat.add_mul_mod_self_left, Nat.mod_eq_of_lt ha]

theorem pow2k (k : Nat) : 2 ^ (2 * k) = 2 ^ k * 2 ^ k := by rw [← Nat.pow_add]; congr 1; omega

theorem pow_pos' (k : Nat) : 0 < 2 ^ k := Nat.pow_pos (by decide)

/-- a step of the method of halves, both halves masked -/
theorem halves (k : Nat) : ∀ (n : Nat) (l : List Nat), l.length = 2 * n → (∀ d ∈ l, d < 2 ^ k) →
    ((num k l / 2 ^ k) &&& rep (2 * k) (2 ^ k - 1) n) + (num k l &&& rep (2 * k) (2 ^ k - 1) n) = num (2 * k) (pairs l)
  | 0, l, hl, _ => by
    have : l = [] := List.eq_nil_of_length_eq_zero (by omega)
    subst this; simp [rep, num, pairs]
  | n + 1, l, hl, h => by
    match l, hl with
    | a :: b :: l, hl =>
      have ih := halves k n l (by simp at hl; omega) (fun d hd => h d (by simp [hd]))
      have ha := h a (by simp)
      have hb := h b (by simp)
      have hp := pow_pos' k
      simp only [num, rep, pairs]
      have e1 : (a + 2 ^ k * (b + 2 ^ k * num k l)) / 2 ^ k = (b + 2 ^ k * (num k l % 2 ^ k)) + 2 ^ (2 * k) * (num k l / 2 ^ k) := by
        rw [Nat.add_mul_div_left _ _ hp, Nat.div_eq_of_lt ha, Nat.zero_add, pow2k, Nat.mul_assoc, Nat.add_assoc, ← Nat.mul_add, Nat.mod_add_div]
      have e2 : a + 2 ^ k * (b + 2 ^ k * num k l) = (a + 2 ^ k * b) + 2 ^ (2 * k) * num k l := by
        rw [pow2k, Nat.mul_add, Nat.mul_assoc, Nat.add_assoc]
      have hbd : ∀ x y, x < 2 ^ k → y < 2 ^ k → x + 2 ^ k * y < 2 ^ (2 * k) := by
        intro x y hx hy
        rw [pow2k]
        have : 2 ^ k * (y + 1) ≤ 2 ^ k * 2 ^ k := Nat.mul_le_mul_left _ hy
        rw [Nat.mul_add, Nat.mul_one] at this
        omega
      have hm : 2 ^ k - 1 < 2 ^ (2 * k) := by rw [pow2k]; have := Nat.le_mul_of_pos_right (2 ^ k) hp; omega
      rw [e1, e2, and_pieces (2 * k) _ _ _ _ (hbd b _ hb (Nat.mod_lt _ hp)) hm, and_pieces (2 * k) _ _ _ _ (hbd a b ha hb) hm, low_mask k b _ hb, low_mask k a _ ha, ← ih, Nat.mul_add]
      omega

/-- a step of the method of halves, the sum masked: where no sum of two neighbours is too great -/
theorem halves' (k B : Nat) (hB : 2 * B < 2 ^ k) : ∀ (n : Nat) (l : List Nat), l.length = 2 * n → (∀ d ∈ l, d ≤ B) →
    ((num k l / 2 ^ k + num k l) &&& rep (2 * k) (2 ^ k - 1) n) = num (2 * k) (pairs l)
  | 0, l, hl, _ => by
    have : l = [] := List.eq_nil_of_length_eq_zero (by omega)
    subst this; simp [rep, num, pairs]
  | n + 1, l, hl, h => by
    match l, hl with
    | a :: b :: l, hl =>
      have ih := halves' k B hB n l (by simp at hl; omega) (fun d hd => h d (by simp [hd]))
      have ha := h a (by simp)
      have hb := h b (by simp)
      have hp := pow_pos' k
      have hr : num k l % 2 ^ k ≤ B := by
        cases l with
        | nil => simp [num]
        | cons c l => simp only [num]; rw [Nat.add_mul_mod_self_left]; exact Nat.le_trans (Nat.mod_le _ _) (h c (by simp))
      simp only [num, rep, pairs]
      have e1 : (a + 2 ^ k * (b + 2 ^ k * num k l)) / 2 ^ k + (a + 2 ^ k * (b + 2 ^ k * num k l)) = ((a + b) + 2 ^ k * (b + num k l % 2 ^ k)) + 2 ^ (2 * k) * (num k l / 2 ^ k + num k l) := by
        rw [Nat.add_mul_div_left _ _ hp, Nat.div_eq_of_lt (by omega), Nat.zero_add, pow2k]
        have hs := Nat.mod_add_div (num k l) (2 ^ k)
        generalize num k l % 2 ^ k = r at *
        generalize num k l / 2 ^ k = q at *
        rw [← hs]
        generalize 2 ^ k = K at *
        simp only [Nat.mul_add, ← Nat.mul_assoc]
        omega
      have hbd : (a + b) + 2 ^ k * (b + num k l % 2 ^ k) < 2 ^ (2 * k) := by
        rw [pow2k]
        have : 2 ^ k * (b + num k l % 2 ^ k + 1) ≤ 2 ^ k * 2 ^ k := Nat.mul_le_mul_left _ (by omega)
        rw [Nat.mul_add, Nat.mul_one] at this
        omega
      have hm : 2 ^ k - 1 < 2 ^ (2 * k) := by rw [pow2k]; have := Nat.le_mul_of_pos_right (2 ^ k) hp; omega
      rw [e1, and_pieces (2 * k) _ _ _ _ hbd hm, low_mask k _ _ (by omega), ih]

theorem pairs_length : ∀ (n : Nat) (l : List Nat), l.length = 2 * n → (pairs l).length = n
  | 0, l, hl => by
    have : l = [] := List.eq_nil_of_length_eq_zero (by omega)
    subst this; rfl
  | n + 1, l, hl => by
    match l, hl with
    | a :: b :: l, hl => simp [pairs, pairs_length n l (by simp at hl; omega)]
theorem pairs_sum : ∀ (n : Nat) (l : List Nat), l.length = 2 * n → (pairs l).sum = l.sum
  | 0, l, hl => by
    have : l = [] := List.eq_nil_of_length_eq_zero (by omega)
    subst this; rfl
  | n + 1, l, hl => by
    match l, hl with
    | a :: b :: l, hl => simp [pairs, pairs_sum n l (by simp at hl; omega)]; omega
theorem pairs_le (B : Nat) : ∀ (n : Nat) (l : List Nat), l.length = 2 * n → (∀ d ∈ l, d ≤ B) → ∀ d ∈ pairs l, d ≤ 2 * B
  | 0, l, hl, _ => by
    have : l = [] := List.eq_nil_of_length_eq_zero (by omega)
    subst this; simp [pairs]
  | n + 1, l, hl, h => by
    match l, hl with
    | a :: b :: l, hl =>
      intro d hd
      have h1 := h a (by simp)
      have h2 := h b (by simp)
      simp only [pairs, List.mem_cons] at hd
      rcases hd with rfl | hd
      · omega
      · exact pairs_le B n l (by simp at hl; omega) (fun d hd => h d (by simp [hd])) d hd

theorem num_val (l : List Nat) : num 1 l = val l := by
  induction l with
  | nil => rfl
  | cons b l ih => simp [num, val, ih]

theorem len8 {l : List Nat} (h : l.length = 8) : ∃ a b c d e f g i, l = [a, b, c, d, e, f, g, i] := by
  match l, h with
  | [a, b, c, d, e, f, g, i], _ => exact ⟨a, b, c, d, e, f, g, i, rfl⟩

theorem div_sep (M L H X : Nat) (hL : L < M) (hX : X = L + M * H) : X / M = H := by
  rw [hX, Nat.add_mul_div_left _ _ (by omega), Nat.div_eq_of_lt hL, Nat.zero_add]

theorem sum8 (a b c d e f g i : Nat) (k1 : a ≤ 8) (k2 : b ≤ 8) (k3 : c ≤ 8) (k4 : d ≤ 8) (k5 : e ≤ 8) (k6 : f ≤ 8) (k7 : g ≤ 8) (k8 : i ≤ 8)
    (x q1 q2 q3 : Nat) (hx : x = a + 256 * (b + 256 * (c + 256 * (d + 256 * (e + 256 * (f + 256 * (g + 256 * i)))))))
    (h1 : q1 = x / 256) (h2 : q2 = (x + q1) / 65536) (h3 : q3 = (x + q1 + q2) / 4294967296) :
    (x + q1 + q2 + q3) % 128 = a + (b + (c + (d + (e + (f + (g + i)))))) ∧ a + (b + (c + (d + (e + (f + (g + i)))))) ≤ 64 := by
  have d1 := div_sep 256 a (b + 256 * (c + 256 * (d + 256 * (e + 256 * (f + 256 * (g + 256 * i)))))) x (by omega) hx
  rw [← h1] at d1
  clear h1
  have d2 := div_sep 65536 ((a + b) + 256 * (b + c)) ((c + d) + 256 * ((d + e) + 256 * ((e + f) + 256 * ((f + g) + 256 * ((g + i) + 256 * i))))) (x + q1) (by omega) (by omega)
  rw [← h2] at d2
  clear h2
  have d3 := div_sep 4294967296 ((a + b + c + d) + 256 * ((b + c + d + e) + 256 * ((c + d + e + f) + 256 * (d + e + f + g)))) ((e + f + g + i) + 256 * ((f + g + i) + 256 * ((g + i) + 256 * i))) (x + q1 + q2) (by omega) (by omega)
  rw [← h3] at d3
  clear h3
  refine ⟨?_, by omega⟩
  have e4 : x + q1 + q2 + q3 = (a + (b + (c + (d + (e + (f + (g + i))))))) + 128 * (2 * ((b + c + d + e + f + g + i) + 256 * ((c + d + e + f + g + i) + 256 * ((d + e + f + g + i) + 256 * ((e + f + g + i) + 256 * ((f + g + i) + 256 * ((g + i) + 256 * i))))))) := by omega
  rw [e4, Nat.add_mul_mod_self_left, Nat.mod_eq_of_lt (by omega)]

/-- the steps of OnesCount64 -/
theorem ones_math (v : Nat) (hv : v < 18446744073709551616) : ∃ p1 q1 p2 q2 x3 : Nat,
    p1 = v / 2 &&& 6148914691236517205 ∧ q1 = v &&& 6148914691236517205 ∧ p2 = (p1 + q1) / 4 &&& 3689348814741910323 ∧ q2 = (p1 + q1) &&& 3689348814741910323 ∧
    x3 = ((p2 + q2) / 16 + (p2 + q2)) &&& 1085102592571150095 ∧ p1 ≤ 6148914691236517205 ∧ q1 ≤ 6148914691236517205 ∧ p2 ≤ 3689348814741910323 ∧ q2 ≤ 3689348814741910323 ∧
    x3 ≤ 1085102592571150095 ∧ (x3 + x3 / 256 + (x3 + x3 / 256) / 65536 + (x3 + x3 / 256 + (x3 + x3 / 256) / 65536) / 4294967296) % 128 = (bl 64 v).sum ∧ (bl 64 v).sum ≤ 64 := by
  refine ⟨_, _, _, _, _, rfl, rfl, rfl, rfl, rfl, Nat.and_le_right, Nat.and_le_right, Nat.and_le_right, Nat.and_le_right, Nat.and_le_right, ?_⟩
  have hl := bl_length 64 v
  have h1 : ∀ d ∈ bl 64 v, d ≤ 1 := bl_le 64 v
  have hn : num 1 (bl 64 v) = v := by rw [num_val, val_bl]; exact Nat.mod_eq_of_lt (by rw [p64]; exact hv)
  generalize bl 64 v = l0 at *
  have s1 := halves 1 32 l0 hl (fun d hd => by have := h1 d hd; omega)
  have l1 := pairs_length 32 l0 hl
  have b1 := pairs_le 1 32 l0 hl h1
  have t1 := pairs_sum 32 l0 hl
  generalize pairs l0 = m1 at *
  have s2 := halves 2 16 m1 l1 (fun d hd => by have := b1 d hd; omega)
  have l2 := pairs_length 16 m1 l1
  have b2 := pairs_le _ 16 m1 l1 b1
  have t2 := pairs_sum 16 m1 l1
  generalize pairs m1 = m2 at *
  have s3 := halves' 4 4 (by decide) 8 m2 l2 b2
  have l3 := pairs_length 8 m2 l2
  have b3 := pairs_le _ 8 m2 l2 b2
  have t3 := pairs_sum 8 m2 l2
  generalize pairs m2 = m3 at *
  have c1 : rep (2 * 1) (2 ^ 1 - 1) 32 = 6148914691236517205 := by decide
  have c2 : rep (2 * 2) (2 ^ 2 - 1) 16 = 3689348814741910323 := by decide
  have c3 : rep (2 * 4) (2 ^ 4 - 1) 8 = 1085102592571150095 := by decide
  rw [c1, hn] at s1
  rw [c2] at s2
  rw [c3] at s3
  simp only [Nat.reducePow, Nat.reduceMul] at s1 s2 s3
  rw [s1, s2, s3]
  rw [← t1, ← t2, ← t3]
  obtain ⟨a, b, c, d, e, f, g, i, rfl⟩ := len8 l3
  have k1 := b3 a (by simp)
  have k2 := b3 b (by simp)
  have k3 := b3 c (by simp)
  have k4 := b3 d (by simp)
  have k5 := b3 e (by simp)
  have k6 := b3 f (by simp)
  have k7 := b3 g (by simp)
  have k8 := b3 i (by simp)
  simp only [num, Nat.reducePow, List.sum_cons, List.sum_nil, Nat.mul_zero, Nat.add_zero]
  clear s1 s2 s3 c1 c2 c3 t1 t2 t3 hn b1 b2 b3 h1
  exact sum8 a b c d e f g i k1 k2 k3 k4 k5 k6 k7 k8 _ _ _ _ rfl rfl rfl rfl

/-- the place of the lowest bit that is set (64: none) -/
def ctz (v : Nat) : Nat := (bl 64 v).findIdx (· == 1)

theorem and_compl (n q : Nat) (h : q < 2 ^ n) : q &&& (2 ^ n - (q + 1)) = 0 := by
  apply Nat.eq_of_testBit_eq
  intro i
  rw [Nat.testBit_and, Nat.testBit_two_pow_sub_succ h]
  simp only [Nat.zero_testBit]
  by_cases hi : q.testBit i <;> simp [hi]

/-- a number that is not 0 is an odd one times a power of 2 -/
theorem odd_part : ∀ (n v : Nat), v < 2 ^ n → 0 < v → ∃ t q, v = 2 ^ t * (2 * q + 1) ∧ t < n
  | 0, v, h, h0 => by simp at h; omega
  | n + 1, v, h, h0 => by
    by_cases ho : v % 2 = 1
    · exact ⟨0, v / 2, by simp; omega, by omega⟩
    · obtain ⟨t, q, he, ht⟩ := odd_part n (v / 2) (by rw [Nat.pow_succ] at h; omega) (by omega)
      exact ⟨t + 1, q, by rw [Nat.pow_succ, Nat.mul_comm (2 ^ t) 2, Nat.mul_assoc, ← he]; omega, by omega⟩

theorem bits_of_odd (t q i : Nat) : (2 ^ t * (2 * q + 1)) / 2 ^ i % 2 = 1 → t ≤ i := by
  intro h
  rcases Nat.lt_or_ge i t with hi | hi
  · exfalso
    obtain ⟨d, rfl⟩ : ∃ d, t = i + (d + 1) := ⟨t - i - 1, by omega⟩
    rw [Nat.pow_add, Nat.mul_assoc, Nat.mul_div_cancel_left _ (Nat.pow_pos (by decide)), Nat.pow_succ, Nat.mul_assoc, Nat.mul_comm (2 ^ d), Nat.mul_assoc, Nat.mul_mod_right] at h
    omega
  · exact hi

theorem findIdx_of {l : List Nat} {t : Nat} (ht : t < l.length) (h1 : l.getD t 0 = 1) (h2 : ∀ i, i < t → l.getD i 0 ≠ 1) : l.findIdx (· == 1) = t := by
  rw [List.findIdx_eq ht]
  refine ⟨by simpa [List.getD, ht] using h1, fun j hj => ?_⟩
  have := h2 j hj
  simp [List.getD, show j < l.length by omega] at this
  simpa using this

theorem ctz_odd {t q : Nat} (ht : t < 64) : ctz (2 ^ t * (2 * q + 1)) = t := by
  refine findIdx_of (by rw [bl_length]; exact ht) ?_ (fun i hi => ?_)
  · rw [bl_getD _ _ _ ht, Nat.mul_div_cancel_left _ (Nat.pow_pos (by decide))]; omega
  · rw [bl_getD _ _ _ (by omega)]
    intro h
    have := bits_of_odd t q i h
    omega

theorem ctz_zero : ctz 0 = 64 := by decide

/-- the lowest set bit alone: v & -v -/
theorem low_bit {t q : Nat} (ht : t < 64) (hv : 2 ^ t * (2 * q + 1) < 18446744073709551616) : (2 ^ t * (2 * q + 1)) &&& (18446744073709551616 - 2 ^ t * (2 * q + 1)) = 2 ^ t := by
  have e64 : 18446744073709551616 = 2 ^ t * 2 ^ (64 - t) := by rw [← Nat.pow_add, show t + (64 - t) = 64 by omega]
  have hp := pow_pos' t
  have hq : 2 * q + 1 < 2 ^ (64 - t) := by rw [e64] at hv; exact Nat.lt_of_mul_lt_mul_left hv
  have h2 : 2 ^ (64 - t) = 2 * 2 ^ (63 - t) := by rw [show 64 - t = (63 - t) + 1 by omega, Nat.pow_succ]; omega
  have e1 : 18446744073709551616 - 2 ^ t * (2 * q + 1) = 0 + 2 ^ t * (1 + 2 ^ 1 * (2 ^ (63 - t) - (q + 1))) := by
    rw [e64, Nat.zero_add, ← Nat.mul_sub]; congr 1; omega
  have e2 : 2 ^ t * (2 * q + 1) = 0 + 2 ^ t * (1 + 2 ^ 1 * q) := by rw [Nat.zero_add]; congr 1; omega
  rw [e1, e2, and_pieces t _ _ _ _ hp hp, and_pieces 1 _ _ _ _ (by decide) (by decide), and_compl _ _ (by omega)]
  simp

def deBruijn : List Nat := [0, 1, 56, 2, 57, 49, 28, 3, 61, 58, 42, 50, 38, 29, 17, 4, 62, 47, 59, 36, 45, 43, 51, 22, 53, 39, 33, 30, 24, 18, 12, 5, 63, 55, 48, 27, 60, 41, 37, 16, 46, 35, 44, 21, 52, 32, 23, 11, 54, 26, 40, 15, 34, 20, 31, 10, 25, 14, 19, 9, 13, 8, 7, 6]
theorem deBruijn_ok : ∀ t, t < 64 → deBruijn.getD (2 ^ t * 285870213051353865 % 18446744073709551616 / 288230376151711744) 0 = t := by decide +kernel

/-- the steps of TrailingZeros64 -/
theorem zeros_math (v : Nat) (hv : v < 18446744073709551616) (h0 : 0 < v) : ∃ p m j : Nat,
    p = v &&& (18446744073709551616 - v) ∧ m = p * 285870213051353865 % 18446744073709551616 ∧ j = m / 288230376151711744 ∧ p < 18446744073709551616 ∧ m < 18446744073709551616 ∧ j < 64 ∧ deBruijn.getD j 0 = ctz v ∧ ctz v < 64 := by
  obtain ⟨t, q, rfl, ht⟩ := odd_part 64 v (by rw [p64]; exact hv) h0
  have hl := low_bit ht hv
  have hp : 2 ^ t ≤ 9223372036854775808 := pow_lt64 ht
  refine ⟨_, _, _, rfl, rfl, rfl, by rw [hl]; omega, Nat.mod_lt _ (by decide), ?_, ?_, by rw [ctz_odd ht]; exact ht⟩
  · have := Nat.mod_lt ((2 ^ t * (2 * q + 1) &&& (18446744073709551616 - 2 ^ t * (2 * q + 1))) * 285870213051353865) (show 0 < 18446744073709551616 by decide)
    omega
  · rw [hl, ctz_odd ht]; exact deBruijn_ok t ht
end Go.Proofs.Ytccjekgbhablpaa.M
namespace Go.Proofs.Ytccjekgbhablpaa
set_option maxRecDepth 100000
open Go.RowKit M

theorem and_int {a b : Nat} (ha : a < 18446744073709551616) (hb : b < 18446744073709551616) {x : Int} {y : Int} (hx : x = a) (hy : y = b) : bits BinOp.and IntKind.u64 x y = ((a &&& b : Nat) : Int) := by
  rw [hx, hy]; exact u64_and_nat _ _ ha hb

theorem and127 {a : Nat} (ha : a < 9223372036854775808) : bits BinOp.and IntKind.i64 (a : Int) 127 = ((a % 128 : Nat) : Int) := by
  show IntKind.i64.wrap ((BitVec.ofInt 64 (a : Int) &&& BitVec.ofInt 64 127).toNat : Int) = _
  rw [BitVec.toNat_and, ofInt_u64 a (by omega), show (BitVec.ofInt 64 127).toNat = 127 by decide, nat_mask7, IntKind.wrap_i64]
  omega

theorem sum_take_succ (l : List Nat) (k : Nat) (h : k < l.length) : (l.take (k + 1)).sum = (l.take k).sum + l.getD k 0 := by
  have e : l.getD k 0 = l[k] := by simp [List.getD, h]
  rw [List.take_succ_eq_append_getElem h, List.sum_append, e]; simp

theorem sum_take_le (l : List Nat) (h : ∀ b ∈ l, b ≤ 1) (k : Nat) : (l.take k).sum ≤ k := by
  induction k generalizing l with
  | zero => simp
  | succ k ih =>
    cases l with
    | nil => simp
    | cons b l =>
      have h1 := h b (by simp)
      have h2 := ih l (fun c hc => h c (by simp [hc]))
      simp; omega

theorem ctz_eq {v k : Nat} (hk : k < 64) (h1 : (bl 64 v).getD k 0 = 1) (h2 : ∀ i, i < k → (bl 64 v).getD i 0 ≠ 1) : ctz v = k := findIdx_of (by rw [bl_length]; exact hk) h1 h2
def NoOne (v k : Nat) : Prop := ∀ i, i < k → (bl 64 v).getD i 0 ≠ 1
theorem ctz_none {v : Nat} (h2 : ∀ i, i < 64 → (bl 64 v).getD i 0 ≠ 1) : ctz v = 64 := by
  unfold ctz
  rw [List.findIdx_eq_length_of_false]
  · exact bl_length 64 v
  · intro x hx
    obtain ⟨i, hi, rfl⟩ := List.getElem_of_mem hx
    rw [bl_length] at hi
    have := h2 i hi
    simp [List.getD, bl_length, hi] at this
    simpa using this

end Go.Proofs.Ytccjekgbhablpaa
namespace Go.Proofs.Ytccjekgbhablpaa
set_option maxRecDepth 100000
open Go.RowKit M

theorem info_byte : (Try.prog.info? 5).map (fun i => (i.zero, i.size, i.bytes)) = some (some (.int .u8 0), 1, 1) := by kernel_rfl

/-- the string of a list of bytes -/
def bs (l : List Nat) : ByteArray := strOfNums (l.map fun n => ((n : Nat) : Int))
/-- byte i of v -/
def byt (v i : Nat) : Nat := v / 2 ^ (8 * i) % 256
/-- the cells of a list of bytes -/
def byts (l : List Nat) : List Value := l.map fun n => .int .u8 ((n : Nat) : Int)
/-- the first j bytes of v, and zeros, k in all -/
def byl (k v j : Nat) : List Nat := (List.range k).map fun i => if i < j then byt v i else 0

theorem byl_length (k v j : Nat) : (byl k v j).length = k := by simp [byl]
theorem byts_length (l : List Nat) : (byts l).length = l.length := by simp [byts]
theorem byl_zero (k v : Nat) : byts (byl k v 0) = List.replicate k (.int .u8 0) := by
  apply List.ext_getElem
  · simp [byts, byl]
  · intro i h1 h2; simp [byts, byl]
theorem byl_set (k v j : Nat) : (byts (byl k v j)).set j (.int .u8 ((byt v j : Nat) : Int)) = byts (byl k v (j + 1)) := by
  apply List.ext_getElem
  · simp [byts, byl]
  · intro i h1 h2
    simp only [List.length_set, byts_length, byl_length] at h1
    rw [List.getElem_set]
    by_cases h : j = i
    · subst h; simp [byts, byl]
    · rw [if_neg h]
      simp only [byts, byl, List.getElem_map, List.getElem_range]
      by_cases h3 : i < j
      · rw [if_pos h3, if_pos (by omega)]
      · rw [if_neg h3, if_neg (by omega)]
theorem byl_full (k v : Nat) : byl k v k = (List.range k).map (byt v) := by
  apply List.map_congr_left
  intro i hi
  simp at hi
  simp [hi]

/-- the lowest k bytes of v -/
def bytesN (k v : Nat) : List Nat := (List.range k).map (byt v)

/-- limited to 0 to 8 -/
def cl8 (n : Int) : Nat := if n < 0 then 0 else if 8 < n then 8 else n.toNat
theorem cl8_cases (n : Int) : (n < 0 ∧ cl8 n = 0) ∨ (8 < n ∧ cl8 n = 8) ∨ (∃ k : Nat, n = k ∧ k ≤ 8 ∧ cl8 n = k) := by
  unfold cl8
  by_cases h : n < 0
  · exact .inl ⟨h, by simp [h]⟩
  · by_cases h2 : 8 < n
    · exact .inr (.inl ⟨h2, by simp [h, h2]⟩)
    · exact .inr (.inr ⟨n.toNat, by omega, by omega, by simp [h, h2]⟩)

theorem u8w (a : Nat) : IntKind.u8.wrap (a : Int) = ((a % 256 : Nat) : Int) := by rw [IntKind.wrap_u8']; omega

end Go.Proofs.Ytccjekgbhablpaa
namespace Go.Proofs.Ytccjekgbhablpaa
set_option maxRecDepth 100000
open Go.RowKit M

theorem bytesN_succ (k v : Nat) : bytesN (k + 1) v = bytesN k v ++ [byt v k] := by simp [bytesN, List.range_succ]
theorem byt_eq (v j : Nat) : byt v j = v / 256 ^ j % 256 := by
  unfold byt
  rw [Nat.pow_mul]
theorem div256 (v j : Nat) : v / 256 ^ j / 256 = v / 256 ^ (j + 1) := by rw [Nat.div_div_eq_div_mul, Nat.pow_succ]

theorem bs_append (l m : List Nat) : bs l ++ bs m = bs (l ++ m) := by
  apply ByteArray.ext
  simp [bs, strOfNums]
theorem bs_size (l : List Nat) : (bs l).size = l.length := by simp [bs, strOfNums_size]

theorem cl8_max {n : Int} {j : Nat} (hj : j ≤ 8) (hjn : (j : Int) ≤ max n 0) (h : ¬ ((j : Int) < n) ∨ ¬ j < 8) : cl8 n = j := by
  rcases cl8_cases n with ⟨h1, e⟩ | ⟨h1, e⟩ | ⟨k, h1, hk, e⟩ <;> omega

end Go.Proofs.Ytccjekgbhablpaa
namespace Go.Proofs.Ytccjekgbhablpaa
set_option maxRecDepth 100000
open Go.RowKit M

/-- byte i of a string -/
def bn (s : ByteArray) (i : Nat) : Nat := if h : i < s.size then (s[i]'h).toNat else 0
theorem bn_of {s : ByteArray} {i : Nat} (h : i < s.size) : (s[i]'h).toNat = bn s i := by simp [bn, h]
theorem bn_le (s : ByteArray) (i : Nat) : bn s i ≤ 255 := by
  unfold bn
  split
  · have := UInt8.toNat_lt (s[i]'(by assumption)); omega
  · omega
/-- the first m bytes of a string -/
def bnl (s : ByteArray) (m : Nat) : List Nat := (List.range m).map (bn s)
theorem bnl_length (s : ByteArray) (m : Nat) : (bnl s m).length = m := by simp [bnl]
theorem bnl_getD (s : ByteArray) (m i : Nat) (h : i < m) : (bnl s m).getD i 0 = bn s i := by simp [bnl, List.getD, h]
theorem bnl_succ (s : ByteArray) (m : Nat) : bnl s (m + 1) = bnl s m ++ [bn s m] := by simp [bnl, List.range_succ]
theorem bnl_lt (s : ByteArray) (m : Nat) : ∀ d ∈ bnl s m, d < 2 ^ 8 := by
  intro d hd
  simp [bnl] at hd
  obtain ⟨i, _, rfl⟩ := hd
  have := bn_le s i
  omega
theorem num_append (k : Nat) (l m : List Nat) : num k (l ++ m) = num k l + 2 ^ (k * l.length) * num k m := by
  induction l with
  | nil => simp [num]
  | cons d l ih =>
    simp only [List.cons_append, num, ih, List.length_cons]
    rw [Nat.mul_add, Nat.add_assoc, ← Nat.mul_assoc, ← Nat.pow_add]
    rw [show k + k * l.length = k * (l.length + 1) by rw [Nat.mul_add]; omega]
/-- the number of the first 8 bytes -/
def numN (s : ByteArray) : Nat := num 8 (bnl s (min s.size 8))

theorem num_drop_lt (s : ByteArray) (m k : Nat) (hm : m ≤ 8) (hk : 1 ≤ k) : num 8 ((bnl s m).drop k) < 72057594037927936 := by
  have h1 := num_lt 8 ((bnl s m).drop k) (fun b hb => bnl_lt s m b (List.mem_of_mem_drop hb))
  have h2 : 2 ^ (8 * ((bnl s m).drop k).length) ≤ 2 ^ 56 := Nat.pow_le_pow_right (by decide) (by simp [bnl_length]; omega)
  have h3 : (2 : Nat) ^ 56 = 72057594037927936 := by decide
  omega



theorem num_step (s : ByteArray) (k : Nat) (hk : k < 8) (hks : k < s.size) :
    bits BinOp.or IntKind.u64 ((num 8 (bnl s k) : Nat) : Int) (IntKind.u64.wrap (((s[k]'hks).toNat : Int) * 2 ^ (8 * k))) = ((num 8 (bnl s (k + 1)) : Nat) : Int) := by
  have h1 := num_lt 8 (bnl s k) (bnl_lt s k)
  rw [bnl_length] at h1
  have hp : 2 ^ (8 * k) * 2 ^ 8 ≤ 2 ^ 64 := by rw [← Nat.pow_add]; exact Nat.pow_le_pow_right (by decide) (by omega)
  have hb := bn_le s k
  have hpos := pow_pos' (8 * k)
  have h2 : bn s k * 2 ^ (8 * k) + 2 ^ (8 * k) ≤ 2 ^ (8 * k) * 2 ^ 8 := by
    have : (bn s k + 1) * 2 ^ (8 * k) ≤ 2 ^ 8 * 2 ^ (8 * k) := Nat.mul_le_mul_right _ (by omega)
    rw [Nat.add_mul, Nat.one_mul, Nat.mul_comm (2 ^ 8)] at this
    exact this
  rw [bn_of hks, bnl_succ, num_append, bnl_length, ipow, ← Int.natCast_mul, u64small (by rw [p64] at hp; omega), u64_or_nat _ _ (by rw [p64] at hp; omega) (by rw [p64] at hp; omega)]
  rw [Nat.or_comm, nat_join (8 * k) _ _ (Nat.mul_mod_left _ _) h1]
  simp only [num, Nat.mul_zero, Nat.add_zero]
  rw [Nat.mul_comm (bn s k)]; omega

end Go.Proofs.Ytccjekgbhablpaa
namespace Go.Proofs.Ytccjekgbhablpaa
set_option maxRecDepth 100000
open Go.RowKit M

/-- the number of the first i bytes of v in reverse -/
def revN (i v : Nat) : Nat := num 8 (bytesN i v).reverse

theorem revN_succ (i v : Nat) : revN (i + 1) v = byt v i + 256 * revN i v := by
  unfold revN
  rw [bytesN_succ, List.reverse_append]
  simp [num]
theorem byt_lt (v i : Nat) : byt v i < 256 := by unfold byt; omega
theorem bytesN_lt (k v : Nat) : ∀ d ∈ bytesN k v, d < 2 ^ 8 := by
  intro d hd; simp [bytesN] at hd; obtain ⟨i, _, rfl⟩ := hd; have := byt_lt v i; omega
theorem bytesN_length (k v : Nat) : (bytesN k v).length = k := by simp [bytesN]
theorem revN_lt (i v : Nat) (hi : i ≤ 7) : revN i v < 72057594037927936 := by
  have h1 := num_lt 8 (bytesN i v).reverse (fun b hb => bytesN_lt i v b (by simpa using hb))
  have h2 : 2 ^ (8 * (bytesN i v).reverse.length) ≤ 2 ^ 56 := Nat.pow_le_pow_right (by decide) (by simp [bytesN_length]; omega)
  have h3 : (2 : Nat) ^ 56 = 72057594037927936 := by decide
  unfold revN; omega

theorem field_byt {v i : Nat} (hi : i < 8) : fieldN v (8 * (i : Int)) 8 = byt v i := by
  unfold fieldN byt
  rw [if_pos (by omega)]
  have e : (8 * (i : Int)).toNat = 8 * i := by omega
  have e2 : cl 8 = 8 := by decide
  rw [e, e2]

theorem or_shift {r b : Nat} (hr : r < 72057594037927936) (hb : b < 256) : bits BinOp.or IntKind.u64 ((r : Int) * 256) (b : Int) = ((b + 256 * r : Nat) : Int) := by
  have e : ((r : Int) * 256) = ((r * 256 : Nat) : Int) := by omega
  rw [e, u64_or_nat _ _ (by omega) (by omega), nat_join 8 _ _ (by omega) (by omega)]
  omega

theorem num_bnl (l : List Nat) (h : l.length = 8) (hl : ∀ d ∈ l, d < 2 ^ 8) : numN (bs l) = num 8 l := by
  unfold numN
  rw [bs_size, h]
  congr 1
  apply List.ext_getElem
  · simp [bnl_length, h]
  · intro i h1 h2
    have h3 := hl l[i] (List.getElem_mem h2)
    simp only [bnl, List.getElem_map, List.getElem_range]
    have hs : i < (bs l).size := by rw [bs_size]; exact h2
    rw [← bn_of hs]
    simp [bs, strOfNums, ByteArray.getElem_eq_getElem_data]
    omega

theorem bn_bs (l : List Nat) (hl : ∀ d ∈ l, d < 2 ^ 8) (j : Nat) (hj : j < l.length) : bn (bs l) j = l.getD j 0 := by
  have h3 := hl l[j] (List.getElem_mem hj)
  have hs : j < (bs l).size := by rw [bs_size]; exact hj
  rw [← bn_of hs]
  simp [bs, strOfNums, ByteArray.getElem_eq_getElem_data, List.getD, hj]
  omega

end Go.Proofs.Ytccjekgbhablpaa
namespace Go.Proofs.Ytccjekgbhablpaa
set_option maxRecDepth 100000
open Go.RowKit M

/-- the list of 64 numbers -/
def fl (f : Nat → Nat) : List Nat := (List.range 64).map f
theorem fl_length (f : Nat → Nat) : (fl f).length = 64 := by simp [fl]
theorem fl_getD (f : Nat → Nat) (i : Nat) : (fl f).getD i 0 = if i < 64 then f i else 0 := by
  by_cases h : i < 64 <;> simp [fl, List.getD, h]
theorem fl_bl (v : Nat) : bl 64 v = fl fun i => v / 2 ^ i % 2 := rfl
theorem fl_congr {f g : Nat → Nat} (h : ∀ i, i < 64 → f i = g i) : fl f = fl g := by
  apply List.map_congr_left; intro i hi; exact h i (by simpa using hi)
theorem ints_set (l : List Nat) (j x : Nat) : (ints l).set j (.int .i64 (x : Int)) = ints (l.set j x) := by simp [ints, List.map_set]
theorem fl_set (f : Nat → Nat) (j x : Nat) : (fl f).set j x = fl fun i => if i = j then x else f i := by
  apply List.ext_getElem
  · simp [fl]
  · intro i h1 h2
    rw [List.getElem_set]
    by_cases h : j = i
    · subst h; simp [fl]
    · rw [if_neg h]; simp [fl, Ne.symm h]
theorem fl_le {f : Nat → Nat} (h : ∀ i, i < 64 → f i ≤ 1) : ∀ b ∈ fl f, b ≤ 1 := by
  intro b hb; simp [fl] at hb; obtain ⟨i, hi, rfl⟩ := hb; exact h i hi
/-- the number of 64 bits, given bit by bit -/
theorem val_fl {f : Nat → Nat} (h : ∀ i, i < 64 → f i ≤ 1) {m : Nat} (hm : m < 18446744073709551616) (e : ∀ i, i < 64 → decide (f i = 1) = m.testBit i) : val (fl f) = m := by
  refine val_eq_of (fl_le h) m (fun i => ?_)
  rw [fl_getD]
  by_cases hi : i < 64
  · rw [if_pos hi]; exact e i hi
  · rw [if_neg hi]
    have : m.testBit i = false := Nat.testBit_lt_two_pow (Nat.lt_of_lt_of_le (by rw [← p64] at hm; exact hm) (Nat.pow_le_pow_right (by decide) (by omega)))
    simp [this]

/-- a store into what is owned -/
theorem own_store {w : World} {B E g n cap : Nat} {l : List Nat} (h : w.ownsRow B E 1 (.slice (some ⟨g, 0, none⟩) n cap) n (ints l)) (j x : Nat) :
    (w.setCell ⟨g, j, none⟩ (.int .i64 (x : Int))).ownsRow B E 1 (.slice (some ⟨g, 0, none⟩) n cap) n (ints (l.set j x)) := by
  have := (h.stored j (.int .i64 (x : Int))).1
  rwa [ints_set] at this

/-- the cell of what is owned -/
theorem own_at {w : World} {B E g cap : Nat} {f : Nat → Nat} (h : w.ownsRow B E 1 (.slice (some ⟨g, 0, none⟩) 64 cap) 64 (ints (fl f))) (j : Nat) (hj : j < 64) : w.cell? ⟨g, j, none⟩ = some (.int .i64 ((f j : Nat) : Int)) := by
  have := own_cells h 0 j (by omega)
  rw [Nat.zero_add, List.drop_zero, fl_getD, if_pos hj] at this
  exact this

/-- Value of what is owned, whole -/
theorem value_own (f : Nat → Nat) (hf : ∀ i, i < 64 → f i ≤ 1) {w : World} {B g cap : Nat} (h : w.ownsRow B 3 1 (.slice (some ⟨g, 0, none⟩) 64 cap) 64 (ints (fl f))) :
    Calls Try.prog 51 #[.slice (some ⟨g, 0, none⟩) 64 cap] w fun e w' => e = .returned (.int .u64 ((val (fl f) : Nat) : Int)) ∧ w = w' :=
  value_any (fl f) (fl_le hf) (by rw [fl_length]; omega) g 0 64 cap (by rw [fl_length]) w (own_cells h 0)

theorem bit_le (v i : Nat) : v / 2 ^ i % 2 ≤ 1 := by omega
theorem bit_tb (v i : Nat) : decide (v / 2 ^ i % 2 = 1) = v.testBit i := div_mod_testBit v i

set_option maxHeartbeats 400000 in
theorem refWith_any (v : Nat) (n : Int) (hv : v < 18446744073709551616) (w : World) :
    Calls Try.prog 28 #[.int .u64 v, .int .i64 n] w fun e w' => e = .returned (.int .u64 (withN v n : Nat)) ∧ Below w.heap.size w w' := by
  unfold withN
  by_cases hn : 0 ≤ n ∧ n < 64
  · rw [if_pos hn]
    obtain ⟨k, rfl⟩ := Int.eq_ofNat_of_zero_le hn.1
    have hk : k < 64 := by omega
    have hfin : val (fl fun i => if i = k then 1 else v / 2 ^ i % 2) = v ||| 2 ^ (k : Int).toNat := by
      refine val_fl (fun i _ => by split <;> omega) ?_ (fun i hi => ?_)
      · rw [← p64]; exact Nat.or_lt_two_pow (by rw [p64]; exact hv) (Nat.pow_lt_pow_right (by decide) (by simpa using hk))
      · rw [Nat.testBit_or, Nat.testBit_two_pow, ← bit_tb]
        simp only [Int.toNat_natCast]
        by_cases h : i = k
        · subst h; simp
        · simp [h, Ne.symm h]
    have HF := Box.mk hfin; clear hfin
    have d1 : decide (0 ≤ (k : Int)) = true := by simp
    have d2 : decide ((k : Int) < 64) = true := by simp; omega
    clear hn
    go_enter Try.func28, Try.ntmps28
    go_wp2_with (first
      | (go_at_call 50; refine (bits_any v hv w).mono ?_; rintro e w1 ⟨g, cap, rfl, hcap, hg, hown, hb⟩; rw [fl_bl] at hown; have hcell := own_at hown k hk; have hfz := hown.frozenAt k; have hown2 := own_store hown k 1; rw [fl_set] at hown2; have HO := Box.mk hown2; clear hown hown2)
      | (go_at_call 51; refine (value_own _ (fun i _ => by split <;> omega) HO.out).mono ?_; rw [HF.out]; rintro e w2 ⟨rfl, rfl⟩))
    go_ret
    exact ⟨rfl, hb.setCell hg _⟩
  · rw [if_neg hn]
    have hfin : val (fl fun i => v / 2 ^ i % 2) = v := by rw [← fl_bl, val_bl]; exact Nat.mod_eq_of_lt (by rw [p64]; exact hv)
    have HF := Box.mk hfin; clear hfin
    have hc : (decide (0 ≤ n) = false) ∨ (decide (0 ≤ n) = true ∧ decide (n < 64) = false) := by
      by_cases h : 0 ≤ n
      · exact .inr ⟨by simpa using h, by simp; omega⟩
      · exact .inl (by simpa using h)
    clear hn
    rcases hc with d1 | ⟨d1, d2⟩
    all_goals
      go_enter Try.func28, Try.ntmps28
      go_wp2_with (first
        | (go_at_call 50; refine (bits_any v hv w).mono ?_; rintro e w1 ⟨g, cap, rfl, hcap, hg, hown, hb⟩; rw [fl_bl] at hown; have HO := Box.mk hown; clear hown)
        | (go_at_call 51; refine (value_own _ (fun i _ => bit_le v i) HO.out).mono ?_; rw [HF.out]; rintro e w2 ⟨rfl, rfl⟩))
      go_ret
      exact ⟨rfl, hb⟩

theorem fieldN_val {v a k : Nat} (_ha : a < 64) (_hk : k ≤ 64 - a) : val (((bl 64 v).drop a).take k) = v / 2 ^ a % 2 ^ k := by
  rw [drop_bl, take_bl _ _ _ (by omega), val_bl]

theorem field_mod {v a : Nat} (hv : v < 18446744073709551616) (ha : a < 64) (k : Nat) (hk : 64 - a ≤ k) : v / 2 ^ a % 2 ^ k = v / 2 ^ a % 2 ^ (64 - a) := by
  have h1 : v / 2 ^ a < 2 ^ (64 - a) := by
    rw [Nat.div_lt_iff_lt_mul (pow_pos' a), ← Nat.pow_add, show 64 - a + a = 64 by omega, p64]; exact hv
  have h2 : 2 ^ (64 - a) ≤ 2 ^ k := Nat.pow_le_pow_right (by decide) hk
  rw [Nat.mod_eq_of_lt h1, Nat.mod_eq_of_lt (by omega)]

end Go.Proofs.Ytccjekgbhablpaa
namespace Go.Proofs.Ytccjekgbhablpaa
set_option maxRecDepth 100000
open Go.RowKit M

/-- bits of v up to k, then (up to i) the number t, then bits of v again -/
def sxf (k v t i : Nat) : Nat → Nat := fun j => if k ≤ j ∧ j < i then t else v / 2 ^ j % 2
theorem sxf_start (k v t : Nat) : fl (sxf k v t k) = bl 64 v := by
  rw [fl_bl]; apply fl_congr; intro i _; unfold sxf; rw [if_neg (by omega)]
theorem sxf_step (k v t i : Nat) (hk : k ≤ i) : (fun j => if j = i then t else sxf k v t i j) = sxf k v t (i + 1) := by
  funext j; unfold sxf
  by_cases h : j = i
  · subst h; rw [if_pos rfl, if_pos (by omega)]
  · rw [if_neg h]
    by_cases h2 : k ≤ j ∧ j < i
    · rw [if_pos h2, if_pos (by omega)]
    · rw [if_neg h2, if_neg (by omega)]
theorem sxf_le {k v t i : Nat} (ht : t ≤ 1) (j : Nat) : sxf k v t i j ≤ 1 := by unfold sxf; split <;> omega

/-- up to i the others -/
def cpf (f : Nat → Nat) (i : Nat) : Nat → Nat := fun j => if j < i then 1 - f j else f j
theorem cpf_start (f : Nat → Nat) : cpf f 0 = f := by funext j; simp [cpf]
theorem cpf_step (f : Nat → Nat) (i : Nat) : (fun j => if j = i then 1 - f i else cpf f i j) = cpf f (i + 1) := by
  funext j; unfold cpf
  by_cases h : j = i
  · subst h; rw [if_pos rfl, if_pos (by omega)]
  · rw [if_neg h]
    by_cases h2 : j < i
    · rw [if_pos h2, if_pos (by omega)]
    · rw [if_neg h2, if_neg (by omega)]

theorem val_sx0 {k v : Nat} (hv : v < 18446744073709551616) (_hk : k ≤ 64) : val (fl (sxf k v 0 64)) = v % 2 ^ k := by
  refine val_fl (fun i _ => sxf_le (by omega) i) (Nat.lt_of_le_of_lt (Nat.mod_le _ _) hv) (fun i hi => ?_)
  rw [Nat.testBit_mod_two_pow, ← bit_tb]
  unfold sxf
  by_cases h : i < k
  · rw [if_neg (by omega)]; simp [h]
  · rw [if_pos (by omega)]; simp [h]
theorem val_sx1 {k v : Nat} (_hk : k ≤ 64) : val (fl (cpf (sxf k v 1 64) 64)) = 2 ^ k - (v % 2 ^ k + 1) := by
  have hp := pow_pos' k
  have h64 : 2 ^ k ≤ 2 ^ 64 := Nat.pow_le_pow_right (by decide) (by omega)
  rw [p64] at h64
  refine val_fl (fun i hi => ?_) (by omega) (fun i hi => ?_)
  · unfold cpf; rw [if_pos hi]; omega
  · rw [Nat.testBit_two_pow_sub_succ (Nat.mod_lt _ hp), Nat.testBit_mod_two_pow, ← bit_tb]
    unfold cpf sxf
    rw [if_pos hi]
    by_cases h : i < k
    · rw [if_neg (by omega)]
      rcases (by omega : v / 2 ^ i % 2 = 0 ∨ v / 2 ^ i % 2 = 1) with e | e <;> simp [h, e]
    · rw [if_pos (by omega)]; simp [h]

theorem sgn0 {k v : Nat} (_hk : 1 ≤ k) (h : v / 2 ^ (k - 1) % 2 = 0) : sgn k v = ((v % 2 ^ k : Nat) : Int) := by
  unfold sgn; rw [if_neg (by omega)]
theorem sgn1 {k v : Nat} (h : v / 2 ^ (k - 1) % 2 = 1) : sgn k v = -(((2 ^ k - (v % 2 ^ k + 1) : Nat)) : Int) - 1 := by
  unfold sgn; rw [if_pos h]
  have hp := pow_pos' k
  have := Nat.mod_lt v hp
  omega
theorem low_small {k v : Nat} (h1 : 1 ≤ k) (h2 : k ≤ 64) (h : v / 2 ^ (k - 1) % 2 = 0) : v % 2 ^ k ≤ 9223372036854775807 := by
  obtain ⟨j, rfl⟩ : ∃ j, k = j + 1 := ⟨k - 1, by omega⟩
  simp only [Nat.add_sub_cancel] at h
  have := mod_top v j
  have := Nat.mod_lt v (pow_pos' j)
  have := pow_lt64 (show j < 64 by omega)
  rw [h] at *
  omega
theorem high_small {k v : Nat} (h1 : 1 ≤ k) (h2 : k ≤ 64) (h : v / 2 ^ (k - 1) % 2 = 1) : 2 ^ k - (v % 2 ^ k + 1) ≤ 9223372036854775807 := by
  obtain ⟨j, rfl⟩ : ∃ j, k = j + 1 := ⟨k - 1, by omega⟩
  simp only [Nat.add_sub_cancel] at h
  have := mod_top v j
  have := Nat.mod_lt v (pow_pos' j)
  have := pow_lt64 (show j < 64 by omega)
  have : 2 ^ (j + 1) = 2 * 2 ^ j := by rw [Nat.pow_succ]; omega
  rw [h] at *
  omega

end Go.Proofs.Ytccjekgbhablpaa
namespace Go.Proofs.Ytccjekgbhablpaa
set_option maxRecDepth 100000
open Go.RowKit M

/-- v's bits, but from a on (so many as i) those of x -/
def lyf (v x a i : Nat) : Nat → Nat := fun j => if a ≤ j ∧ j < a + i then x / 2 ^ (j - a) % 2 else v / 2 ^ j % 2
theorem lyf_zero (v x a : Nat) : fl (lyf v x a 0) = bl 64 v := by
  rw [fl_bl]; apply fl_congr; intro i _; unfold lyf; rw [if_neg (by omega)]
theorem lyf_step (v x a i : Nat) : (fun j => if j = a + i then x / 2 ^ i % 2 else lyf v x a i j) = lyf v x a (i + 1) := by
  funext j; unfold lyf
  by_cases h : j = a + i
  · subst h; rw [if_pos rfl, if_pos (by omega), show a + i - a = i by omega]
  · rw [if_neg h]
    by_cases h2 : a ≤ j ∧ j < a + i
    · rw [if_pos h2, if_pos (by omega)]
    · rw [if_neg h2, if_neg (by omega)]
theorem lyf_le (v x a i j : Nat) : lyf v x a i j ≤ 1 := by unfold lyf; split <;> omega

/-- so many bits are laid -/
def lyc (a n : Int) : Nat := if 0 ≤ a ∧ a < 64 then min (cl n) (64 - a.toNat) else 0

theorem mask_tb {a n i : Nat} (hn : n ≤ 64) (hi : i < 64) : (18446744073709551615 % 2 ^ n * 2 ^ a % 18446744073709551616).testBit i = decide (a ≤ i ∧ i < a + n) := by
  rw [show (18446744073709551616 : Nat) = 2 ^ 64 by rw [p64], Nat.testBit_mod_two_pow, Nat.mul_comm, Nat.testBit_two_pow_mul, Nat.testBit_mod_two_pow, show (18446744073709551615 : Nat) = 2 ^ 64 - 1 by rw [p64], Nat.testBit_two_pow_sub_one]
  by_cases h1 : a ≤ i
  · by_cases h2 : i < a + n
    · simp [hi, h1, h2]; omega
    · simp [hi, h2]; omega
  · simp [h1]

theorem lay_val {v x : Nat} (hv : v < 18446744073709551616) (a n : Int) : val (fl (lyf v x a.toNat (lyc a n))) = layN v a n x := by
  unfold layN lyc
  by_cases ha : 0 ≤ a ∧ a < 64
  · rw [if_pos ha, if_pos ha]
    have hcl : cl n ≤ 64 := by rcases cl_cases n with ⟨_, e⟩ | ⟨_, e⟩ | ⟨k, _, hk, e⟩ <;> omega
    have hm : maskN a n < 18446744073709551616 := Nat.mod_lt _ (by decide)
    have ha' : a.toNat < 64 := by omega
    refine val_fl (fun i _ => lyf_le _ _ _ _ i) ?_ (fun i hi => ?_)
    · rw [← p64]; exact Nat.or_lt_two_pow (Nat.lt_of_le_of_lt Nat.and_le_left (by rw [p64]; exact hv)) (Nat.lt_of_le_of_lt Nat.and_le_right (by rw [p64]; exact hm))
    · have e1 : 18446744073709551615 - maskN a n = 2 ^ 64 - (maskN a n + 1) := by rw [p64]; omega
      rw [Nat.testBit_or, Nat.testBit_and, Nat.testBit_and, e1, Nat.testBit_two_pow_sub_succ (by rw [p64]; exact hm)]
      have e2 : (maskN a n).testBit i = decide (a.toNat ≤ i ∧ i < a.toNat + cl n) := mask_tb hcl hi
      rw [e2]
      unfold lyf
      by_cases h : a.toNat ≤ i ∧ i < a.toNat + cl n
      · rw [if_pos ⟨h.1, by omega⟩]
        have e3 : (x * 2 ^ a.toNat % 18446744073709551616).testBit i = x.testBit (i - a.toNat) := by
          rw [show (18446744073709551616 : Nat) = 2 ^ 64 by rw [p64], Nat.testBit_mod_two_pow, Nat.mul_comm, Nat.testBit_two_pow_mul]
          simp [hi, h.1]
        rw [e3, bit_tb]
        simp [h, hi]
      · rw [if_neg (by omega), bit_tb, decide_eq_false h]
        simp [hi]
  · rw [if_neg ha, if_neg ha]
    rw [show fl (lyf v x a.toNat 0) = bl 64 v from lyf_zero _ _ _, val_bl]
    exact Nat.mod_eq_of_lt (by rw [p64]; exact hv)

/-- what is owned stays owned where only other blocks have turned -/
theorem own_below {w w' : World} {B e z g cap n C : Nat} {xs : List Value} (h : w.ownsRow B e z (.slice (some ⟨g, 0, none⟩) n cap) n xs) (hb : Below C w w') (hg : g < C) : w'.ownsRow B e z (.slice (some ⟨g, 0, none⟩) n cap) n xs := by
  refine ⟨h.1, ?_⟩
  rcases h.2 with hn | ⟨g', cap', cur, hv, hB, hgg, rest⟩
  · exact .inl hn
  · simp only [Value.slice.injEq, Option.some.injEq, Addr.mk.injEq, and_true, true_and] at hv
    obtain ⟨rfl, rfl⟩ := hv
    exact .inr ⟨g, cap, cur, rfl, hB, by rw [hb.block g hg]; exact hgg, rest⟩

/-- where the loop of Lay ends -/
theorem lay_end {b i : Nat} {n : Int} (hb : b < 64) (hi : i ≤ lyc (b : Int) n) (h : ¬ i < lyc (b : Int) n) : (decide ((i : Int) < 64) = false) ∨ (decide ((i : Int) < 64) = true ∧ decide ((i : Int) < n) = false) ∨
    (decide ((i : Int) < 64) = true ∧ decide ((i : Int) < n) = true ∧ decide ((b : Int) < 64 - (i : Int)) = false) := by
  unfold lyc at hi h
  rw [if_pos (by omega)] at hi h
  by_cases h1 : (i : Int) < 64
  · by_cases h2 : (i : Int) < n
    · refine .inr (.inr ⟨by simpa using h1, by simpa using h2, ?_⟩)
      simp
      rcases cl_cases n with ⟨_, e⟩ | ⟨_, e⟩ | ⟨k, _, hk, e⟩ <;> omega
    · exact .inr (.inl ⟨by simpa using h1, by simpa using h2⟩)
  · exact .inl (by simpa using h1)
theorem lay_go {b i : Nat} {n : Int} (hb : b < 64) (h : i < lyc (b : Int) n) : i < 64 ∧ (i : Int) < n ∧ b + i < 64 := by
  unfold lyc at h
  rw [if_pos (by omega)] at h
  rcases cl_cases n with ⟨_, e⟩ | ⟨_, e⟩ | ⟨k, _, hk, e⟩ <;> omega

end Go.Proofs.Ytccjekgbhablpaa
namespace Go.Proofs.Ytccjekgbhablpaa
set_option maxRecDepth 100000
open Go.RowKit M

/-- a list of A numbers -/
def flA (A : Nat) (f : Nat → Nat) : List Nat := (List.range A).map f
theorem flA_length (A : Nat) (f : Nat → Nat) : (flA A f).length = A := by simp [flA]
theorem flA_set (A : Nat) (f : Nat → Nat) (j x : Nat) : (flA A f).set j x = flA A fun i => if i = j then x else f i := by
  apply List.ext_getElem
  · simp [flA]
  · intro i h1 h2
    rw [List.getElem_set]
    by_cases h : j = i
    · subst h; simp [flA]
    · rw [if_neg h]; simp [flA, Ne.symm h]
theorem flA_zero (A : Nat) : ints (flA A fun _ => 0) = List.replicate A (.int .i64 0) := by
  apply List.ext_getElem
  · simp [ints, flA]
  · intro i h1 h2; simp [ints, flA]

/-- turned by s of A: bit by bit, up to place i -/
def tnf (v A s i : Nat) : Nat → Nat := fun j => if (j + A - s) % A < i then v / 2 ^ ((j + A - s) % A) % 2 else 0

theorem flA_congr {A : Nat} {f g : Nat → Nat} (h : ∀ i, i < A → f i = g i) : flA A f = flA A g := by
  apply List.map_congr_left; intro i hi; exact h i (by simpa using hi)
theorem flA_le {A : Nat} {f : Nat → Nat} (h : ∀ i, i < A → f i ≤ 1) : ∀ b ∈ flA A f, b ≤ 1 := by
  intro b hb; simp [flA] at hb; obtain ⟨i, hi, rfl⟩ := hb; exact h i hi
theorem flA_getD (A : Nat) (f : Nat → Nat) (i : Nat) : (flA A f).getD i 0 = if i < A then f i else 0 := by
  by_cases h : i < A <;> simp [flA, List.getD, h]

theorem turn_index {A j : Nat} {n : Int} (hA : 1 ≤ A) : ∃ q q2 : Int, ∃ d : Nat, q = n.tmod A ∧ q2 = ((j : Int) + q).tmod A ∧ d < A ∧ (q2 + A).tmod A = d ∧ (q2 + A) % A = d ∧ d = (j + (n % A).toNat) % A ∧ -A < q ∧ q < A ∧ -A < q2 ∧ q2 < A := by
  have hA' : (0 : Int) < A := by omega
  have t1 := Int.lt_tmod_of_pos n hA'
  have t2 := Int.tmod_lt_of_pos n hA'
  have t3 := Int.lt_tmod_of_pos ((j : Int) + n.tmod A) hA'
  have t4 := Int.tmod_lt_of_pos ((j : Int) + n.tmod A) hA'
  have m1 := Int.emod_lt_of_pos n hA'
  have m2 := Int.emod_nonneg n (show (A : Int) ≠ 0 by omega)
  have hk : ∀ x : Int, ∃ k : Int, x.tmod A = x + A * k := fun x => ⟨-(x.tdiv A), by have h := Int.mul_tdiv_add_tmod x A; rw [Int.mul_neg]; omega⟩
  obtain ⟨k1, e1⟩ := hk n
  obtain ⟨k2, e2⟩ := hk ((j : Int) + n.tmod A)
  have hd : (((j + (n % A).toNat) % A : Nat) : Int) = (((j : Int) + n.tmod A).tmod A + A) % A := by
    rw [e2, e1, Int.natCast_emod, Int.natCast_add, Int.toNat_of_nonneg m2]
    have e3 : (j : Int) + (n + A * k1) + A * k2 + A = ((j : Int) + n) + A * (k1 + k2 + 1) := by simp only [Int.mul_add]; omega
    rw [e3, Int.add_mul_emod_self_left, Int.add_emod, Int.emod_emod, ← Int.add_emod]
  refine ⟨_, _, (j + (n % A).toNat) % A, rfl, rfl, Nat.mod_lt _ (by omega), ?_, hd.symm, rfl, t1, t2, t3, t4⟩
  rw [Int.tmod_eq_emod_of_nonneg (by omega)]
  exact hd.symm

/-- places go round -/
theorem turn_back {A j s : Nat} (hj : j < A) (hs : s < A) : ((j + s) % A + A - s) % A = j := by
  rcases Nat.lt_or_ge (j + s) A with h | h
  · rw [Nat.mod_eq_of_lt h, show j + s + A - s = j + A by omega, Nat.add_mod_right, Nat.mod_eq_of_lt hj]
  · have : (j + s) % A = j + s - A := by rw [Nat.mod_eq_sub_mod h, Nat.mod_eq_of_lt (by omega)]
    rw [this, show j + s - A + A - s = j by omega, Nat.mod_eq_of_lt hj]
theorem turn_inj {A i j s : Nat} (hi : i < A) (hs : s < A) (h : (i + A - s) % A = j) : i = (j + s) % A := by
  subst h
  rcases Nat.lt_or_ge i s with h | h
  · rw [Nat.mod_eq_of_lt (show i + A - s < A by omega), show i + A - s + s = i + A by omega, Nat.add_mod_right, Nat.mod_eq_of_lt hi]
  · have : (i + A - s) % A = i - s := by rw [show i + A - s = (i - s) + A by omega, Nat.add_mod_right, Nat.mod_eq_of_lt (by omega)]
    rw [this, show i - s + s = i by omega, Nat.mod_eq_of_lt hi]

theorem tnf_step {v A s j : Nat} (hj : j < A) (hs : s < A) : (flA A fun i => if i = (j + s) % A then v / 2 ^ j % 2 else tnf v A s j i) = flA A (tnf v A s (j + 1)) := by
  apply flA_congr
  intro i hi
  unfold tnf
  by_cases h : i = (j + s) % A
  · subst h; rw [if_pos rfl, turn_back hj hs, if_pos (by omega)]
  · rw [if_neg h]
    have hne : (i + A - s) % A ≠ j := fun e => h (turn_inj hi hs e)
    by_cases h2 : (i + A - s) % A < j
    · rw [if_pos h2, if_pos (by omega)]
    · rw [if_neg h2, if_neg (by omega)]

/-- v's lowest A bits turned left by s -/
def rotA (v A s : Nat) : Nat := (v % 2 ^ A) * 2 ^ s % 2 ^ A ||| (v % 2 ^ A) / 2 ^ (A - s)

theorem rotA_val {v A s : Nat} (hs : s < A) : val (flA A (tnf v A s A)) = rotA v A s := by
  refine val_eq_of (flA_le fun i _ => by unfold tnf; split <;> omega) _ (fun i => ?_)
  rw [flA_getD]
  unfold rotA
  have e2 : ((v % 2 ^ A) / 2 ^ (A - s)).testBit i = (decide (A - s + i < A) && v.testBit (A - s + i)) := by
    rw [Nat.testBit_div_two_pow, Nat.testBit_mod_two_pow, Nat.add_comm i]
  rw [Nat.testBit_or, Nat.testBit_mod_two_pow, Nat.mul_comm, Nat.testBit_two_pow_mul, Nat.testBit_mod_two_pow, e2]
  by_cases hi : i < A
  · rw [if_pos hi]
    have hm : (i + A - s) % A < A := Nat.mod_lt _ (by omega)
    unfold tnf
    rw [if_pos hm, bit_tb]
    rcases Nat.lt_or_ge i s with h | h
    · rw [Nat.mod_eq_of_lt (show i + A - s < A by omega), show A - s + i = i + A - s by omega]
      simp [hi, show ¬ s ≤ i by omega, show i + A - s < A by omega]
    · rw [show (i + A - s) % A = i - s by rw [show i + A - s = (i - s) + A by omega, Nat.add_mod_right, Nat.mod_eq_of_lt (by omega)]]
      simp [hi, h, show ¬ A - s + i < A by omega, show i - s < A by omega]
  · rw [if_neg hi]
    simp [hi, show ¬ A - s + i < A by omega]

end Go.Proofs.Ytccjekgbhablpaa
namespace Go.Proofs.Ytccjekgbhablpaa
set_option maxRecDepth 100000
open Go.RowKit M

/-- moved by n: bit by bit, up to place i -/
def mvf (v : Nat) (n : Int) (i : Nat) : Nat → Nat := fun j => if 0 ≤ (j : Int) - n ∧ (j : Int) - n < i then v / 2 ^ ((j : Int) - n).toNat % 2 else 0
theorem mvf_zero (v : Nat) (n : Int) : mvf v n 0 = fun _ => 0 := by funext j; unfold mvf; rw [if_neg (by omega)]
theorem mvf_le (v : Nat) (n : Int) (i j : Nat) : mvf v n i j ≤ 1 := by unfold mvf; split <;> omega
theorem mvf_step {v : Nat} {n : Int} {i d : Nat} (hd : (d : Int) = i + n) : (fun j => if j = d then v / 2 ^ i % 2 else mvf v n i j) = mvf v n (i + 1) := by
  funext j; unfold mvf
  by_cases h : j = d
  · subst h
    rw [if_pos rfl, if_pos (by omega), show ((j : Int) - n).toNat = i by omega]
  · rw [if_neg h]
    by_cases h2 : 0 ≤ (j : Int) - n ∧ (j : Int) - n < i
    · rw [if_pos h2, if_pos (by omega)]
    · rw [if_neg h2, if_neg (by omega)]
theorem mvf_skip {v : Nat} {n : Int} {i : Nat} (h : ¬ (0 ≤ (i : Int) + n ∧ (i : Int) + n < 64)) : fl (mvf v n i) = fl (mvf v n (i + 1)) := by
  apply fl_congr
  intro j hj
  unfold mvf
  by_cases h2 : 0 ≤ (j : Int) - n ∧ (j : Int) - n < i
  · rw [if_pos h2, if_pos (by omega)]
  · rw [if_neg h2, if_neg (by omega)]

/-- moved left by n (right, below 0) -/
def movN (v : Nat) (n : Int) : Nat := if 0 ≤ n then v * 2 ^ n.toNat % 18446744073709551616 else v / 2 ^ (-n).toNat

theorem movN_val {v : Nat} (hv : v < 18446744073709551616) (n : Int) : val (fl (mvf v n 64)) = movN v n := by
  have hv' : v < 2 ^ 64 := by rw [p64]; exact hv
  unfold movN
  by_cases hn : 0 ≤ n
  · rw [if_pos hn]
    refine val_fl (fun i _ => mvf_le _ _ _ i) (Nat.mod_lt _ (by decide)) (fun i hi => ?_)
    rw [show (18446744073709551616 : Nat) = 2 ^ 64 by rw [p64], Nat.testBit_mod_two_pow, Nat.mul_comm, Nat.testBit_two_pow_mul]
    unfold mvf
    by_cases h : n.toNat ≤ i
    · rw [if_pos (by omega), bit_tb, show ((i : Int) - n).toNat = i - n.toNat by omega]
      simp [hi, h]
    · rw [if_neg (by omega)]
      simp [h]
  · rw [if_neg hn]
    refine val_fl (fun i _ => mvf_le _ _ _ i) (Nat.lt_of_le_of_lt (Nat.div_le_self _ _) hv) (fun i hi => ?_)
    rw [Nat.testBit_div_two_pow]
    unfold mvf
    by_cases h : i + (-n).toNat < 64
    · rw [if_pos (by omega), bit_tb, show ((i : Int) - n).toNat = i + (-n).toNat by omega]
    · rw [if_neg (by omega)]
      have : v.testBit (i + (-n).toNat) = false := Nat.testBit_lt_two_pow (Nat.lt_of_lt_of_le hv' (Nat.pow_le_pow_right (by decide) (by omega)))
      simp [this]

set_option maxRecDepth 100000 in
set_option maxHeartbeats 1000000 in
theorem refMove_any (v : Nat) (n : Int) (hv : v < 18446744073709551616) (h1 : -64 < n) (h2 : n < 64) (w : World) :
    Calls Try.prog 79 #[.int .u64 v, .int .i64 n] w fun e w' => e = .returned (.int .u64 (movN v n : Nat)) ∧ Below w.heap.size w w' := by
  obtain ⟨i0, hi, hz0, hz1, hz2⟩ := info_parts info_int
  go_enter Try.func79, Try.ntmps79
  go_wp2_with fail
  refine (bits_any v hv w).mono ?_
  rintro e w1 ⟨g, cap, rfl, hcap, hg, hown, hb⟩
  have HO := Box.mk hown; clear hown
  have HB := Box.mk hb; clear hb
  go_wp2_with (at_make; refine wpList_make_full _ rfl _ _ 64 rfl w1.heap.size 3 i0 (.int .i64 0) 1 Try.underlying64 hi hz0 hz1 .i64 .i64 (64 : Int) (64 : Int) 64 rfl rfl rfl rfl (by rw [hz2]; omega) (by unfold maxLen; omega) (Nat.le_refl _) ?_; intro w2 hown2 hg2)
  have hown3 : w2.ownsRow w1.heap.size 3 1 (.slice (some ⟨w1.heap.size, 0, none⟩) 64 64) 64 (ints (fl (mvf v n 0))) := by
    have h := hown2
    rw [show (Value.int IntKind.i64 0).cells = #[.int .i64 0] from rfl, toList_madeCells_one, Nat.mul_one] at h
    rw [mvf_zero]; exact h
  have hb2 := (Below.refl w1.heap.size w1).grown hg2 (Nat.le_refl _) (fun k h => by cases h)
  have hgl : g < w1.heap.size := ((HO.out).lt g rfl).2
  have hbl : w2.ownsRow w.heap.size 3 1 (.slice (some ⟨g, 0, none⟩) 64 cap) 64 (ints (fl fun i => v / 2 ^ i % 2)) := by rw [← fl_bl]; exact own_below HO.out hb2 hgl
  have HO2 := Box.mk hbl; clear hbl hown2 hg2
  have hlt2 : w1.heap.size < w2.heap.size := (hown3.lt _ rfl).2
  have HLT := Box.mk hlt2; clear hlt2
  go_loopw [7, 13] (fun _ i wr => ∃ j : Nat, j ≤ 64 ∧ i = .int .i64 j ∧ wr.ownsRow w1.heap.size 3 1 (.slice (some ⟨w1.heap.size, 0, none⟩) 64 64) 64 (ints (fl (mvf v n j))) ∧ Below w1.heap.size w2 wr) (fun _ i _ => 64 - (intOf i).toNat)
  case atStart => exact ⟨0, by omega, rfl, hown3, Below.refl _ _⟩
  case round =>
    clear hown3
    obtain ⟨j, hj, rfl, hown, hbr⟩ := hrel
    by_cases hlt : j < 64
    · by_cases hin : 0 ≤ (j : Int) + n ∧ (j : Int) + n < 64
      · obtain ⟨d, hd⟩ := Int.eq_ofNat_of_zero_le hin.1
        have hd64 : d < 64 := by omega
        have hs := own_at (own_below HO2.out hbr hgl) j hlt
        have hc := own_at hown d hd64
        have hfz := hown.frozenAt d
        have hst := own_store hown d (v / 2 ^ j % 2)
        rw [fl_set, mvf_step hd.symm] at hst
        obtain ⟨y, hy⟩ : ∃ y, y = v / 2 ^ j % 2 := ⟨_, rfl⟩
        rw [← hy] at hst hs
        clear hy
        have HST := Box.mk hst; clear hst hown
        have d2 : decide ((d : Int) < 64) = true := by simp; omega
        clear hin
        go_wp2
        go_roundw
        case rel => exact ⟨j + 1, by omega, by go_num, HST.out, hbr.setCell (Nat.le_refl _) _⟩
        case measure => simp [intOf]; omega
      · rw [mvf_skip hin] at hown
        have HOW := Box.mk hown; clear hown
        have hc : (decide (0 ≤ (j : Int) + n) = false) ∨ (decide (0 ≤ (j : Int) + n) = true ∧ decide ((j : Int) + n < 64) = false) := by
          by_cases h : 0 ≤ (j : Int) + n
          · exact .inr ⟨by simpa using h, by simp; omega⟩
          · exact .inl (by simpa using h)
        clear hin
        rcases hc with d1 | ⟨d1, d2⟩
        all_goals
          go_wp2
          go_roundw
          case rel => exact ⟨j + 1, by omega, by go_num, HOW.out, hbr⟩
          case measure => simp [intOf]; omega
    · obtain rfl : j = 64 := by omega
      have hval := movN_val hv n
      have HV := Box.mk hval
      have HOW := Box.mk hown
      clear hval hown
      go_wp2_with (go_at_call 51; refine (value_own _ (fun i _ => mvf_le _ _ _ i) HOW.out).mono ?_; rw [HV.out]; rintro e w3 ⟨rfl, rfl⟩)
      go_ret
      exact ⟨rfl, (HB.out.trans (hb2.mono HB.out.size)).trans (hbr.mono HB.out.size)⟩
end Go.Proofs.Ytccjekgbhablpaa
