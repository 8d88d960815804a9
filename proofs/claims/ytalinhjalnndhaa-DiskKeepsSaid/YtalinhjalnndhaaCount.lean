/- Plain arithmetic: how many bits are set (the method of halves), and the lowest one (de Bruijn). -/
import Derived.Test.YtalinhjalnndhaaArith
namespace Go.Proofs.Ytalinhjalnndhaa.M
set_option maxRecDepth 100000
open Go.RowKit Go Go.PlainAid

/-- bits and numbers in two pieces -/
theorem and_pieces (k a b c d : Nat) (ha : a < 2 ^ k) (hc : c < 2 ^ k) : (a + 2 ^ k * b) &&& (c + 2 ^ k * d) = (a &&& c) + 2 ^ k * (b &&& d) := by
  apply Nat.eq_of_testBit_eq
  intro i
  have hac : a &&& c < 2 ^ k := Nat.lt_of_le_of_lt Nat.and_le_left ha
  rw [Nat.testBit_and, Nat.add_comm a, Nat.add_comm c, Nat.add_comm (a &&& c), Nat.testBit_two_pow_mul_add _ ha, Nat.testBit_two_pow_mul_add _ hc, Nat.testBit_two_pow_mul_add _ hac]
  by_cases h : i < k <;> simp [h]

/-- the number of a list of digits of k bits each, the lowest first -/
def num (k : Nat) : List Nat → Nat
  | [] => 0
  | d :: l => d + 2 ^ k * num k l
def pairs : List Nat → List Nat
  | a :: b :: l => (a + b) :: pairs l
  | _ => []
/-- n digits of k bits, each m -/
def rep (k m : Nat) : Nat → Nat
  | 0 => 0
  | n + 1 => m + 2 ^ k * rep k m n

theorem num_lt (k : Nat) (l : List Nat) (h : ∀ d ∈ l, d < 2 ^ k) : num k l < 2 ^ (k * l.length) := by
  induction l with
  | nil => simp [num]
  | cons d l ih =>
    have h1 := h d (by simp)
    have h2 := ih (fun c hc => h c (by simp [hc]))
    have e : 2 ^ (k * (d :: l).length) = 2 ^ k * 2 ^ (k * l.length) := by rw [← Nat.pow_add, List.length_cons, Nat.mul_add, Nat.mul_one, Nat.add_comm]
    rw [e]
    simp only [num]
    have h3 : 2 ^ k * (num k l + 1) ≤ 2 ^ k * 2 ^ (k * l.length) := Nat.mul_le_mul_left _ h2
    rw [Nat.mul_add, Nat.mul_one] at h3
    omega

theorem rep_lt (k m : Nat) (hm : m < 2 ^ k) (n : Nat) : rep k m n < 2 ^ (k * n) := by
  induction n with
  | zero => simp [rep]
  | succ n ih =>
    have e : 2 ^ (k * (n + 1)) = 2 ^ k * 2 ^ (k * n) := by rw [← Nat.pow_add, Nat.mul_add, Nat.mul_one, Nat.add_comm]
    rw [e]
    simp only [rep]
    have h3 : 2 ^ k * (rep k m n + 1) ≤ 2 ^ k * 2 ^ (k * n) := Nat.mul_le_mul_left _ ih
    rw [Nat.mul_add, Nat.mul_one] at h3
    omega

theorem low_mask (k a b : Nat) (ha : a < 2 ^ k) : (a + 2 ^ k * b) &&& (2 ^ k - 1) = a := by
  rw [Nat.and_two_pow_sub_one_eq_mod, Nat.add_mul_mod_self_left, Nat.mod_eq_of_lt ha]

theorem pow2k (k : Nat) : 2 ^ (2 * k) = 2 ^ k * 2 ^ k := by rw [← Nat.pow_add]; congr 1; omega

theorem pow_pos' (k : Nat) : 0 < 2 ^ k := Nat.pow_pos (by decide)

/-- a step of the method of halves, both halves masked -/
theorem halves (k : Nat) : ∀ (n : Nat) (l : List Nat), l.length = 2 * n → (∀ d ∈ l, d < 2 ^ k) →
    ((num k l / 2 ^ k) &&& rep (2 * k) (2 ^ k - 1) n) + (num k l &&& rep (2 * k) (2 ^ k - 1) n) = num (2 * k) (pairs l)
  | 0, l, hl, _ => by
    have : l = [] := List.eq_nil_of_length_eq_zero (by omega)
    subst this; simp [rep, num, pairs]
  | n + 1, l, hl, h => by
    match l, hl with
    | a :: b :: l, hl =>
      have ih := halves k n l (by simp at hl; omega) (fun d hd => h d (by simp [hd]))
      have ha := h a (by simp)
      have hb := h b (by simp)
      have hp := pow_pos' k
      simp only [num, rep, pairs]
      have e1 : (a + 2 ^ k * (b + 2 ^ k * num k l)) / 2 ^ k = (b + 2 ^ k * (num k l % 2 ^ k)) + 2 ^ (2 * k) * (num k l / 2 ^ k) := by
        rw [Nat.add_mul_div_left _ _ hp, Nat.div_eq_of_lt ha, Nat.zero_add, pow2k, Nat.mul_assoc, Nat.add_assoc, ← Nat.mul_add, Nat.mod_add_div]
      have e2 : a + 2 ^ k * (b + 2 ^ k * num k l) = (a + 2 ^ k * b) + 2 ^ (2 * k) * num k l := by
        rw [pow2k, Nat.mul_add, Nat.mul_assoc, Nat.add_assoc]
      have hbd : ∀ x y, x < 2 ^ k → y < 2 ^ k → x + 2 ^ k * y < 2 ^ (2 * k) := by
        intro x y hx hy
        rw [pow2k]
        have : 2 ^ k * (y + 1) ≤ 2 ^ k * 2 ^ k := Nat.mul_le_mul_left _ hy
        rw [Nat.mul_add, Nat.mul_one] at this
        omega
      have hm : 2 ^ k - 1 < 2 ^ (2 * k) := by rw [pow2k]; have := Nat.le_mul_of_pos_right (2 ^ k) hp; omega
      rw [e1, e2, and_pieces (2 * k) _ _ _ _ (hbd b _ hb (Nat.mod_lt _ hp)) hm, and_pieces (2 * k) _ _ _ _ (hbd a b ha hb) hm, low_mask k b _ hb, low_mask k a _ ha, ← ih, Nat.mul_add]
      omega

/-- a step of the method of halves, the sum masked: where no sum of two neighbours is too great -/
theorem halves' (k B : Nat) (hB : 2 * B < 2 ^ k) : ∀ (n : Nat) (l : List Nat), l.length = 2 * n → (∀ d ∈ l, d ≤ B) →
    ((num k l / 2 ^ k + num k l) &&& rep (2 * k) (2 ^ k - 1) n) = num (2 * k) (pairs l)
  | 0, l, hl, _ => by
    have : l = [] := List.eq_nil_of_length_eq_zero (by omega)
    subst this; simp [rep, num, pairs]
  | n + 1, l, hl, h => by
    match l, hl with
    | a :: b :: l, hl =>
      have ih := halves' k B hB n l (by simp at hl; omega) (fun d hd => h d (by simp [hd]))
      have ha := h a (by simp)
      have hb := h b (by simp)
      have hp := pow_pos' k
      have hr : num k l % 2 ^ k ≤ B := by
        cases l with
        | nil => simp [num]
        | cons c l => simp only [num]; rw [Nat.add_mul_mod_self_left]; exact Nat.le_trans (Nat.mod_le _ _) (h c (by simp))
      simp only [num, rep, pairs]
      have e1 : (a + 2 ^ k * (b + 2 ^ k * num k l)) / 2 ^ k + (a + 2 ^ k * (b + 2 ^ k * num k l)) = ((a + b) + 2 ^ k * (b + num k l % 2 ^ k)) + 2 ^ (2 * k) * (num k l / 2 ^ k + num k l) := by
        rw [Nat.add_mul_div_left _ _ hp, Nat.div_eq_of_lt (by omega), Nat.zero_add, pow2k]
        have hs := Nat.mod_add_div (num k l) (2 ^ k)
        generalize num k l % 2 ^ k = r at *
        generalize num k l / 2 ^ k = q at *
        rw [← hs]
        generalize 2 ^ k = K at *
        simp only [Nat.mul_add, ← Nat.mul_assoc]
        omega
      have hbd : (a + b) + 2 ^ k * (b + num k l % 2 ^ k) < 2 ^ (2 * k) := by
        rw [pow2k]
        have : 2 ^ k * (b + num k l % 2 ^ k + 1) ≤ 2 ^ k * 2 ^ k := Nat.mul_le_mul_left _ (by omega)
        rw [Nat.mul_add, Nat.mul_one] at this
        omega
      have hm : 2 ^ k - 1 < 2 ^ (2 * k) := by rw [pow2k]; have := Nat.le_mul_of_pos_right (2 ^ k) hp; omega
      rw [e1, and_pieces (2 * k) _ _ _ _ hbd hm, low_mask k _ _ (by omega), ih]

theorem pairs_length : ∀ (n : Nat) (l : List Nat), l.length = 2 * n → (pairs l).length = n
  | 0, l, hl => by
    have : l = [] := List.eq_nil_of_length_eq_zero (by omega)
    subst this; rfl
  | n + 1, l, hl => by
    match l, hl with
    | a :: b :: l, hl => simp [pairs, pairs_length n l (by simp at hl; omega)]
theorem pairs_sum : ∀ (n : Nat) (l : List Nat), l.length = 2 * n → (pairs l).sum = l.sum
  | 0, l, hl => by
    have : l = [] := List.eq_nil_of_length_eq_zero (by omega)
    subst this; rfl
  | n + 1, l, hl => by
    match l, hl with
    | a :: b :: l, hl => simp [pairs, pairs_sum n l (by simp at hl; omega)]; omega
theorem pairs_le (B : Nat) : ∀ (n : Nat) (l : List Nat), l.length = 2 * n → (∀ d ∈ l, d ≤ B) → ∀ d ∈ pairs l, d ≤ 2 * B
  | 0, l, hl, _ => by
    have : l = [] := List.eq_nil_of_length_eq_zero (by omega)
    subst this; simp [pairs]
  | n + 1, l, hl, h => by
    match l, hl with
    | a :: b :: l, hl =>
      intro d hd
      have h1 := h a (by simp)
      have h2 := h b (by simp)
      simp only [pairs, List.mem_cons] at hd
      rcases hd with rfl | hd
      · omega
      · exact pairs_le B n l (by simp at hl; omega) (fun d hd => h d (by simp [hd])) d hd

theorem num_val (l : List Nat) : num 1 l = val l := by
  induction l with
  | nil => rfl
  | cons b l ih => simp [num, val, ih]

theorem len8 {l : List Nat} (h : l.length = 8) : ∃ a b c d e f g i, l = [a, b, c, d, e, f, g, i] := by
  match l, h with
  | [a, b, c, d, e, f, g, i], _ => exact ⟨a, b, c, d, e, f, g, i, rfl⟩

theorem div_sep (M L H X : Nat) (hL : L < M) (hX : X = L + M * H) : X / M = H := by
  rw [hX, Nat.add_mul_div_left _ _ (by omega), Nat.div_eq_of_lt hL, Nat.zero_add]

theorem sum8 (a b c d e f g i : Nat) (k1 : a ≤ 8) (k2 : b ≤ 8) (k3 : c ≤ 8) (k4 : d ≤ 8) (k5 : e ≤ 8) (k6 : f ≤ 8) (k7 : g ≤ 8) (k8 : i ≤ 8)
    (x q1 q2 q3 : Nat) (hx : x = a + 256 * (b + 256 * (c + 256 * (d + 256 * (e + 256 * (f + 256 * (g + 256 * i)))))))
    (h1 : q1 = x / 256) (h2 : q2 = (x + q1) / 65536) (h3 : q3 = (x + q1 + q2) / 4294967296) :
    (x + q1 + q2 + q3) % 128 = a + (b + (c + (d + (e + (f + (g + i)))))) ∧ a + (b + (c + (d + (e + (f + (g + i)))))) ≤ 64 := by
  have d1 := div_sep 256 a (b + 256 * (c + 256 * (d + 256 * (e + 256 * (f + 256 * (g + 256 * i)))))) x (by omega) hx
  rw [← h1] at d1
  clear h1
  have d2 := div_sep 65536 ((a + b) + 256 * (b + c)) ((c + d) + 256 * ((d + e) + 256 * ((e + f) + 256 * ((f + g) + 256 * ((g + i) + 256 * i))))) (x + q1) (by omega) (by omega)
  rw [← h2] at d2
  clear h2
  have d3 := div_sep 4294967296 ((a + b + c + d) + 256 * ((b + c + d + e) + 256 * ((c + d + e + f) + 256 * (d + e + f + g)))) ((e + f + g + i) + 256 * ((f + g + i) + 256 * ((g + i) + 256 * i))) (x + q1 + q2) (by omega) (by omega)
  rw [← h3] at d3
  clear h3
  refine ⟨?_, by omega⟩
  have e4 : x + q1 + q2 + q3 = (a + (b + (c + (d + (e + (f + (g + i))))))) + 128 * (2 * ((b + c + d + e + f + g + i) + 256 * ((c + d + e + f + g + i) + 256 * ((d + e + f + g + i) + 256 * ((e + f + g + i) + 256 * ((f + g + i) + 256 * ((g + i) + 256 * i))))))) := by omega
  rw [e4, Nat.add_mul_mod_self_left, Nat.mod_eq_of_lt (by omega)]

/-- the steps of OnesCount64 -/
theorem ones_math (v : Nat) (hv : v < 18446744073709551616) : ∃ p1 q1 p2 q2 x3 : Nat,
    p1 = v / 2 &&& 6148914691236517205 ∧ q1 = v &&& 6148914691236517205 ∧ p2 = (p1 + q1) / 4 &&& 3689348814741910323 ∧ q2 = (p1 + q1) &&& 3689348814741910323 ∧
    x3 = ((p2 + q2) / 16 + (p2 + q2)) &&& 1085102592571150095 ∧ p1 ≤ 6148914691236517205 ∧ q1 ≤ 6148914691236517205 ∧ p2 ≤ 3689348814741910323 ∧ q2 ≤ 3689348814741910323 ∧
    x3 ≤ 1085102592571150095 ∧ (x3 + x3 / 256 + (x3 + x3 / 256) / 65536 + (x3 + x3 / 256 + (x3 + x3 / 256) / 65536) / 4294967296) % 128 = (bl 64 v).sum ∧ (bl 64 v).sum ≤ 64 := by
  refine ⟨_, _, _, _, _, rfl, rfl, rfl, rfl, rfl, Nat.and_le_right, Nat.and_le_right, Nat.and_le_right, Nat.and_le_right, Nat.and_le_right, ?_⟩
  have hl := bl_length 64 v
  have h1 : ∀ d ∈ bl 64 v, d ≤ 1 := bl_le 64 v
  have hn : num 1 (bl 64 v) = v := by rw [num_val, val_bl]; exact Nat.mod_eq_of_lt (by rw [p64]; exact hv)
  generalize bl 64 v = l0 at *
  have s1 := halves 1 32 l0 hl (fun d hd => by have := h1 d hd; omega)
  have l1 := pairs_length 32 l0 hl
  have b1 := pairs_le 1 32 l0 hl h1
  have t1 := pairs_sum 32 l0 hl
  generalize pairs l0 = m1 at *
  have s2 := halves 2 16 m1 l1 (fun d hd => by have := b1 d hd; omega)
  have l2 := pairs_length 16 m1 l1
  have b2 := pairs_le _ 16 m1 l1 b1
  have t2 := pairs_sum 16 m1 l1
  generalize pairs m1 = m2 at *
  have s3 := halves' 4 4 (by decide) 8 m2 l2 b2
  have l3 := pairs_length 8 m2 l2
  have b3 := pairs_le _ 8 m2 l2 b2
  have t3 := pairs_sum 8 m2 l2
  generalize pairs m2 = m3 at *
  have c1 : rep (2 * 1) (2 ^ 1 - 1) 32 = 6148914691236517205 := by decide
  have c2 : rep (2 * 2) (2 ^ 2 - 1) 16 = 3689348814741910323 := by decide
  have c3 : rep (2 * 4) (2 ^ 4 - 1) 8 = 1085102592571150095 := by decide
  rw [c1, hn] at s1
  rw [c2] at s2
  rw [c3] at s3
  simp only [Nat.reducePow, Nat.reduceMul] at s1 s2 s3
  rw [s1, s2, s3]
  rw [← t1, ← t2, ← t3]
  obtain ⟨a, b, c, d, e, f, g, i, rfl⟩ := len8 l3
  have k1 := b3 a (by simp)
  have k2 := b3 b (by simp)
  have k3 := b3 c (by simp)
  have k4 := b3 d (by simp)
  have k5 := b3 e (by simp)
  have k6 := b3 f (by simp)
  have k7 := b3 g (by simp)
  have k8 := b3 i (by simp)
  simp only [num, Nat.reducePow, List.sum_cons, List.sum_nil, Nat.mul_zero, Nat.add_zero]
  clear s1 s2 s3 c1 c2 c3 t1 t2 t3 hn b1 b2 b3 h1
  exact sum8 a b c d e f g i k1 k2 k3 k4 k5 k6 k7 k8 _ _ _ _ rfl rfl rfl rfl

/-- the place of the lowest bit that is set (64: none) -/
def ctz (v : Nat) : Nat := (bl 64 v).findIdx (· == 1)

theorem and_compl (n q : Nat) (h : q < 2 ^ n) : q &&& (2 ^ n - (q + 1)) = 0 := by
  apply Nat.eq_of_testBit_eq
  intro i
  rw [Nat.testBit_and, Nat.testBit_two_pow_sub_succ h]
  simp only [Nat.zero_testBit]
  by_cases hi : q.testBit i <;> simp [hi]

/-- a number that is not 0 is an odd one times a power of 2 -/
theorem odd_part : ∀ (n v : Nat), v < 2 ^ n → 0 < v → ∃ t q, v = 2 ^ t * (2 * q + 1) ∧ t < n
  | 0, v, h, h0 => by simp at h; omega
  | n + 1, v, h, h0 => by
    by_cases ho : v % 2 = 1
    · exact ⟨0, v / 2, by simp; omega, by omega⟩
    · obtain ⟨t, q, he, ht⟩ := odd_part n (v / 2) (by rw [Nat.pow_succ] at h; omega) (by omega)
      exact ⟨t + 1, q, by rw [Nat.pow_succ, Nat.mul_comm (2 ^ t) 2, Nat.mul_assoc, ← he]; omega, by omega⟩

theorem bits_of_odd (t q i : Nat) : (2 ^ t * (2 * q + 1)) / 2 ^ i % 2 = 1 → t ≤ i := by
  intro h
  rcases Nat.lt_or_ge i t with hi | hi
  · exfalso
    obtain ⟨d, rfl⟩ : ∃ d, t = i + (d + 1) := ⟨t - i - 1, by omega⟩
    rw [Nat.pow_add, Nat.mul_assoc, Nat.mul_div_cancel_left _ (Nat.pow_pos (by decide)), Nat.pow_succ, Nat.mul_assoc, Nat.mul_comm (2 ^ d), Nat.mul_assoc, Nat.mul_mod_right] at h
    omega
  · exact hi

theorem findIdx_of {l : List Nat} {t : Nat} (ht : t < l.length) (h1 : l.getD t 0 = 1) (h2 : ∀ i, i < t → l.getD i 0 ≠ 1) : l.findIdx (· == 1) = t := by
  rw [List.findIdx_eq ht]
  refine ⟨by simpa [List.getD, ht] using h1, fun j hj => ?_⟩
  have := h2 j hj
  simp [List.getD, show j < l.length by omega] at this
  simpa using this

theorem ctz_odd {t q : Nat} (ht : t < 64) : ctz (2 ^ t * (2 * q + 1)) = t := by
  refine findIdx_of (by rw [bl_length]; exact ht) ?_ (fun i hi => ?_)
  · rw [bl_getD _ _ _ ht, Nat.mul_div_cancel_left _ (Nat.pow_pos (by decide))]; omega
  · rw [bl_getD _ _ _ (by omega)]
    intro h
    have := bits_of_odd t q i h
    omega

theorem ctz_zero : ctz 0 = 64 := by decide

/-- the lowest set bit alone: v & -v -/
theorem low_bit {t q : Nat} (ht : t < 64) (hv : 2 ^ t * (2 * q + 1) < 18446744073709551616) : (2 ^ t * (2 * q + 1)) &&& (18446744073709551616 - 2 ^ t * (2 * q + 1)) = 2 ^ t := by
  have e64 : 18446744073709551616 = 2 ^ t * 2 ^ (64 - t) := by rw [← Nat.pow_add, show t + (64 - t) = 64 by omega]
  have hp := pow_pos' t
  have hq : 2 * q + 1 < 2 ^ (64 - t) := by rw [e64] at hv; exact Nat.lt_of_mul_lt_mul_left hv
  have h2 : 2 ^ (64 - t) = 2 * 2 ^ (63 - t) := by rw [show 64 - t = (63 - t) + 1 by omega, Nat.pow_succ]; omega
  have e1 : 18446744073709551616 - 2 ^ t * (2 * q + 1) = 0 + 2 ^ t * (1 + 2 ^ 1 * (2 ^ (63 - t) - (q + 1))) := by
    rw [e64, Nat.zero_add, ← Nat.mul_sub]; congr 1; omega
  have e2 : 2 ^ t * (2 * q + 1) = 0 + 2 ^ t * (1 + 2 ^ 1 * q) := by rw [Nat.zero_add]; congr 1; omega
  rw [e1, e2, and_pieces t _ _ _ _ hp hp, and_pieces 1 _ _ _ _ (by decide) (by decide), and_compl _ _ (by omega)]
  simp

def deBruijn : List Nat := [0, 1, 56, 2, 57, 49, 28, 3, 61, 58, 42, 50, 38, 29, 17, 4, 62, 47, 59, 36, 45, 43, 51, 22, 53, 39, 33, 30, 24, 18, 12, 5, 63, 55, 48, 27, 60, 41, 37, 16, 46, 35, 44, 21, 52, 32, 23, 11, 54, 26, 40, 15, 34, 20, 31, 10, 25, 14, 19, 9, 13, 8, 7, 6]
theorem deBruijn_ok : ∀ t, t < 64 → deBruijn.getD (2 ^ t * 285870213051353865 % 18446744073709551616 / 288230376151711744) 0 = t := by decide +kernel

/-- the steps of TrailingZeros64 -/
theorem zeros_math (v : Nat) (hv : v < 18446744073709551616) (h0 : 0 < v) : ∃ p m j : Nat,
    p = v &&& (18446744073709551616 - v) ∧ m = p * 285870213051353865 % 18446744073709551616 ∧ j = m / 288230376151711744 ∧ p < 18446744073709551616 ∧ m < 18446744073709551616 ∧ j < 64 ∧ deBruijn.getD j 0 = ctz v ∧ ctz v < 64 := by
  obtain ⟨t, q, rfl, ht⟩ := odd_part 64 v (by rw [p64]; exact hv) h0
  have hl := low_bit ht hv
  have hp : 2 ^ t ≤ 9223372036854775808 := pow_lt64 ht
  refine ⟨_, _, _, rfl, rfl, rfl, by rw [hl]; omega, Nat.mod_lt _ (by decide), ?_, ?_, by rw [ctz_odd ht]; exact ht⟩
  · have := Nat.mod_lt ((2 ^ t * (2 * q + 1) &&& (18446744073709551616 - 2 ^ t * (2 * q + 1))) * 285870213051353865) (show 0 < 18446744073709551616 by decide)
    omega
  · rw [hl, ctz_odd ht]; exact deBruijn_ok t ht
end Go.Proofs.Ytalinhjalnndhaa.M
