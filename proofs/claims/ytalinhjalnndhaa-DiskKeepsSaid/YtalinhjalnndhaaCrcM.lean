/- Plain mathematics of CRC-32C: a step of the register, on numbers of any size. -/
import Derived.Test.YtalinhjalnndhaaCount
namespace Go.Proofs.Ytalinhjalnndhaa.M
set_option maxRecDepth 100000

/-- one step of the register -/
def st (c : Nat) : Nat := if c % 2 = 1 then c / 2 ^^^ 2197175160 else c / 2
/-- k steps -/
def sti : Nat → Nat → Nat
  | 0, x => x
  | k + 1, x => sti k (st x)

theorem xor_div2 (a b : Nat) : (a ^^^ b) / 2 = a / 2 ^^^ b / 2 := by
  apply Nat.eq_of_testBit_eq
  intro i
  simp only [Nat.testBit_xor, ← Nat.testBit_succ]
theorem xor_mod2 (a b : Nat) : (a ^^^ b) % 2 = (a % 2 + b % 2) % 2 := by
  have h := Nat.testBit_xor a b 0
  rw [Nat.testBit_zero, Nat.testBit_zero, Nat.testBit_zero] at h
  rcases (by omega : a % 2 = 0 ∨ a % 2 = 1) with ha | ha <;> rcases (by omega : b % 2 = 0 ∨ b % 2 = 1) with hb | hb <;> rcases (by omega : (a ^^^ b) % 2 = 0 ∨ (a ^^^ b) % 2 = 1) with hc | hc <;> rw [ha, hb, hc] at h <;> first | (exfalso; revert h; decide) | (rw [ha, hb, hc])

theorem st_xor (a b : Nat) : st (a ^^^ b) = st a ^^^ st b := by
  unfold st
  rw [xor_div2, xor_mod2]
  rcases (by omega : a % 2 = 0 ∨ a % 2 = 1) with ha | ha <;> rcases (by omega : b % 2 = 0 ∨ b % 2 = 1) with hb | hb <;> simp [ha, hb]
  · rw [Nat.xor_assoc]
  · rw [Nat.xor_assoc, Nat.xor_assoc, Nat.xor_comm 2197175160 (b / 2)]
  · rw [Nat.xor_assoc, Nat.xor_comm 2197175160 _, Nat.xor_assoc, Nat.xor_self, Nat.xor_zero]
theorem sti_xor (k : Nat) : ∀ a b, sti k (a ^^^ b) = sti k a ^^^ sti k b := by
  induction k with
  | zero => intro a b; rfl
  | succ k ih => intro a b; simp only [sti, st_xor, ih]
theorem sti_add (a b : Nat) : ∀ x, sti (a + b) x = sti b (sti a x) := by
  induction a with
  | zero => intro x; rw [Nat.zero_add]; rfl
  | succ a ih => intro x; rw [Nat.succ_add]; simp only [sti, ih]
theorem st_two (x : Nat) : st (2 * x) = x := by
  unfold st; rw [if_neg (by omega)]; omega
theorem sti_pow (k : Nat) : ∀ x, sti k (2 ^ k * x) = x := by
  induction k with
  | zero => intro x; simp [sti]
  | succ k ih =>
    intro x
    have e : 2 ^ (k + 1) * x = 2 * (2 ^ k * x) := by rw [Nat.pow_succ, Nat.mul_comm (2 ^ k) 2, Nat.mul_assoc]
    simp only [sti]
    rw [e, st_two, ih]
theorem st_lt {x : Nat} (h : x < 4294967296) : st x < 4294967296 := by
  unfold st
  split
  · have h1 : x / 2 < 2 ^ 32 := by rw [show (2 : Nat) ^ 32 = 4294967296 by decide]; omega
    have := Nat.xor_lt_two_pow h1 (show 2197175160 < 2 ^ 32 by decide)
    rwa [show (2 : Nat) ^ 32 = 4294967296 by decide] at this
  · omega
theorem sti_lt (k : Nat) : ∀ {x : Nat}, x < 4294967296 → sti k x < 4294967296 := by
  induction k with
  | zero => intro x h; exact h
  | succ k ih => intro x h; exact ih (st_lt h)
theorem st_ne {x : Nat} (h : x < 4294967296) (h0 : x ≠ 0) : st x ≠ 0 := by
  unfold st
  split
  · intro e
    have h1 : x / 2 = 2197175160 := by
      have := congrArg (fun z => z ^^^ 2197175160) e
      simp only [Nat.xor_assoc, Nat.xor_self, Nat.xor_zero, Nat.zero_xor] at this
      exact this
    omega
  · omega
theorem sti_ne (k : Nat) : ∀ {x : Nat}, x < 4294967296 → x ≠ 0 → sti k x ≠ 0 := by
  induction k with
  | zero => intro x _ h; exact h
  | succ k ih => intro x h h0; exact ih (st_lt h) (st_ne h h0)
theorem st_zero : st 0 = 0 := by decide
theorem sti_zero (k : Nat) : sti k 0 = 0 := by
  induction k with
  | zero => rfl
  | succ k ih => simp only [sti, st_zero, ih]

theorem xor_join (k a b : Nat) (ha : a < 2 ^ k) : a + 2 ^ k * b = a ^^^ 2 ^ k * b := by
  apply Nat.eq_of_testBit_eq
  intro i
  rw [Nat.add_comm, Nat.testBit_two_pow_mul_add _ ha, Nat.testBit_xor, Nat.testBit_two_pow_mul]
  by_cases h : i < k
  · simp [h, show ¬ k ≤ i by omega]
  · have : a.testBit i = false := Nat.testBit_lt_two_pow (Nat.lt_of_lt_of_le ha (Nat.pow_le_pow_right (by decide) (by omega)))
    simp [h, this, show k ≤ i by omega]

/-- the register behind bytes -/
def crcF (c : Nat) (l : List Nat) : Nat := sti (8 * l.length) (c ^^^ num 8 l)

theorem num_join (k : Nat) (l m : List Nat) (h : ∀ d ∈ l, d < 2 ^ k) : num k (l ++ m) = num k l ^^^ 2 ^ (k * l.length) * num k m := by
  have e : num k (l ++ m) = num k l + 2 ^ (k * l.length) * num k m := by
    clear h
    induction l with
    | nil => simp [num]
    | cons d l ih =>
      simp only [List.cons_append, num, ih, List.length_cons]
      rw [Nat.mul_add, Nat.add_assoc, ← Nat.mul_assoc, ← Nat.pow_add, show k + k * l.length = k * (l.length + 1) by rw [Nat.mul_add]; omega]
  rw [e, xor_join _ _ _ (num_lt k l h)]

theorem crcF_append (c : Nat) (l m : List Nat) (h : ∀ d ∈ l, d < 2 ^ 8) : crcF c (l ++ m) = crcF (crcF c l) m := by
  unfold crcF
  rw [num_join 8 l m h, List.length_append, Nat.mul_add, sti_add, ← Nat.xor_assoc, sti_xor (8 * l.length), sti_pow]
theorem crcF_snoc (c : Nat) (l : List Nat) (b : Nat) (h : ∀ d ∈ l, d < 2 ^ 8) : crcF c (l ++ [b]) = sti 8 (crcF c l ^^^ b) := by
  rw [crcF_append c l [b] h]
  simp [crcF, num]
theorem crcF_nil (c : Nat) : crcF c [] = c := by simp [crcF, num, sti]
/-- two registers, one text -/
theorem crcF_xor (c d : Nat) (l : List Nat) : crcF (c ^^^ d) l = crcF c l ^^^ sti (8 * l.length) d := by
  unfold crcF
  rw [Nat.xor_assoc, Nat.xor_comm d, ← Nat.xor_assoc, sti_xor]
theorem crcF_lt {c : Nat} (hc : c < 4294967296) (l : List Nat) (h : ∀ d ∈ l, d < 2 ^ 8) : crcF c l < 4294967296 := by
  induction l generalizing c with
  | nil => rw [crcF_nil]; exact hc
  | cons b l ih =>
    have hb := h b (by simp)
    have e : crcF c (b :: l) = crcF (crcF c [b]) l := crcF_append c [b] l (by simpa using hb)
    rw [e]
    refine ih ?_ (fun d hd => h d (by simp [hd]))
    have e2 : crcF c [b] = sti 8 (c ^^^ b) := by simp [crcF, num]
    rw [e2]
    refine sti_lt 8 ?_
    have := Nat.xor_lt_two_pow (show c < 2 ^ 32 by rw [show (2 : Nat) ^ 32 = 4294967296 by decide]; exact hc) (show b < 2 ^ 32 by omega)
    rwa [show (2 : Nat) ^ 32 = 4294967296 by decide] at this

/-- the complement of 32 bits -/
theorem compl32 {x : Nat} (h : x < 4294967296) : 4294967295 - x = x ^^^ 4294967295 := by
  apply Nat.eq_of_testBit_eq
  intro i
  have h' : x < 2 ^ 32 := by rw [show (2 : Nat) ^ 32 = 4294967296 by decide]; exact h
  rw [show 4294967295 - x = 2 ^ 32 - (x + 1) by rw [show (2 : Nat) ^ 32 = 4294967296 by decide]; omega, Nat.testBit_two_pow_sub_succ h', Nat.testBit_xor, show (4294967295 : Nat) = 2 ^ 32 - 1 by decide, Nat.testBit_two_pow_sub_one]
  by_cases hi : i < 32
  · simp [hi]
  · have : x.testBit i = false := Nat.testBit_lt_two_pow (Nat.lt_of_lt_of_le h' (Nat.pow_le_pow_right (by decide) (by omega)))
    simp [hi, this]
theorem xor_lt32 {a b : Nat} (ha : a < 4294967296) (hb : b < 4294967296) : a ^^^ b < 4294967296 := by
  have e : (2 : Nat) ^ 32 = 4294967296 := by decide
  have := Nat.xor_lt_two_pow (show a < 2 ^ 32 by rw [e]; exact ha) (show b < 2 ^ 32 by rw [e]; exact hb)
  rwa [e] at this

/-- the sum behind a sum -/
def more (sum : Nat) (l : List Nat) : Nat := 4294967295 - crcF (4294967295 - sum) l
theorem more_lt (sum : Nat) (l : List Nat) : more sum l < 4294967296 := by unfold more; omega

/-- four steps by the table -/
def halvesN : List Nat := [0, 274646895, 549293790, 820201905, 1098587580, 1361435347, 1640403810, 1905808397, 2197175160, 2460548119, 2722870694, 2987750089, 3280807620, 3553878443, 3811616794, 4084100981]
theorem halvesN_ok : ∀ t, t < 16 → halvesN.getD t 0 = sti 4 t := by decide
theorem sti4 (r : Nat) : sti 4 r = r / 16 ^^^ halvesN.getD (r % 16) 0 := by
  have e : r = r % 16 ^^^ 2 ^ 4 * (r / 16) := by
    have h := xor_join 4 (r % 16) (r / 16) (by omega)
    rw [← h]; omega
  rw [halvesN_ok _ (by omega), Nat.xor_comm]
  conv => lhs; rw [e]
  rw [sti_xor, sti_pow]

/-- the product of two registers -/
def mulI (a b : Nat) : Nat → Nat
  | 0 => 0
  | i + 1 => mulI a b i ^^^ (if a.testBit (31 - i) then sti i b else 0)

theorem sti_unit {i : Nat} (hi : i ≤ 31) : sti i 2147483648 = 2 ^ (31 - i) := by
  have e : 2147483648 = 2 ^ i * 2 ^ (31 - i) := by rw [← Nat.pow_add, show i + (31 - i) = 31 by omega]
  rw [e, sti_pow]
theorem keep_tb (k V j : Nat) : (2 ^ k * (V / 2 ^ k)).testBit j = (decide (k ≤ j) && V.testBit j) := by
  rw [Nat.testBit_two_pow_mul, Nat.testBit_div_two_pow]
  by_cases h : k ≤ j
  · simp [h]
  · simp [h]
/-- a register's highest i bits -/
theorem mulI_unit (m v : Nat) : ∀ i, i ≤ 32 → mulI v (sti m 2147483648) i = sti m (2 ^ (32 - i) * (v % 2 ^ 32 / 2 ^ (32 - i)))
  | 0, _ => by
    simp only [mulI, Nat.sub_zero]
    have : v % 2 ^ 32 / 2 ^ 32 = 0 := Nat.div_eq_of_lt (Nat.mod_lt _ (by decide))
    rw [this, Nat.mul_zero, sti_zero]
  | i + 1, hi => by
    rw [mulI, mulI_unit m v i (by omega)]
    have hsw : sti i (sti m 2147483648) = sti m (sti i 2147483648) := by rw [← sti_add, ← sti_add, Nat.add_comm]
    rw [hsw, sti_unit (show i ≤ 31 by omega)]
    have hx : (if v.testBit (31 - i) = true then sti m (2 ^ (31 - i)) else 0) = sti m (if v.testBit (31 - i) = true then 2 ^ (31 - i) else 0) := by
      split
      · rfl
      · rw [sti_zero]
    rw [hx, ← sti_xor]
    congr 1
    apply Nat.eq_of_testBit_eq
    intro j
    rw [show 32 - (i + 1) = 31 - i by omega, Nat.testBit_xor, keep_tb, keep_tb]
    by_cases h1 : j = 31 - i
    · subst h1
      rw [Nat.testBit_mod_two_pow]
      by_cases hb : v.testBit (31 - i)
      · simp [hb, show 31 - i < 32 by omega, show ¬ 32 - i ≤ 31 - i by omega]
      · simp [hb]
    · have e : (if v.testBit (31 - i) = true then 2 ^ (31 - i) else 0).testBit j = false := by
        split
        · rw [Nat.testBit_two_pow]; simp; omega
        · simp
      rw [e]
      by_cases h2 : 32 - i ≤ j
      · simp [h2, show 31 - i ≤ j by omega]
      · simp [h2, show ¬ 31 - i ≤ j by omega]
theorem mul_unit {v : Nat} (hv : v < 4294967296) (m : Nat) : mulI v (sti m 2147483648) 32 = sti m v := by
  have e : (2 : Nat) ^ 32 = 4294967296 := by decide
  rw [mulI_unit m v 32 (by omega), e, Nat.mod_eq_of_lt hv]
  simp
/-- what is left of a register behind i doublings -/
theorem mulI_end (a b : Nat) : ∀ i, i ≤ 32 → a * 2 ^ i % 4294967296 = 0 → mulI a b i = mulI a b 32 := by
  intro i hi h0
  have hz : ∀ j, i ≤ j → j ≤ 31 → a.testBit (31 - j) = false := by
    intro j h1 h2
    have := congrArg (fun z => z.testBit (31 - j + i)) h0
    simp only [show (4294967296 : Nat) = 2 ^ 32 by decide, Nat.mul_comm a, Nat.testBit_mod_two_pow, Nat.testBit_two_pow_mul, Nat.zero_testBit] at this
    simpa [show 31 - j + i < 32 by omega] using this
  have hk : ∀ k, i + k ≤ 32 → mulI a b (i + k) = mulI a b i := by
    intro k
    induction k with
    | zero => intro _; rfl
    | succ k ih =>
      intro h
      rw [← Nat.add_assoc, mulI, ih (by omega), hz (i + k) (by omega) (by omega)]
      simp
  have := hk (32 - i) (by omega)
  rw [show i + (32 - i) = 32 by omega] at this
  exact this.symm
theorem mulI_lt {a b : Nat} (hb : b < 4294967296) : ∀ i, mulI a b i < 4294967296
  | 0 => by simp [mulI]
  | i + 1 => by
    rw [mulI]
    refine xor_lt32 (mulI_lt hb i) ?_
    split
    · exact sti_lt _ hb
    · omega
end Go.Proofs.Ytalinhjalnndhaa.M
