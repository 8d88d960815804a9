/- Plain mathematics on numbers as lists of bits: nothing of the program is named here. -/
import Derived.Lib.Hide
namespace Go.Proofs.YtbcbhofbikdfiaaDoor.M
set_option maxRecDepth 100000

/-- a fact that the walk is not to use -/
structure Box (p : Prop) : Prop where
  out : p

/-- the number of a list of bits, the lowest first -/
def val : List Nat → Nat
  | [] => 0
  | b :: l => b + 2 * val l

/-- the lowest n bits of v -/
def bl (n v : Nat) : List Nat := (List.range n).map fun i => v / 2 ^ i % 2

theorem bl_length (n v : Nat) : (bl n v).length = n := by simp [bl]

theorem bl_getD (n v i : Nat) (h : i < n) : (bl n v).getD i 0 = v / 2 ^ i % 2 := by
  simp [bl, List.getD, List.getElem?_map, List.getElem?_range h]

theorem bl_succ (n v : Nat) : bl (n + 1) v = bl n v ++ [v / 2 ^ n % 2] := by
  simp [bl, List.range_succ]

theorem bl_le (n v : Nat) : ∀ b ∈ bl n v, b ≤ 1 := by
  intro b hb
  simp [bl] at hb
  obtain ⟨i, _, rfl⟩ := hb
  omega

theorem val_lt (l : List Nat) (h : ∀ b ∈ l, b ≤ 1) : val l < 2 ^ l.length := by
  induction l with
  | nil => simp [val]
  | cons b l ih =>
    have h1 := h b (by simp)
    have h2 := ih (fun c hc => h c (by simp [hc]))
    simp only [val, List.length_cons, Nat.pow_succ]
    omega

theorem testBit_val (l : List Nat) (h : ∀ b ∈ l, b ≤ 1) (i : Nat) : (val l).testBit i = decide (l.getD i 0 = 1) := by
  induction l generalizing i with
  | nil => simp [val]
  | cons b l ih =>
    have h1 := h b (by simp)
    have h2 := ih (fun c hc => h c (by simp [hc]))
    cases i with
    | zero =>
      simp only [val, Nat.testBit_zero]
      have : (b + 2 * val l) % 2 = b := by omega
      simp [this]
    | succ i =>
      rw [Nat.testBit_succ]
      have : val (b :: l) / 2 = val l := by simp only [val]; omega
      rw [this, h2 i]
      simp

/-- two lists of bits that have the same bits have the same number -/
theorem val_eq_of {l : List Nat} (h : ∀ b ∈ l, b ≤ 1) (m : Nat) (e : ∀ i, decide (l.getD i 0 = 1) = m.testBit i) : val l = m := by
  apply Nat.eq_of_testBit_eq
  intro i
  rw [testBit_val l h, e]

theorem div_mod_testBit (v i : Nat) : decide (v / 2 ^ i % 2 = 1) = v.testBit i := by
  rw [Nat.testBit_eq_decide_div_mod_eq]

theorem val_bl (n v : Nat) : val (bl n v) = v % 2 ^ n := by
  refine val_eq_of (bl_le n v) _ (fun i => ?_)
  rw [Nat.testBit_mod_two_pow]
  by_cases h : i < n
  · rw [bl_getD n v i h, div_mod_testBit]; simp [h]
  · have : (bl n v).getD i 0 = 0 := by simp [List.getD, bl, h]
    rw [this]; simp [h]

theorem take_bl (n k v : Nat) (h : k ≤ n) : (bl n v).take k = bl k v := by
  simp only [bl, ← List.map_take, List.take_range, Nat.min_eq_left h]

theorem getD_drop (l : List Nat) (a i : Nat) : (l.drop a).getD i 0 = l.getD (a + i) 0 := by
  simp [List.getD]

/-- a number's bits from place a on -/
theorem drop_bl (n a v : Nat) : (bl n v).drop a = bl (n - a) (v / 2 ^ a) := by
  apply List.ext_getElem
  · simp [bl]
  · intro i h1 h2
    simp [bl, Nat.div_div_eq_div_mul, Nat.pow_add]

theorem lt_of_u64 {v : Nat} (h : v < 18446744073709551616) : v < 2 ^ 64 := by
  have : (2 : Nat) ^ 64 = 18446744073709551616 := by decide
  omega

end Go.Proofs.YtbcbhofbikdfiaaDoor.M
