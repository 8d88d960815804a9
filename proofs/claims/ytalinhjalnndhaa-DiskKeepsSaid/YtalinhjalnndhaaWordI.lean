/- Contracts of ordealref01: signed fields, single bits, fields. -/
import Derived.Test.YtalinhjalnndhaaWordH
namespace Go.Proofs.Ytalinhjalnndhaa
set_option maxRecDepth 100000
open Go.RowKit M

/-- the list of 64 numbers -/
def fl (f : Nat → Nat) : List Nat := (List.range 64).map f
theorem fl_length (f : Nat → Nat) : (fl f).length = 64 := by simp [fl]
theorem fl_getD (f : Nat → Nat) (i : Nat) : (fl f).getD i 0 = if i < 64 then f i else 0 := by
  by_cases h : i < 64 <;> simp [fl, List.getD, h]
theorem fl_bl (v : Nat) : bl 64 v = fl fun i => v / 2 ^ i % 2 := rfl
theorem fl_congr {f g : Nat → Nat} (h : ∀ i, i < 64 → f i = g i) : fl f = fl g := by
  apply List.map_congr_left; intro i hi; exact h i (by simpa using hi)
theorem ints_set (l : List Nat) (j x : Nat) : (ints l).set j (.int .i64 (x : Int)) = ints (l.set j x) := by simp [ints, List.map_set]
theorem fl_set (f : Nat → Nat) (j x : Nat) : (fl f).set j x = fl fun i => if i = j then x else f i := by
  apply List.ext_getElem
  · simp [fl]
  · intro i h1 h2
    rw [List.getElem_set]
    by_cases h : j = i
    · subst h; simp [fl]
    · rw [if_neg h]; simp [fl, Ne.symm h]
theorem fl_le {f : Nat → Nat} (h : ∀ i, i < 64 → f i ≤ 1) : ∀ b ∈ fl f, b ≤ 1 := by
  intro b hb; simp [fl] at hb; obtain ⟨i, hi, rfl⟩ := hb; exact h i hi
/-- the number of 64 bits, given bit by bit -/
theorem val_fl {f : Nat → Nat} (h : ∀ i, i < 64 → f i ≤ 1) {m : Nat} (hm : m < 18446744073709551616) (e : ∀ i, i < 64 → decide (f i = 1) = m.testBit i) : val (fl f) = m := by
  refine val_eq_of (fl_le h) m (fun i => ?_)
  rw [fl_getD]
  by_cases hi : i < 64
  · rw [if_pos hi]; exact e i hi
  · rw [if_neg hi]
    have : m.testBit i = false := Nat.testBit_lt_two_pow (Nat.lt_of_lt_of_le (by rw [← p64] at hm; exact hm) (Nat.pow_le_pow_right (by decide) (by omega)))
    simp [this]

/-- a store into what is owned -/
theorem own_store {w : World} {B E g n cap : Nat} {l : List Nat} (h : w.ownsRow B E 1 (.slice (some ⟨g, 0, none⟩) n cap) n (ints l)) (j x : Nat) :
    (w.setCell ⟨g, j, none⟩ (.int .i64 (x : Int))).ownsRow B E 1 (.slice (some ⟨g, 0, none⟩) n cap) n (ints (l.set j x)) := by
  have := (h.stored j (.int .i64 (x : Int))).1
  rwa [ints_set] at this

/-- the cell of what is owned -/
theorem own_at {w : World} {B E g cap : Nat} {f : Nat → Nat} (h : w.ownsRow B E 1 (.slice (some ⟨g, 0, none⟩) 64 cap) 64 (ints (fl f))) (j : Nat) (hj : j < 64) : w.cell? ⟨g, j, none⟩ = some (.int .i64 ((f j : Nat) : Int)) := by
  have := own_cells h 0 j (by omega)
  rw [Nat.zero_add, List.drop_zero, fl_getD, if_pos hj] at this
  exact this

theorem bit_le (v i : Nat) : v / 2 ^ i % 2 ≤ 1 := by omega
theorem bit_tb (v i : Nat) : decide (v / 2 ^ i % 2 = 1) = v.testBit i := div_mod_testBit v i

theorem fieldN_val {v a k : Nat} (_ha : a < 64) (_hk : k ≤ 64 - a) : val (((bl 64 v).drop a).take k) = v / 2 ^ a % 2 ^ k := by
  rw [drop_bl, take_bl _ _ _ (by omega), val_bl]

theorem field_mod {v a : Nat} (hv : v < 18446744073709551616) (ha : a < 64) (k : Nat) (hk : 64 - a ≤ k) : v / 2 ^ a % 2 ^ k = v / 2 ^ a % 2 ^ (64 - a) := by
  have h1 : v / 2 ^ a < 2 ^ (64 - a) := by
    rw [Nat.div_lt_iff_lt_mul (pow_pos' a), ← Nat.pow_add, show 64 - a + a = 64 by omega, p64]; exact hv
  have h2 : 2 ^ (64 - a) ≤ 2 ^ k := Nat.pow_le_pow_right (by decide) hk
  rw [Nat.mod_eq_of_lt h1, Nat.mod_eq_of_lt (by omega)]

end Go.Proofs.Ytalinhjalnndhaa
