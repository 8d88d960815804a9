/- Contracts of word: what each of its functions returns, and that it leaves the world alone. -/
import Derived.Test.YtbcbhofbikdfiaaDoorArith
import Derived.Test.YtbcbhofbikdfiaaDoorWordA
namespace Go.Proofs.YtbcbhofbikdfiaaDoor
set_option maxRecDepth 100000
open Go.RowKit M

/-- limited to 1 to 64 -/
def cl1 (n : Int) : Nat := if n < 1 then 1 else if 64 < n then 64 else n.toNat
theorem cl1_cases (n : Int) : (n < 1 ∧ cl1 n = 1) ∨ (64 < n ∧ cl1 n = 64) ∨ (∃ k : Nat, n = k ∧ 1 ≤ k ∧ k ≤ 64 ∧ cl1 n = k) := by
  unfold cl1
  by_cases h : n < 1
  · exact .inl ⟨h, by simp [h]⟩
  · by_cases h2 : 64 < n
    · exact .inr (.inl ⟨h2, by simp [h, h2]⟩)
    · exact .inr (.inr ⟨n.toNat, by omega, by omega, by omega, by simp [h, h2]⟩)

/-- is bit n set? -/
def bitB (v : Nat) (n : Int) : Bool := decide (0 ≤ n ∧ n < 64 ∧ v / 2 ^ n.toNat % 2 = 1)

theorem wordBit_any (v : Nat) (n : Int) (hv : v < 18446744073709551616) (w : World) :
    Calls Tryd.prog 37 #[.int .u64 v, .int .i64 n] w fun e w' => e = .returned (.bool (bitB v n)) ∧ w = w' := by
  unfold bitB
  rcases (by omega : n < 0 ∨ 64 ≤ n ∨ (0 ≤ n ∧ n < 64)) with h | h | ⟨h1, h2⟩
  · go_enter Tryd.func37, Tryd.ntmps37
    go_wp2
    go_ret
    exact ⟨by simp; omega, rfl⟩
  · go_enter Tryd.func37, Tryd.ntmps37
    go_wp2
    go_ret
    exact ⟨by simp; omega, rfl⟩
  · obtain ⟨k, rfl⟩ := Int.eq_ofNat_of_zero_le h1
    have hm := bit_math (k := k) hv
    have HM := Box.mk hm; clear hm
    go_enter Tryd.func37, Tryd.ntmps37
    go_wp2
    go_ret
    refine ⟨?_, rfl⟩
    have hm := HM.out
    simp [hm]; omega

/-- v with bit n set -/
def withN (v : Nat) (n : Int) : Nat := if 0 ≤ n ∧ n < 64 then v ||| 2 ^ n.toNat else v

/-- n bits of v from bit at on -/
def fieldN (v : Nat) (a n : Int) : Nat := if 0 ≤ a ∧ a < 64 then v / 2 ^ a.toNat % 2 ^ cl n else 0

theorem fieldN_lt {v : Nat} (hv : v < 18446744073709551616) (a n : Int) : fieldN v a n < 18446744073709551616 := by
  unfold fieldN
  split
  · exact Nat.lt_of_le_of_lt (Nat.le_trans (Nat.mod_le _ _) (Nat.div_le_self _ _)) hv
  · decide

/-- the bits that a field takes -/
def maskN (a n : Int) : Nat := 18446744073709551615 % 2 ^ cl n * 2 ^ a.toNat % 18446744073709551616
/-- v with the lowest n bits of x from bit a on -/
def layN (v : Nat) (a n : Int) (x : Nat) : Nat := if 0 ≤ a ∧ a < 64 then (v &&& (18446744073709551615 - maskN a n)) ||| (x * 2 ^ a.toNat % 18446744073709551616 &&& maskN a n) else v

theorem lay_math {v x k m : Nat} (hv : v < 18446744073709551616) :
    bits BinOp.or IntKind.u64 (bits BinOp.andNot IntKind.u64 (v : Int) (IntKind.u64.wrap ((m : Int) * 2 ^ k))) (bits BinOp.and IntKind.u64 (IntKind.u64.wrap ((x : Int) * 2 ^ k)) (IntKind.u64.wrap ((m : Int) * 2 ^ k))) =
      (((v &&& (18446744073709551615 - m * 2 ^ k % 18446744073709551616)) ||| (x * 2 ^ k % 18446744073709551616 &&& m * 2 ^ k % 18446744073709551616) : Nat) : Int) := by
  rw [ipow, ← Int.natCast_mul, ← Int.natCast_mul, u64w, u64w, u64_andNot_nat _ _ hv (by omega), u64_and_nat _ _ (by omega) (by omega)]
  refine u64_or_nat _ _ ?_ ?_
  · exact Nat.lt_of_le_of_lt Nat.and_le_left hv
  · exact Nat.lt_of_le_of_lt Nat.and_le_left (by omega)

end Go.Proofs.YtbcbhofbikdfiaaDoor
