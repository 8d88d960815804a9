/- Contracts of word: turning, moving, counting, folding. -/
import Derived.Test.YtbcbhofbikdfiaaDoorWordB
namespace Go.Proofs.YtbcbhofbikdfiaaDoor
set_option maxRecDepth 100000
open Go.RowKit M

/-- v rotated left by s of 64 bits -/
def rotN (v s : Nat) : Nat := v * 2 ^ s % 18446744073709551616 ||| v / 2 ^ (64 - s)

theorem and63 (n : Int) : bits BinOp.and IntKind.u64 (IntKind.u64.wrap n) 63 = ((n % 64).toNat : Int) := by
  have e : IntKind.u64.wrap n = ((n % 18446744073709551616).toNat : Int) := by rw [IntKind.wrap_u64]; omega
  have h := u64_and_nat (n % 18446744073709551616).toNat 63 (by omega) (by omega)
  rw [nat_mask6] at h
  rw [e]; refine Eq.trans h ?_; omega
theorem and31 (n : Int) : bits BinOp.and IntKind.u64 (IntKind.u64.wrap n) 31 = ((n % 32).toNat : Int) := by
  have e : IntKind.u64.wrap n = ((n % 18446744073709551616).toNat : Int) := by rw [IntKind.wrap_u64]; omega
  have h := u64_and_nat (n % 18446744073709551616).toNat 31 (by omega) (by omega)
  rw [nat_mask5] at h
  rw [e]; refine Eq.trans h ?_; omega

theorem rot_math {v s : Nat} (hv : v < 18446744073709551616) : bits BinOp.or IntKind.u64 (IntKind.u64.wrap ((v : Int) * 2 ^ s)) ((v : Int) / 2 ^ (64 - s)) = ((rotN v s : Nat) : Int) := by
  rw [ipow, ipow, ← Int.natCast_mul, ← Int.natCast_ediv, u64w]
  exact u64_or_nat _ _ (by omega) (Nat.lt_of_le_of_lt (Nat.div_le_self _ _) hv)

/-- v rotated left by s of 32 bits -/
def rotN32 (v s : Nat) : Nat := v * 2 ^ s % 4294967296 ||| v / 2 ^ (32 - s)

theorem rot_math32 {v s : Nat} (hv : v < 4294967296) : bits BinOp.or IntKind.u32 (IntKind.u32.wrap ((v : Int) * 2 ^ s)) ((v : Int) / 2 ^ (32 - s)) = ((rotN32 v s : Nat) : Int) := by
  have e : ∀ a : Nat, IntKind.u32.wrap (a : Int) = ((a % 4294967296 : Nat) : Int) := fun a => by rw [IntKind.wrap_u32]; omega
  rw [ipow, ipow, ← Int.natCast_mul, ← Int.natCast_ediv, e]
  exact u32_or_nat _ _ (by omega) (Nat.lt_of_le_of_lt (Nat.div_le_self _ _) hv)

/-- zigzag -/
def foldI (n : Int) : Int := if n < 0 then -2 * n - 1 else 2 * n

/-- the number that was folded -/
def unfoldI (v : Nat) : Int := if v % 2 = 1 then -1 - ((v / 2 : Nat) : Int) else ((v / 2 : Nat) : Int)

theorem i64_xor_m1 (a : Nat) (ha : a < 9223372036854775808) : bits .xor .i64 (a : Int) (-1) = -1 - (a : Int) := by
  show IntKind.i64.wrap ((BitVec.ofInt 64 (a : Int) ^^^ BitVec.ofInt 64 (-1)).toNat : Int) = _
  have h1 : BitVec.ofInt 64 (-1) = BitVec.allOnes 64 := by decide
  rw [h1, BitVec.xor_allOnes, BitVec.toNat_not, ofInt_u64 a (by omega), IntKind.wrap_i64]
  simp
  omega
theorem i64_xor_0 (a : Nat) (ha : a < 9223372036854775808) : bits .xor .i64 (a : Int) 0 = (a : Int) := by
  show IntKind.i64.wrap ((BitVec.ofInt 64 (a : Int) ^^^ BitVec.ofInt 64 0).toNat : Int) = _
  have h1 : BitVec.ofInt 64 0 = 0#64 := by decide
  rw [h1, BitVec.xor_zero, ofInt_u64 a (by omega), IntKind.wrap_i64]
  omega

theorem unfold_math {v : Nat} (hv : v < 18446744073709551616) : bits BinOp.xor IntKind.i64 ((v : Int) / 2) (wrap64 (-wrap64 (bits BinOp.and IntKind.u64 (v : Int) 1))) = unfoldI v := by
  have e : bits BinOp.and IntKind.u64 (v : Int) 1 = ((v % 2 : Nat) : Int) := by
    have h := u64_and_nat v 1 hv (by omega)
    rw [nat_mask1] at h; exact h
  rw [e]
  unfold unfoldI
  rcases (by omega : v % 2 = 0 ∨ v % 2 = 1) with h | h
  · rw [h]
    have e2 : wrap64 (-wrap64 ((0 : Nat) : Int)) = 0 := by unfold wrap64; decide
    rw [e2, if_neg (by decide)]
    rw [show ((v : Int) / 2) = ((v / 2 : Nat) : Int) by omega]
    exact i64_xor_0 _ (by omega)
  · rw [h]
    have e2 : wrap64 (-wrap64 ((1 : Nat) : Int)) = -1 := by unfold wrap64; decide
    rw [e2, if_pos rfl]
    rw [show ((v : Int) / 2) = ((v / 2 : Nat) : Int) by omega]
    exact i64_xor_m1 _ (by omega)

/-- so many bytes count: 1, 2, 4, or 8 -/
def nb (n : Int) : Int := if n = 1 ∨ n = 2 ∨ n = 4 then 8 * n else 64

end Go.Proofs.YtbcbhofbikdfiaaDoor
