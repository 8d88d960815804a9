/- Contracts of crc: products of registers, zero bytes, sums of two texts. -/
import Derived.Test.YtalinhjalnndhaaCrcA
import Derived.Deep.LoopGhost
namespace Go.Proofs.Ytalinhjalnndhaa
set_option maxRecDepth 100000
open Go.RowKit M

theorem dbl_math (a i : Nat) : a * 2 ^ i % 4294967296 * 2 % 4294967296 = a * 2 ^ (i + 1) % 4294967296 := by
  rw [Nat.pow_succ, ← Nat.mul_assoc, Nat.mod_mul_mod]
theorem top_math {a i : Nat} (hi : i < 32) : a * 2 ^ i % 4294967296 / 2147483648 = (a.testBit (31 - i)).toNat := by
  have h := Nat.testBit_mod_two_pow (a * 2 ^ i) 32 31
  rw [Nat.mul_comm a, Nat.testBit_two_pow_mul, show (2 : Nat) ^ 32 = 4294967296 by decide, Nat.mul_comm _ a] at h
  have hlt : a * 2 ^ i % 4294967296 < 4294967296 := Nat.mod_lt _ (by decide)
  rw [Nat.testBit_eq_decide_div_mod_eq, show (2 : Nat) ^ 31 = 2147483648 by decide] at h
  simp only [show i ≤ 31 by omega, decide_true, Bool.true_and, show (31 : Nat) < 32 by decide] at h
  cases hb : a.testBit (31 - i)
  · rw [hb] at h; simp at h ⊢; omega
  · rw [hb] at h; simp at h ⊢; omega

theorem and64_1 {a : Nat} (ha : a < 9223372036854775808) : bits BinOp.and IntKind.i64 (a : Int) 1 = ((a % 2 : Nat) : Int) := by
  show IntKind.i64.wrap ((BitVec.ofInt 64 (a : Int) &&& BitVec.ofInt 64 1).toNat : Int) = _
  rw [BitVec.toNat_and, ofInt_u64 a (by omega), show (BitVec.ofInt 64 1).toNat = 1 by decide, nat_mask1, IntKind.wrap_i64]
  omega

theorem unit8 : sti 8 2147483648 = 8388608 := by decide

end Go.Proofs.Ytalinhjalnndhaa
