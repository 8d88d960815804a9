/- Contracts of crc. -/
import Derived.Test.YtalinhjalnndhaaCrcM
import Derived.Test.YtalinhjalnndhaaWordN
import Derived.Deep.QuietTactic
import Derived.BigQuiet
namespace Go.Proofs.Ytalinhjalnndhaa
set_option maxRecDepth 100000
open Go.RowKit M

theorem xor32 {a b : Nat} (ha : a < 4294967296) (hb : b < 4294967296) : bits BinOp.xor IntKind.u32 (a : Int) (b : Int) = ((a ^^^ b : Nat) : Int) := u32_xor_nat a b ha hb
theorem and32_1 {a : Nat} (ha : a < 4294967296) : bits BinOp.and IntKind.u32 (a : Int) 1 = ((a % 2 : Nat) : Int) := by
  have h := u32_and_nat a 1 ha (by omega)
  rw [nat_mask1] at h; exact h
theorem and32_15 {a : Nat} (ha : a < 4294967296) : bits BinOp.and IntKind.u32 (a : Int) 15 = ((a % 16 : Nat) : Int) := by
  have h := u32_and_nat a 15 ha (by omega)
  rw [nat_mask4] at h; exact h

theorem sti_byte (c b : Nat) : ∀ k, sti (k + 1) (c ^^^ b) = sti k (st (c ^^^ b % 2) ^^^ b / 2) := by
  intro k
  show sti k (st (c ^^^ b)) = _
  congr 1
  have e : b = b % 2 ^^^ 2 * (b / 2) := by
    have h := xor_join 1 (b % 2) (b / 2) (by omega)
    rw [Nat.pow_one] at h
    rw [← h]; omega
  conv => lhs; rw [e]
  rw [← Nat.xor_assoc, st_xor, st_two]

theorem awake_text : bs [49, 50, 51, 52, 53, 54, 55, 56, 57] = ⟨#[49, 50, 51, 52, 53, 54, 55, 56, 57]⟩ := by decide

/-- a string's bytes -/
def sb (s : ByteArray) : List Nat := bnl s s.size
theorem sb_lt (s : ByteArray) : ∀ d ∈ sb s, d < 2 ^ 8 := bnl_lt s s.size
theorem sb_length (s : ByteArray) : (sb s).length = s.size := bnl_length s s.size

theorem halves_get : ∀ t, t < 16 → (([0, 274646895, 549293790, 820201905, 1098587580, 1361435347, 1640403810, 1905808397, 2197175160, 2460548119, 2722870694, 2987750089, 3280807620, 3553878443, 3811616794, 4084100981] : List Int).getD t 0) = ((halvesN.getD t 0 : Nat) : Int) := by decide
theorem halves_lt : ∀ t, t < 16 → halvesN.getD t 0 < 4294967296 := by decide
theorem not32 {a : Nat} (ha : a < 4294967296) : bits BinOp.xor IntKind.u32 IntKind.u32.max (a : Int) = ((4294967295 - a : Nat) : Int) := by
  rw [show IntKind.u32.max = ((4294967295 : Nat) : Int) by decide, xor32 (by omega) ha, compl32 ha, Nat.xor_comm]

/-- four steps, as the code does them -/
theorem four_steps {x : Nat} (hx : x < 4294967296) : ∃ i h y : Nat, i < 16 ∧ h = halvesN.getD i 0 ∧ y = sti 4 x ∧ y < 4294967296 ∧ bits BinOp.and IntKind.u32 (x : Int) 15 = (i : Int) ∧ bits BinOp.xor IntKind.u32 ((x : Int) / 16) (h : Int) = (y : Int) := by
  refine ⟨x % 16, _, _, Nat.mod_lt _ (by decide), rfl, rfl, sti_lt 4 hx, and32_15 hx, ?_⟩
  rw [show ((x : Int) / 16) = ((x / 16 : Nat) : Int) by omega, xor32 (by omega) (halves_lt _ (Nat.mod_lt _ (by decide))), sti4 x]

/-- the sum of bytes -/
def ofN (l : List Nat) : Nat := more 0 l

theorem text_sb : sb ⟨#[49, 50, 51, 52, 53, 54, 55, 56, 57]⟩ = [49, 50, 51, 52, 53, 54, 55, 56, 57] := by decide
theorem text_of : ofN [49, 50, 51, 52, 53, 54, 55, 56, 57] = 3808858755 := by decide +kernel
theorem none_of : ofN (sb ⟨#[]⟩) = 0 := by decide +kernel

end Go.Proofs.Ytalinhjalnndhaa
