/- Contracts of word: counting bits, the lowest bit. -/
import Derived.Test.YtalinhjalnndhaaWordC
import Derived.Test.YtalinhjalnndhaaCount
import Derived.Lib.LaidTab
namespace Go.Proofs.Ytalinhjalnndhaa
set_option maxRecDepth 100000
open Go.RowKit M

theorem and_int {a b : Nat} (ha : a < 18446744073709551616) (hb : b < 18446744073709551616) {x : Int} {y : Int} (hx : x = a) (hy : y = b) : bits BinOp.and IntKind.u64 x y = ((a &&& b : Nat) : Int) := by
  rw [hx, hy]; exact u64_and_nat _ _ ha hb

theorem and127 {a : Nat} (ha : a < 9223372036854775808) : bits BinOp.and IntKind.i64 (a : Int) 127 = ((a % 128 : Nat) : Int) := by
  show IntKind.i64.wrap ((BitVec.ofInt 64 (a : Int) &&& BitVec.ofInt 64 127).toNat : Int) = _
  rw [BitVec.toNat_and, ofInt_u64 a (by omega), show (BitVec.ofInt 64 127).toNat = 127 by decide, nat_mask7, IntKind.wrap_i64]
  omega

theorem sum_take_succ (l : List Nat) (k : Nat) (h : k < l.length) : (l.take (k + 1)).sum = (l.take k).sum + l.getD k 0 := by
  have e : l.getD k 0 = l[k] := by simp [List.getD, h]
  rw [List.take_succ_eq_append_getElem h, List.sum_append, e]; simp

theorem sum_take_le (l : List Nat) (h : ∀ b ∈ l, b ≤ 1) (k : Nat) : (l.take k).sum ≤ k := by
  induction k generalizing l with
  | zero => simp
  | succ k ih =>
    cases l with
    | nil => simp
    | cons b l =>
      have h1 := h b (by simp)
      have h2 := ih l (fun c hc => h c (by simp [hc]))
      simp; omega

theorem ctz_eq {v k : Nat} (hk : k < 64) (h1 : (bl 64 v).getD k 0 = 1) (h2 : ∀ i, i < k → (bl 64 v).getD i 0 ≠ 1) : ctz v = k := findIdx_of (by rw [bl_length]; exact hk) h1 h2
def NoOne (v k : Nat) : Prop := ∀ i, i < k → (bl 64 v).getD i 0 ≠ 1
theorem ctz_none {v : Nat} (h2 : ∀ i, i < 64 → (bl 64 v).getD i 0 ≠ 1) : ctz v = 64 := by
  unfold ctz
  rw [List.findIdx_eq_length_of_false]
  · exact bl_length 64 v
  · intro x hx
    obtain ⟨i, hi, rfl⟩ := List.getElem_of_mem hx
    rw [bl_length] at hi
    have := h2 i hi
    simp [List.getD, bl_length, hi] at this
    simpa using this

end Go.Proofs.Ytalinhjalnndhaa
