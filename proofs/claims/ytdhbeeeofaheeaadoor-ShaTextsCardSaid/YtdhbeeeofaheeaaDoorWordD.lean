/- Contracts of word: counting bits, the lowest bit. -/
import Derived.Test.YtdhbeeeofaheeaaDoorWordC
import Derived.Test.YtdhbeeeofaheeaaDoorCount
import Derived.Lib.LaidTab
namespace Go.Proofs.YtdhbeeeofaheeaaDoor
set_option maxRecDepth 100000
open Go.RowKit M

/-- the table of math/bits lies in its cells -/
def Tab64 (w : World) : Prop := ∀ t, t < 64 → w.cell? ⟨3, t, none⟩ = some (.int .u8 ((deBruijn.getD t 0 : Nat) : Int))

theorem and_int {a b : Nat} (ha : a < 18446744073709551616) (hb : b < 18446744073709551616) {x : Int} {y : Int} (hx : x = a) (hy : y = b) : bits BinOp.and IntKind.u64 x y = ((a &&& b : Nat) : Int) := by
  rw [hx, hy]; exact u64_and_nat _ _ ha hb

theorem and127 {a : Nat} (ha : a < 9223372036854775808) : bits BinOp.and IntKind.i64 (a : Int) 127 = ((a % 128 : Nat) : Int) := by
  show IntKind.i64.wrap ((BitVec.ofInt 64 (a : Int) &&& BitVec.ofInt 64 127).toNat : Int) = _
  rw [BitVec.toNat_and, ofInt_u64 a (by omega), show (BitVec.ofInt 64 127).toNat = 127 by decide, nat_mask7, IntKind.wrap_i64]
  omega

set_option maxHeartbeats 400000 in
theorem zeros_any (v : Nat) (hv : v < 18446744073709551616) (w : World) (hT : v ≠ 0 → Tab64 w) :
    Calls Tryd.prog 80 #[.int .u64 v] w fun e w' => e = .returned (.int .i64 ((ctz v : Nat) : Int)) ∧ w = w' := by
  rcases Nat.eq_zero_or_pos v with rfl | h0
  · rw [ctz_zero]
    clear hT
    go_enter Tryd.func80, Tryd.ntmps80
    go_wp2
    go_ret
    exact ⟨rfl, rfl⟩
  · obtain ⟨p, m, j, e1, e2, e3, b1, b2, b3, hd, b4⟩ := zeros_math v hv h0
    have hcell := hT (by omega) j b3
    rw [hd] at hcell
    clear hT hd
    obtain ⟨nv, hnv⟩ : ∃ nv, nv = 18446744073709551616 - v := ⟨_, rfl⟩
    have r1 : IntKind.u64.wrap (-(v : Int)) = (nv : Int) := by rw [IntKind.wrap_u64]; omega
    have r2 : bits BinOp.and IntKind.u64 (v : Int) (nv : Int) = (p : Int) := by rw [e1, ← hnv]; exact u64_and_nat _ _ hv (by omega)
    have r3 : IntKind.u64.wrap ((p : Int) * 285870213051353865) = (m : Int) := by rw [e2, ← u64w]; congr 1
    have r4 : (m : Int) / 288230376151711744 = (j : Int) := by omega
    have hz : ((v : Int) == 0) = false := by simp; omega
    generalize ctz v = t at *
    clear e1 e2 e3 hnv
    go_enter Tryd.func80, Tryd.ntmps80
    go_wp2
    go_ret
    exact ⟨rfl, rfl⟩

theorem wordFirst_any (v : Nat) (hv : v < 18446744073709551616) (w : World) (hT : v ≠ 0 → Tab64 w) :
    Calls Tryd.prog 56 #[.int .u64 v] w fun e w' => e = .returned (.int .i64 ((ctz v : Nat) : Int)) ∧ w = w' := by
  have HT := Box.mk hT; clear hT
  go_enter Tryd.func56, Tryd.ntmps56
  go_wp2_with (go_at_call 80; refine (zeros_any v hv _ HT.out).mono ?_; rintro e w' ⟨rfl, rfl⟩)
  go_ret
  exact ⟨rfl, rfl⟩

theorem sum_take_succ (l : List Nat) (k : Nat) (h : k < l.length) : (l.take (k + 1)).sum = (l.take k).sum + l.getD k 0 := by
  have e : l.getD k 0 = l[k] := by simp [List.getD, h]
  rw [List.take_succ_eq_append_getElem h, List.sum_append, e]; simp

theorem sum_take_le (l : List Nat) (h : ∀ b ∈ l, b ≤ 1) (k : Nat) : (l.take k).sum ≤ k := by
  induction k generalizing l with
  | zero => simp
  | succ k ih =>
    cases l with
    | nil => simp
    | cons b l =>
      have h1 := h b (by simp)
      have h2 := ih l (fun c hc => h c (by simp [hc]))
      simp; omega

theorem ctz_eq {v k : Nat} (hk : k < 64) (h1 : (bl 64 v).getD k 0 = 1) (h2 : ∀ i, i < k → (bl 64 v).getD i 0 ≠ 1) : ctz v = k := findIdx_of (by rw [bl_length]; exact hk) h1 h2
def NoOne (v k : Nat) : Prop := ∀ i, i < k → (bl 64 v).getD i 0 ≠ 1
theorem ctz_none {v : Nat} (h2 : ∀ i, i < 64 → (bl 64 v).getD i 0 ≠ 1) : ctz v = 64 := by
  unfold ctz
  rw [List.findIdx_eq_length_of_false]
  · exact bl_length 64 v
  · intro x hx
    obtain ⟨i, hi, rfl⟩ := List.getElem_of_mem hx
    rw [bl_length] at hi
    have := h2 i hi
    simp [List.getD, bl_length, hi] at this
    simpa using this

end Go.Proofs.YtdhbeeeofaheeaaDoor
