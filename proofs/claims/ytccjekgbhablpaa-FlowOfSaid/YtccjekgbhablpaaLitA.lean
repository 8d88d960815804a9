/- Contracts of litmus: an instruction's parts. -/
import Derived.Test.YtccjekgbhablpaaLitM
import Derived.PlainAid
namespace Go.Proofs.Ytccjekgbhablpaa
set_option maxRecDepth 100000
open Go.RowKit

theorem isIndex_any (n c : Int) (w : World) :
    Calls Try.prog 59 #[.int .i64 n, .int .i64 c] w fun e w' => e = .returned (.bool (idx n c)) ∧ w = w' := by
  unfold idx
  go_enter Try.func59, Try.ntmps59
  go_wp2
  all_goals go_ret
  all_goals exact ⟨by simp [*] <;> (intros; omega), rfl⟩
theorem isRegister_any (n : Int) (w : World) :
    Calls Try.prog 60 #[.int .i64 n] w fun e w' => e = .returned (.bool (idx n 8)) ∧ w = w' := by
  have c := fun W => isIndex_any n 8 W
  generalize idx n 8 = b at *
  have C := Bx.mk c; clear c
  go_enter Try.func60, Try.ntmps60
  go_wp2_with (go_at_call 59; ((with_reducible refine (C.out _).mono ?_); rintro e w' ⟨rfl, rfl⟩))
  go_ret
  exact ⟨rfl, rfl⟩
theorem isSide_any (n : Int) (w : World) :
    Calls Try.prog 81 #[.int .i64 n] w fun e w' => e = .returned (.bool (sideM n)) ∧ w = w' := by
  unfold sideM
  go_enter Try.func81, Try.ntmps81
  go_wp2
  all_goals go_ret
  all_goals exact ⟨by simp [*] <;> (intros; omega), rfl⟩
theorem isThere_any (r : Bool) (n : Int) (w : World) :
    Calls Try.prog 80 #[.agg #[.bool r, .int .u64 n]] w fun e w' => e = .returned (.bool (argOk r n)) ∧ Below w.heap.size w w' := by
  unfold argOk
  cases r
  all_goals
    go_enter Try.func80, Try.ntmps80
    go_wp2
    go_ret
    exact ⟨by simp, (Below.refl _ _).alloc (Nat.le_refl _) _⟩
theorem isKnown_any (x : Ins) (w : World) :
    Calls Try.prog 55 #[insV x] w fun e w' => e = .returned (.bool (known x.op)) ∧ Below w.heap.size w w' := by
  unfold known insV
  go_enter Try.func55, Try.ntmps55
  go_wp2
  all_goals go_ret
  all_goals exact ⟨by simp [*] <;> (intros; omega), (Below.refl _ _).alloc (Nat.le_refl _) _⟩
/-- each operation, or none -/
theorem op_cases (op : Int) : op = 1 ∨ op = 2 ∨ op = 3 ∨ op = 4 ∨ op = 5 ∨ op = 6 ∨ op = 7 ∨ op = 8 ∨ op = 9 ∨ op = 10 ∨ op = 11 ∨ op = 12 ∨ op = 13 ∨ op = 14 ∨ op = 15 ∨ op = 16 ∨ op = 17 ∨ (op < 1 ∨ 17 < op) := by omega
/-- what an instruction has to do with memory -/
def kindV (op : Int) : Value := .agg #[.bool (krd op), .bool (kwr op)]
set_option maxHeartbeats 1600000 in
theorem of_any (x : Ins) (w : World) :
    Calls Try.prog 36 #[insV x] w fun e w' => e = .returned (kindV x.op) ∧ Below w.heap.size w w' := by
  obtain ⟨op, rd, loc, ar, an, br, bn, acq, rel, dep, pred, succ, skip⟩ := x
  unfold insV
  show Calls Try.prog 36 _ w fun e w' => e = .returned (kindV op) ∧ Below w.heap.size w w'
  have h : op = 9 ∨ op = 13 ∨ op = 10 ∨ op = 14 ∨ op = 11 ∨ op = 12 ∨ (op ≠ 9 ∧ op ≠ 13 ∧ op ≠ 10 ∧ op ≠ 14 ∧ op ≠ 11 ∧ op ≠ 12) := by omega
  rcases h with rfl | rfl | rfl | rfl | rfl | rfl | ⟨h1, h2, h3, h4, h5, h6⟩
  all_goals
    go_enter Try.func36, Try.ntmps36
    go_wp2
  · exact bodyPost_ret (v := .agg #[.bool true, .bool false]) (by simp [results, go_sem]) rfl ⟨rfl, ((Below.refl _ _).alloc (Nat.le_refl _) _).alloc (by simp) _⟩
  · exact bodyPost_ret (v := .agg #[.bool true, .bool false]) (by simp [results, go_sem]) rfl ⟨rfl, ((Below.refl _ _).alloc (Nat.le_refl _) _).alloc (by simp) _⟩
  · exact bodyPost_ret (v := .agg #[.bool false, .bool true]) (by simp [results, go_sem]) rfl ⟨rfl, ((Below.refl _ _).alloc (Nat.le_refl _) _).alloc (by simp) _⟩
  · exact bodyPost_ret (v := .agg #[.bool false, .bool true]) (by simp [results, go_sem]) rfl ⟨rfl, ((Below.refl _ _).alloc (Nat.le_refl _) _).alloc (by simp) _⟩
  · exact bodyPost_ret (v := .agg #[.bool true, .bool true]) (by simp [results, go_sem]) rfl ⟨rfl, ((Below.refl _ _).alloc (Nat.le_refl _) _).alloc (by simp) _⟩
  · exact bodyPost_ret (v := .agg #[.bool true, .bool true]) (by simp [results, go_sem]) rfl ⟨rfl, ((Below.refl _ _).alloc (Nat.le_refl _) _).alloc (by simp) _⟩
  · exact bodyPost_ret (v := .agg #[.bool false, .bool false]) (by simp [results, go_sem]) rfl ⟨by simp [kindV, krd, kwr, *], ((Below.refl _ _).alloc (Nat.le_refl _) _).alloc (by simp) _⟩
end Go.Proofs.Ytccjekgbhablpaa
