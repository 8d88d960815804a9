/- Contracts of litmus: an instruction's checks. -/
import Derived.Test.YtccjekgbhablpaaLitA
import Derived.Deep.Draws
namespace Go.Proofs.Ytccjekgbhablpaa
set_option maxRecDepth 100000
open Go.RowKit

theorem isMemory_any (x : Ins) (w : World) :
    Calls Try.prog 21 #[insV x] w fun e w' => e = .returned (.bool (isMem x.op)) ∧ Below w.heap.size w w' := by
  have c : ∀ W, Calls Try.prog 36 #[insV x] W fun e w' => e = .returned (.agg #[.bool (krd x.op), .bool (kwr x.op)]) ∧ Below W.heap.size W w' := fun W => of_any x W
  unfold isMem
  unfold insV at c ⊢
  generalize krd x.op = a at *
  generalize kwr x.op = b at *
  have C := Bx.mk c; clear c
  cases a <;> cases b
  all_goals
    go_enter Try.func21, Try.ntmps21
    go_wp2_with (go_at_call 36; ((with_reducible refine (C.out _).mono ?_); rintro e w1 ⟨rfl, b1⟩; have B1 := Bx.mk b1; clear b1))
    go_ret
    exact ⟨by simp, ((Below.refl _ _).alloc (Nat.le_refl _) _).trans (B1.out.mono (by simp))⟩

set_option maxHeartbeats 3200000 in
theorem needed_any (x : Ins) (w : World) :
    Calls Try.prog 56 #[insV x] w fun e w' => e = .returned (insV (needM x)) ∧ Below w.heap.size w w' := by
  have h := op_cases x.op
  rcases h with h | h | h | h | h | h | h | h | h | h | h | h | h | h | h | h | h | h
  rotate_left 17
  · obtain ⟨h1, h2, h3, h4, h5, h6, h7, h8, h9, h10, h11, h12, h13, h14, h15, h16, h17⟩ : x.op ≠ 1 ∧ x.op ≠ 2 ∧ x.op ≠ 3 ∧ x.op ≠ 4 ∧ x.op ≠ 5 ∧ x.op ≠ 6 ∧ x.op ≠ 7 ∧ x.op ≠ 8 ∧ x.op ≠ 9 ∧ x.op ≠ 10 ∧ x.op ≠ 11 ∧ x.op ≠ 12 ∧ x.op ≠ 13 ∧ x.op ≠ 14 ∧ x.op ≠ 15 ∧ x.op ≠ 16 ∧ x.op ≠ 17 := by omega
    have h18 : ¬ (2 ≤ x.op ∧ x.op ≤ 8) := by omega
    have e : needM x = zeroI := by unfold needM; simp [*]
    rw [e]
    have E := Bx.mk e
    clear e h18 h
    rw [show insV x = .agg #[.int .i64 x.op, .int .i64 x.rd, .int .i64 x.loc, .bool x.ar, .int .u64 x.an, .bool x.br, .int .u64 x.bn, .bool x.acq, .bool x.rel, .int .i64 x.dep, .int .i64 x.pred, .int .i64 x.succ, .int .i64 x.skip] from rfl]
    go_enter Try.func56, Try.ntmps56
    go_wp2
    refine bodyPost_ret (v := insV zeroI) (by simp [results, go_sem, insV, zeroI]) rfl ⟨rfl, ((Below.refl _ _).alloc (Nat.le_refl _) _).alloc (by simp) _⟩
  all_goals
    rw [show insV x = .agg #[.int .i64 x.op, .int .i64 x.rd, .int .i64 x.loc, .bool x.ar, .int .u64 x.an, .bool x.br, .int .u64 x.bn, .bool x.acq, .bool x.rel, .int .i64 x.dep, .int .i64 x.pred, .int .i64 x.succ, .int .i64 x.skip] from rfl]
    go_enter Try.func56, Try.ntmps56
    go_wp2
    refine bodyPost_ret (v := insV (needM x)) (by simp [results, go_sem, insV, needM, zeroI, h]) rfl ⟨rfl, ((Below.refl _ _).alloc (Nat.le_refl _) _).alloc (by simp) _⟩
end Go.Proofs.Ytccjekgbhablpaa
