/- Contracts of litmus: check. -/
import Derived.Test.YtccjekgbhablpaaGk
import Derived.Deep.RegionWith
namespace Go.Proofs.Ytccjekgbhablpaa
set_option maxRecDepth 100000
open Go.RowKit

instance : DecidableEq Ins := fun a b => by
  cases a; cases b
  rw [Ins.mk.injEq]
  infer_instance

/-- what is wrong with an instruction -/
def chkM (x : Ins) (locs foll : Int) : Nat := if known x.op = false ∨ x ≠ needM x then 3 else if namesM x locs = false then 11 else if fitsM x = false then 3 else if x.skip < 0 ∨ foll < x.skip then 13 else 0
/-- a world in which an instruction lies at a block's beginning -/
structure At (W : World) (b : Nat) (x : Ins) : Prop where
  c0 : W.cell? ⟨b, 0, none⟩ = some (.int .i64 x.op)
  c1 : W.cell? ⟨b, 1, none⟩ = some (.int .i64 x.rd)
  c2 : W.cell? ⟨b, 2, none⟩ = some (.int .i64 x.loc)
  c3 : W.cell? ⟨b, 3, none⟩ = some (.bool x.ar)
  c4 : W.cell? ⟨b, 4, none⟩ = some (.int .u64 x.an)
  c5 : W.cell? ⟨b, 5, none⟩ = some (.bool x.br)
  c6 : W.cell? ⟨b, 6, none⟩ = some (.int .u64 x.bn)
  c7 : W.cell? ⟨b, 7, none⟩ = some (.bool x.acq)
  c8 : W.cell? ⟨b, 8, none⟩ = some (.bool x.rel)
  c9 : W.cell? ⟨b, 9, none⟩ = some (.int .i64 x.dep)
  c10 : W.cell? ⟨b, 10, none⟩ = some (.int .i64 x.pred)
  c11 : W.cell? ⟨b, 11, none⟩ = some (.int .i64 x.succ)
  c12 : W.cell? ⟨b, 12, none⟩ = some (.int .i64 x.skip)
theorem At.below {W W' : World} {b : Nat} {x : Ins} (h : At W b x) (hb : Below W.heap.size W W') : At W' b x :=
  ⟨cBel h.c0 hb, cBel h.c1 hb, cBel h.c2 hb, cBel h.c3 hb, cBel h.c4 hb, cBel h.c5 hb, cBel h.c6 hb, cBel h.c7 hb, cBel h.c8 hb, cBel h.c9 hb, cBel h.c10 hb, cBel h.c11 hb, cBel h.c12 hb⟩
theorem At.lt {W : World} {b : Nat} {x : Ins} (h : At W b x) : b < W.heap.size := World.block_lt_of_cell? W _ h.c0
theorem At.new (w : World) (x : Ins) (t : TypeId) : At (w.alloc (.cells (insC x).toArray t)) w.heap.size x := by
  have e := heap_alloc_new w (.cells (insC x).toArray t)
  exact ⟨cOf e 0, cOf e 1, cOf e 2, cOf e 3, cOf e 4, cOf e 5, cOf e 6, cOf e 7, cOf e 8, cOf e 9, cOf e 10, cOf e 11, cOf e 12⟩

set_option maxHeartbeats 3200000 in
theorem check_unknown (x : Ins) (locs foll : Int) (w : World) (C1 : Bx (∀ W, Calls Try.prog 55 #[.agg #[.int .i64 x.op, .int .i64 x.rd, .int .i64 x.loc, .bool x.ar, .int .u64 x.an, .bool x.br, .int .u64 x.bn, .bool x.acq, .bool x.rel, .int .i64 x.dep, .int .i64 x.pred, .int .i64 x.succ, .int .i64 x.skip]] W fun e w' => e = .returned (.bool false) ∧ Below W.heap.size W w')) : Calls Try.prog 33 #[.agg #[.int .i64 x.op, .int .i64 x.rd, .int .i64 x.loc, .bool x.ar, .int .u64 x.an, .bool x.br, .int .u64 x.bn, .bool x.acq, .bool x.rel, .int .i64 x.dep, .int .i64 x.pred, .int .i64 x.succ, .int .i64 x.skip], .int .i64 locs, .int .i64 foll] w fun e w' => e = .returned (.int .i64 3) ∧ Below w.heap.size w w' := by
  go_enter Try.func33, Try.ntmps33
  go_wp2_with fail
  go_region_with (go_at_call 55; ((with_reducible refine (C1.out _).mono ?_); rintro e w1 ⟨rfl, b1⟩))
  all_goals
    go_wp2_with fail
    go_ret
    exact ⟨rfl, bel ((aset _ _).drew) b1⟩
set_option maxHeartbeats 3200000 in
theorem check_more (x y : Ins) (locs foll : Int) (w : World) (C1 : Bx (∀ W, Calls Try.prog 55 #[.agg #[.int .i64 x.op, .int .i64 x.rd, .int .i64 x.loc, .bool x.ar, .int .u64 x.an, .bool x.br, .int .u64 x.bn, .bool x.acq, .bool x.rel, .int .i64 x.dep, .int .i64 x.pred, .int .i64 x.succ, .int .i64 x.skip]] W fun e w' => e = .returned (.bool true) ∧ Below W.heap.size W w')) (C2 : Bx (∀ W, Calls Try.prog 56 #[.agg #[.int .i64 x.op, .int .i64 x.rd, .int .i64 x.loc, .bool x.ar, .int .u64 x.an, .bool x.br, .int .u64 x.bn, .bool x.acq, .bool x.rel, .int .i64 x.dep, .int .i64 x.pred, .int .i64 x.succ, .int .i64 x.skip]] W fun e w' => e = .returned (.agg #[.int .i64 y.op, .int .i64 y.rd, .int .i64 y.loc, .bool y.ar, .int .u64 y.an, .bool y.br, .int .u64 y.bn, .bool y.acq, .bool y.rel, .int .i64 y.dep, .int .i64 y.pred, .int .i64 y.succ, .int .i64 y.skip]) ∧ Below W.heap.size W w')) (HAT : Bx (At (w.alloc (.cells (insC x).toArray 84)) w.heap.size x)) (hcm : ∀ W, (binOp .neq 84 (.agg #[.int .i64 x.op, .int .i64 x.rd, .int .i64 x.loc, .bool x.ar, .int .u64 x.an, .bool x.br, .int .u64 x.bn, .bool x.acq, .bool x.rel, .int .i64 x.dep, .int .i64 x.pred, .int .i64 x.succ, .int .i64 x.skip]) (.agg #[.int .i64 y.op, .int .i64 y.rd, .int .i64 y.loc, .bool y.ar, .int .u64 y.an, .bool y.br, .int .u64 y.bn, .bool y.acq, .bool y.rel, .int .i64 y.dep, .int .i64 y.pred, .int .i64 y.succ, .int .i64 y.skip])).run Try.prog W = .ok (.bool true) W) : Calls Try.prog 33 #[.agg #[.int .i64 x.op, .int .i64 x.rd, .int .i64 x.loc, .bool x.ar, .int .u64 x.an, .bool x.br, .int .u64 x.bn, .bool x.acq, .bool x.rel, .int .i64 x.dep, .int .i64 x.pred, .int .i64 x.succ, .int .i64 x.skip], .int .i64 locs, .int .i64 foll] w fun e w' => e = .returned (.int .i64 3) ∧ Below w.heap.size w w' := by
  go_enter Try.func33, Try.ntmps33
  go_wp2_with fail
  go_region_with (first
    | (go_at_call 55; ((with_reducible refine (C1.out _).mono ?_); rintro e w1 ⟨rfl, b1⟩; have a1 : At w1 w.heap.size x := At.below (W := (w.alloc (.cells (insC x).toArray 84)).drew) ⟨HAT.out.c0, HAT.out.c1, HAT.out.c2, HAT.out.c3, HAT.out.c4, HAT.out.c5, HAT.out.c6, HAT.out.c7, HAT.out.c8, HAT.out.c9, HAT.out.c10, HAT.out.c11, HAT.out.c12⟩ b1; obtain ⟨q0, q1, q2, q3, q4, q5, q6, q7, q8, q9, q10, q11, q12⟩ := a1))
    | (go_at_call 56; ((with_reducible refine (C2.out _).mono ?_); rintro e w2 ⟨rfl, b2⟩; obtain ⟨r0, r1, r2, r3, r4, r5, r6, r7, r8, r9, r10, r11, r12⟩ := At.below ⟨q0, q1, q2, q3, q4, q5, q6, q7, q8, q9, q10, q11, q12⟩ b2)))
  all_goals
    go_wp2_with fail
    go_ret
    exact ⟨rfl, bel (bel ((aset _ _).drew) b1) b2⟩
set_option maxHeartbeats 3200000 in
theorem check_names (x : Ins) (locs foll : Int) (w : World) (C1 : Bx (∀ W, Calls Try.prog 55 #[.agg #[.int .i64 x.op, .int .i64 x.rd, .int .i64 x.loc, .bool x.ar, .int .u64 x.an, .bool x.br, .int .u64 x.bn, .bool x.acq, .bool x.rel, .int .i64 x.dep, .int .i64 x.pred, .int .i64 x.succ, .int .i64 x.skip]] W fun e w' => e = .returned (.bool true) ∧ Below W.heap.size W w')) (C2 : Bx (∀ W, Calls Try.prog 56 #[.agg #[.int .i64 x.op, .int .i64 x.rd, .int .i64 x.loc, .bool x.ar, .int .u64 x.an, .bool x.br, .int .u64 x.bn, .bool x.acq, .bool x.rel, .int .i64 x.dep, .int .i64 x.pred, .int .i64 x.succ, .int .i64 x.skip]] W fun e w' => e = .returned (.agg #[.int .i64 x.op, .int .i64 x.rd, .int .i64 x.loc, .bool x.ar, .int .u64 x.an, .bool x.br, .int .u64 x.bn, .bool x.acq, .bool x.rel, .int .i64 x.dep, .int .i64 x.pred, .int .i64 x.succ, .int .i64 x.skip]) ∧ Below W.heap.size W w')) (C3 : Bx (∀ W, Calls Try.prog 57 #[.agg #[.int .i64 x.op, .int .i64 x.rd, .int .i64 x.loc, .bool x.ar, .int .u64 x.an, .bool x.br, .int .u64 x.bn, .bool x.acq, .bool x.rel, .int .i64 x.dep, .int .i64 x.pred, .int .i64 x.succ, .int .i64 x.skip], .int .i64 locs] W fun e w' => e = .returned (.bool false) ∧ Below W.heap.size W w'))  (HAT : Bx (At (w.alloc (.cells (insC x).toArray 84)) w.heap.size x)) (hcm : ∀ W, (binOp .neq 84 (.agg #[.int .i64 x.op, .int .i64 x.rd, .int .i64 x.loc, .bool x.ar, .int .u64 x.an, .bool x.br, .int .u64 x.bn, .bool x.acq, .bool x.rel, .int .i64 x.dep, .int .i64 x.pred, .int .i64 x.succ, .int .i64 x.skip]) (.agg #[.int .i64 x.op, .int .i64 x.rd, .int .i64 x.loc, .bool x.ar, .int .u64 x.an, .bool x.br, .int .u64 x.bn, .bool x.acq, .bool x.rel, .int .i64 x.dep, .int .i64 x.pred, .int .i64 x.succ, .int .i64 x.skip])).run Try.prog W = .ok (.bool false) W)  : Calls Try.prog 33 #[.agg #[.int .i64 x.op, .int .i64 x.rd, .int .i64 x.loc, .bool x.ar, .int .u64 x.an, .bool x.br, .int .u64 x.bn, .bool x.acq, .bool x.rel, .int .i64 x.dep, .int .i64 x.pred, .int .i64 x.succ, .int .i64 x.skip], .int .i64 locs, .int .i64 foll] w fun e w' => e = .returned (.int .i64 11) ∧ Below w.heap.size w w' := by
  go_enter Try.func33, Try.ntmps33
  go_wp2_with fail
  go_region_with (first
    | (go_at_call 55; ((with_reducible refine (C1.out _).mono ?_); rintro e w1 ⟨rfl, b1⟩; have a1 : At w1 w.heap.size x := At.below (W := (w.alloc (.cells (insC x).toArray 84)).drew) ⟨HAT.out.c0, HAT.out.c1, HAT.out.c2, HAT.out.c3, HAT.out.c4, HAT.out.c5, HAT.out.c6, HAT.out.c7, HAT.out.c8, HAT.out.c9, HAT.out.c10, HAT.out.c11, HAT.out.c12⟩ b1; obtain ⟨q0, q1, q2, q3, q4, q5, q6, q7, q8, q9, q10, q11, q12⟩ := a1))
    | (go_at_call 56; ((with_reducible refine (C2.out _).mono ?_); rintro e w2 ⟨rfl, b2⟩; obtain ⟨r0, r1, r2, r3, r4, r5, r6, r7, r8, r9, r10, r11, r12⟩ := At.below ⟨q0, q1, q2, q3, q4, q5, q6, q7, q8, q9, q10, q11, q12⟩ b2)))
  all_goals
    have A2 : Bx (At w2 w.heap.size x) := ⟨⟨r0, r1, r2, r3, r4, r5, r6, r7, r8, r9, r10, r11, r12⟩⟩
    have B2 : Bx (Below w.heap.size w w2) := ⟨bel (bel ((aset _ _).drew) b1) b2⟩
    clear b1 b2 q0 q1 q2 q3 q4 q5 q6 q7 q8 q9 q10 q11 q12 hcm
    go_wp2_with (first
      | (go_at_call 57; ((with_reducible refine (C3.out _).mono ?_); rintro e w3 ⟨rfl, b3⟩; have A3 := Bx.mk (A2.out.below b3); have B3 := Bx.mk (bel B2.out b3); clear b3; obtain ⟨s0, s1, s2, s3, s4, s5, s6, s7, s8, s9, s10, s11, s12⟩ := A3.out)))
    go_ret
    exact ⟨rfl, B3.out⟩
set_option maxHeartbeats 3200000 in
theorem check_fits (x : Ins) (locs foll : Int) (w : World) (C1 : Bx (∀ W, Calls Try.prog 55 #[.agg #[.int .i64 x.op, .int .i64 x.rd, .int .i64 x.loc, .bool x.ar, .int .u64 x.an, .bool x.br, .int .u64 x.bn, .bool x.acq, .bool x.rel, .int .i64 x.dep, .int .i64 x.pred, .int .i64 x.succ, .int .i64 x.skip]] W fun e w' => e = .returned (.bool true) ∧ Below W.heap.size W w')) (C2 : Bx (∀ W, Calls Try.prog 56 #[.agg #[.int .i64 x.op, .int .i64 x.rd, .int .i64 x.loc, .bool x.ar, .int .u64 x.an, .bool x.br, .int .u64 x.bn, .bool x.acq, .bool x.rel, .int .i64 x.dep, .int .i64 x.pred, .int .i64 x.succ, .int .i64 x.skip]] W fun e w' => e = .returned (.agg #[.int .i64 x.op, .int .i64 x.rd, .int .i64 x.loc, .bool x.ar, .int .u64 x.an, .bool x.br, .int .u64 x.bn, .bool x.acq, .bool x.rel, .int .i64 x.dep, .int .i64 x.pred, .int .i64 x.succ, .int .i64 x.skip]) ∧ Below W.heap.size W w')) (C3 : Bx (∀ W, Calls Try.prog 57 #[.agg #[.int .i64 x.op, .int .i64 x.rd, .int .i64 x.loc, .bool x.ar, .int .u64 x.an, .bool x.br, .int .u64 x.bn, .bool x.acq, .bool x.rel, .int .i64 x.dep, .int .i64 x.pred, .int .i64 x.succ, .int .i64 x.skip], .int .i64 locs] W fun e w' => e = .returned (.bool true) ∧ Below W.heap.size W w')) (C4 : Bx (∀ W, Calls Try.prog 58 #[.agg #[.int .i64 x.op, .int .i64 x.rd, .int .i64 x.loc, .bool x.ar, .int .u64 x.an, .bool x.br, .int .u64 x.bn, .bool x.acq, .bool x.rel, .int .i64 x.dep, .int .i64 x.pred, .int .i64 x.succ, .int .i64 x.skip]] W fun e w' => e = .returned (.bool false) ∧ Below W.heap.size W w')) (HAT : Bx (At (w.alloc (.cells (insC x).toArray 84)) w.heap.size x)) (hcm : ∀ W, (binOp .neq 84 (.agg #[.int .i64 x.op, .int .i64 x.rd, .int .i64 x.loc, .bool x.ar, .int .u64 x.an, .bool x.br, .int .u64 x.bn, .bool x.acq, .bool x.rel, .int .i64 x.dep, .int .i64 x.pred, .int .i64 x.succ, .int .i64 x.skip]) (.agg #[.int .i64 x.op, .int .i64 x.rd, .int .i64 x.loc, .bool x.ar, .int .u64 x.an, .bool x.br, .int .u64 x.bn, .bool x.acq, .bool x.rel, .int .i64 x.dep, .int .i64 x.pred, .int .i64 x.succ, .int .i64 x.skip])).run Try.prog W = .ok (.bool false) W)  : Calls Try.prog 33 #[.agg #[.int .i64 x.op, .int .i64 x.rd, .int .i64 x.loc, .bool x.ar, .int .u64 x.an, .bool x.br, .int .u64 x.bn, .bool x.acq, .bool x.rel, .int .i64 x.dep, .int .i64 x.pred, .int .i64 x.succ, .int .i64 x.skip], .int .i64 locs, .int .i64 foll] w fun e w' => e = .returned (.int .i64 3) ∧ Below w.heap.size w w' := by
  go_enter Try.func33, Try.ntmps33
  go_wp2_with fail
  go_region_with (first
    | (go_at_call 55; ((with_reducible refine (C1.out _).mono ?_); rintro e w1 ⟨rfl, b1⟩; have a1 : At w1 w.heap.size x := At.below (W := (w.alloc (.cells (insC x).toArray 84)).drew) ⟨HAT.out.c0, HAT.out.c1, HAT.out.c2, HAT.out.c3, HAT.out.c4, HAT.out.c5, HAT.out.c6, HAT.out.c7, HAT.out.c8, HAT.out.c9, HAT.out.c10, HAT.out.c11, HAT.out.c12⟩ b1; obtain ⟨q0, q1, q2, q3, q4, q5, q6, q7, q8, q9, q10, q11, q12⟩ := a1))
    | (go_at_call 56; ((with_reducible refine (C2.out _).mono ?_); rintro e w2 ⟨rfl, b2⟩; obtain ⟨r0, r1, r2, r3, r4, r5, r6, r7, r8, r9, r10, r11, r12⟩ := At.below ⟨q0, q1, q2, q3, q4, q5, q6, q7, q8, q9, q10, q11, q12⟩ b2)))
  all_goals
    have A2 : Bx (At w2 w.heap.size x) := ⟨⟨r0, r1, r2, r3, r4, r5, r6, r7, r8, r9, r10, r11, r12⟩⟩
    have B2 : Bx (Below w.heap.size w w2) := ⟨bel (bel ((aset _ _).drew) b1) b2⟩
    clear b1 b2 q0 q1 q2 q3 q4 q5 q6 q7 q8 q9 q10 q11 q12 hcm
    go_wp2_with (first
      | (go_at_call 57; ((with_reducible refine (C3.out _).mono ?_); rintro e w3 ⟨rfl, b3⟩; have A3 := Bx.mk (A2.out.below b3); have B3 := Bx.mk (bel B2.out b3); clear b3; obtain ⟨s0, s1, s2, s3, s4, s5, s6, s7, s8, s9, s10, s11, s12⟩ := A3.out))
      | (go_at_call 58; ((with_reducible refine (C4.out _).mono ?_); rintro e w4 ⟨rfl, b4⟩; have B3 := Bx.mk (bel B3.out b4); obtain ⟨u0, u1, u2, u3, u4, u5, u6, u7, u8, u9, u10, u11, u12⟩ := A3.out.below b4; clear b4)))
    go_ret
    exact ⟨rfl, B3.out⟩
set_option maxHeartbeats 3200000 in
theorem check_neg (x : Ins) (locs foll : Int) (w : World) (C1 : Bx (∀ W, Calls Try.prog 55 #[.agg #[.int .i64 x.op, .int .i64 x.rd, .int .i64 x.loc, .bool x.ar, .int .u64 x.an, .bool x.br, .int .u64 x.bn, .bool x.acq, .bool x.rel, .int .i64 x.dep, .int .i64 x.pred, .int .i64 x.succ, .int .i64 x.skip]] W fun e w' => e = .returned (.bool true) ∧ Below W.heap.size W w')) (C2 : Bx (∀ W, Calls Try.prog 56 #[.agg #[.int .i64 x.op, .int .i64 x.rd, .int .i64 x.loc, .bool x.ar, .int .u64 x.an, .bool x.br, .int .u64 x.bn, .bool x.acq, .bool x.rel, .int .i64 x.dep, .int .i64 x.pred, .int .i64 x.succ, .int .i64 x.skip]] W fun e w' => e = .returned (.agg #[.int .i64 x.op, .int .i64 x.rd, .int .i64 x.loc, .bool x.ar, .int .u64 x.an, .bool x.br, .int .u64 x.bn, .bool x.acq, .bool x.rel, .int .i64 x.dep, .int .i64 x.pred, .int .i64 x.succ, .int .i64 x.skip]) ∧ Below W.heap.size W w')) (C3 : Bx (∀ W, Calls Try.prog 57 #[.agg #[.int .i64 x.op, .int .i64 x.rd, .int .i64 x.loc, .bool x.ar, .int .u64 x.an, .bool x.br, .int .u64 x.bn, .bool x.acq, .bool x.rel, .int .i64 x.dep, .int .i64 x.pred, .int .i64 x.succ, .int .i64 x.skip], .int .i64 locs] W fun e w' => e = .returned (.bool true) ∧ Below W.heap.size W w')) (C4 : Bx (∀ W, Calls Try.prog 58 #[.agg #[.int .i64 x.op, .int .i64 x.rd, .int .i64 x.loc, .bool x.ar, .int .u64 x.an, .bool x.br, .int .u64 x.bn, .bool x.acq, .bool x.rel, .int .i64 x.dep, .int .i64 x.pred, .int .i64 x.succ, .int .i64 x.skip]] W fun e w' => e = .returned (.bool true) ∧ Below W.heap.size W w')) (HAT : Bx (At (w.alloc (.cells (insC x).toArray 84)) w.heap.size x)) (hcm : ∀ W, (binOp .neq 84 (.agg #[.int .i64 x.op, .int .i64 x.rd, .int .i64 x.loc, .bool x.ar, .int .u64 x.an, .bool x.br, .int .u64 x.bn, .bool x.acq, .bool x.rel, .int .i64 x.dep, .int .i64 x.pred, .int .i64 x.succ, .int .i64 x.skip]) (.agg #[.int .i64 x.op, .int .i64 x.rd, .int .i64 x.loc, .bool x.ar, .int .u64 x.an, .bool x.br, .int .u64 x.bn, .bool x.acq, .bool x.rel, .int .i64 x.dep, .int .i64 x.pred, .int .i64 x.succ, .int .i64 x.skip])).run Try.prog W = .ok (.bool false) W) (h : x.skip < 0) : Calls Try.prog 33 #[.agg #[.int .i64 x.op, .int .i64 x.rd, .int .i64 x.loc, .bool x.ar, .int .u64 x.an, .bool x.br, .int .u64 x.bn, .bool x.acq, .bool x.rel, .int .i64 x.dep, .int .i64 x.pred, .int .i64 x.succ, .int .i64 x.skip], .int .i64 locs, .int .i64 foll] w fun e w' => e = .returned (.int .i64 13) ∧ Below w.heap.size w w' := by
  go_enter Try.func33, Try.ntmps33
  go_wp2_with fail
  go_region_with (first
    | (go_at_call 55; ((with_reducible refine (C1.out _).mono ?_); rintro e w1 ⟨rfl, b1⟩; have a1 : At w1 w.heap.size x := At.below (W := (w.alloc (.cells (insC x).toArray 84)).drew) ⟨HAT.out.c0, HAT.out.c1, HAT.out.c2, HAT.out.c3, HAT.out.c4, HAT.out.c5, HAT.out.c6, HAT.out.c7, HAT.out.c8, HAT.out.c9, HAT.out.c10, HAT.out.c11, HAT.out.c12⟩ b1; obtain ⟨q0, q1, q2, q3, q4, q5, q6, q7, q8, q9, q10, q11, q12⟩ := a1))
    | (go_at_call 56; ((with_reducible refine (C2.out _).mono ?_); rintro e w2 ⟨rfl, b2⟩; obtain ⟨r0, r1, r2, r3, r4, r5, r6, r7, r8, r9, r10, r11, r12⟩ := At.below ⟨q0, q1, q2, q3, q4, q5, q6, q7, q8, q9, q10, q11, q12⟩ b2)))
  all_goals
    have A2 : Bx (At w2 w.heap.size x) := ⟨⟨r0, r1, r2, r3, r4, r5, r6, r7, r8, r9, r10, r11, r12⟩⟩
    have B2 : Bx (Below w.heap.size w w2) := ⟨bel (bel ((aset _ _).drew) b1) b2⟩
    clear b1 b2 q0 q1 q2 q3 q4 q5 q6 q7 q8 q9 q10 q11 q12 hcm
    go_wp2_with (first
      | (go_at_call 57; ((with_reducible refine (C3.out _).mono ?_); rintro e w3 ⟨rfl, b3⟩; have A3 := Bx.mk (A2.out.below b3); have B3 := Bx.mk (bel B2.out b3); clear b3; obtain ⟨s0, s1, s2, s3, s4, s5, s6, s7, s8, s9, s10, s11, s12⟩ := A3.out))
      | (go_at_call 58; ((with_reducible refine (C4.out _).mono ?_); rintro e w4 ⟨rfl, b4⟩; have B3 := Bx.mk (bel B3.out b4); obtain ⟨u0, u1, u2, u3, u4, u5, u6, u7, u8, u9, u10, u11, u12⟩ := A3.out.below b4; clear b4)))
    go_ret
    exact ⟨rfl, B3.out⟩
set_option maxHeartbeats 3200000 in
theorem check_far (x : Ins) (locs foll : Int) (w : World) (C1 : Bx (∀ W, Calls Try.prog 55 #[.agg #[.int .i64 x.op, .int .i64 x.rd, .int .i64 x.loc, .bool x.ar, .int .u64 x.an, .bool x.br, .int .u64 x.bn, .bool x.acq, .bool x.rel, .int .i64 x.dep, .int .i64 x.pred, .int .i64 x.succ, .int .i64 x.skip]] W fun e w' => e = .returned (.bool true) ∧ Below W.heap.size W w')) (C2 : Bx (∀ W, Calls Try.prog 56 #[.agg #[.int .i64 x.op, .int .i64 x.rd, .int .i64 x.loc, .bool x.ar, .int .u64 x.an, .bool x.br, .int .u64 x.bn, .bool x.acq, .bool x.rel, .int .i64 x.dep, .int .i64 x.pred, .int .i64 x.succ, .int .i64 x.skip]] W fun e w' => e = .returned (.agg #[.int .i64 x.op, .int .i64 x.rd, .int .i64 x.loc, .bool x.ar, .int .u64 x.an, .bool x.br, .int .u64 x.bn, .bool x.acq, .bool x.rel, .int .i64 x.dep, .int .i64 x.pred, .int .i64 x.succ, .int .i64 x.skip]) ∧ Below W.heap.size W w')) (C3 : Bx (∀ W, Calls Try.prog 57 #[.agg #[.int .i64 x.op, .int .i64 x.rd, .int .i64 x.loc, .bool x.ar, .int .u64 x.an, .bool x.br, .int .u64 x.bn, .bool x.acq, .bool x.rel, .int .i64 x.dep, .int .i64 x.pred, .int .i64 x.succ, .int .i64 x.skip], .int .i64 locs] W fun e w' => e = .returned (.bool true) ∧ Below W.heap.size W w')) (C4 : Bx (∀ W, Calls Try.prog 58 #[.agg #[.int .i64 x.op, .int .i64 x.rd, .int .i64 x.loc, .bool x.ar, .int .u64 x.an, .bool x.br, .int .u64 x.bn, .bool x.acq, .bool x.rel, .int .i64 x.dep, .int .i64 x.pred, .int .i64 x.succ, .int .i64 x.skip]] W fun e w' => e = .returned (.bool true) ∧ Below W.heap.size W w')) (HAT : Bx (At (w.alloc (.cells (insC x).toArray 84)) w.heap.size x)) (hcm : ∀ W, (binOp .neq 84 (.agg #[.int .i64 x.op, .int .i64 x.rd, .int .i64 x.loc, .bool x.ar, .int .u64 x.an, .bool x.br, .int .u64 x.bn, .bool x.acq, .bool x.rel, .int .i64 x.dep, .int .i64 x.pred, .int .i64 x.succ, .int .i64 x.skip]) (.agg #[.int .i64 x.op, .int .i64 x.rd, .int .i64 x.loc, .bool x.ar, .int .u64 x.an, .bool x.br, .int .u64 x.bn, .bool x.acq, .bool x.rel, .int .i64 x.dep, .int .i64 x.pred, .int .i64 x.succ, .int .i64 x.skip])).run Try.prog W = .ok (.bool false) W) (h : 0 ≤ x.skip) (h2 : foll < x.skip) : Calls Try.prog 33 #[.agg #[.int .i64 x.op, .int .i64 x.rd, .int .i64 x.loc, .bool x.ar, .int .u64 x.an, .bool x.br, .int .u64 x.bn, .bool x.acq, .bool x.rel, .int .i64 x.dep, .int .i64 x.pred, .int .i64 x.succ, .int .i64 x.skip], .int .i64 locs, .int .i64 foll] w fun e w' => e = .returned (.int .i64 13) ∧ Below w.heap.size w w' := by
  go_enter Try.func33, Try.ntmps33
  go_wp2_with fail
  go_region_with (first
    | (go_at_call 55; ((with_reducible refine (C1.out _).mono ?_); rintro e w1 ⟨rfl, b1⟩; have a1 : At w1 w.heap.size x := At.below (W := (w.alloc (.cells (insC x).toArray 84)).drew) ⟨HAT.out.c0, HAT.out.c1, HAT.out.c2, HAT.out.c3, HAT.out.c4, HAT.out.c5, HAT.out.c6, HAT.out.c7, HAT.out.c8, HAT.out.c9, HAT.out.c10, HAT.out.c11, HAT.out.c12⟩ b1; obtain ⟨q0, q1, q2, q3, q4, q5, q6, q7, q8, q9, q10, q11, q12⟩ := a1))
    | (go_at_call 56; ((with_reducible refine (C2.out _).mono ?_); rintro e w2 ⟨rfl, b2⟩; obtain ⟨r0, r1, r2, r3, r4, r5, r6, r7, r8, r9, r10, r11, r12⟩ := At.below ⟨q0, q1, q2, q3, q4, q5, q6, q7, q8, q9, q10, q11, q12⟩ b2)))
  all_goals
    have A2 : Bx (At w2 w.heap.size x) := ⟨⟨r0, r1, r2, r3, r4, r5, r6, r7, r8, r9, r10, r11, r12⟩⟩
    have B2 : Bx (Below w.heap.size w w2) := ⟨bel (bel ((aset _ _).drew) b1) b2⟩
    clear b1 b2 q0 q1 q2 q3 q4 q5 q6 q7 q8 q9 q10 q11 q12 hcm
    go_wp2_with (first
      | (go_at_call 57; ((with_reducible refine (C3.out _).mono ?_); rintro e w3 ⟨rfl, b3⟩; have A3 := Bx.mk (A2.out.below b3); have B3 := Bx.mk (bel B2.out b3); clear b3; obtain ⟨s0, s1, s2, s3, s4, s5, s6, s7, s8, s9, s10, s11, s12⟩ := A3.out))
      | (go_at_call 58; ((with_reducible refine (C4.out _).mono ?_); rintro e w4 ⟨rfl, b4⟩; have B3 := Bx.mk (bel B3.out b4); obtain ⟨u0, u1, u2, u3, u4, u5, u6, u7, u8, u9, u10, u11, u12⟩ := A3.out.below b4; clear b4)))
    go_ret
    exact ⟨rfl, B3.out⟩
set_option maxHeartbeats 3200000 in
theorem check_good (x : Ins) (locs foll : Int) (w : World) (C1 : Bx (∀ W, Calls Try.prog 55 #[.agg #[.int .i64 x.op, .int .i64 x.rd, .int .i64 x.loc, .bool x.ar, .int .u64 x.an, .bool x.br, .int .u64 x.bn, .bool x.acq, .bool x.rel, .int .i64 x.dep, .int .i64 x.pred, .int .i64 x.succ, .int .i64 x.skip]] W fun e w' => e = .returned (.bool true) ∧ Below W.heap.size W w')) (C2 : Bx (∀ W, Calls Try.prog 56 #[.agg #[.int .i64 x.op, .int .i64 x.rd, .int .i64 x.loc, .bool x.ar, .int .u64 x.an, .bool x.br, .int .u64 x.bn, .bool x.acq, .bool x.rel, .int .i64 x.dep, .int .i64 x.pred, .int .i64 x.succ, .int .i64 x.skip]] W fun e w' => e = .returned (.agg #[.int .i64 x.op, .int .i64 x.rd, .int .i64 x.loc, .bool x.ar, .int .u64 x.an, .bool x.br, .int .u64 x.bn, .bool x.acq, .bool x.rel, .int .i64 x.dep, .int .i64 x.pred, .int .i64 x.succ, .int .i64 x.skip]) ∧ Below W.heap.size W w')) (C3 : Bx (∀ W, Calls Try.prog 57 #[.agg #[.int .i64 x.op, .int .i64 x.rd, .int .i64 x.loc, .bool x.ar, .int .u64 x.an, .bool x.br, .int .u64 x.bn, .bool x.acq, .bool x.rel, .int .i64 x.dep, .int .i64 x.pred, .int .i64 x.succ, .int .i64 x.skip], .int .i64 locs] W fun e w' => e = .returned (.bool true) ∧ Below W.heap.size W w')) (C4 : Bx (∀ W, Calls Try.prog 58 #[.agg #[.int .i64 x.op, .int .i64 x.rd, .int .i64 x.loc, .bool x.ar, .int .u64 x.an, .bool x.br, .int .u64 x.bn, .bool x.acq, .bool x.rel, .int .i64 x.dep, .int .i64 x.pred, .int .i64 x.succ, .int .i64 x.skip]] W fun e w' => e = .returned (.bool true) ∧ Below W.heap.size W w')) (HAT : Bx (At (w.alloc (.cells (insC x).toArray 84)) w.heap.size x)) (hcm : ∀ W, (binOp .neq 84 (.agg #[.int .i64 x.op, .int .i64 x.rd, .int .i64 x.loc, .bool x.ar, .int .u64 x.an, .bool x.br, .int .u64 x.bn, .bool x.acq, .bool x.rel, .int .i64 x.dep, .int .i64 x.pred, .int .i64 x.succ, .int .i64 x.skip]) (.agg #[.int .i64 x.op, .int .i64 x.rd, .int .i64 x.loc, .bool x.ar, .int .u64 x.an, .bool x.br, .int .u64 x.bn, .bool x.acq, .bool x.rel, .int .i64 x.dep, .int .i64 x.pred, .int .i64 x.succ, .int .i64 x.skip])).run Try.prog W = .ok (.bool false) W) (h : 0 ≤ x.skip) (h2 : x.skip ≤ foll) : Calls Try.prog 33 #[.agg #[.int .i64 x.op, .int .i64 x.rd, .int .i64 x.loc, .bool x.ar, .int .u64 x.an, .bool x.br, .int .u64 x.bn, .bool x.acq, .bool x.rel, .int .i64 x.dep, .int .i64 x.pred, .int .i64 x.succ, .int .i64 x.skip], .int .i64 locs, .int .i64 foll] w fun e w' => e = .returned (.int .i64 0) ∧ Below w.heap.size w w' := by
  go_enter Try.func33, Try.ntmps33
  go_wp2_with fail
  go_region_with (first
    | (go_at_call 55; ((with_reducible refine (C1.out _).mono ?_); rintro e w1 ⟨rfl, b1⟩; have a1 : At w1 w.heap.size x := At.below (W := (w.alloc (.cells (insC x).toArray 84)).drew) ⟨HAT.out.c0, HAT.out.c1, HAT.out.c2, HAT.out.c3, HAT.out.c4, HAT.out.c5, HAT.out.c6, HAT.out.c7, HAT.out.c8, HAT.out.c9, HAT.out.c10, HAT.out.c11, HAT.out.c12⟩ b1; obtain ⟨q0, q1, q2, q3, q4, q5, q6, q7, q8, q9, q10, q11, q12⟩ := a1))
    | (go_at_call 56; ((with_reducible refine (C2.out _).mono ?_); rintro e w2 ⟨rfl, b2⟩; obtain ⟨r0, r1, r2, r3, r4, r5, r6, r7, r8, r9, r10, r11, r12⟩ := At.below ⟨q0, q1, q2, q3, q4, q5, q6, q7, q8, q9, q10, q11, q12⟩ b2)))
  all_goals
    have A2 : Bx (At w2 w.heap.size x) := ⟨⟨r0, r1, r2, r3, r4, r5, r6, r7, r8, r9, r10, r11, r12⟩⟩
    have B2 : Bx (Below w.heap.size w w2) := ⟨bel (bel ((aset _ _).drew) b1) b2⟩
    clear b1 b2 q0 q1 q2 q3 q4 q5 q6 q7 q8 q9 q10 q11 q12 hcm
    go_wp2_with (first
      | (go_at_call 57; ((with_reducible refine (C3.out _).mono ?_); rintro e w3 ⟨rfl, b3⟩; have A3 := Bx.mk (A2.out.below b3); have B3 := Bx.mk (bel B2.out b3); clear b3; obtain ⟨s0, s1, s2, s3, s4, s5, s6, s7, s8, s9, s10, s11, s12⟩ := A3.out))
      | (go_at_call 58; ((with_reducible refine (C4.out _).mono ?_); rintro e w4 ⟨rfl, b4⟩; have B3 := Bx.mk (bel B3.out b4); obtain ⟨u0, u1, u2, u3, u4, u5, u6, u7, u8, u9, u10, u11, u12⟩ := A3.out.below b4; clear b4)))
    go_ret
    exact ⟨rfl, B3.out⟩
theorem check_any (x : Ins) (locs foll : Int) (w : World) :
    Calls Try.prog 33 #[insV x, .int .i64 locs, .int .i64 foll] w fun e w' => e = .returned (.int .i64 (chkM x locs foll : Nat)) ∧ Below w.heap.size w w' := by
  have c1 : ∀ W, Calls Try.prog 55 #[insV x] W fun e w' => e = .returned (.bool (known x.op)) ∧ Below W.heap.size W w' := fun W => isKnown_any x W
  have c2 : ∀ W, Calls Try.prog 56 #[insV x] W fun e w' => e = .returned (insV (needM x)) ∧ Below W.heap.size W w' := fun W => needed_any x W
  have c3 : ∀ W, Calls Try.prog 57 #[insV x, .int .i64 locs] W fun e w' => e = .returned (.bool (namesM x locs)) ∧ Below W.heap.size W w' := fun W => names_any x locs W
  have c4 : ∀ W, Calls Try.prog 58 #[insV x] W fun e w' => e = .returned (.bool (fitsM x)) ∧ Below W.heap.size W w' := fun W => fits_any x W
  have hat := Bx.mk (At.new w x 84)
  have hc : chkM x locs foll = if known x.op = false ∨ x ≠ needM x then 3 else if namesM x locs = false then 11 else if fitsM x = false then 3 else if x.skip < 0 ∨ foll < x.skip then 13 else 0 := rfl
  cases hk : known x.op with
  | false =>
    rw [hk, if_pos (.inl rfl)] at hc
    rw [hc]; rw [hk] at c1
    exact check_unknown x locs foll w ⟨c1⟩
  | true =>
    rw [hk] at c1
    by_cases hn : x = needM x
    · rw [hk, if_neg (fun h => h.elim (fun h => by cases h) (fun h => h hn))] at hc
      rw [← hn] at c2
      have hcm := fun W => ins_same x W
      cases h3 : namesM x locs with
      | false =>
        rw [h3, if_pos rfl] at hc
        rw [hc]; rw [h3] at c3
        exact check_names x locs foll w ⟨c1⟩ ⟨c2⟩ ⟨c3⟩ hat hcm
      | true =>
        rw [h3, if_neg (by decide)] at hc
        rw [h3] at c3
        cases h4 : fitsM x with
        | false =>
          rw [h4, if_pos rfl] at hc
          rw [hc]; rw [h4] at c4
          exact check_fits x locs foll w ⟨c1⟩ ⟨c2⟩ ⟨c3⟩ ⟨c4⟩ hat hcm
        | true =>
          rw [h4, if_neg (by decide)] at hc
          rw [h4] at c4
          by_cases h5 : x.skip < 0
          · rw [if_pos (.inl h5)] at hc
            rw [hc]
            exact check_neg x locs foll w ⟨c1⟩ ⟨c2⟩ ⟨c3⟩ ⟨c4⟩ hat hcm h5
          · by_cases h6 : foll < x.skip
            · rw [if_pos (.inr h6)] at hc
              rw [hc]
              exact check_far x locs foll w ⟨c1⟩ ⟨c2⟩ ⟨c3⟩ ⟨c4⟩ hat hcm (by omega) h6
            · rw [if_neg (by omega)] at hc
              rw [hc]
              exact check_good x locs foll w ⟨c1⟩ ⟨c2⟩ ⟨c3⟩ ⟨c4⟩ hat hcm (by omega) (by omega)
    · rw [if_pos (.inr hn)] at hc
      rw [hc]
      exact check_more x (needM x) locs foll w ⟨c1⟩ ⟨c2⟩ hat (fun W => ins_cmp x (needM x) hn W)
end Go.Proofs.Ytccjekgbhablpaa
