/- Contracts of litmus: is an instruction good? -/
import Derived.Test.YteeicedhnojdaaaLitB
namespace Go.Proofs.Yteeicedhnojdaaa
set_option maxRecDepth 100000
open Go.RowKit

theorem nBlock {w w2 : World} {o : Obj} (b : Below (w.alloc o).heap.size (w.alloc o) w2) : w2.heap[w.heap.size]? = some o := (b.block w.heap.size (by simp)).trans (heap_alloc_new _ _)
theorem cOf {w : World} {b : Nat} {C : Array Value} {t : TypeId} {fr : Nat × Nat} (h : w.heap[b]? = some (.cells C t fr)) (o : Nat) : w.cell? ⟨b, o, none⟩ = C[o]? := by simp [World.cell?, h]
theorem tOf {w : World} {b : Nat} {C : Array Value} {t : TypeId} (h : w.heap[b]? = some (.cells C t (0, 0))) (o : Nat) : w.frozen? ⟨b, o, none⟩ = false := by simp [World.frozen?, h]
theorem cBel {w w' : World} {b o : Nat} {v : Value} (h : w.cell? ⟨b, o, none⟩ = some v) (hb : Below w.heap.size w w') : w'.cell? ⟨b, o, none⟩ = some v := by
  rw [hb.cell (World.block_lt_of_cell? w _ h)]; exact h

theorem insV_eq (x : Ins) : insV x = .agg #[.int .i64 x.op, .int .i64 x.rd, .int .i64 x.loc, .bool x.ar, .int .u64 x.an, .bool x.br, .int .u64 x.bn, .bool x.acq, .bool x.rel, .int .i64 x.dep, .int .i64 x.pred, .int .i64 x.succ, .int .i64 x.skip] := rfl
theorem aset (w : World) (o : Obj) : Below w.heap.size w (w.alloc o) := (Below.refl _ _).alloc (Nat.le_refl _) _

set_option maxHeartbeats 3200000 in
theorem names_any (x : Ins) (locs : Int) (w : World) :
    Calls Try.prog 64 #[insV x, .int .i64 locs] w fun e w' => e = .returned (.bool (namesM x locs)) ∧ Below w.heap.size w w' := by
  have c1 := fun W => isMemory_any x W
  have c2 := fun W => isIndex_any x.loc locs W
  have c3 := fun W => isRegister_any x.rd W
  have c4 := fun W => isThere_any x.ar x.an W
  have c5 := fun W => isThere_any x.br x.bn W
  have c6 := fun W => isIndex_any x.dep 9 W
  unfold namesM
  rw [insV_eq] at c1 ⊢
  generalize isMem x.op = b1 at *
  generalize idx x.loc locs = b2 at *
  generalize idx x.rd 8 = b3 at *
  generalize argOk x.ar x.an = b4 at *
  generalize argOk x.br x.bn = b5 at *
  generalize idx x.dep 9 = b6 at *
  have C1 := Bx.mk c1; have C2 := Bx.mk c2; have C3 := Bx.mk c3; have C4 := Bx.mk c4; have C5 := Bx.mk c5; have C6 := Bx.mk c6
  clear c1 c2 c3 c4 c5 c6
  go_enter Try.func64, Try.ntmps64
  cases b1 <;> cases b2 <;> cases b3 <;> cases b4 <;> cases b5
  all_goals
    go_wp2_with (first
      | (go_at_call 26; ((with_reducible refine (C1.out _).mono ?_); rintro e w1 ⟨rfl, b1⟩; have X := nBlock b1; have B1 := Bx.mk (bel (aset _ _) b1); clear b1; have y1 := cOf X 1; have y2 := cOf X 2; have y3 := cOf X 3; have y4 := cOf X 4; have y5 := cOf X 5; have y6 := cOf X 6; have y9 := cOf X 9; simp at y1 y2 y3 y4 y5 y6 y9; clear X))
      | (go_at_call 66; first
        | ((with_reducible refine (C2.out _).mono ?_); rintro e w' ⟨rfl, rfl⟩)
        | ((with_reducible refine (C6.out _).mono ?_); rintro e w' ⟨rfl, rfl⟩))
      | (go_at_call 67; ((with_reducible refine (C3.out _).mono ?_); rintro e w' ⟨rfl, rfl⟩))
      | (go_at_call 85; ((with_reducible refine (C4.out _).mono ?_); rintro e w2 ⟨rfl, b2⟩; have y3 := cBel y3 b2; have y4 := cBel y4 b2; have y5 := cBel y5 b2; have y6 := cBel y6 b2; have y9 := cBel y9 b2; have B1 := Bx.mk (bel B1.out b2); clear b2))
      | (go_at_call 85; ((with_reducible refine (C5.out _).mono ?_); rintro e w3 ⟨rfl, b2⟩; have y9 := cBel y9 b2; have B1 := Bx.mk (bel B1.out b2); clear b2)))
    go_ret
    exact ⟨by simp, B1.out⟩
end Go.Proofs.Yteeicedhnojdaaa
