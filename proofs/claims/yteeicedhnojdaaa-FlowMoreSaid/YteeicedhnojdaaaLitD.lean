/- Contracts of litmus: fits, check. -/
import Derived.Test.YteeicedhnojdaaaLitC
namespace Go.Proofs.Yteeicedhnojdaaa
set_option maxRecDepth 100000
open Go.RowKit

set_option maxHeartbeats 3200000 in
theorem fits_li (rd loc an bn dep pred succ skip : Int) (ar br acq rel kr kw s1 s2 : Bool) (w : World) 
    (C0 : Bx (∀ W, Calls Try.prog 46 #[.agg #[.int .i64 1, .int .i64 rd, .int .i64 loc, .bool ar, .int .u64 an, .bool br, .int .u64 bn, .bool acq, .bool rel, .int .i64 dep, .int .i64 pred, .int .i64 succ, .int .i64 skip]] W fun e w' => e = .returned (.agg #[.bool kr, .bool kw]) ∧ Below W.heap.size W w'))
    (C1 : Bx (∀ W, Calls Try.prog 86 #[.int .i64 pred] W fun e w' => e = .returned (.bool s1) ∧ W = w')) (C2 : Bx (∀ W, Calls Try.prog 86 #[.int .i64 succ] W fun e w' => e = .returned (.bool s2) ∧ W = w')) :
    Calls Try.prog 65 #[.agg #[.int .i64 1, .int .i64 rd, .int .i64 loc, .bool ar, .int .u64 an, .bool br, .int .u64 bn, .bool acq, .bool rel, .int .i64 dep, .int .i64 pred, .int .i64 succ, .int .i64 skip]] w fun e w' => e = .returned (.bool (!ar && ((kr || !acq) && (kw || !rel)))) ∧ Below w.heap.size w w' := by
  have k1 := C1; have k2 := C2; clear k1 k2
  have h : ar = true ∨ (ar = false ∧ (kr = true ∨ kr = false) ∧ (kw = true ∨ kw = false) ∧ (acq = true ∨ acq = false)) := by clear C0; revert ar kr kw acq; decide
  rcases h with rfl | ⟨rfl, rfl | rfl, rfl | rfl, rfl | rfl⟩
  all_goals
    go_enter Try.func65, Try.ntmps65
    go_wp2_with (first
    | (go_at_call 46; ((with_reducible refine (C0.out _).mono ?_); rintro e w1 ⟨rfl, b1⟩; have X := nBlock b1; have B1 := Bx.mk (bel (aset _ _) b1); clear b1; have y0 := cOf X 0; have y3 := cOf X 3; have y7 := cOf X 7; have y8 := cOf X 8; have y10 := cOf X 10; have y11 := cOf X 11; simp at y0 y3 y7 y8 y10 y11; have hlt : w.heap.size < w1.heap.size := World.block_lt_of_cell? w1 _ y0; clear X))
    | (go_at_call 86; first
      | ((with_reducible refine (C1.out _).mono ?_); rintro e w' ⟨rfl, rfl⟩)
      | ((with_reducible refine (C2.out _).mono ?_); rintro e w' ⟨rfl, rfl⟩)))
    go_ret
    exact ⟨by simp, B1.out.alloc B1.out.size _⟩
set_option maxHeartbeats 3200000 in
theorem fits_fence (rd loc an bn dep pred succ skip : Int) (ar br acq rel kr kw s1 s2 : Bool) (w : World) 
    (C0 : Bx (∀ W, Calls Try.prog 46 #[.agg #[.int .i64 15, .int .i64 rd, .int .i64 loc, .bool ar, .int .u64 an, .bool br, .int .u64 bn, .bool acq, .bool rel, .int .i64 dep, .int .i64 pred, .int .i64 succ, .int .i64 skip]] W fun e w' => e = .returned (.agg #[.bool kr, .bool kw]) ∧ Below W.heap.size W w'))
    (C1 : Bx (∀ W, Calls Try.prog 86 #[.int .i64 pred] W fun e w' => e = .returned (.bool s1) ∧ W = w')) (C2 : Bx (∀ W, Calls Try.prog 86 #[.int .i64 succ] W fun e w' => e = .returned (.bool s2) ∧ W = w')) :
    Calls Try.prog 65 #[.agg #[.int .i64 15, .int .i64 rd, .int .i64 loc, .bool ar, .int .u64 an, .bool br, .int .u64 bn, .bool acq, .bool rel, .int .i64 dep, .int .i64 pred, .int .i64 succ, .int .i64 skip]] w fun e w' => e = .returned (.bool ((s1 && s2) && ((kr || !acq) && (kw || !rel)))) ∧ Below w.heap.size w w' := by
  have h : s1 = false ∨ (s1 = true ∧ s2 = false) ∨ (s1 = true ∧ s2 = true ∧ (kr = true ∨ kr = false) ∧ (kw = true ∨ kw = false) ∧ (acq = true ∨ acq = false)) := by clear C0 C1 C2; revert s1 s2 kr kw acq; decide
  rcases h with rfl | ⟨rfl, rfl⟩ | ⟨rfl, rfl, rfl | rfl, rfl | rfl, rfl | rfl⟩
  all_goals
    go_enter Try.func65, Try.ntmps65
    go_wp2_with (first
    | (go_at_call 46; ((with_reducible refine (C0.out _).mono ?_); rintro e w1 ⟨rfl, b1⟩; have X := nBlock b1; have B1 := Bx.mk (bel (aset _ _) b1); clear b1; have y0 := cOf X 0; have y3 := cOf X 3; have y7 := cOf X 7; have y8 := cOf X 8; have y10 := cOf X 10; have y11 := cOf X 11; simp at y0 y3 y7 y8 y10 y11; have hlt : w.heap.size < w1.heap.size := World.block_lt_of_cell? w1 _ y0; clear X))
    | (go_at_call 86; first
      | ((with_reducible refine (C1.out _).mono ?_); rintro e w' ⟨rfl, rfl⟩)
      | ((with_reducible refine (C2.out _).mono ?_); rintro e w' ⟨rfl, rfl⟩)))
    go_ret
    exact ⟨by simp, B1.out.alloc B1.out.size _⟩
set_option maxHeartbeats 3200000 in
theorem fits_else (op rd loc an bn dep pred succ skip : Int) (ar br acq rel kr kw s1 s2 : Bool) (w : World) (h1 : ((op : Int) == 1) = false) (h2 : ((op : Int) == 15) = false)
    (C0 : Bx (∀ W, Calls Try.prog 46 #[.agg #[.int .i64 op, .int .i64 rd, .int .i64 loc, .bool ar, .int .u64 an, .bool br, .int .u64 bn, .bool acq, .bool rel, .int .i64 dep, .int .i64 pred, .int .i64 succ, .int .i64 skip]] W fun e w' => e = .returned (.agg #[.bool kr, .bool kw]) ∧ Below W.heap.size W w'))
    (C1 : Bx (∀ W, Calls Try.prog 86 #[.int .i64 pred] W fun e w' => e = .returned (.bool s1) ∧ W = w')) (C2 : Bx (∀ W, Calls Try.prog 86 #[.int .i64 succ] W fun e w' => e = .returned (.bool s2) ∧ W = w')) :
    Calls Try.prog 65 #[.agg #[.int .i64 op, .int .i64 rd, .int .i64 loc, .bool ar, .int .u64 an, .bool br, .int .u64 bn, .bool acq, .bool rel, .int .i64 dep, .int .i64 pred, .int .i64 succ, .int .i64 skip]] w fun e w' => e = .returned (.bool (((kr || !acq) && (kw || !rel)))) ∧ Below w.heap.size w w' := by
  have k1 := C1; have k2 := C2; clear k1 k2
  go_enter Try.func65, Try.ntmps65
  cases kr <;> cases kw <;> cases acq
  all_goals
    go_wp2_with (first
    | (go_at_call 46; ((with_reducible refine (C0.out _).mono ?_); rintro e w1 ⟨rfl, b1⟩; have X := nBlock b1; have B1 := Bx.mk (bel (aset _ _) b1); clear b1; have y0 := cOf X 0; have y3 := cOf X 3; have y7 := cOf X 7; have y8 := cOf X 8; have y10 := cOf X 10; have y11 := cOf X 11; simp at y0 y3 y7 y8 y10 y11; have hlt : w.heap.size < w1.heap.size := World.block_lt_of_cell? w1 _ y0; clear X))
    | (go_at_call 86; first
      | ((with_reducible refine (C1.out _).mono ?_); rintro e w' ⟨rfl, rfl⟩)
      | ((with_reducible refine (C2.out _).mono ?_); rintro e w' ⟨rfl, rfl⟩)))
    go_ret
    exact ⟨by simp, B1.out.alloc B1.out.size _⟩
theorem fits_any (x : Ins) (w : World) :
    Calls Try.prog 65 #[insV x] w fun e w' => e = .returned (.bool (fitsM x)) ∧ Below w.heap.size w w' := by
  have c0 : ∀ W, Calls Try.prog 46 #[insV x] W fun e w' => e = .returned (.agg #[.bool (krd x.op), .bool (kwr x.op)]) ∧ Below W.heap.size W w' := fun W => of_any x W
  have c1 := fun W => isSide_any x.pred W
  have c2 := fun W => isSide_any x.succ W
  rw [insV_eq] at c0 ⊢
  by_cases h1 : x.op = 1
  · rw [h1] at c0 ⊢
    refine (fits_li x.rd x.loc x.an x.bn x.dep x.pred x.succ x.skip x.ar x.br x.acq x.rel _ _ (sideM x.pred) (sideM x.succ) w ⟨c0⟩ ⟨c1⟩ ⟨c2⟩).mono fun e w' ⟨h2, h3⟩ => ⟨h2.trans ?_, h3⟩
    unfold fitsM
    rw [h1]; simp
  · by_cases h2 : x.op = 15
    · rw [h2] at c0 ⊢
      refine (fits_fence x.rd x.loc x.an x.bn x.dep x.pred x.succ x.skip x.ar x.br x.acq x.rel _ _ (sideM x.pred) (sideM x.succ) w ⟨c0⟩ ⟨c1⟩ ⟨c2⟩).mono fun e w' ⟨h3, h4⟩ => ⟨h3.trans ?_, h4⟩
      unfold fitsM
      rw [h2]; simp
    · refine (fits_else x.op x.rd x.loc x.an x.bn x.dep x.pred x.succ x.skip x.ar x.br x.acq x.rel _ _ (sideM x.pred) (sideM x.succ) w (by rw [beq_eq_false_iff_ne]; exact h1) (by rw [beq_eq_false_iff_ne]; exact h2) ⟨c0⟩ ⟨c1⟩ ⟨c2⟩).mono fun e w' ⟨h3, h4⟩ => ⟨h3.trans ?_, h4⟩
      unfold fitsM
      simp [h1, h2]
end Go.Proofs.Yteeicedhnojdaaa
