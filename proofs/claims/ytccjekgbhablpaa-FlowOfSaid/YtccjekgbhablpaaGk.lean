/- LitD, LitQ, in one text. -/
import Derived.Test.YtccjekgbhablpaaGb
import Derived.Test.YtccjekgbhablpaaLitM
namespace Go.Proofs.Ytccjekgbhablpaa
set_option maxRecDepth 100000
open Go.RowKit

set_option maxHeartbeats 3200000 in
theorem fits_li (rd loc an bn dep pred succ skip : Int) (ar br acq rel kr kw s1 s2 : Bool) (w : World) 
    (C0 : Bx (∀ W, Calls Try.prog 36 #[.agg #[.int .i64 1, .int .i64 rd, .int .i64 loc, .bool ar, .int .u64 an, .bool br, .int .u64 bn, .bool acq, .bool rel, .int .i64 dep, .int .i64 pred, .int .i64 succ, .int .i64 skip]] W fun e w' => e = .returned (.agg #[.bool kr, .bool kw]) ∧ Below W.heap.size W w'))
    (C1 : Bx (∀ W, Calls Try.prog 81 #[.int .i64 pred] W fun e w' => e = .returned (.bool s1) ∧ W = w')) (C2 : Bx (∀ W, Calls Try.prog 81 #[.int .i64 succ] W fun e w' => e = .returned (.bool s2) ∧ W = w')) :
    Calls Try.prog 58 #[.agg #[.int .i64 1, .int .i64 rd, .int .i64 loc, .bool ar, .int .u64 an, .bool br, .int .u64 bn, .bool acq, .bool rel, .int .i64 dep, .int .i64 pred, .int .i64 succ, .int .i64 skip]] w fun e w' => e = .returned (.bool (!ar && ((kr || !acq) && (kw || !rel)))) ∧ Below w.heap.size w w' := by
  have k1 := C1; have k2 := C2; clear k1 k2
  have h : ar = true ∨ (ar = false ∧ (kr = true ∨ kr = false) ∧ (kw = true ∨ kw = false) ∧ (acq = true ∨ acq = false)) := by clear C0; revert ar kr kw acq; decide
  rcases h with rfl | ⟨rfl, rfl | rfl, rfl | rfl, rfl | rfl⟩
  all_goals
    go_enter Try.func58, Try.ntmps58
    go_wp2_with (first
    | (go_at_call 36; ((with_reducible refine (C0.out _).mono ?_); rintro e w1 ⟨rfl, b1⟩; have X := nBlock b1; have B1 := Bx.mk (bel (aset _ _) b1); clear b1; have y0 := cOf X 0; have y3 := cOf X 3; have y7 := cOf X 7; have y8 := cOf X 8; have y10 := cOf X 10; have y11 := cOf X 11; simp at y0 y3 y7 y8 y10 y11; have hlt : w.heap.size < w1.heap.size := World.block_lt_of_cell? w1 _ y0; clear X))
    | (go_at_call 81; first
      | ((with_reducible refine (C1.out _).mono ?_); rintro e w' ⟨rfl, rfl⟩)
      | ((with_reducible refine (C2.out _).mono ?_); rintro e w' ⟨rfl, rfl⟩)))
    go_ret
    exact ⟨by simp, B1.out.alloc B1.out.size _⟩
set_option maxHeartbeats 3200000 in
theorem fits_fence (rd loc an bn dep pred succ skip : Int) (ar br acq rel kr kw s1 s2 : Bool) (w : World) 
    (C0 : Bx (∀ W, Calls Try.prog 36 #[.agg #[.int .i64 15, .int .i64 rd, .int .i64 loc, .bool ar, .int .u64 an, .bool br, .int .u64 bn, .bool acq, .bool rel, .int .i64 dep, .int .i64 pred, .int .i64 succ, .int .i64 skip]] W fun e w' => e = .returned (.agg #[.bool kr, .bool kw]) ∧ Below W.heap.size W w'))
    (C1 : Bx (∀ W, Calls Try.prog 81 #[.int .i64 pred] W fun e w' => e = .returned (.bool s1) ∧ W = w')) (C2 : Bx (∀ W, Calls Try.prog 81 #[.int .i64 succ] W fun e w' => e = .returned (.bool s2) ∧ W = w')) :
    Calls Try.prog 58 #[.agg #[.int .i64 15, .int .i64 rd, .int .i64 loc, .bool ar, .int .u64 an, .bool br, .int .u64 bn, .bool acq, .bool rel, .int .i64 dep, .int .i64 pred, .int .i64 succ, .int .i64 skip]] w fun e w' => e = .returned (.bool ((s1 && s2) && ((kr || !acq) && (kw || !rel)))) ∧ Below w.heap.size w w' := by
  have h : s1 = false ∨ (s1 = true ∧ s2 = false) ∨ (s1 = true ∧ s2 = true ∧ (kr = true ∨ kr = false) ∧ (kw = true ∨ kw = false) ∧ (acq = true ∨ acq = false)) := by clear C0 C1 C2; revert s1 s2 kr kw acq; decide
  rcases h with rfl | ⟨rfl, rfl⟩ | ⟨rfl, rfl, rfl | rfl, rfl | rfl, rfl | rfl⟩
  all_goals
    go_enter Try.func58, Try.ntmps58
    go_wp2_with (first
    | (go_at_call 36; ((with_reducible refine (C0.out _).mono ?_); rintro e w1 ⟨rfl, b1⟩; have X := nBlock b1; have B1 := Bx.mk (bel (aset _ _) b1); clear b1; have y0 := cOf X 0; have y3 := cOf X 3; have y7 := cOf X 7; have y8 := cOf X 8; have y10 := cOf X 10; have y11 := cOf X 11; simp at y0 y3 y7 y8 y10 y11; have hlt : w.heap.size < w1.heap.size := World.block_lt_of_cell? w1 _ y0; clear X))
    | (go_at_call 81; first
      | ((with_reducible refine (C1.out _).mono ?_); rintro e w' ⟨rfl, rfl⟩)
      | ((with_reducible refine (C2.out _).mono ?_); rintro e w' ⟨rfl, rfl⟩)))
    go_ret
    exact ⟨by simp, B1.out.alloc B1.out.size _⟩
set_option maxHeartbeats 3200000 in
theorem fits_else (op rd loc an bn dep pred succ skip : Int) (ar br acq rel kr kw s1 s2 : Bool) (w : World) (h1 : ((op : Int) == 1) = false) (h2 : ((op : Int) == 15) = false)
    (C0 : Bx (∀ W, Calls Try.prog 36 #[.agg #[.int .i64 op, .int .i64 rd, .int .i64 loc, .bool ar, .int .u64 an, .bool br, .int .u64 bn, .bool acq, .bool rel, .int .i64 dep, .int .i64 pred, .int .i64 succ, .int .i64 skip]] W fun e w' => e = .returned (.agg #[.bool kr, .bool kw]) ∧ Below W.heap.size W w'))
    (C1 : Bx (∀ W, Calls Try.prog 81 #[.int .i64 pred] W fun e w' => e = .returned (.bool s1) ∧ W = w')) (C2 : Bx (∀ W, Calls Try.prog 81 #[.int .i64 succ] W fun e w' => e = .returned (.bool s2) ∧ W = w')) :
    Calls Try.prog 58 #[.agg #[.int .i64 op, .int .i64 rd, .int .i64 loc, .bool ar, .int .u64 an, .bool br, .int .u64 bn, .bool acq, .bool rel, .int .i64 dep, .int .i64 pred, .int .i64 succ, .int .i64 skip]] w fun e w' => e = .returned (.bool (((kr || !acq) && (kw || !rel)))) ∧ Below w.heap.size w w' := by
  have k1 := C1; have k2 := C2; clear k1 k2
  go_enter Try.func58, Try.ntmps58
  cases kr <;> cases kw <;> cases acq
  all_goals
    go_wp2_with (first
    | (go_at_call 36; ((with_reducible refine (C0.out _).mono ?_); rintro e w1 ⟨rfl, b1⟩; have X := nBlock b1; have B1 := Bx.mk (bel (aset _ _) b1); clear b1; have y0 := cOf X 0; have y3 := cOf X 3; have y7 := cOf X 7; have y8 := cOf X 8; have y10 := cOf X 10; have y11 := cOf X 11; simp at y0 y3 y7 y8 y10 y11; have hlt : w.heap.size < w1.heap.size := World.block_lt_of_cell? w1 _ y0; clear X))
    | (go_at_call 81; first
      | ((with_reducible refine (C1.out _).mono ?_); rintro e w' ⟨rfl, rfl⟩)
      | ((with_reducible refine (C2.out _).mono ?_); rintro e w' ⟨rfl, rfl⟩)))
    go_ret
    exact ⟨by simp, B1.out.alloc B1.out.size _⟩
theorem fits_any (x : Ins) (w : World) :
    Calls Try.prog 58 #[insV x] w fun e w' => e = .returned (.bool (fitsM x)) ∧ Below w.heap.size w w' := by
  have c0 : ∀ W, Calls Try.prog 36 #[insV x] W fun e w' => e = .returned (.agg #[.bool (krd x.op), .bool (kwr x.op)]) ∧ Below W.heap.size W w' := fun W => of_any x W
  have c1 := fun W => isSide_any x.pred W
  have c2 := fun W => isSide_any x.succ W
  rw [insV_eq] at c0 ⊢
  by_cases h1 : x.op = 1
  · rw [h1] at c0 ⊢
    refine (fits_li x.rd x.loc x.an x.bn x.dep x.pred x.succ x.skip x.ar x.br x.acq x.rel _ _ (sideM x.pred) (sideM x.succ) w ⟨c0⟩ ⟨c1⟩ ⟨c2⟩).mono fun e w' ⟨h2, h3⟩ => ⟨h2.trans ?_, h3⟩
    unfold fitsM
    rw [h1]; simp
  · by_cases h2 : x.op = 15
    · rw [h2] at c0 ⊢
      refine (fits_fence x.rd x.loc x.an x.bn x.dep x.pred x.succ x.skip x.ar x.br x.acq x.rel _ _ (sideM x.pred) (sideM x.succ) w ⟨c0⟩ ⟨c1⟩ ⟨c2⟩).mono fun e w' ⟨h3, h4⟩ => ⟨h3.trans ?_, h4⟩
      unfold fitsM
      rw [h2]; simp
    · refine (fits_else x.op x.rd x.loc x.an x.bn x.dep x.pred x.succ x.skip x.ar x.br x.acq x.rel _ _ (sideM x.pred) (sideM x.succ) w (by rw [beq_eq_false_iff_ne]; exact h1) (by rw [beq_eq_false_iff_ne]; exact h2) ⟨c0⟩ ⟨c1⟩ ⟨c2⟩).mono fun e w' ⟨h3, h4⟩ => ⟨h3.trans ?_, h4⟩
      unfold fitsM
      simp [h1, h2]
end Go.Proofs.Ytccjekgbhablpaa
namespace Go.Proofs.Ytccjekgbhablpaa
set_option maxRecDepth 100000
open Go.RowKit

theorem und_ins : Try.prog.underlying 84 = some (.struct (Try.prog.fieldsOf 84)) := by kernel_rfl
theorem held_ins : Try.prog.stoodInHeld 84 = false := by kernel_rfl
theorem neq_0 (a0 : Int) (a1 : Int) (a2 : Int) (a3 : Bool) (a4 : Int) (a5 : Bool) (a6 : Int) (a7 : Bool) (a8 : Bool) (a9 : Int) (a10 : Int) (a11 : Int) (a12 : Int) (b0 : Int) (b1 : Int) (b2 : Int) (b3 : Bool) (b4 : Int) (b5 : Bool) (b6 : Int) (b7 : Bool) (b8 : Bool) (b9 : Int) (b10 : Int) (b11 : Int) (b12 : Int) (h : a0 ≠ b0) (W : World) : (Op.equalIn 10000 84 (.agg #[.int .i64 a0, .int .i64 a1, .int .i64 a2, .bool a3, .int .u64 a4, .bool a5, .int .u64 a6, .bool a7, .bool a8, .int .i64 a9, .int .i64 a10, .int .i64 a11, .int .i64 a12]) (.agg #[.int .i64 b0, .int .i64 b1, .int .i64 b2, .bool b3, .int .u64 b4, .bool b5, .int .u64 b6, .bool b7, .bool b8, .int .i64 b9, .int .i64 b10, .int .i64 b11, .int .i64 b12])).run Try.prog W = .ok false W := by
  rw [run_equalIn_agg _ _ _ _ _ und_ins held_ins]
  simp [Op.eqFields, go_sem, h]
theorem neq_1 (a0 : Int) (a1 : Int) (a2 : Int) (a3 : Bool) (a4 : Int) (a5 : Bool) (a6 : Int) (a7 : Bool) (a8 : Bool) (a9 : Int) (a10 : Int) (a11 : Int) (a12 : Int) (b1 : Int) (b2 : Int) (b3 : Bool) (b4 : Int) (b5 : Bool) (b6 : Int) (b7 : Bool) (b8 : Bool) (b9 : Int) (b10 : Int) (b11 : Int) (b12 : Int) (h : a1 ≠ b1) (W : World) : (Op.equalIn 10000 84 (.agg #[.int .i64 a0, .int .i64 a1, .int .i64 a2, .bool a3, .int .u64 a4, .bool a5, .int .u64 a6, .bool a7, .bool a8, .int .i64 a9, .int .i64 a10, .int .i64 a11, .int .i64 a12]) (.agg #[.int .i64 a0, .int .i64 b1, .int .i64 b2, .bool b3, .int .u64 b4, .bool b5, .int .u64 b6, .bool b7, .bool b8, .int .i64 b9, .int .i64 b10, .int .i64 b11, .int .i64 b12])).run Try.prog W = .ok false W := by
  rw [run_equalIn_agg _ _ _ _ _ und_ins held_ins]
  simp [Op.eqFields, go_sem, h]
theorem neq_2 (a0 : Int) (a1 : Int) (a2 : Int) (a3 : Bool) (a4 : Int) (a5 : Bool) (a6 : Int) (a7 : Bool) (a8 : Bool) (a9 : Int) (a10 : Int) (a11 : Int) (a12 : Int) (b2 : Int) (b3 : Bool) (b4 : Int) (b5 : Bool) (b6 : Int) (b7 : Bool) (b8 : Bool) (b9 : Int) (b10 : Int) (b11 : Int) (b12 : Int) (h : a2 ≠ b2) (W : World) : (Op.equalIn 10000 84 (.agg #[.int .i64 a0, .int .i64 a1, .int .i64 a2, .bool a3, .int .u64 a4, .bool a5, .int .u64 a6, .bool a7, .bool a8, .int .i64 a9, .int .i64 a10, .int .i64 a11, .int .i64 a12]) (.agg #[.int .i64 a0, .int .i64 a1, .int .i64 b2, .bool b3, .int .u64 b4, .bool b5, .int .u64 b6, .bool b7, .bool b8, .int .i64 b9, .int .i64 b10, .int .i64 b11, .int .i64 b12])).run Try.prog W = .ok false W := by
  rw [run_equalIn_agg _ _ _ _ _ und_ins held_ins]
  simp [Op.eqFields, go_sem, h]
theorem neq_3 (a0 : Int) (a1 : Int) (a2 : Int) (a3 : Bool) (a4 : Int) (a5 : Bool) (a6 : Int) (a7 : Bool) (a8 : Bool) (a9 : Int) (a10 : Int) (a11 : Int) (a12 : Int) (b3 : Bool) (b4 : Int) (b5 : Bool) (b6 : Int) (b7 : Bool) (b8 : Bool) (b9 : Int) (b10 : Int) (b11 : Int) (b12 : Int) (h : a3 ≠ b3) (W : World) : (Op.equalIn 10000 84 (.agg #[.int .i64 a0, .int .i64 a1, .int .i64 a2, .bool a3, .int .u64 a4, .bool a5, .int .u64 a6, .bool a7, .bool a8, .int .i64 a9, .int .i64 a10, .int .i64 a11, .int .i64 a12]) (.agg #[.int .i64 a0, .int .i64 a1, .int .i64 a2, .bool b3, .int .u64 b4, .bool b5, .int .u64 b6, .bool b7, .bool b8, .int .i64 b9, .int .i64 b10, .int .i64 b11, .int .i64 b12])).run Try.prog W = .ok false W := by
  rw [run_equalIn_agg _ _ _ _ _ und_ins held_ins]
  simp [Op.eqFields, go_sem, h]
theorem neq_4 (a0 : Int) (a1 : Int) (a2 : Int) (a3 : Bool) (a4 : Int) (a5 : Bool) (a6 : Int) (a7 : Bool) (a8 : Bool) (a9 : Int) (a10 : Int) (a11 : Int) (a12 : Int) (b4 : Int) (b5 : Bool) (b6 : Int) (b7 : Bool) (b8 : Bool) (b9 : Int) (b10 : Int) (b11 : Int) (b12 : Int) (h : a4 ≠ b4) (W : World) : (Op.equalIn 10000 84 (.agg #[.int .i64 a0, .int .i64 a1, .int .i64 a2, .bool a3, .int .u64 a4, .bool a5, .int .u64 a6, .bool a7, .bool a8, .int .i64 a9, .int .i64 a10, .int .i64 a11, .int .i64 a12]) (.agg #[.int .i64 a0, .int .i64 a1, .int .i64 a2, .bool a3, .int .u64 b4, .bool b5, .int .u64 b6, .bool b7, .bool b8, .int .i64 b9, .int .i64 b10, .int .i64 b11, .int .i64 b12])).run Try.prog W = .ok false W := by
  rw [run_equalIn_agg _ _ _ _ _ und_ins held_ins]
  simp [Op.eqFields, go_sem, h]
theorem neq_5 (a0 : Int) (a1 : Int) (a2 : Int) (a3 : Bool) (a4 : Int) (a5 : Bool) (a6 : Int) (a7 : Bool) (a8 : Bool) (a9 : Int) (a10 : Int) (a11 : Int) (a12 : Int) (b5 : Bool) (b6 : Int) (b7 : Bool) (b8 : Bool) (b9 : Int) (b10 : Int) (b11 : Int) (b12 : Int) (h : a5 ≠ b5) (W : World) : (Op.equalIn 10000 84 (.agg #[.int .i64 a0, .int .i64 a1, .int .i64 a2, .bool a3, .int .u64 a4, .bool a5, .int .u64 a6, .bool a7, .bool a8, .int .i64 a9, .int .i64 a10, .int .i64 a11, .int .i64 a12]) (.agg #[.int .i64 a0, .int .i64 a1, .int .i64 a2, .bool a3, .int .u64 a4, .bool b5, .int .u64 b6, .bool b7, .bool b8, .int .i64 b9, .int .i64 b10, .int .i64 b11, .int .i64 b12])).run Try.prog W = .ok false W := by
  rw [run_equalIn_agg _ _ _ _ _ und_ins held_ins]
  simp [Op.eqFields, go_sem, h]
theorem neq_6 (a0 : Int) (a1 : Int) (a2 : Int) (a3 : Bool) (a4 : Int) (a5 : Bool) (a6 : Int) (a7 : Bool) (a8 : Bool) (a9 : Int) (a10 : Int) (a11 : Int) (a12 : Int) (b6 : Int) (b7 : Bool) (b8 : Bool) (b9 : Int) (b10 : Int) (b11 : Int) (b12 : Int) (h : a6 ≠ b6) (W : World) : (Op.equalIn 10000 84 (.agg #[.int .i64 a0, .int .i64 a1, .int .i64 a2, .bool a3, .int .u64 a4, .bool a5, .int .u64 a6, .bool a7, .bool a8, .int .i64 a9, .int .i64 a10, .int .i64 a11, .int .i64 a12]) (.agg #[.int .i64 a0, .int .i64 a1, .int .i64 a2, .bool a3, .int .u64 a4, .bool a5, .int .u64 b6, .bool b7, .bool b8, .int .i64 b9, .int .i64 b10, .int .i64 b11, .int .i64 b12])).run Try.prog W = .ok false W := by
  rw [run_equalIn_agg _ _ _ _ _ und_ins held_ins]
  simp [Op.eqFields, go_sem, h]
theorem neq_7 (a0 : Int) (a1 : Int) (a2 : Int) (a3 : Bool) (a4 : Int) (a5 : Bool) (a6 : Int) (a7 : Bool) (a8 : Bool) (a9 : Int) (a10 : Int) (a11 : Int) (a12 : Int) (b7 : Bool) (b8 : Bool) (b9 : Int) (b10 : Int) (b11 : Int) (b12 : Int) (h : a7 ≠ b7) (W : World) : (Op.equalIn 10000 84 (.agg #[.int .i64 a0, .int .i64 a1, .int .i64 a2, .bool a3, .int .u64 a4, .bool a5, .int .u64 a6, .bool a7, .bool a8, .int .i64 a9, .int .i64 a10, .int .i64 a11, .int .i64 a12]) (.agg #[.int .i64 a0, .int .i64 a1, .int .i64 a2, .bool a3, .int .u64 a4, .bool a5, .int .u64 a6, .bool b7, .bool b8, .int .i64 b9, .int .i64 b10, .int .i64 b11, .int .i64 b12])).run Try.prog W = .ok false W := by
  rw [run_equalIn_agg _ _ _ _ _ und_ins held_ins]
  simp [Op.eqFields, go_sem, h]
theorem neq_8 (a0 : Int) (a1 : Int) (a2 : Int) (a3 : Bool) (a4 : Int) (a5 : Bool) (a6 : Int) (a7 : Bool) (a8 : Bool) (a9 : Int) (a10 : Int) (a11 : Int) (a12 : Int) (b8 : Bool) (b9 : Int) (b10 : Int) (b11 : Int) (b12 : Int) (h : a8 ≠ b8) (W : World) : (Op.equalIn 10000 84 (.agg #[.int .i64 a0, .int .i64 a1, .int .i64 a2, .bool a3, .int .u64 a4, .bool a5, .int .u64 a6, .bool a7, .bool a8, .int .i64 a9, .int .i64 a10, .int .i64 a11, .int .i64 a12]) (.agg #[.int .i64 a0, .int .i64 a1, .int .i64 a2, .bool a3, .int .u64 a4, .bool a5, .int .u64 a6, .bool a7, .bool b8, .int .i64 b9, .int .i64 b10, .int .i64 b11, .int .i64 b12])).run Try.prog W = .ok false W := by
  rw [run_equalIn_agg _ _ _ _ _ und_ins held_ins]
  simp [Op.eqFields, go_sem, h]
theorem neq_9 (a0 : Int) (a1 : Int) (a2 : Int) (a3 : Bool) (a4 : Int) (a5 : Bool) (a6 : Int) (a7 : Bool) (a8 : Bool) (a9 : Int) (a10 : Int) (a11 : Int) (a12 : Int) (b9 : Int) (b10 : Int) (b11 : Int) (b12 : Int) (h : a9 ≠ b9) (W : World) : (Op.equalIn 10000 84 (.agg #[.int .i64 a0, .int .i64 a1, .int .i64 a2, .bool a3, .int .u64 a4, .bool a5, .int .u64 a6, .bool a7, .bool a8, .int .i64 a9, .int .i64 a10, .int .i64 a11, .int .i64 a12]) (.agg #[.int .i64 a0, .int .i64 a1, .int .i64 a2, .bool a3, .int .u64 a4, .bool a5, .int .u64 a6, .bool a7, .bool a8, .int .i64 b9, .int .i64 b10, .int .i64 b11, .int .i64 b12])).run Try.prog W = .ok false W := by
  rw [run_equalIn_agg _ _ _ _ _ und_ins held_ins]
  simp [Op.eqFields, go_sem, h]
theorem neq_10 (a0 : Int) (a1 : Int) (a2 : Int) (a3 : Bool) (a4 : Int) (a5 : Bool) (a6 : Int) (a7 : Bool) (a8 : Bool) (a9 : Int) (a10 : Int) (a11 : Int) (a12 : Int) (b10 : Int) (b11 : Int) (b12 : Int) (h : a10 ≠ b10) (W : World) : (Op.equalIn 10000 84 (.agg #[.int .i64 a0, .int .i64 a1, .int .i64 a2, .bool a3, .int .u64 a4, .bool a5, .int .u64 a6, .bool a7, .bool a8, .int .i64 a9, .int .i64 a10, .int .i64 a11, .int .i64 a12]) (.agg #[.int .i64 a0, .int .i64 a1, .int .i64 a2, .bool a3, .int .u64 a4, .bool a5, .int .u64 a6, .bool a7, .bool a8, .int .i64 a9, .int .i64 b10, .int .i64 b11, .int .i64 b12])).run Try.prog W = .ok false W := by
  rw [run_equalIn_agg _ _ _ _ _ und_ins held_ins]
  simp [Op.eqFields, go_sem, h]
theorem neq_11 (a0 : Int) (a1 : Int) (a2 : Int) (a3 : Bool) (a4 : Int) (a5 : Bool) (a6 : Int) (a7 : Bool) (a8 : Bool) (a9 : Int) (a10 : Int) (a11 : Int) (a12 : Int) (b11 : Int) (b12 : Int) (h : a11 ≠ b11) (W : World) : (Op.equalIn 10000 84 (.agg #[.int .i64 a0, .int .i64 a1, .int .i64 a2, .bool a3, .int .u64 a4, .bool a5, .int .u64 a6, .bool a7, .bool a8, .int .i64 a9, .int .i64 a10, .int .i64 a11, .int .i64 a12]) (.agg #[.int .i64 a0, .int .i64 a1, .int .i64 a2, .bool a3, .int .u64 a4, .bool a5, .int .u64 a6, .bool a7, .bool a8, .int .i64 a9, .int .i64 a10, .int .i64 b11, .int .i64 b12])).run Try.prog W = .ok false W := by
  rw [run_equalIn_agg _ _ _ _ _ und_ins held_ins]
  simp [Op.eqFields, go_sem, h]
theorem neq_12 (a0 : Int) (a1 : Int) (a2 : Int) (a3 : Bool) (a4 : Int) (a5 : Bool) (a6 : Int) (a7 : Bool) (a8 : Bool) (a9 : Int) (a10 : Int) (a11 : Int) (a12 : Int) (b12 : Int) (h : a12 ≠ b12) (W : World) : (Op.equalIn 10000 84 (.agg #[.int .i64 a0, .int .i64 a1, .int .i64 a2, .bool a3, .int .u64 a4, .bool a5, .int .u64 a6, .bool a7, .bool a8, .int .i64 a9, .int .i64 a10, .int .i64 a11, .int .i64 a12]) (.agg #[.int .i64 a0, .int .i64 a1, .int .i64 a2, .bool a3, .int .u64 a4, .bool a5, .int .u64 a6, .bool a7, .bool a8, .int .i64 a9, .int .i64 a10, .int .i64 a11, .int .i64 b12])).run Try.prog W = .ok false W := by
  rw [run_equalIn_agg _ _ _ _ _ und_ins held_ins]
  simp [Op.eqFields, go_sem, h]
theorem eq_all (a0 : Int) (a1 : Int) (a2 : Int) (a3 : Bool) (a4 : Int) (a5 : Bool) (a6 : Int) (a7 : Bool) (a8 : Bool) (a9 : Int) (a10 : Int) (a11 : Int) (a12 : Int) (W : World) : (Op.equalIn 10000 84 (.agg #[.int .i64 a0, .int .i64 a1, .int .i64 a2, .bool a3, .int .u64 a4, .bool a5, .int .u64 a6, .bool a7, .bool a8, .int .i64 a9, .int .i64 a10, .int .i64 a11, .int .i64 a12]) (.agg #[.int .i64 a0, .int .i64 a1, .int .i64 a2, .bool a3, .int .u64 a4, .bool a5, .int .u64 a6, .bool a7, .bool a8, .int .i64 a9, .int .i64 a10, .int .i64 a11, .int .i64 a12])).run Try.prog W = .ok true W := by
  rw [run_equalIn_agg _ _ _ _ _ und_ins held_ins]
  simp [Op.eqFields, go_sem]
theorem ins_neq (x y : Ins) (h : x ≠ y) (W : World) : (Op.equalIn 10000 84 (.agg #[.int .i64 x.op, .int .i64 x.rd, .int .i64 x.loc, .bool x.ar, .int .u64 x.an, .bool x.br, .int .u64 x.bn, .bool x.acq, .bool x.rel, .int .i64 x.dep, .int .i64 x.pred, .int .i64 x.succ, .int .i64 x.skip]) (.agg #[.int .i64 y.op, .int .i64 y.rd, .int .i64 y.loc, .bool y.ar, .int .u64 y.an, .bool y.br, .int .u64 y.bn, .bool y.acq, .bool y.rel, .int .i64 y.dep, .int .i64 y.pred, .int .i64 y.succ, .int .i64 y.skip])).run Try.prog W = .ok false W := by
  obtain ⟨a0, a1, a2, a3, a4, a5, a6, a7, a8, a9, a10, a11, a12⟩ := x
  obtain ⟨b0, b1, b2, b3, b4, b5, b6, b7, b8, b9, b10, b11, b12⟩ := y
  by_cases h0 : a0 = b0
  case neg => exact neq_0 _ _ _ _ _ _ _ _ _ _ _ _ _ _ _ _ _ _ _ _ _ _ _ _ _ _ h0 W
  subst h0
  by_cases h1 : a1 = b1
  case neg => exact neq_1 _ _ _ _ _ _ _ _ _ _ _ _ _ _ _ _ _ _ _ _ _ _ _ _ _ h1 W
  subst h1
  by_cases h2 : a2 = b2
  case neg => exact neq_2 _ _ _ _ _ _ _ _ _ _ _ _ _ _ _ _ _ _ _ _ _ _ _ _ h2 W
  subst h2
  by_cases h3 : a3 = b3
  case neg => exact neq_3 _ _ _ _ _ _ _ _ _ _ _ _ _ _ _ _ _ _ _ _ _ _ _ h3 W
  subst h3
  by_cases h4 : a4 = b4
  case neg => exact neq_4 _ _ _ _ _ _ _ _ _ _ _ _ _ _ _ _ _ _ _ _ _ _ h4 W
  subst h4
  by_cases h5 : a5 = b5
  case neg => exact neq_5 _ _ _ _ _ _ _ _ _ _ _ _ _ _ _ _ _ _ _ _ _ h5 W
  subst h5
  by_cases h6 : a6 = b6
  case neg => exact neq_6 _ _ _ _ _ _ _ _ _ _ _ _ _ _ _ _ _ _ _ _ h6 W
  subst h6
  by_cases h7 : a7 = b7
  case neg => exact neq_7 _ _ _ _ _ _ _ _ _ _ _ _ _ _ _ _ _ _ _ h7 W
  subst h7
  by_cases h8 : a8 = b8
  case neg => exact neq_8 _ _ _ _ _ _ _ _ _ _ _ _ _ _ _ _ _ _ h8 W
  subst h8
  by_cases h9 : a9 = b9
  case neg => exact neq_9 _ _ _ _ _ _ _ _ _ _ _ _ _ _ _ _ _ h9 W
  subst h9
  by_cases h10 : a10 = b10
  case neg => exact neq_10 _ _ _ _ _ _ _ _ _ _ _ _ _ _ _ _ h10 W
  subst h10
  by_cases h11 : a11 = b11
  case neg => exact neq_11 _ _ _ _ _ _ _ _ _ _ _ _ _ _ _ h11 W
  subst h11
  by_cases h12 : a12 = b12
  case neg => exact neq_12 _ _ _ _ _ _ _ _ _ _ _ _ _ _ h12 W
  subst h12
  exact absurd rfl h
theorem ins_same (x : Ins) (W : World) : (binOp .neq 84 (.agg #[.int .i64 x.op, .int .i64 x.rd, .int .i64 x.loc, .bool x.ar, .int .u64 x.an, .bool x.br, .int .u64 x.bn, .bool x.acq, .bool x.rel, .int .i64 x.dep, .int .i64 x.pred, .int .i64 x.succ, .int .i64 x.skip]) (.agg #[.int .i64 x.op, .int .i64 x.rd, .int .i64 x.loc, .bool x.ar, .int .u64 x.an, .bool x.br, .int .u64 x.bn, .bool x.acq, .bool x.rel, .int .i64 x.dep, .int .i64 x.pred, .int .i64 x.succ, .int .i64 x.skip])).run Try.prog W = .ok (.bool false) W := by
  rw [run_neq_struct, eq_all]; rfl
theorem ins_cmp (x y : Ins) (h : x ≠ y) (W : World) : (binOp .neq 84 (.agg #[.int .i64 x.op, .int .i64 x.rd, .int .i64 x.loc, .bool x.ar, .int .u64 x.an, .bool x.br, .int .u64 x.bn, .bool x.acq, .bool x.rel, .int .i64 x.dep, .int .i64 x.pred, .int .i64 x.succ, .int .i64 x.skip]) (.agg #[.int .i64 y.op, .int .i64 y.rd, .int .i64 y.loc, .bool y.ar, .int .u64 y.an, .bool y.br, .int .u64 y.bn, .bool y.acq, .bool y.rel, .int .i64 y.dep, .int .i64 y.pred, .int .i64 y.succ, .int .i64 y.skip])).run Try.prog W = .ok (.bool true) W := by
  rw [run_neq_struct, ins_neq x y h]; rfl
end Go.Proofs.Ytccjekgbhablpaa
