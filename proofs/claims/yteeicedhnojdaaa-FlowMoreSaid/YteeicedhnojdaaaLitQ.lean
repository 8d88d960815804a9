/- Two instructions that differ are told apart. -/
import Derived.Test.YteeicedhnojdaaaLitM
namespace Go.Proofs.Yteeicedhnojdaaa
set_option maxRecDepth 100000
open Go.RowKit

theorem und_ins : Try.prog.underlying 85 = some (.struct (Try.prog.fieldsOf 85)) := by kernel_rfl
theorem held_ins : Try.prog.stoodInHeld 85 = false := by kernel_rfl
theorem neq_0 (a0 : Int) (a1 : Int) (a2 : Int) (a3 : Bool) (a4 : Int) (a5 : Bool) (a6 : Int) (a7 : Bool) (a8 : Bool) (a9 : Int) (a10 : Int) (a11 : Int) (a12 : Int) (b0 : Int) (b1 : Int) (b2 : Int) (b3 : Bool) (b4 : Int) (b5 : Bool) (b6 : Int) (b7 : Bool) (b8 : Bool) (b9 : Int) (b10 : Int) (b11 : Int) (b12 : Int) (h : a0 ≠ b0) (W : World) : (Op.equalIn 10000 85 (.agg #[.int .i64 a0, .int .i64 a1, .int .i64 a2, .bool a3, .int .u64 a4, .bool a5, .int .u64 a6, .bool a7, .bool a8, .int .i64 a9, .int .i64 a10, .int .i64 a11, .int .i64 a12]) (.agg #[.int .i64 b0, .int .i64 b1, .int .i64 b2, .bool b3, .int .u64 b4, .bool b5, .int .u64 b6, .bool b7, .bool b8, .int .i64 b9, .int .i64 b10, .int .i64 b11, .int .i64 b12])).run Try.prog W = .ok false W := by
  rw [run_equalIn_agg _ _ _ _ _ und_ins held_ins]
  simp [Op.eqFields, go_sem, h]
theorem neq_1 (a0 : Int) (a1 : Int) (a2 : Int) (a3 : Bool) (a4 : Int) (a5 : Bool) (a6 : Int) (a7 : Bool) (a8 : Bool) (a9 : Int) (a10 : Int) (a11 : Int) (a12 : Int) (b1 : Int) (b2 : Int) (b3 : Bool) (b4 : Int) (b5 : Bool) (b6 : Int) (b7 : Bool) (b8 : Bool) (b9 : Int) (b10 : Int) (b11 : Int) (b12 : Int) (h : a1 ≠ b1) (W : World) : (Op.equalIn 10000 85 (.agg #[.int .i64 a0, .int .i64 a1, .int .i64 a2, .bool a3, .int .u64 a4, .bool a5, .int .u64 a6, .bool a7, .bool a8, .int .i64 a9, .int .i64 a10, .int .i64 a11, .int .i64 a12]) (.agg #[.int .i64 a0, .int .i64 b1, .int .i64 b2, .bool b3, .int .u64 b4, .bool b5, .int .u64 b6, .bool b7, .bool b8, .int .i64 b9, .int .i64 b10, .int .i64 b11, .int .i64 b12])).run Try.prog W = .ok false W := by
  rw [run_equalIn_agg _ _ _ _ _ und_ins held_ins]
  simp [Op.eqFields, go_sem, h]
theorem neq_2 (a0 : Int) (a1 : Int) (a2 : Int) (a3 : Bool) (a4 : Int) (a5 : Bool) (a6 : Int) (a7 : Bool) (a8 : Bool) (a9 : Int) (a10 : Int) (a11 : Int) (a12 : Int) (b2 : Int) (b3 : Bool) (b4 : Int) (b5 : Bool) (b6 : Int) (b7 : Bool) (b8 : Bool) (b9 : Int) (b10 : Int) (b11 : Int) (b12 : Int) (h : a2 ≠ b2) (W : World) : (Op.equalIn 10000 85 (.agg #[.int .i64 a0, .int .i64 a1, .int .i64 a2, .bool a3, .int .u64 a4, .bool a5, .int .u64 a6, .bool a7, .bool a8, .int .i64 a9, .int .i64 a10, .int .i64 a11, .int .i64 a12]) (.agg #[.int .i64 a0, .int .i64 a1, .int .i64 b2, .bool b3, .int .u64 b4, .bool b5, .int .u64 b6, .bool b7, .bool b8, .int .i64 b9, .int .i64 b10, .int .i64 b11, .int .i64 b12])).run Try.prog W = .ok false W := by
  rw [run_equalIn_agg _ _ _ _ _ und_ins held_ins]
  simp [Op.eqFields, go_sem, h]
theorem neq_3 (a0 : Int) (a1 : Int) (a2 : Int) (a3 : Bool) (a4 : Int) (a5 : Bool) (a6 : Int) (a7 : Bool) (a8 : Bool) (a9 : Int) (a10 : Int) (a11 : Int) (a12 : Int) (b3 : Bool) (b4 : Int) (b5 : Bool) (b6 : Int) (b7 : Bool) (b8 : Bool) (b9 : Int) (b10 : Int) (b11 : Int) (b12 : Int) (h : a3 ≠ b3) (W : World) : (Op.equalIn 10000 85 (.agg #[.int .i64 a0, .int .i64 a1, .int .i64 a2, .bool a3, .int .u64 a4, .bool a5, .int .u64 a6, .bool a7, .bool a8, .int .i64 a9, .int .i64 a10, .int .i64 a11, .int .i64 a12]) (.agg #[.int .i64 a0, .int .i64 a1, .int .i64 a2, .bool b3, .int .u64 b4, .bool b5, .int .u64 b6, .bool b7, .bool b8, .int .i64 b9, .int .i64 b10, .int .i64 b11, .int .i64 b12])).run Try.prog W = .ok false W := by
  rw [run_equalIn_agg _ _ _ _ _ und_ins held_ins]
  simp [Op.eqFields, go_sem, h]
theorem neq_4 (a0 : Int) (a1 : Int) (a2 : Int) (a3 : Bool) (a4 : Int) (a5 : Bool) (a6 : Int) (a7 : Bool) (a8 : Bool) (a9 : Int) (a10 : Int) (a11 : Int) (a12 : Int) (b4 : Int) (b5 : Bool) (b6 : Int) (b7 : Bool) (b8 : Bool) (b9 : Int) (b10 : Int) (b11 : Int) (b12 : Int) (h : a4 ≠ b4) (W : World) : (Op.equalIn 10000 85 (.agg #[.int .i64 a0, .int .i64 a1, .int .i64 a2, .bool a3, .int .u64 a4, .bool a5, .int .u64 a6, .bool a7, .bool a8, .int .i64 a9, .int .i64 a10, .int .i64 a11, .int .i64 a12]) (.agg #[.int .i64 a0, .int .i64 a1, .int .i64 a2, .bool a3, .int .u64 b4, .bool b5, .int .u64 b6, .bool b7, .bool b8, .int .i64 b9, .int .i64 b10, .int .i64 b11, .int .i64 b12])).run Try.prog W = .ok false W := by
  rw [run_equalIn_agg _ _ _ _ _ und_ins held_ins]
  simp [Op.eqFields, go_sem, h]
theorem neq_5 (a0 : Int) (a1 : Int) (a2 : Int) (a3 : Bool) (a4 : Int) (a5 : Bool) (a6 : Int) (a7 : Bool) (a8 : Bool) (a9 : Int) (a10 : Int) (a11 : Int) (a12 : Int) (b5 : Bool) (b6 : Int) (b7 : Bool) (b8 : Bool) (b9 : Int) (b10 : Int) (b11 : Int) (b12 : Int) (h : a5 ≠ b5) (W : World) : (Op.equalIn 10000 85 (.agg #[.int .i64 a0, .int .i64 a1, .int .i64 a2, .bool a3, .int .u64 a4, .bool a5, .int .u64 a6, .bool a7, .bool a8, .int .i64 a9, .int .i64 a10, .int .i64 a11, .int .i64 a12]) (.agg #[.int .i64 a0, .int .i64 a1, .int .i64 a2, .bool a3, .int .u64 a4, .bool b5, .int .u64 b6, .bool b7, .bool b8, .int .i64 b9, .int .i64 b10, .int .i64 b11, .int .i64 b12])).run Try.prog W = .ok false W := by
  rw [run_equalIn_agg _ _ _ _ _ und_ins held_ins]
  simp [Op.eqFields, go_sem, h]
theorem neq_6 (a0 : Int) (a1 : Int) (a2 : Int) (a3 : Bool) (a4 : Int) (a5 : Bool) (a6 : Int) (a7 : Bool) (a8 : Bool) (a9 : Int) (a10 : Int) (a11 : Int) (a12 : Int) (b6 : Int) (b7 : Bool) (b8 : Bool) (b9 : Int) (b10 : Int) (b11 : Int) (b12 : Int) (h : a6 ≠ b6) (W : World) : (Op.equalIn 10000 85 (.agg #[.int .i64 a0, .int .i64 a1, .int .i64 a2, .bool a3, .int .u64 a4, .bool a5, .int .u64 a6, .bool a7, .bool a8, .int .i64 a9, .int .i64 a10, .int .i64 a11, .int .i64 a12]) (.agg #[.int .i64 a0, .int .i64 a1, .int .i64 a2, .bool a3, .int .u64 a4, .bool a5, .int .u64 b6, .bool b7, .bool b8, .int .i64 b9, .int .i64 b10, .int .i64 b11, .int .i64 b12])).run Try.prog W = .ok false W := by
  rw [run_equalIn_agg _ _ _ _ _ und_ins held_ins]
  simp [Op.eqFields, go_sem, h]
theorem neq_7 (a0 : Int) (a1 : Int) (a2 : Int) (a3 : Bool) (a4 : Int) (a5 : Bool) (a6 : Int) (a7 : Bool) (a8 : Bool) (a9 : Int) (a10 : Int) (a11 : Int) (a12 : Int) (b7 : Bool) (b8 : Bool) (b9 : Int) (b10 : Int) (b11 : Int) (b12 : Int) (h : a7 ≠ b7) (W : World) : (Op.equalIn 10000 85 (.agg #[.int .i64 a0, .int .i64 a1, .int .i64 a2, .bool a3, .int .u64 a4, .bool a5, .int .u64 a6, .bool a7, .bool a8, .int .i64 a9, .int .i64 a10, .int .i64 a11, .int .i64 a12]) (.agg #[.int .i64 a0, .int .i64 a1, .int .i64 a2, .bool a3, .int .u64 a4, .bool a5, .int .u64 a6, .bool b7, .bool b8, .int .i64 b9, .int .i64 b10, .int .i64 b11, .int .i64 b12])).run Try.prog W = .ok false W := by
  rw [run_equalIn_agg _ _ _ _ _ und_ins held_ins]
  simp [Op.eqFields, go_sem, h]
theorem neq_8 (a0 : Int) (a1 : Int) (a2 : Int) (a3 : Bool) (a4 : Int) (a5 : Bool) (a6 : Int) (a7 : Bool) (a8 : Bool) (a9 : Int) (a10 : Int) (a11 : Int) (a12 : Int) (b8 : Bool) (b9 : Int) (b10 : Int) (b11 : Int) (b12 : Int) (h : a8 ≠ b8) (W : World) : (Op.equalIn 10000 85 (.agg #[.int .i64 a0, .int .i64 a1, .int .i64 a2, .bool a3, .int .u64 a4, .bool a5, .int .u64 a6, .bool a7, .bool a8, .int .i64 a9, .int .i64 a10, .int .i64 a11, .int .i64 a12]) (.agg #[.int .i64 a0, .int .i64 a1, .int .i64 a2, .bool a3, .int .u64 a4, .bool a5, .int .u64 a6, .bool a7, .bool b8, .int .i64 b9, .int .i64 b10, .int .i64 b11, .int .i64 b12])).run Try.prog W = .ok false W := by
  rw [run_equalIn_agg _ _ _ _ _ und_ins held_ins]
  simp [Op.eqFields, go_sem, h]
theorem neq_9 (a0 : Int) (a1 : Int) (a2 : Int) (a3 : Bool) (a4 : Int) (a5 : Bool) (a6 : Int) (a7 : Bool) (a8 : Bool) (a9 : Int) (a10 : Int) (a11 : Int) (a12 : Int) (b9 : Int) (b10 : Int) (b11 : Int) (b12 : Int) (h : a9 ≠ b9) (W : World) : (Op.equalIn 10000 85 (.agg #[.int .i64 a0, .int .i64 a1, .int .i64 a2, .bool a3, .int .u64 a4, .bool a5, .int .u64 a6, .bool a7, .bool a8, .int .i64 a9, .int .i64 a10, .int .i64 a11, .int .i64 a12]) (.agg #[.int .i64 a0, .int .i64 a1, .int .i64 a2, .bool a3, .int .u64 a4, .bool a5, .int .u64 a6, .bool a7, .bool a8, .int .i64 b9, .int .i64 b10, .int .i64 b11, .int .i64 b12])).run Try.prog W = .ok false W := by
  rw [run_equalIn_agg _ _ _ _ _ und_ins held_ins]
  simp [Op.eqFields, go_sem, h]
theorem neq_10 (a0 : Int) (a1 : Int) (a2 : Int) (a3 : Bool) (a4 : Int) (a5 : Bool) (a6 : Int) (a7 : Bool) (a8 : Bool) (a9 : Int) (a10 : Int) (a11 : Int) (a12 : Int) (b10 : Int) (b11 : Int) (b12 : Int) (h : a10 ≠ b10) (W : World) : (Op.equalIn 10000 85 (.agg #[.int .i64 a0, .int .i64 a1, .int .i64 a2, .bool a3, .int .u64 a4, .bool a5, .int .u64 a6, .bool a7, .bool a8, .int .i64 a9, .int .i64 a10, .int .i64 a11, .int .i64 a12]) (.agg #[.int .i64 a0, .int .i64 a1, .int .i64 a2, .bool a3, .int .u64 a4, .bool a5, .int .u64 a6, .bool a7, .bool a8, .int .i64 a9, .int .i64 b10, .int .i64 b11, .int .i64 b12])).run Try.prog W = .ok false W := by
  rw [run_equalIn_agg _ _ _ _ _ und_ins held_ins]
  simp [Op.eqFields, go_sem, h]
theorem neq_11 (a0 : Int) (a1 : Int) (a2 : Int) (a3 : Bool) (a4 : Int) (a5 : Bool) (a6 : Int) (a7 : Bool) (a8 : Bool) (a9 : Int) (a10 : Int) (a11 : Int) (a12 : Int) (b11 : Int) (b12 : Int) (h : a11 ≠ b11) (W : World) : (Op.equalIn 10000 85 (.agg #[.int .i64 a0, .int .i64 a1, .int .i64 a2, .bool a3, .int .u64 a4, .bool a5, .int .u64 a6, .bool a7, .bool a8, .int .i64 a9, .int .i64 a10, .int .i64 a11, .int .i64 a12]) (.agg #[.int .i64 a0, .int .i64 a1, .int .i64 a2, .bool a3, .int .u64 a4, .bool a5, .int .u64 a6, .bool a7, .bool a8, .int .i64 a9, .int .i64 a10, .int .i64 b11, .int .i64 b12])).run Try.prog W = .ok false W := by
  rw [run_equalIn_agg _ _ _ _ _ und_ins held_ins]
  simp [Op.eqFields, go_sem, h]
theorem neq_12 (a0 : Int) (a1 : Int) (a2 : Int) (a3 : Bool) (a4 : Int) (a5 : Bool) (a6 : Int) (a7 : Bool) (a8 : Bool) (a9 : Int) (a10 : Int) (a11 : Int) (a12 : Int) (b12 : Int) (h : a12 ≠ b12) (W : World) : (Op.equalIn 10000 85 (.agg #[.int .i64 a0, .int .i64 a1, .int .i64 a2, .bool a3, .int .u64 a4, .bool a5, .int .u64 a6, .bool a7, .bool a8, .int .i64 a9, .int .i64 a10, .int .i64 a11, .int .i64 a12]) (.agg #[.int .i64 a0, .int .i64 a1, .int .i64 a2, .bool a3, .int .u64 a4, .bool a5, .int .u64 a6, .bool a7, .bool a8, .int .i64 a9, .int .i64 a10, .int .i64 a11, .int .i64 b12])).run Try.prog W = .ok false W := by
  rw [run_equalIn_agg _ _ _ _ _ und_ins held_ins]
  simp [Op.eqFields, go_sem, h]
theorem eq_all (a0 : Int) (a1 : Int) (a2 : Int) (a3 : Bool) (a4 : Int) (a5 : Bool) (a6 : Int) (a7 : Bool) (a8 : Bool) (a9 : Int) (a10 : Int) (a11 : Int) (a12 : Int) (W : World) : (Op.equalIn 10000 85 (.agg #[.int .i64 a0, .int .i64 a1, .int .i64 a2, .bool a3, .int .u64 a4, .bool a5, .int .u64 a6, .bool a7, .bool a8, .int .i64 a9, .int .i64 a10, .int .i64 a11, .int .i64 a12]) (.agg #[.int .i64 a0, .int .i64 a1, .int .i64 a2, .bool a3, .int .u64 a4, .bool a5, .int .u64 a6, .bool a7, .bool a8, .int .i64 a9, .int .i64 a10, .int .i64 a11, .int .i64 a12])).run Try.prog W = .ok true W := by
  rw [run_equalIn_agg _ _ _ _ _ und_ins held_ins]
  simp [Op.eqFields, go_sem]
theorem ins_neq (x y : Ins) (h : x ≠ y) (W : World) : (Op.equalIn 10000 85 (.agg #[.int .i64 x.op, .int .i64 x.rd, .int .i64 x.loc, .bool x.ar, .int .u64 x.an, .bool x.br, .int .u64 x.bn, .bool x.acq, .bool x.rel, .int .i64 x.dep, .int .i64 x.pred, .int .i64 x.succ, .int .i64 x.skip]) (.agg #[.int .i64 y.op, .int .i64 y.rd, .int .i64 y.loc, .bool y.ar, .int .u64 y.an, .bool y.br, .int .u64 y.bn, .bool y.acq, .bool y.rel, .int .i64 y.dep, .int .i64 y.pred, .int .i64 y.succ, .int .i64 y.skip])).run Try.prog W = .ok false W := by
  obtain ⟨a0, a1, a2, a3, a4, a5, a6, a7, a8, a9, a10, a11, a12⟩ := x
  obtain ⟨b0, b1, b2, b3, b4, b5, b6, b7, b8, b9, b10, b11, b12⟩ := y
  by_cases h0 : a0 = b0
  case neg => exact neq_0 _ _ _ _ _ _ _ _ _ _ _ _ _ _ _ _ _ _ _ _ _ _ _ _ _ _ h0 W
  subst h0
  by_cases h1 : a1 = b1
  case neg => exact neq_1 _ _ _ _ _ _ _ _ _ _ _ _ _ _ _ _ _ _ _ _ _ _ _ _ _ h1 W
  subst h1
  by_cases h2 : a2 = b2
  case neg => exact neq_2 _ _ _ _ _ _ _ _ _ _ _ _ _ _ _ _ _ _ _ _ _ _ _ _ h2 W
  subst h2
  by_cases h3 : a3 = b3
  case neg => exact neq_3 _ _ _ _ _ _ _ _ _ _ _ _ _ _ _ _ _ _ _ _ _ _ _ h3 W
  subst h3
  by_cases h4 : a4 = b4
  case neg => exact neq_4 _ _ _ _ _ _ _ _ _ _ _ _ _ _ _ _ _ _ _ _ _ _ h4 W
  subst h4
  by_cases h5 : a5 = b5
  case neg => exact neq_5 _ _ _ _ _ _ _ _ _ _ _ _ _ _ _ _ _ _ _ _ _ h5 W
  subst h5
  by_cases h6 : a6 = b6
  case neg => exact neq_6 _ _ _ _ _ _ _ _ _ _ _ _ _ _ _ _ _ _ _ _ h6 W
  subst h6
  by_cases h7 : a7 = b7
  case neg => exact neq_7 _ _ _ _ _ _ _ _ _ _ _ _ _ _ _ _ _ _ _ h7 W
  subst h7
  by_cases h8 : a8 = b8
  case neg => exact neq_8 _ _ _ _ _ _ _ _ _ _ _ _ _ _ _ _ _ _ h8 W
  subst h8
  by_cases h9 : a9 = b9
  case neg => exact neq_9 _ _ _ _ _ _ _ _ _ _ _ _ _ _ _ _ _ h9 W
  subst h9
  by_cases h10 : a10 = b10
  case neg => exact neq_10 _ _ _ _ _ _ _ _ _ _ _ _ _ _ _ _ h10 W
  subst h10
  by_cases h11 : a11 = b11
  case neg => exact neq_11 _ _ _ _ _ _ _ _ _ _ _ _ _ _ _ h11 W
  subst h11
  by_cases h12 : a12 = b12
  case neg => exact neq_12 _ _ _ _ _ _ _ _ _ _ _ _ _ _ h12 W
  subst h12
  exact absurd rfl h
theorem ins_same (x : Ins) (W : World) : (binOp .neq 85 (.agg #[.int .i64 x.op, .int .i64 x.rd, .int .i64 x.loc, .bool x.ar, .int .u64 x.an, .bool x.br, .int .u64 x.bn, .bool x.acq, .bool x.rel, .int .i64 x.dep, .int .i64 x.pred, .int .i64 x.succ, .int .i64 x.skip]) (.agg #[.int .i64 x.op, .int .i64 x.rd, .int .i64 x.loc, .bool x.ar, .int .u64 x.an, .bool x.br, .int .u64 x.bn, .bool x.acq, .bool x.rel, .int .i64 x.dep, .int .i64 x.pred, .int .i64 x.succ, .int .i64 x.skip])).run Try.prog W = .ok (.bool false) W := by
  rw [run_neq_struct, eq_all]; rfl
theorem ins_cmp (x y : Ins) (h : x ≠ y) (W : World) : (binOp .neq 85 (.agg #[.int .i64 x.op, .int .i64 x.rd, .int .i64 x.loc, .bool x.ar, .int .u64 x.an, .bool x.br, .int .u64 x.bn, .bool x.acq, .bool x.rel, .int .i64 x.dep, .int .i64 x.pred, .int .i64 x.succ, .int .i64 x.skip]) (.agg #[.int .i64 y.op, .int .i64 y.rd, .int .i64 y.loc, .bool y.ar, .int .u64 y.an, .bool y.br, .int .u64 y.bn, .bool y.acq, .bool y.rel, .int .i64 y.dep, .int .i64 y.pred, .int .i64 y.succ, .int .i64 y.skip])).run Try.prog W = .ok (.bool true) W := by
  rw [run_neq_struct, ins_neq x y h]; rfl
end Go.Proofs.Yteeicedhnojdaaa
