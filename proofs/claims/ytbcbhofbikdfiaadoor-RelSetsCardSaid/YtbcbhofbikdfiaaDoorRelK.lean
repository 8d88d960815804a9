/- Contracts of rel: comparing two relations; what the layer's examples say. -/
import Derived.Test.YtbcbhofbikdfiaaDoorRelJ
import Derived.Stop.BytesEq
namespace Go.Proofs.YtbcbhofbikdfiaaDoor
set_option maxRecDepth 100000
open Go.RowKit M

theorem all_eq {r s : List Nat} (hr : R.Wf r) (hs : R.Wf s) : ((List.range' 0 16 1).all fun i => R.g r i == R.g s i) = decide (r = s) := by
  rw [Bool.eq_iff_iff, List.all_eq_true, decide_eq_true_eq]
  constructor
  · intro h
    refine R.ext hr hs fun a b => ?_
    rcases Nat.lt_or_ge a 16 with h1 | h1
    · have := h a (by rw [List.mem_range'_1]; omega)
      unfold R.has
      rw [show R.g r a = R.g s a by simpa using this]
    · rw [R.has_out hr h1, R.has_out hs h1]
  · rintro rfl i _
    simp
/-- two relations are compared -/
theorem rel_eql {r s : List Nat} (hr : R.Wf r) (hs : R.Wf s) (w : World) :
    (Op.equalIn 10000 25 (.agg (w16 r).toArray) (.agg (w16 s).toArray)).run Tryd.prog w = .ok (decide (r = s)) w := by
  have hz : ∀ w, (sizeOf 23).run Tryd.prog w = .ok 1 w := fun w => by
    have hE : (Tryd.prog.info? 23).map (fun i => i.size) = some 1 := by kernel_rfl
    cases hq : Tryd.prog.info? 23 with
    | none => simp [hq] at hE
    | some i =>
      have hs : i.size = 1 := by simpa [hq] using hE
      simp [sizeOf, typeInfo, hq, hs]
  rw [← all_eq hr hs, Op.equalIn]
  simp only [Sem.run_bind, run_underlying undR, Result.andThen_ok, hz, Std.Legacy.Range.forIn_eq_forIn_range', Std.Legacy.Range.size, Nat.sub_zero, Nat.add_sub_cancel, Nat.div_one]
  have hl : ∀ i ∈ List.range' 0 16 1, i < 16 := fun i hi => by simpa using (List.mem_range'_1.1 hi).2
  generalize List.range' 0 16 1 = l at hl ⊢
  induction l with
  | nil => simp
  | cons i l ih =>
    have hi : i < 16 := hl i (by simp)
    have px : (part 23 (w16 r).toArray (i * 1)).run Tryd.prog w = .ok (.int .u16 ((R.g r i : Nat) : Int)) w := by
      simp [part, isAgg, run_underlying Tryd.underlying23, w16_get hr hi]
    have py : (part 23 (w16 s).toArray (i * 1)).run Tryd.prog w = .ok (.int .u16 ((R.g s i : Nat) : Int)) w := by
      simp [part, isAgg, run_underlying Tryd.underlying23, w16_get hs hi]
    have pe : (Op.equalIn 9999 23 (.int .u16 ((R.g r i : Nat) : Int)) (.int .u16 ((R.g s i : Nat) : Int))).run Tryd.prog w = .ok (R.g r i == R.g s i) w := by
      rw [run_equalIn_int w 9998 23 .u16 .u16 _ _ Tryd.underlying23]
      congr 1
      rw [Bool.eq_iff_iff]
      simp
      omega
    simp only [List.forIn_cons, Sem.run_bind, px, py, pe, Result.andThen_ok, List.all_cons]
    cases hb : (R.g r i == R.g s i)
    · simp
    · simp only [Bool.not_true, Bool.false_eq_true, if_false, Sem.run_pure, Result.andThen_ok, Bool.true_and]
      exact ih fun j hj => hl j (by simp [hj])

/-- the examples' relation -/
def exR : List Nat := R.withM (R.withM R.zeroM 0 1) 1 2
theorem ex0_wf : R.Wf (R.withM R.zeroM 0 1) := R.with_wf R.zero_wf (by decide) (by decide)
theorem ex_wf : R.Wf exR := R.with_wf ex0_wf (by decide) (by decide)
theorem ex1 : R.has (R.closeM exR) 0 2 = true := by decide +kernel
theorem ex2 : R.roundM exR = false := by decide +kernel
theorem ex3 : R.roundM (R.withM exR 2 0) = true := by decide +kernel
theorem ex4 : R.ordM exR 7 = some [0, 1, 2] := by decide +kernel
theorem wpList_load_wanted {P : Program} {ops : Array Oper} {rest : List Oper} {op : Oper} {a : Act} {w : World} {Q : Exit → Act → World → Prop} (hwt : Region.wanted op (yielded ops a.tmps) = true) (ty : TypeId) (x : Operand) (ho : op.op = .load ty x)
    (b o : Nat) (hx : a.eval x = .pointer (some ⟨b, o, none⟩)) (cs : List Value) (d : TypeDesc) (hc : w.rangeAt b o cs)
    (hu : P.underlying ty = some d) (hd : d.isRow = true) (hi : (P.info? ty).map (·.size) = some cs.length)
    (h : wpList P ops Q rest (a.put op.dst (.agg cs.toArray)) w) : wpList P ops Q (op :: rest) a w := by
  unfold wpList
  rw [if_pos hwt]
  exact Or.inl (wp_load_mid ty x ho b o hx cs d hc hu hd hi h)

theorem cellB {w w' : World} {b o : Nat} {v : Value} (h : w.cell? ⟨b, o, none⟩ = some v) (hb : Below w.heap.size w w') : w'.cell? ⟨b, o, none⟩ = some v := by
  rw [hb.cell (World.block_lt_of_cell? w _ h)]; exact h
set_option maxRecDepth 100000 in
set_option maxHeartbeats 2000000 in
theorem awake16_any (w : World) (hT : Tab64 w) : Calls Tryd.prog 8 #[] w fun e w' => e = .returned (.bool true) ∧ Below w.heap.size w w' := by
  have c1 : ∀ W, Calls Tryd.prog 14 #[.agg (w16 R.zeroM).toArray, .int .i64 0, .int .i64 1] W fun e w' => e = .returned (.agg (w16 (R.withM R.zeroM 0 1)).toArray) ∧ Below W.heap.size W w' := fun W => with_any R.zeroM R.zero_wf 0 1 (by decide) (by decide) W
  have c2 : ∀ W, Calls Tryd.prog 14 #[.agg (w16 (R.withM R.zeroM 0 1)).toArray, .int .i64 1, .int .i64 2] W fun e w' => e = .returned (.agg (w16 exR).toArray) ∧ Below W.heap.size W w' := fun W => with_any _ ex0_wf 1 2 (by decide) (by decide) W
  have c3 : ∀ W, Calls Tryd.prog 14 #[.agg (w16 exR).toArray, .int .i64 2, .int .i64 0] W fun e w' => e = .returned (.agg (w16 (R.withM exR 2 0)).toArray) ∧ Below W.heap.size W w' := fun W => with_any _ ex_wf 2 0 (by decide) (by decide) W
  have c4 : ∀ W, Tab64 W → Calls Tryd.prog 30 #[.agg (w16 exR).toArray, .int .u16 7] W (OrdV W (some [0, 1, 2])) := fun W h => by
    have := order_any exR ex_wf 7 (by decide) W h
    rw [ex4] at this; exact this
  have c5 : ∀ W, Calls Tryd.prog 26 #[.agg (w16 exR).toArray] W fun e w' => e = .returned (.agg (w16 (R.closeM exR)).toArray) ∧ Below W.heap.size W w' := fun W => closed_any exR ex_wf W
  have c6 : ∀ W, Calls Tryd.prog 12 #[.agg (w16 (R.closeM exR)).toArray, .int .i64 0, .int .i64 2] W fun e w' => e = .returned (.bool true) ∧ Below W.heap.size W w' := fun W => by
    have := has_any (R.closeM exR) (R.close_wf ex_wf) ((0 : Nat) : Int) ((2 : Nat) : Int) W
    rw [hasI_nat, ex1] at this; exact this
  have c7 : ∀ W, Calls Tryd.prog 28 #[.agg (w16 exR).toArray] W fun e w' => e = .returned (.bool false) ∧ Below W.heap.size W w' := fun W => by
    have := around_any exR ex_wf W
    rw [ex2] at this; exact this
  have c8 : ∀ W, Calls Tryd.prog 28 #[.agg (w16 (R.withM exR 2 0)).toArray] W fun e w' => e = .returned (.bool true) ∧ Below W.heap.size W w' := fun W => by
    have := around_any (R.withM exR 2 0) (R.with_wf ex_wf (by decide) (by decide)) W
    rw [ex3] at this; exact this
  have C1 := Box.mk c1; have C2 := Box.mk c2; have C3 := Box.mk c3; have C4 := Box.mk c4; have C5 := Box.mk c5; have C6 := Box.mk c6; have C7 := Box.mk c7; have C8 := Box.mk c8
  have HT := Box.mk hT
  have EW := Box.mk ex_wf
  rw [sum_zero] at C1
  clear c1 c2 c3 c4 c5 c6 c7 c8 hT
  generalize exR = X at *
  generalize R.withM X 2 0 = Y at *
  generalize R.closeM X = Z at *
  generalize R.withM R.zeroM 0 1 = U at *
  go_enter Tryd.func8, Tryd.ntmps8
  go_upto_region 2 with (first
    | (go_at_call 14; ((with_reducible refine (C1.out _).mono ?_); rintro e w1 ⟨rfl, b1⟩; have B1 := Box.mk b1; clear b1))
    | (go_at_call 14; ((with_reducible refine (C2.out _).mono ?_); rintro e w2 ⟨rfl, b2⟩; have B2 := Box.mk (bel B1.out b2); have RN := Box.mk (RB.new w2 R.zeroM); rw [sum_zero] at RN; clear b2))
    | ((with_reducible refine at_store 25 (.tmp 1) (.tmp 6) ?_); refine wpList_store_mid rfl 25 (.tmp 1) (.tmp 6) (by rfl) w2.heap.size 0 (w16 X).toArray (by rfl) (by rfl) (thereL RN.out EW.out) (infoA EW.out) (all_oneCell_toArray (w16_one _)) ?_))
  have RV := Box.mk (RN.out.all R.zero_wf EW.out)
  have BV := Box.mk (bsets (B := w.heap.size) (W := w) (a := w2.heap.size) (by have := B2.out.size; omega) (w16 X) _ 0 (B2.out.trans ((aset w2 (.cells #[.int .u16 0, .int .u16 0, .int .u16 0, .int .u16 0, .int .u16 0, .int .u16 0, .int .u16 0, .int .u16 0, .int .u16 0, .int .u16 0, .int .u16 0, .int .u16 0, .int .u16 0, .int .u16 0, .int .u16 0, .int .u16 0] 25)).mono (by have := B2.out.size; omega))))
  have TV := Box.mk (tab_bel HT.out BV.out)
  generalize ((w2.alloc (.cells #[.int .u16 0, .int .u16 0, .int .u16 0, .int .u16 0, .int .u16 0, .int .u16 0, .int .u16 0, .int .u16 0, .int .u16 0, .int .u16 0, .int .u16 0, .int .u16 0, .int .u16 0, .int .u16 0, .int .u16 0, .int .u16 0] 25)).setCells w2.heap.size 0 (w16 X)) = V at *
  generalize w2.heap.size = b at *
  clear B1 B2 RN HT C1 C2
  simp only [Act.put]
  go_wp2_with (first
    | ((with_reducible refine at_load 25 (.tmp 1) ?_); refine wpList_load_wanted (by rfl) 25 (.tmp 1) (by rfl) b 0 (by rfl) (w16 X) _ R6.out.range undR rfl (infoL EW.out) ?_)
    | ((with_reducible refine at_load 25 (.tmp 1) ?_); refine wpList_load_wanted (by rfl) 25 (.tmp 1) (by rfl) b 0 (by rfl) (w16 X) _ R5.out.range undR rfl (infoL EW.out) ?_)
    | ((with_reducible refine at_load 25 (.tmp 1) ?_); refine wpList_load_mid rfl 25 (.tmp 1) (by rfl) b 0 (by rfl) (w16 X) _ R3.out.range undR rfl (infoL EW.out) ?_)
    | ((with_reducible refine at_load 25 (.tmp 1) ?_); refine wpList_load_mid rfl 25 (.tmp 1) (by rfl) b 0 (by rfl) (w16 X) _ RV.out.range undR rfl (infoL EW.out) ?_)
    | (go_at_call 30; ((with_reducible refine (C4.out _ TV.out).mono ?_); rintro e w3 ⟨b3, v3, rfl, row3⟩; obtain ⟨g3, cap3, rfl⟩ := rowSome row3 (by decide); have q3 : w3.cell? ⟨g3, 2, none⟩ = some (.int .i64 2) := (row3.cellAt 2 (by decide)); have R3 := Box.mk (RV.out.below b3); have B3 := Box.mk (bel BV.out b3); clear b3 row3))
    | (go_at_call 26; ((with_reducible refine (C5.out _).mono ?_); rintro e w4 ⟨rfl, b4⟩; have R4 := Box.mk (R3.out.below b4); have B4 := Box.mk (bel B3.out b4); replace q3 := cellB q3 b4; clear b4))
    | (go_at_call 12; ((with_reducible refine (C6.out _).mono ?_); rintro e w5 ⟨rfl, b5⟩; have R5 := Box.mk (R4.out.below b5); have B5 := Box.mk (bel B4.out b5); replace q3 := cellB q3 b5; clear b5))
    | (go_at_call 28; ((with_reducible refine (C7.out _).mono ?_); rintro e w6 ⟨rfl, b6⟩; have R6 := Box.mk (R5.out.below b6); have B6 := Box.mk (bel B5.out b6); replace q3 := cellB q3 b6; clear b6))
    | (go_at_call 14; ((with_reducible refine (C3.out _).mono ?_); rintro e w7 ⟨rfl, b7⟩; have B7 := Box.mk (bel B6.out b7); replace q3 := cellB q3 b7; clear b7))
    | (go_at_call 28; ((with_reducible refine (C8.out _).mono ?_); rintro e w8 ⟨rfl, b8⟩; have B8 := Box.mk (bel B7.out b8); replace q3 := cellB q3 b8; clear b8)))
  go_outline
  go_ret
  exact ⟨rfl, B8.out⟩
end Go.Proofs.YtbcbhofbikdfiaaDoor
