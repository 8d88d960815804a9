/- Contracts of flow: what is left out, pairs, what is written. -/
import Derived.Test.YteeicedhnojdaaaFloE
namespace Go.Proofs.Yteeicedhnojdaaa
set_option maxRecDepth 100000
open Go.RowKit

theorem withN_lt {v : Nat} (hv : v < 18446744073709551616) (n : Int) : withN v n < 18446744073709551616 := by
  unfold withN
  split
  · rename_i h
    have e : (2 : Nat) ^ 64 = 18446744073709551616 := by decide
    rw [← e]
    exact Nat.or_lt_two_pow (by rw [e]; exact hv) (Nat.pow_lt_pow_right (by decide) (by omega))
  · exact hv
theorem cellFar {w : World} {b o a o' : Nat} {x v : Value} (h : w.cell? ⟨b, o, none⟩ = some x) (hne : b ≠ a) : (w.setCell ⟨a, o', none⟩ v).cell? ⟨b, o, none⟩ = some x := by
  rw [World.cell?_setCell_other]
  · exact h
  · intro e; injection e with e1; exact hne e1.symm
set_option maxHeartbeats 6400000 in
theorem leave_any (w0 : World) (K : WkB) (ok : KOk w0.heap.size K) (n m : Nat) (s : WkM) (hs : WkOk n m s) (os : List (Nat × Nat)) (hm : K.thr < m) (x : Ins) (a : Nat) (k : Nat) (hk : isMem x.op = true → OpIs os K.thr a k) (hkn : isMem x.op = true → k < n) (w : World) (h0 : Below w0.heap.size w0 w) (hw : WkIn w K n m s) (ho : OpsIn w0 K os) :
    Calls Try.prog 48 #[.pointer (some ⟨K.kb, 0, none⟩), .int .i64 (a : Int), insV x] w fun e w' => e = .returned (.tuple #[]) ∧ WkIn w' K n m (leaveM s K.thr a k (isMem x.op)) ∧ Fp K w w' := by
  have hB := h0.size
  have hkl := ltOf hw.kb
  rw [insV_eq]
  obtain ⟨E, hE⟩ : ∃ E, E = w.alloc (.cells #[.int .i64 x.op, .int .i64 x.rd, .int .i64 x.loc, .bool x.ar, .int .u64 x.an, .bool x.br, .int .u64 x.bn, .bool x.acq, .bool x.rel, .int .i64 x.dep, .int .i64 x.pred, .int .i64 x.succ, .int .i64 x.skip] 85) := ⟨_, rfl⟩
  have bE : Below w.heap.size w E := by rw [hE]; exact aset _ _
  have X : E.heap[w.heap.size]? = some (inO x) := by rw [hE]; exact heap_alloc_new _ _
  have hwe := hw.bel bE
  obtain ⟨q0, _, _, _, q4⟩ := hwe.head
  obtain ⟨_, _, _, _, _, _, r6⟩ := hwe.rows
  obtain ⟨v, hv⟩ : ∃ v, s.left[K.thr]? = some v := ⟨_, List.getElem?_eq_getElem (by rw [hs.left]; exact hm)⟩
  have l0 : E.cell? ⟨K.lf, K.thr, none⟩ = some (.int .u64 (v : Int)) := by rw [cOf hwe.lf]; simp [nU, hv]
  have lf := tOf hwe.lf K.thr
  have hvl : v < 18446744073709551616 := hs.lok v (List.mem_of_getElem? hv)
  have cw := fun W : World => (wordWith_any v (a : Int) hvl W).mono fun e w' (h : _ ∧ _) => (⟨h.1, h.2.symm⟩ : e = _ ∧ w' = W)
  have hti : (K.thr : Int) < (m : Int) := by omega
  have ht0 : (0 : Int) ≤ (K.thr : Int) := by omega
  have hgd : s.left.getD K.thr 0 = v := by rw [List.getD_eq_getElem?_getD, hv]; rfl
  obtain ⟨s1, hs1⟩ : ∃ s1 : WkM, s1 = { s with left := s.left.set K.thr (withN v (a : Int)) } := ⟨_, rfl⟩
  have hl : leaveM s K.thr a k (isMem x.op) = if isMem x.op then { s1 with state := s1.state.set k 2 } else s1 := by
    unfold leaveM; rw [hgd, hs1]
  rw [hl]
  have HWE := Bx.mk hwe; have HX := Bx.mk X; have BE := Bx.mk bE; have HS1 := Bx.mk hs1; have HO := Bx.mk ho; have HS := Bx.mk hs; have HW := Bx.mk hw
  have cm := Bx.mk (fun W => isMemory_any x W)
  clear hw hwe X bE hv hs1 hgd hl ho hs
  go_enter Try.func48, Try.ntmps48
  go_upto_region 1 with fail
  rw [← hE]
  clear hE
  go_still_tail 27, (by kernel_rfl)
  still_call (cw _)
  repeat still_step
  refine wpStill_nil ?_
  change wpList _ _ _ _ _ E.drew
  go_upto_region 2 with fail
  obtain ⟨W, hW⟩ : ∃ W, W = (E.setCell ⟨K.lf, K.thr, none⟩ (.int .u64 ((withN v (a : Int) : Nat) : Int))).drew := ⟨_, rfl⟩
  have hkp : ∀ b', b' ≠ K.lf → W.heap[b']? = E.heap[b']? := fun b' hb' => by rw [hW]; exact hset hb'
  have HWW : Bx (WkIn W K n m s1) := ⟨by rw [HS1.out, hW]; exact (HWE.out.setLf ok _ _).drew⟩
  have hbw : Fp K w W := by rw [hW]; exact ((Fp.ofBel BE.out).set 8 (by decide) _ _).drew
  have hlf : K.lf < w.heap.size := HW.out.lt 8 (by decide)
  have X := (hkp w.heap.size (by omega)).trans HX.out
  have x0 := cOf X 0; have x1 := cOf X 1; have x2 := cOf X 2; have x3 := cOf X 3; have x4 := cOf X 4; have x5 := cOf X 5; have x6 := cOf X 6; have x7 := cOf X 7; have x8 := cOf X 8; have x9 := cOf X 9; have x10 := cOf X 10; have x11 := cOf X 11; have x12 := cOf X 12
  simp only [List.getElem?_toArray, List.getElem?_cons_zero, List.getElem?_cons_succ] at x0 x1 x2 x3 x4 x5 x6 x7 x8 x9 x10 x11 x12
  have hoW := HO.out.bel (hbw.below ok h0)
  have HOW := Bx.mk hoW; have HBW := Bx.mk hbw
  rw [← hW]
  clear hW hkp l0 lf X q0 q4 r6 cw hoW hbw HX HWE
  have CM := cm
  rw [insV_eq] at CM
  have HK := Bx.mk hk; have HKN := Bx.mk hkn
  clear hk hkn
  cases hM : isMem x.op
  · rw [hM] at CM
    go_wp2_with (go_at_call 26; ((with_reducible refine (CM.out _).mono ?_); rintro e w2 ⟨rfl, b2⟩; have B2 := Bx.mk b2; clear b2))
    all_goals
      go_end0
      exact ⟨rfl, HWW.out.bel B2.out, HBW.out.bel B2.out⟩
  · rw [hM] at CM
    go_upto_region 3 with (go_at_call 26; ((with_reducible refine (CM.out _).mono ?_); rintro e w2 ⟨rfl, b2⟩; have B2 := Bx.mk b2; clear b2))
    have hw2 := HWW.out.bel B2.out
    have hb2 := HBW.out.bel B2.out
    obtain ⟨q0, _, _, _, _⟩ := hw2.head
    obtain ⟨r0, _⟩ := hw2.rows
    have hkn' := HKN.out hM
    have HG : Bx ((nI s1.state).toArray[k]? = some (.int .i64 ((s1.state.getD k 0 : Nat) : Int))) := ⟨nI_get (by rw [HS1.out, HS.out.state]; exact hkn')⟩
    have hst := ltOf hw2.st
    have q0d : w2.drew.cell? ⟨K.kb, 0, none⟩ = some (.pointer (some ⟨K.fb, 0, none⟩)) := q0
    have r0d : w2.drew.cell? ⟨K.fb, 0, none⟩ = some (.slice (some ⟨K.st, 0, none⟩) n n) := r0
    have HZ := Bx.mk hw2.st
    have co := opIdx_any K n m s1 os a k (HK.out hM) w2.drew hw2.drew ⟨(HO.out.bel (hb2.below ok h0)).ops, HO.out.len⟩
    have CO := Bx.mk co
    have hne1 : K.kb ≠ K.st := (show K.kb ≠ K.st from ok.nd 0 2 (by decide) (by decide) (by decide))
    have hne2 : K.fb ≠ K.st := (show K.fb ≠ K.st from ok.nd 1 2 (by decide) (by decide) (by decide))
    have hki : (k : Int) < (n : Int) := by omega
    have hk0 : (0 : Int) ≤ (k : Int) := by omega
    have HW2 := Bx.mk hw2; have HB2 := Bx.mk hb2
    clear co hw2 hb2 x0 x1 x2 x3 x4 x5 x6 x7 x8 x9 x10 x11 x12
    go_region_held3 (fun W => W.cell? ⟨K.kb, 0, none⟩ = some (.pointer (some ⟨K.fb, 0, none⟩)) ∧ W.cell? ⟨K.fb, 0, none⟩ = some (.slice (some ⟨K.st, 0, none⟩) n n))
      (first
        | (exact ⟨q0, r0⟩)
        | (go_split_ands; exact ⟨cBel q0d (by assumption), cBel r0d (by assumption)⟩)
        | (go_split_ands; exact ⟨cellFar (by assumption) hne1, cellFar (by assumption) hne2⟩))
      (first | (go_at_call 50; ((with_reducible refine (CO.out).mono ?_); rintro e w3 ⟨rfl, b3⟩; have Z := (b3.block K.st hst).trans HZ.out; have g0 := (cOf Z k).trans HG.out; have gf := tOf Z k; have B3 := Bx.mk b3)))
    go_wp2_with fail
    go_end0
    refine ⟨rfl, ?_, ?_⟩
    · exact (HW2.out.drew.bel B3.out).setSt ok k 2
    · exact (HB2.out.drew.bel B3.out).set 2 (by decide) _ _
set_option maxHeartbeats 6400000 in
theorem pair_any (B : Nat) (K : WkB) (ok : KOk B K) (n m : Nat) (s : WkM) (hs : WkOk n m s) (x : Ins) (k : Nat) (hkn : k < n) (w : World) (hw : WkIn w K n m s) :
    Calls Try.prog 73 #[.pointer (some ⟨K.kb, 0, none⟩), .int .i64 (k : Int), insV x] w fun e w' => e = .returned (.tuple #[]) ∧ WkIn w' K n m (pairM' s k x) ∧ Fp K w w' := by
  have hkl := ltOf hw.kb
  rw [insV_eq]
  obtain ⟨E, hE⟩ : ∃ E, E = w.alloc (.cells #[.int .i64 x.op, .int .i64 x.rd, .int .i64 x.loc, .bool x.ar, .int .u64 x.an, .bool x.br, .int .u64 x.bn, .bool x.acq, .bool x.rel, .int .i64 x.dep, .int .i64 x.pred, .int .i64 x.succ, .int .i64 x.skip] 85) := ⟨_, rfl⟩
  have bE : Below w.heap.size w E := by rw [hE]; exact aset _ _
  have X : E.heap[w.heap.size]? = some (inO x) := by rw [hE]; exact heap_alloc_new _ _
  have x2 := cOf X 2
  simp only [List.getElem?_toArray, List.getElem?_cons_zero, List.getElem?_cons_succ] at x2
  have hwe := hw.bel bE
  obtain ⟨q0, _⟩ := hwe.head
  obtain ⟨_, t1, t2⟩ := hwe.tail hs.regs
  obtain ⟨_, _, r2, _⟩ := hwe.rows
  have p0 : E.cell? ⟨K.pr, k, none⟩ = some (.int .i64 ((s.pair.getD k 0 : Nat) : Int)) := by rw [cOf hwe.pr, nI_get (by rw [hs.pair]; exact hkn)]
  have pf := tOf hwe.pr k
  have kf1 := tOf hwe.kb 30
  have kf2 := tOf hwe.kb 31
  have hki : (k : Int) < (n : Int) := by omega
  have hk0 : (0 : Int) ≤ (k : Int) := by omega
  have hne : K.kb ≠ K.pr := (show K.kb ≠ K.pr from ok.nd 0 4 (by decide) (by decide) (by decide))
  have HWE := Bx.mk hwe; have BE : Bx (Fp K w E) := ⟨Fp.ofBel bE⟩; have HS := Bx.mk hs
  clear hw hwe X bE hs
  obtain ⟨s1, hs1⟩ : ∃ s1 : WkM, s1 = (if s.lrLoc = x.loc then { s with pair := s.pair.set k s.lrOp } else s) := ⟨_, rfl⟩
  have hp : pairM' s k x = { s1 with lrOp := 0, lrLoc := 0 } := by
    rw [hs1]; unfold pairM'; split <;> rfl
  rw [hp]
  go_enter Try.func73, Try.ntmps73
  go_upto_region 1 with fail
  rw [← hE]
  clear hE hp
  by_cases hl : s.lrLoc = x.loc
  · rw [if_pos hl] at hs1
    have HS1 := Bx.mk hs1
    rw [hl] at t2
    clear hs1 hl
    go_quiet (fail)
    go_upto_region 2 with fail
    have HWN : Bx (WkIn (E.drewN nq) K n m s) := ⟨HWE.out.bel (belN E _ nq)⟩
    have BN : Bx (Fp K w (E.drewN nq)) := ⟨BE.out.bel (belN E _ nq)⟩
    have q0 : (E.drewN nq).cell? _ = _ := q0
    have t1 : (E.drewN nq).cell? _ = _ := t1
    have r2 : (E.drewN nq).cell? _ = _ := r2
    have p0 : (E.drewN nq).cell? _ = _ := p0
    have pf : (E.drewN nq).frozen? _ = _ := pf
    clear t2 kf1 kf2 HWE BE x2
    generalize E.drewN nq = F at *
    go_still_tail 14, (by kernel_rfl)
    change wpList _ _ _ _ _ F.drew
    go_upto_region 3 with fail
    have HW3 : Bx (WkIn ((F.setCell ⟨K.pr, k, none⟩ (.int .i64 (s.lrOp : Int))).drew) K n m s1) := ⟨by rw [HS1.out]; exact (HWN.out.setPr ok k s.lrOp).drew⟩
    have B3 : Bx (Fp K w ((F.setCell ⟨K.pr, k, none⟩ (.int .i64 (s.lrOp : Int))).drew)) := ⟨(BN.out.set 4 (by decide) _ _).drew⟩
    have hr1 : s1.regs.length = 8 := by rw [HS1.out]; exact HS.out.regs
    obtain ⟨_, u1, u2⟩ := HW3.out.tail hr1
    have uf1 := tOf HW3.out.kb 30
    have uf2 := tOf HW3.out.kb 31
    generalize (F.setCell ⟨K.pr, k, none⟩ (.int .i64 (s.lrOp : Int))).drew = G at *
    go_wp2_with fail
    go_end0
    exact ⟨rfl, HW3.out.setLr ok hr1 0 0, (B3.out.set 0 (by decide) _ _).set 0 (by decide) _ _⟩
  · rw [if_neg hl] at hs1
    have hlb : (s.lrLoc == x.loc) = false := by rw [beq_eq_false_iff_ne]; exact hl
    subst hs1
    clear hl
    go_quiet (fail)
    go_wp2_with fail
    go_end0
    refine ⟨rfl, ?_, ?_⟩
    · exact (HWE.out.bel (belN E _ nq)).setLr ok HS.out.regs 0 0
    · exact ((BE.out.bel (belN E _ nq)).set 0 (by decide) _ _).set 0 (by decide) _ _
end Go.Proofs.Yteeicedhnojdaaa
