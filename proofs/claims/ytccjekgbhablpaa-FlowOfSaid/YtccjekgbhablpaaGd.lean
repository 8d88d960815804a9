/- FloF, FloG, FloI, in one text. -/
import Derived.Test.YtccjekgbhablpaaFloE
namespace Go.Proofs.Ytccjekgbhablpaa
set_option maxRecDepth 100000
open Go.RowKit

theorem withN_lt {v : Nat} (hv : v < 18446744073709551616) (n : Int) : withN v n < 18446744073709551616 := by
  unfold withN
  split
  · rename_i h
    have e : (2 : Nat) ^ 64 = 18446744073709551616 := by decide
    rw [← e]
    exact Nat.or_lt_two_pow (by rw [e]; exact hv) (Nat.pow_lt_pow_right (by decide) (by omega))
  · exact hv
theorem cellFar {w : World} {b o a o' : Nat} {x v : Value} (h : w.cell? ⟨b, o, none⟩ = some x) (hne : b ≠ a) : (w.setCell ⟨a, o', none⟩ v).cell? ⟨b, o, none⟩ = some x := by
  rw [World.cell?_setCell_other]
  · exact h
  · intro e; injection e with e1; exact hne e1.symm
set_option maxHeartbeats 6400000 in
theorem leave_any (w0 : World) (K : WkB) (ok : KOk w0.heap.size K) (n m : Nat) (s : WkM) (hs : WkOk n m s) (os : List (Nat × Nat)) (hm : K.thr < m) (x : Ins) (a : Nat) (k : Nat) (hk : isMem x.op = true → OpIs os K.thr a k) (hkn : isMem x.op = true → k < n) (w : World) (h0 : Below w0.heap.size w0 w) (hw : WkIn w K n m s) (ho : OpsIn w0 K os) :
    Calls Try.prog 38 #[.pointer (some ⟨K.kb, 0, none⟩), .int .i64 (a : Int), insV x] w fun e w' => e = .returned (.tuple #[]) ∧ WkIn w' K n m (leaveM s K.thr a k (isMem x.op)) ∧ Fp K w w' := by
  have hB := h0.size
  have hkl := ltOf hw.kb
  rw [insV_eq]
  obtain ⟨E, hE⟩ : ∃ E, E = w.alloc (.cells #[.int .i64 x.op, .int .i64 x.rd, .int .i64 x.loc, .bool x.ar, .int .u64 x.an, .bool x.br, .int .u64 x.bn, .bool x.acq, .bool x.rel, .int .i64 x.dep, .int .i64 x.pred, .int .i64 x.succ, .int .i64 x.skip] 84) := ⟨_, rfl⟩
  have bE : Below w.heap.size w E := by rw [hE]; exact aset _ _
  have X : E.heap[w.heap.size]? = some (inO x) := by rw [hE]; exact heap_alloc_new _ _
  have hwe := hw.bel bE
  obtain ⟨q0, _, _, _, q4⟩ := hwe.head
  obtain ⟨_, _, _, _, _, _, r6⟩ := hwe.rows
  obtain ⟨v, hv⟩ : ∃ v, s.left[K.thr]? = some v := ⟨_, List.getElem?_eq_getElem (by rw [hs.left]; exact hm)⟩
  have l0 : E.cell? ⟨K.lf, K.thr, none⟩ = some (.int .u64 (v : Int)) := by rw [cOf hwe.lf]; simp [nU, hv]
  have lf := tOf hwe.lf K.thr
  have hvl : v < 18446744073709551616 := hs.lok v (List.mem_of_getElem? hv)
  have cw := fun W : World => (wordWith_any v (a : Int) hvl W).mono fun e w' (h : _ ∧ _) => (⟨h.1, h.2.symm⟩ : e = _ ∧ w' = W)
  have hti : (K.thr : Int) < (m : Int) := by omega
  have ht0 : (0 : Int) ≤ (K.thr : Int) := by omega
  have hgd : s.left.getD K.thr 0 = v := by rw [List.getD_eq_getElem?_getD, hv]; rfl
  obtain ⟨s1, hs1⟩ : ∃ s1 : WkM, s1 = { s with left := s.left.set K.thr (withN v (a : Int)) } := ⟨_, rfl⟩
  have hl : leaveM s K.thr a k (isMem x.op) = if isMem x.op then { s1 with state := s1.state.set k 2 } else s1 := by
    unfold leaveM; rw [hgd, hs1]
  rw [hl]
  have HWE := Bx.mk hwe; have HX := Bx.mk X; have BE := Bx.mk bE; have HS1 := Bx.mk hs1; have HO := Bx.mk ho; have HS := Bx.mk hs; have HW := Bx.mk hw
  have cm := Bx.mk (fun W => isMemory_any x W)
  clear hw hwe X bE hv hs1 hgd hl ho hs
  go_enter Try.func38, Try.ntmps38
  go_upto_region 1 with fail
  rw [← hE]
  clear hE
  go_still_tail 27, (by kernel_rfl)
  still_call (cw _)
  repeat still_step
  refine wpStill_nil ?_
  change wpList _ _ _ _ _ E.drew
  go_upto_region 2 with fail
  obtain ⟨W, hW⟩ : ∃ W, W = (E.setCell ⟨K.lf, K.thr, none⟩ (.int .u64 ((withN v (a : Int) : Nat) : Int))).drew := ⟨_, rfl⟩
  have hkp : ∀ b', b' ≠ K.lf → W.heap[b']? = E.heap[b']? := fun b' hb' => by rw [hW]; exact hset hb'
  have HWW : Bx (WkIn W K n m s1) := ⟨by rw [HS1.out, hW]; exact (HWE.out.setLf ok _ _).drew⟩
  have hbw : Fp K w W := by rw [hW]; exact ((Fp.ofBel BE.out).set 8 (by decide) _ _).drew
  have hlf : K.lf < w.heap.size := HW.out.lt 8 (by decide)
  have X := (hkp w.heap.size (by omega)).trans HX.out
  have x0 := cOf X 0; have x1 := cOf X 1; have x2 := cOf X 2; have x3 := cOf X 3; have x4 := cOf X 4; have x5 := cOf X 5; have x6 := cOf X 6; have x7 := cOf X 7; have x8 := cOf X 8; have x9 := cOf X 9; have x10 := cOf X 10; have x11 := cOf X 11; have x12 := cOf X 12
  simp only [List.getElem?_toArray, List.getElem?_cons_zero, List.getElem?_cons_succ] at x0 x1 x2 x3 x4 x5 x6 x7 x8 x9 x10 x11 x12
  have hoW := HO.out.bel (hbw.below ok h0)
  have HOW := Bx.mk hoW; have HBW := Bx.mk hbw
  rw [← hW]
  clear hW hkp l0 lf X q0 q4 r6 cw hoW hbw HX HWE
  have CM := cm
  rw [insV_eq] at CM
  have HK := Bx.mk hk; have HKN := Bx.mk hkn
  clear hk hkn
  cases hM : isMem x.op
  · rw [hM] at CM
    go_wp2_with (go_at_call 21; ((with_reducible refine (CM.out _).mono ?_); rintro e w2 ⟨rfl, b2⟩; have B2 := Bx.mk b2; clear b2))
    all_goals
      go_end0
      exact ⟨rfl, HWW.out.bel B2.out, HBW.out.bel B2.out⟩
  · rw [hM] at CM
    go_upto_region 3 with (go_at_call 21; ((with_reducible refine (CM.out _).mono ?_); rintro e w2 ⟨rfl, b2⟩; have B2 := Bx.mk b2; clear b2))
    have hw2 := HWW.out.bel B2.out
    have hb2 := HBW.out.bel B2.out
    obtain ⟨q0, _, _, _, _⟩ := hw2.head
    obtain ⟨r0, _⟩ := hw2.rows
    have hkn' := HKN.out hM
    have HG : Bx ((nI s1.state).toArray[k]? = some (.int .i64 ((s1.state.getD k 0 : Nat) : Int))) := ⟨nI_get (by rw [HS1.out, HS.out.state]; exact hkn')⟩
    have hst := ltOf hw2.st
    have q0d : w2.drew.cell? ⟨K.kb, 0, none⟩ = some (.pointer (some ⟨K.fb, 0, none⟩)) := q0
    have r0d : w2.drew.cell? ⟨K.fb, 0, none⟩ = some (.slice (some ⟨K.st, 0, none⟩) n n) := r0
    have HZ := Bx.mk hw2.st
    have co := opIdx_any K n m s1 os a k (HK.out hM) w2.drew hw2.drew ⟨(HO.out.bel (hb2.below ok h0)).ops, HO.out.len⟩
    have CO := Bx.mk co
    have hne1 : K.kb ≠ K.st := (show K.kb ≠ K.st from ok.nd 0 2 (by decide) (by decide) (by decide))
    have hne2 : K.fb ≠ K.st := (show K.fb ≠ K.st from ok.nd 1 2 (by decide) (by decide) (by decide))
    have hki : (k : Int) < (n : Int) := by omega
    have hk0 : (0 : Int) ≤ (k : Int) := by omega
    have HW2 := Bx.mk hw2; have HB2 := Bx.mk hb2
    clear co hw2 hb2 x0 x1 x2 x3 x4 x5 x6 x7 x8 x9 x10 x11 x12
    go_region_held3 (fun W => W.cell? ⟨K.kb, 0, none⟩ = some (.pointer (some ⟨K.fb, 0, none⟩)) ∧ W.cell? ⟨K.fb, 0, none⟩ = some (.slice (some ⟨K.st, 0, none⟩) n n))
      (first
        | (exact ⟨q0, r0⟩)
        | (go_split_ands; exact ⟨cBel q0d (by assumption), cBel r0d (by assumption)⟩)
        | (go_split_ands; exact ⟨cellFar (by assumption) hne1, cellFar (by assumption) hne2⟩))
      (first | (go_at_call 40; ((with_reducible refine (CO.out).mono ?_); rintro e w3 ⟨rfl, b3⟩; have Z := (b3.block K.st hst).trans HZ.out; have g0 := (cOf Z k).trans HG.out; have gf := tOf Z k; have B3 := Bx.mk b3)))
    go_wp2_with fail
    go_end0
    refine ⟨rfl, ?_, ?_⟩
    · exact (HW2.out.drew.bel B3.out).setSt ok k 2
    · exact (HB2.out.drew.bel B3.out).set 2 (by decide) _ _
set_option maxHeartbeats 6400000 in
theorem pair_any (B : Nat) (K : WkB) (ok : KOk B K) (n m : Nat) (s : WkM) (hs : WkOk n m s) (x : Ins) (k : Nat) (hkn : k < n) (w : World) (hw : WkIn w K n m s) :
    Calls Try.prog 66 #[.pointer (some ⟨K.kb, 0, none⟩), .int .i64 (k : Int), insV x] w fun e w' => e = .returned (.tuple #[]) ∧ WkIn w' K n m (pairM' s k x) ∧ Fp K w w' := by
  have hkl := ltOf hw.kb
  rw [insV_eq]
  obtain ⟨E, hE⟩ : ∃ E, E = w.alloc (.cells #[.int .i64 x.op, .int .i64 x.rd, .int .i64 x.loc, .bool x.ar, .int .u64 x.an, .bool x.br, .int .u64 x.bn, .bool x.acq, .bool x.rel, .int .i64 x.dep, .int .i64 x.pred, .int .i64 x.succ, .int .i64 x.skip] 84) := ⟨_, rfl⟩
  have bE : Below w.heap.size w E := by rw [hE]; exact aset _ _
  have X : E.heap[w.heap.size]? = some (inO x) := by rw [hE]; exact heap_alloc_new _ _
  have x2 := cOf X 2
  simp only [List.getElem?_toArray, List.getElem?_cons_zero, List.getElem?_cons_succ] at x2
  have hwe := hw.bel bE
  obtain ⟨q0, _⟩ := hwe.head
  obtain ⟨_, t1, t2⟩ := hwe.tail hs.regs
  obtain ⟨_, _, r2, _⟩ := hwe.rows
  have p0 : E.cell? ⟨K.pr, k, none⟩ = some (.int .i64 ((s.pair.getD k 0 : Nat) : Int)) := by rw [cOf hwe.pr, nI_get (by rw [hs.pair]; exact hkn)]
  have pf := tOf hwe.pr k
  have kf1 := tOf hwe.kb 30
  have kf2 := tOf hwe.kb 31
  have hki : (k : Int) < (n : Int) := by omega
  have hk0 : (0 : Int) ≤ (k : Int) := by omega
  have hne : K.kb ≠ K.pr := (show K.kb ≠ K.pr from ok.nd 0 4 (by decide) (by decide) (by decide))
  have HWE := Bx.mk hwe; have BE : Bx (Fp K w E) := ⟨Fp.ofBel bE⟩; have HS := Bx.mk hs
  clear hw hwe X bE hs
  obtain ⟨s1, hs1⟩ : ∃ s1 : WkM, s1 = (if s.lrLoc = x.loc then { s with pair := s.pair.set k s.lrOp } else s) := ⟨_, rfl⟩
  have hp : pairM' s k x = { s1 with lrOp := 0, lrLoc := 0 } := by
    rw [hs1]; unfold pairM'; split <;> rfl
  rw [hp]
  go_enter Try.func66, Try.ntmps66
  go_upto_region 1 with fail
  rw [← hE]
  clear hE hp
  by_cases hl : s.lrLoc = x.loc
  · rw [if_pos hl] at hs1
    have HS1 := Bx.mk hs1
    rw [hl] at t2
    clear hs1 hl
    go_quiet (fail)
    go_upto_region 2 with fail
    have HWN : Bx (WkIn (E.drewN nq) K n m s) := ⟨HWE.out.bel (belN E _ nq)⟩
    have BN : Bx (Fp K w (E.drewN nq)) := ⟨BE.out.bel (belN E _ nq)⟩
    have q0 : (E.drewN nq).cell? _ = _ := q0
    have t1 : (E.drewN nq).cell? _ = _ := t1
    have r2 : (E.drewN nq).cell? _ = _ := r2
    have p0 : (E.drewN nq).cell? _ = _ := p0
    have pf : (E.drewN nq).frozen? _ = _ := pf
    clear t2 kf1 kf2 HWE BE x2
    generalize E.drewN nq = F at *
    go_still_tail 14, (by kernel_rfl)
    change wpList _ _ _ _ _ F.drew
    go_upto_region 3 with fail
    have HW3 : Bx (WkIn ((F.setCell ⟨K.pr, k, none⟩ (.int .i64 (s.lrOp : Int))).drew) K n m s1) := ⟨by rw [HS1.out]; exact (HWN.out.setPr ok k s.lrOp).drew⟩
    have B3 : Bx (Fp K w ((F.setCell ⟨K.pr, k, none⟩ (.int .i64 (s.lrOp : Int))).drew)) := ⟨(BN.out.set 4 (by decide) _ _).drew⟩
    have hr1 : s1.regs.length = 8 := by rw [HS1.out]; exact HS.out.regs
    obtain ⟨_, u1, u2⟩ := HW3.out.tail hr1
    have uf1 := tOf HW3.out.kb 30
    have uf2 := tOf HW3.out.kb 31
    generalize (F.setCell ⟨K.pr, k, none⟩ (.int .i64 (s.lrOp : Int))).drew = G at *
    go_wp2_with fail
    go_end0
    exact ⟨rfl, HW3.out.setLr ok hr1 0 0, (B3.out.set 0 (by decide) _ _).set 0 (by decide) _ _⟩
  · rw [if_neg hl] at hs1
    have hlb : (s.lrLoc == x.loc) = false := by rw [beq_eq_false_iff_ne]; exact hl
    subst hs1
    clear hl
    go_quiet (fail)
    go_wp2_with fail
    go_end0
    refine ⟨rfl, ?_, ?_⟩
    · exact (HWE.out.bel (belN E _ nq)).setLr ok HS.out.regs 0 0
    · exact ((BE.out.bel (belN E _ nq)).set 0 (by decide) _ _).set 0 (by decide) _ _
end Go.Proofs.Ytccjekgbhablpaa
namespace Go.Proofs.Ytccjekgbhablpaa
set_option maxRecDepth 100000
open Go.RowKit

theorem nV_at {l : List (Bool × Nat)} {k : Nat} (h : k < l.length) (j : Nat) (hj : j < 2) : ∃ v, (nV l).toArray[k * 2 + j]? = some v := by
  obtain ⟨p, hp⟩ : ∃ p, l[k]? = some p := ⟨_, List.getElem?_eq_getElem h⟩
  rw [List.getElem?_toArray, nV_get hp j hj]
  match j, hj with
  | 0, _ => exact ⟨_, rfl⟩
  | 1, _ => exact ⟨_, rfl⟩
set_option maxHeartbeats 6400000 in
theorem write_any (w0 : World) (K : WkB) (ok : KOk w0.heap.size K) (n m : Nat) (s : WkM) (hs : WkOk n m s) (c : CtxM) (hrl : c.reads.length ≤ 1000000) (x : Ins) (hx : InsN x) (k : Nat) (hkn : k < n) (hnn : n ≤ 1000000) (w : World) (h0 : Below w0.heap.size w0 w) (hw : WkIn w K n m s) (hc : CtxIn w0 K c) :
    Calls Try.prog 68 #[.pointer (some ⟨K.kb, 0, none⟩), .int .i64 (k : Int), insV x] w fun e w' => e = .returned (.tuple #[]) ∧ WkIn w' K n m (writeM c s k x) ∧ Fp K w w' := by
  have hkl := ltOf hw.kb
  have ca := fun W (h : WkIn W K n m s) => arg_ins K n m s hs.regs x.ar x.an hx.an.1 hx.ar W h
  obtain ⟨a, ha⟩ : ∃ a, a = argM s x.ar x.an.toNat := ⟨_, rfl⟩
  rw [← ha] at ca
  rw [insV_eq]
  obtain ⟨E, hE⟩ : ∃ E, E = w.alloc (.cells #[.int .i64 x.op, .int .i64 x.rd, .int .i64 x.loc, .bool x.ar, .int .u64 x.an, .bool x.br, .int .u64 x.bn, .bool x.acq, .bool x.rel, .int .i64 x.dep, .int .i64 x.pred, .int .i64 x.succ, .int .i64 x.skip] 84) := ⟨_, rfl⟩
  have bE : Below w.heap.size w E := by rw [hE]; exact aset _ _
  have X : E.heap[w.heap.size]? = some (inO x) := by rw [hE]; exact heap_alloc_new _ _
  have x3 := cOf X 3; have x4 := cOf X 4
  simp only [List.getElem?_toArray, List.getElem?_cons_zero, List.getElem?_cons_succ] at x3 x4
  have HA := Bx.mk ha; have CA := Bx.mk (ca E (hw.bel bE)); have HWE := Bx.mk (hw.bel bE); have BE : Bx (Fp K w E) := ⟨Fp.ofBel bE⟩; have HS := Bx.mk hs; have HX := Bx.mk X; have HC := Bx.mk hc; have HW := Bx.mk hw
  have hzE : w.heap.size < E.heap.size := ltOf X
  have ne1 : K.kb ≠ K.va := (show K.kb ≠ K.va from ok.nd 0 6 (by decide) (by decide) (by decide))
  have ne2 : K.kb ≠ K.wr := (show K.kb ≠ K.wr from ok.nd 0 3 (by decide) (by decide) (by decide))
  have ne3 : K.fb ≠ K.wr := (show K.fb ≠ K.wr from ok.nd 1 3 (by decide) (by decide) (by decide))
  clear hw X bE hs ha ca hc
  go_enter Try.func68, Try.ntmps68
  go_upto_region 1 with fail
  rw [← hE]
  clear hE
  go_upto_region 2 with (go_at_call 71; ((with_reducible refine (CA.out).mono ?_); rintro e w2 ⟨rfl, b2⟩; have B2 := Bx.mk b2; clear b2))
  obtain ⟨F, hF⟩ : ∃ F, F = w2.alloc (.cells #[.bool a.k, .int .u64 (a.v : Int), .int .u64 (a.f : Int)] 95) := ⟨_, rfl⟩
  have bF : Below E.heap.size E F := by rw [hF]; exact B2.out.alloc B2.out.size _
  have Y : F.heap[w2.heap.size]? = some (cnO a) := by rw [hF]; exact heap_alloc_new _ _
  have y2 := cOf Y 2
  simp only [List.getElem?_toArray, List.getElem?_cons_zero, List.getElem?_cons_succ] at y2
  have hwf := HWE.out.bel bF
  obtain ⟨q0, _⟩ := hwf.head
  obtain ⟨_, _, _, _, r4, _⟩ := hwf.rows
  have hki : (k : Int) < (n : Int) := by omega
  have hk0 : (0 : Int) ≤ (k : Int) := by omega
  have g0 : F.cell? ⟨K.va, k, none⟩ = some (.int .u64 ((s.value.getD k 0 : Nat) : Int)) := by rw [cOf hwf.va, nU_get (by rw [HS.out.value]; exact hkn)]
  have gf := tOf hwf.va k
  have HWF := Bx.mk hwf; have BF := Bx.mk (BE.out.bel bF); have HY := Bx.mk Y; have HXF := Bx.mk ((bF.block _ hzE).trans HX.out)
  have hz2 : w.heap.size < w2.heap.size := by have := B2.out.size; omega
  rw [← hF]
  clear hF bF Y hwf x3 x4 HWE BE HX CA B2
  go_still_tail 11, (by kernel_rfl)
  change wpList _ _ _ _ _ F.drew
  go_upto_region 3 with fail
  have hva : K.va < w.heap.size := HW.out.lt 6 (by decide)
  have hwr : K.wr < w.heap.size := HW.out.lt 3 (by decide)
  obtain ⟨s1, hs1⟩ : ∃ s1 : WkM, s1 = { s with value := s.value.set k a.f } := ⟨_, rfl⟩
  obtain ⟨G, hG⟩ : ∃ G, G = (F.setCell ⟨K.va, k, none⟩ (.int .u64 (a.f : Int))).drew := ⟨_, rfl⟩
  have kG : ∀ b', b' ≠ K.va → G.heap[b']? = F.heap[b']? := fun b' hb' => by rw [hG]; exact hset hb'
  have hwg : WkIn G K n m s1 := by rw [hs1, hG]; exact (HWF.out.setVa ok k a.f).drew
  have bG : Fp K w G := by rw [hG]; exact (BF.out.set 6 (by decide) _ _).drew
  have YG := (kG w2.heap.size (by omega)).trans HY.out
  have XG := (kG w.heap.size (by omega)).trans HXF.out
  have y0 := cOf YG 0; have y1 := cOf YG 1
  simp only [List.getElem?_toArray, List.getElem?_cons_zero, List.getElem?_cons_succ] at y0 y1
  obtain ⟨q0, _⟩ := hwg.head
  obtain ⟨_, r1, _⟩ := hwg.rows
  have hwl : k < s1.wr.length := by rw [hs1]; show k < s.wr.length; rw [HS.out.wr]; exact hkn
  obtain ⟨u0, g0⟩ := nV_at hwl 0 (by decide)
  obtain ⟨u1, g1⟩ := nV_at hwl 1 (by decide)
  rw [← cOf hwg.wr, Nat.add_zero] at g0
  rw [← cOf hwg.wr] at g1
  have gf0 := tOf hwg.wr (k * 2); have gf1 := tOf hwg.wr (k * 2 + 1)
  have HWG := Bx.mk hwg; have BG := Bx.mk bG; have HYG := Bx.mk YG; have HXG := Bx.mk XG; have HS1 := Bx.mk hs1
  rw [← hG]
  clear hG kG hwg bG YG XG HWF BF HY HXF y2 r4 hs1 hwl
  go_still_tail 11, (by kernel_rfl)
  change wpList _ _ _ _ _ G.drew
  go_upto_region 4 with fail
  obtain ⟨s2, hs2⟩ : ∃ s2 : WkM, s2 = { s1 with wr := s1.wr.set k (a.k, a.v) } := ⟨_, rfl⟩
  obtain ⟨H, hH⟩ : ∃ H, H = ((G.setCell ⟨K.wr, k * 2, none⟩ (.bool a.k)).setCell ⟨K.wr, k * 2 + 1, none⟩ (.int .u64 (a.v : Int))).drew := ⟨_, rfl⟩
  have kH : ∀ b', b' ≠ K.wr → H.heap[b']? = G.heap[b']? := fun b' hb' => by rw [hH]; exact (hset hb').trans (hset hb')
  have hwh : WkIn H K n m s2 := by rw [hs2, hH]; exact (HWG.out.setWr ok k a.k a.v).drew
  have bH : Fp K w H := by rw [hH]; exact ((BG.out.set 3 (by decide) _ _).set 3 (by decide) _ _).drew
  have YH := (kH w2.heap.size (by omega)).trans HYG.out
  have XH := (kH w.heap.size (by omega)).trans HXG.out
  have x0 := cOf XH 0
  simp only [List.getElem?_toArray, List.getElem?_cons_zero] at x0
  have HWH := Bx.mk hwh; have BH := Bx.mk bH; have HYH := Bx.mk YH; have HS2 := Bx.mk hs2
  rw [← hH]
  clear hH kH hwh bH YH XH HWG BG HYG HXG y0 y1 r1 q0 g0 g1 gf0 gf1 hs2
  by_cases h12 : x.op = 12
  · rw [h12] at x0
    have H12 := Bx.mk h12
    clear h12
    have YH := HYH.out
    have y0 := cOf YH 0; have y1 := cOf YH 1
    simp only [List.getElem?_toArray, List.getElem?_cons_zero, List.getElem?_cons_succ] at y0 y1
    obtain ⟨q0, _⟩ := HWH.out.head
    obtain ⟨_, r1, _⟩ := HWH.out.rows
    have cr := read_any K n m s2 c hrl k (by omega) H.drew HWH.out.drew ((HC.out.bel (BH.out.drew.below ok h0)))
    obtain ⟨p, hp⟩ : ∃ p, p = readM c k := ⟨_, rfl⟩
    rw [← hp] at cr
    have CR := Bx.mk cr; have HP := Bx.mk hp; have CC := Bx.mk (fun W => comb_add (a.k, a.v) p W)
    have HZ := Bx.mk HWH.out.wr
    have hzl := ltOf HWH.out.wr
    have hwl : k < s2.wr.length := by rw [HS2.out, HS1.out]; show k < (s.wr.set k _).length; rw [List.length_set, HS.out.wr]; exact hkn
    have G0 := Bx.mk (nV_at hwl 0 (by decide)); have G1 := Bx.mk (nV_at hwl 1 (by decide))
    have q0d : H.drew.cell? _ = _ := q0
    have r1d : H.drew.cell? _ = _ := r1
    have y0d : H.drew.cell? _ = _ := y0
    have y1d : H.drew.cell? _ = _ := y1
    have ne4 : w2.heap.size ≠ K.wr := by omega
    clear cr hp YH hwl
    go_wp2_with fail
    go_region_held3 (fun W => W.cell? ⟨K.kb, 0, none⟩ = some (.pointer (some ⟨K.fb, 0, none⟩)) ∧ W.cell? ⟨K.fb, 1, none⟩ = some (.slice (some ⟨K.wr, 0, none⟩) n n) ∧ W.cell? ⟨w2.heap.size, 0, none⟩ = some (.bool a.k) ∧ W.cell? ⟨w2.heap.size, 1, none⟩ = some (.int .u64 (a.v : Int)))
      (first
        | (exact ⟨q0, r1, y0, y1⟩)
        | (go_split_ands; exact ⟨cBel (by assumption) (by assumption), cBel (by assumption) (by assumption), cBel (by assumption) (by assumption), cBel (by assumption) (by assumption)⟩)
        | (go_split_ands; exact ⟨cellFar (cellFar (by assumption) ne2) ne2, cellFar (cellFar (by assumption) ne3) ne3, cellFar (cellFar (by assumption) ne4) ne4, cellFar (cellFar (by assumption) ne4) ne4⟩))
      (first
        | (go_at_call 69; ((with_reducible refine (CR.out).mono ?_); rintro e w3 ⟨rfl, b3⟩; have Z3 := Bx.mk ((b3.block K.wr hzl).trans HZ.out); have B3 := Bx.mk b3))
        | (go_at_call 72; ((with_reducible refine (CC.out _).mono ?_); rintro e w4 ⟨rfl, b4⟩; have Z4 := Bx.mk ((b4.block K.wr (ltOf Z3.out)).trans Z3.out); obtain ⟨u0, g0⟩ := G0.out; obtain ⟨u1, g1⟩ := G1.out; rw [← cOf Z4.out, Nat.add_zero] at g0; rw [← cOf Z4.out] at g1; have gf0 := tOf Z4.out (k * 2); have gf1 := tOf Z4.out (k * 2 + 1); have B4 := Bx.mk b4)))
    go_wp2_with fail
    go_end0
    refine ⟨rfl, ?_, ?_⟩
    · have e : writeM c s k x = { s2 with wr := s2.wr.set k (combM (a.k, a.v) p addM) } := by
        unfold writeM writeV
        rw [if_pos H12.out, ← HA.out, HS2.out, HS1.out, ← HP.out]
        simp [List.set_set]
      rw [e]
      exact ((HWH.out.drew.bel B3.out).bel B4.out).setWr ok k _ _
    · exact (((BH.out.drew.bel B3.out).bel B4.out).set 3 (by decide) _ _).set 3 (by decide) _ _
  · have h12b : (x.op == 12) = false := by rw [beq_eq_false_iff_ne]; exact h12
    have H12 := Bx.mk h12
    clear h12
    go_wp2_with fail
    go_end0
    refine ⟨rfl, ?_, BH.out⟩
    have e : writeM c s k x = s2 := by
      unfold writeM writeV
      rw [if_neg H12.out, ← HA.out, HS2.out, HS1.out]
    rw [e]
    exact HWH.out
end Go.Proofs.Ytccjekgbhablpaa
namespace Go.Proofs.Ytccjekgbhablpaa
set_option maxRecDepth 100000
open Go.RowKit

structure CtxOk (c : CtxM) : Prop where
  rv : ∀ p ∈ c.reads, p.2 < 18446744073709551616
  rl : c.reads.length ≤ 1000000
  wl : c.works.length ≤ 1000000
theorem cnAt_ok {l : List Cn} (h : ∀ c ∈ l, CnOk c) (i : Nat) : CnOk (cnAt l i) := by
  unfold cnAt
  rw [List.getD_eq_getElem?_getD]
  cases hc : l[i]? with
  | none => exact ⟨by simp, by simp⟩
  | some c => exact h c (List.mem_of_getElem? hc)
theorem read_ok {c : CtxM} (h : CtxOk c) (k : Nat) : (readM c k).2 < 18446744073709551616 := by
  unfold readM
  split
  · rw [List.getD_eq_getElem?_getD]
    cases hc : c.reads[k]? with
    | none => simp
    | some p => exact h.rv p (List.mem_of_getElem? hc)
  · simp
theorem or_lt {a b : Nat} (ha : a < 18446744073709551616) (hb : b < 18446744073709551616) : a ||| b < 18446744073709551616 := by
  have e : (2 : Nat) ^ 64 = 18446744073709551616 := by decide
  rw [← e] at ha hb ⊢
  exact Nat.or_lt_two_pow ha hb
theorem reck_ok (op : Int) {a b : Nat} (ha : a < 18446744073709551616) (hb : b < 18446744073709551616) : reckM op a b < 18446744073709551616 := by
  have e : (2 : Nat) ^ 64 = 18446744073709551616 := by decide
  unfold reckM
  split
  · exact Nat.mod_lt _ (by decide)
  split
  · exact Nat.mod_lt _ (by decide)
  split
  · rw [← e] at ha hb ⊢; exact Nat.xor_lt_two_pow ha hb
  split
  · exact Nat.lt_of_le_of_lt Nat.and_le_left ha
  split
  · exact or_lt ha hb
  split
  · exact Nat.mod_lt _ (by decide)
  split
  · exact Nat.lt_of_le_of_lt (Nat.div_le_self _ _) ha
  · decide
theorem comb_ok {p q : Bool × Nat} {f : Nat → Nat → Nat} (h : f p.2 q.2 < 18446744073709551616) : (combM p q f).2 < 18446744073709551616 := by
  unfold combM
  split
  · exact h
  · decide
theorem ok_setM {n m : Nat} {s : WkM} (hs : WkOk n m s) (r : Nat) {c : Cn} (hc : CnOk c) : WkOk n m (setM s r c) :=
  ⟨by unfold setM; simp [hs.regs], fun x hx => by
    rcases List.mem_or_eq_of_mem_set hx with h | rfl
    · exact hs.rok x h
    · exact hc, hs.path, hs.lr, hs.state, hs.wr, hs.pair, hs.place, hs.value, hs.fpath, hs.left, hs.lok⟩
theorem bit1_ok (k : Nat) : bit1 k < 18446744073709551616 := withN_lt (by decide) _
theorem ok_leave {n m : Nat} {s : WkM} (hs : WkOk n m s) (i a k : Nat) (b : Bool) : WkOk n m (leaveM s i a k b) := by
  have h1 : ∀ x ∈ s.left.set i (withN (s.left.getD i 0) (a : Int)), x < 18446744073709551616 := fun x hx => by
    rcases List.mem_or_eq_of_mem_set hx with h | rfl
    · exact hs.lok x h
    · refine withN_lt ?_ _
      rw [List.getD_eq_getElem?_getD]
      cases hc : s.left[i]? with
      | none => simp
      | some v => exact hs.lok v (List.mem_of_getElem? hc)
  unfold leaveM
  cases b
  · exact ⟨hs.regs, hs.rok, hs.path, hs.lr, hs.state, hs.wr, hs.pair, hs.place, hs.value, hs.fpath, by simp [hs.left], h1⟩
  · exact ⟨hs.regs, hs.rok, hs.path, hs.lr, by simp [hs.state], hs.wr, hs.pair, hs.place, hs.value, hs.fpath, by simp [hs.left], h1⟩
theorem ok_br {n m : Nat} {s : WkM} (hs : WkOk n m s) {x : Ins} (hx : InsN x) : WkOk n m (brPath s x) :=
  ⟨hs.regs, hs.rok, or_lt hs.path (or_lt (arg_ok hs.rok _ _ (by have := hx.an; omega)).f (arg_ok hs.rok _ _ (by have := hx.bn; omega)).f), hs.lr, hs.state, hs.wr, hs.pair, hs.place, hs.value, hs.fpath, hs.left, hs.lok⟩
theorem ok_comp {n m : Nat} {s : WkM} (hs : WkOk n m s) {x : Ins} (hx : InsN x) : WkOk n m (compM s x) := by
  have ha := arg_ok hs.rok x.ar x.an.toNat (by have := hx.an; omega)
  have hb := arg_ok hs.rok x.br x.bn.toNat (by have := hx.bn; omega)
  unfold compM
  dsimp only
  split
  · exact ok_setM hs _ ha
  · exact ok_setM hs _ ⟨comb_ok (reck_ok _ ha.v hb.v), or_lt ha.f hb.f⟩
theorem ok_pair {n m : Nat} {s : WkM} (hs : WkOk n m s) (k : Nat) (x : Ins) : WkOk n m (pairM' s k x) :=
  ⟨hs.regs, hs.rok, hs.path, Nat.zero_le _, hs.state, hs.wr, by unfold pairM'; dsimp only; split <;> simp [hs.pair], hs.place, hs.value, hs.fpath, hs.left, hs.lok⟩
theorem ok_run {n m : Nat} {s : WkM} (hs : WkOk n m s) (k : Nat) (x : Ins) : WkOk n m (runM s k x) :=
  ⟨hs.regs, hs.rok, hs.path, hs.lr, by unfold runM; simp [hs.state], hs.wr, hs.pair, by unfold runM; dsimp only; split <;> simp [hs.place], hs.value, by unfold runM; simp [hs.fpath], hs.left, hs.lok⟩
theorem ok_write {n m : Nat} {s : WkM} (hs : WkOk n m s) (c : CtxM) (k : Nat) (x : Ins) : WkOk n m (writeM c s k x) :=
  ⟨hs.regs, hs.rok, hs.path, hs.lr, hs.state, by unfold writeM; simp [hs.wr], hs.pair, hs.place, by unfold writeM; simp [hs.value], hs.fpath, hs.left, hs.lok⟩
theorem ok_end {n m : Nat} {s : WkM} (hs : WkOk n m s) {c : CtxM} (hc : CtxOk c) (k : Nat) (x : Ins) : WkOk n m (endM c s k x) := by
  unfold endM
  split
  · exact ok_setM hs _ ⟨read_ok hc k, bit1_ok k⟩
  · split
    · exact ok_setM hs _ ⟨show (0 : Nat) < 18446744073709551616 by decide, bit1_ok k⟩
    · exact hs
theorem ok_lr {n m : Nat} {s : WkM} (hs : WkOk n m s) {k : Nat} (hk : k < n) (x : Ins) : WkOk n m (lrM s k x) := by
  unfold lrM
  split
  · exact ⟨hs.regs, hs.rok, hs.path, show k + 1 ≤ n by omega, hs.state, hs.wr, hs.pair, hs.place, hs.value, hs.fpath, hs.left, hs.lok⟩
  · exact hs
theorem ok_go {n m : Nat} {s : WkM} (hs : WkOk n m s) {c : CtxM} (hc : CtxOk c) {k : Nat} (hk : k < n) (x : Ins) : WkOk n m (goM c s k x) := by
  unfold goM
  dsimp only
  refine ok_lr (ok_end ?_ hc k x) hk x
  split
  · exact ok_write (ok_run hs k x) c k x
  · exact ok_run hs k x
theorem ok_acc {n m : Nat} {s : WkM} (hs : WkOk n m s) {c : CtxM} (hc : CtxOk c) {k : Nat} (hk : k < n) (x : Ins) : WkOk n m (accM c s k x) := by
  unfold accM
  split
  · dsimp only
    split
    · exact ok_go (ok_pair hs k x) hc hk x
    · have h1 := ok_setM (ok_pair hs k x) x.rd.toNat (c := numC0 1) ⟨by decide, by decide⟩
      exact ⟨h1.regs, h1.rok, h1.path, h1.lr, by simp [hs.state, pairM'], h1.wr, h1.pair, h1.place, h1.value, h1.fpath, h1.left, h1.lok⟩
  · exact ok_go hs hc hk x
end Go.Proofs.Ytccjekgbhablpaa
