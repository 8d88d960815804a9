/- Contracts of flow: an Op is carried out. -/
import Derived.Test.YtccjekgbhablpaaGd
namespace Go.Proofs.Ytccjekgbhablpaa
set_option maxRecDepth 100000
open Go.RowKit

/-- in the middle of it -/
structure AccH (w W : World) (K : WkB) (n m : Nat) (s : WkM) (x : Ins) (b : Nat) : Prop where
  hx : W.heap[w.heap.size]? = some (inO x)
  hy : W.heap[b]? = some (.cells #[.bool (krd x.op), .bool (kwr x.op)] 117 (0, 0))
  wk : WkIn W K n m s
  fp : Fp K w W
theorem AccH.set {w W W' : World} {K : WkB} {n m : Nat} {s s' : WkM} {x : Ins} {b : Nat} (h : AccH w W K n m s x b) (hl : ∀ i, i < 9 → K.blk i < w.heap.size) (hb : w.heap.size < b) (hf : Fp K W W') (hw : WkIn W' K n m s') : AccH w W' K n m s' x b :=
  ⟨(hf.kept _ (ltOf h.hx) (fun i hi e => by have := hl i hi; omega)).trans h.hx, (hf.kept _ (ltOf h.hy) (fun i hi e => by have := hl i hi; omega)).trans h.hy, hw, h.fp.trans hf⟩
theorem AccH.step {w W W' : World} {K : WkB} {n m : Nat} {s : WkM} {x : Ins} {b : Nat} (h : AccH w W K n m s x b) (hB : Below W.heap.size W W') : AccH w W' K n m s x b :=
  ⟨(hB.block _ (ltOf h.hx)).trans h.hx, (hB.block _ (ltOf h.hy)).trans h.hy, h.wk.bel hB, h.fp.bel hB⟩
theorem AccH.cells {w W : World} {K : WkB} {n m : Nat} {s : WkM} {x : Ins} {b : Nat} (h : AccH w W K n m s x b) : W.cell? ⟨w.heap.size, 0, none⟩ = some (.int .i64 x.op) ∧ W.cell? ⟨w.heap.size, 1, none⟩ = some (.int .i64 x.rd) ∧ W.cell? ⟨w.heap.size, 2, none⟩ = some (.int .i64 x.loc) ∧ W.cell? ⟨w.heap.size, 9, none⟩ = some (.int .i64 x.dep) ∧ W.cell? ⟨b, 0, none⟩ = some (.bool (krd x.op)) ∧ W.cell? ⟨b, 1, none⟩ = some (.bool (kwr x.op)) := by
  refine ⟨?_, ?_, ?_, ?_, ?_, ?_⟩
  all_goals first | rw [cOf h.hx] | rw [cOf h.hy]
  all_goals rfl
/-- all the cells of the instruction -/
structure InsC (W : World) (b : Nat) (x : Ins) : Prop where
  c0 : W.cell? ⟨b, 0, none⟩ = some (.int .i64 x.op)
  c1 : W.cell? ⟨b, 1, none⟩ = some (.int .i64 x.rd)
  c2 : W.cell? ⟨b, 2, none⟩ = some (.int .i64 x.loc)
  c3 : W.cell? ⟨b, 3, none⟩ = some (.bool x.ar)
  c4 : W.cell? ⟨b, 4, none⟩ = some (.int .u64 x.an)
  c5 : W.cell? ⟨b, 5, none⟩ = some (.bool x.br)
  c6 : W.cell? ⟨b, 6, none⟩ = some (.int .u64 x.bn)
  c7 : W.cell? ⟨b, 7, none⟩ = some (.bool x.acq)
  c8 : W.cell? ⟨b, 8, none⟩ = some (.bool x.rel)
  c9 : W.cell? ⟨b, 9, none⟩ = some (.int .i64 x.dep)
  c10 : W.cell? ⟨b, 10, none⟩ = some (.int .i64 x.pred)
  c11 : W.cell? ⟨b, 11, none⟩ = some (.int .i64 x.succ)
  c12 : W.cell? ⟨b, 12, none⟩ = some (.int .i64 x.skip)
theorem insC_of {W : World} {b : Nat} {x : Ins} (h : W.heap[b]? = some (inO x)) : InsC W b x := by
  refine ⟨?_, ?_, ?_, ?_, ?_, ?_, ?_, ?_, ?_, ?_, ?_, ?_, ?_⟩
  all_goals rw [cOf h]
  all_goals rfl
set_option maxHeartbeats 12800000 in
theorem access_any (w0 : World) (K : WkB) (ok : KOk w0.heap.size K) (n m : Nat) (s : WkM) (hs : WkOk n m s) (c : CtxM) (hco : CtxOk c) (x : Ins) (hx : InsN x) (k : Nat) (hkn : k < n) (hnn : n ≤ 1000000) (w : World) (h0 : Below w0.heap.size w0 w) (hw : WkIn w K n m s) (hc : CtxIn w0 K c) :
    Calls Try.prog 39 #[.pointer (some ⟨K.kb, 0, none⟩), .int .i64 (k : Int), insV x] w fun e w' => e = .returned (.tuple #[]) ∧ WkIn w' K n m (accM c s k x) ∧ Fp K w w' := by
  have hlt := hw.lt
  have cf : Bx (∀ W, Calls Try.prog 36 #[insV x] W fun e w' => e = .returned (.agg #[.bool (krd x.op), .bool (kwr x.op)]) ∧ Below W.heap.size W w') := ⟨fun W => of_any x W⟩
  have cp := Bx.mk (fun W (h' : WkIn W K n m s) => pair_any _ K ok n m s hs x k hkn W h')
  rw [insV_eq] at cf cp ⊢
  obtain ⟨E, hE⟩ : ∃ E, E = w.alloc (.cells #[.int .i64 x.op, .int .i64 x.rd, .int .i64 x.loc, .bool x.ar, .int .u64 x.an, .bool x.br, .int .u64 x.bn, .bool x.acq, .bool x.rel, .int .i64 x.dep, .int .i64 x.pred, .int .i64 x.succ, .int .i64 x.skip] 84) := ⟨_, rfl⟩
  have bE : Below w.heap.size w E := by rw [hE]; exact aset _ _
  have X : E.heap[w.heap.size]? = some (inO x) := by rw [hE]; exact heap_alloc_new _ _
  obtain ⟨x0, x1, x2, x3, x4, x5, x6, x7, x8, x9, x10, x11, x12⟩ := insC_of X
  have HLT := Bx.mk hlt; have HW := Bx.mk hw; have HX := Bx.mk X; have BE := Bx.mk bE; have HS := Bx.mk hs; have HC := Bx.mk hc; have HCO := Bx.mk hco; have HXN := Bx.mk hx; have H0 := Bx.mk h0
  have hkk : K.kb < w.heap.size := hlt 0 (by decide)
  have hki : (k : Int) < (n : Int) := by omega
  have hk0 : (0 : Int) ≤ (k : Int) := by omega
  clear hw hs hc hco hx h0 X bE hlt
  go_enter Try.func39, Try.ntmps39
  go_upto_region 1 with fail
  rw [← hE]
  clear hE
  go_upto_region 2 with (go_at_call 36; ((with_reducible refine (cf.out _).mono ?_); rintro e w2 ⟨rfl, b2⟩; have B2 := Bx.mk b2; clear b2))
  obtain ⟨F, hF⟩ : ∃ F, F = w2.alloc (.cells #[.bool (krd x.op), .bool (kwr x.op)] 117) := ⟨_, rfl⟩
  have bF : Below E.heap.size E F := by rw [hF]; exact B2.out.alloc B2.out.size _
  have hz2 : w.heap.size < w2.heap.size := by have := ltOf HX.out; have := B2.out.size; omega
  have hA : AccH w F K n m s x w2.heap.size := ⟨(bF.block _ (ltOf HX.out)).trans HX.out, by rw [hF]; exact heap_alloc_new _ _, (HW.out.bel BE.out).bel bF, (Fp.ofBel BE.out).bel bF⟩
  obtain ⟨b6, hb6⟩ : ∃ b6, b6 = w2.heap.size := ⟨_, rfl⟩
  rw [← hb6] at hA hz2 ⊢
  rw [← hF]
  have HA := Bx.mk hA
  clear hb6 hF bF hA B2 x0 x1 x2 x3 x4 x5 x6 x7 x8 x9 x10 x11 x12 HX BE HW cf
  have hl := HLT.out
  by_cases h14 : x.op = 14 ∧ worksM c k = false
  · have hq : (x.op == 14) = true := by rw [h14.1]; rfl
    have H14 := Bx.mk h14
    obtain ⟨x0, x1, x2, x3, x4, x5, x6, x7, x8, x9, x10, x11, x12⟩ := insC_of HA.out.hx
    clear h14
    go_upto_region 4 with (go_at_call 66; ((with_reducible refine (cp.out _ HA.out.wk).mono ?_); rintro e w3 ⟨rfl, wk3, f3⟩; have HA3 := Bx.mk (HA.out.set hl hz2 f3 wk3); clear wk3 f3))
    clear x0 x1 x2 x3 x4 x5 x6 x7 x8 x9 x10 x11 x12
    have cs := succeeds_any K n m (pairM' s k x) c HCO.out.wl k (by omega) w3 HA3.out.wk (HC.out.bel (HA3.out.fp.below ok H0.out))
    rw [H14.out.2] at cs
    have CS := Bx.mk cs
    have hsl : k < (pairM' s k x).state.length := by rw [(ok_pair HS.out k x).state]; exact hkn
    have g0 : w3.cell? ⟨K.st, k, none⟩ = some (.int .i64 (((pairM' s k x).state.getD k 0 : Nat) : Int)) := by rw [cOf HA3.out.wk.st, nI_get hsl]
    have gf := tOf HA3.out.wk.st k
    obtain ⟨q0, _⟩ := HA3.out.wk.head
    obtain ⟨r0, _⟩ := HA3.out.wk.rows
    clear cs
    go_upto_region 6 with (go_at_call 67; ((with_reducible refine (CS.out).mono ?_); rintro e w4 ⟨rfl, rfl⟩))
    obtain ⟨s1, hs1⟩ : ∃ s1 : WkM, s1 = { pairM' s k x with state := (pairM' s k x).state.set k 2 } := ⟨_, rfl⟩
    have HAG : Bx (AccH w (w3.setCell ⟨K.st, k, none⟩ (.int .i64 2)) K n m s1 x b6) := ⟨HA3.out.set hl hz2 ((Fp.ofBel (Below.refl _ _)).set 2 (by decide) _ _) (by rw [hs1]; exact HA3.out.wk.setSt ok k 2)⟩
    have hr1 : s1.regs.length = 8 := by rw [hs1]; exact HS.out.regs
    have HS1 := Bx.mk hs1
    generalize w3.setCell ⟨K.st, k, none⟩ (.int .i64 2) = G at *
    clear hs1 hsl g0 gf q0 r0 HA3
    obtain ⟨r, hr'⟩ := Int.eq_ofNat_of_zero_le HXN.out.rd.1
    have hr8 : r < 8 := by have := HXN.out.rd.2; omega
    obtain ⟨_, x1, _⟩ := HAG.out.cells
    rw [hr'] at x1
    obtain ⟨c0, hc0⟩ : ∃ c0, s1.regs[r]? = some c0 := ⟨_, List.getElem?_eq_getElem (by omega)⟩
    have hri : (r : Int) < 8 := by omega
    have hr0 : (0 : Int) ≤ (r : Int) := by omega
    have cn : Bx (∀ W, Calls Try.prog 37 #[.int .u64 1] W fun e w' => e = .returned (.agg #[.bool true, .int .u64 1, .int .u64 0]) ∧ Below W.heap.size W w') := ⟨fun W => number_any 1 W⟩
    have x1d : G.drew.cell? _ = _ := x1
    have hne : w.heap.size ≠ K.kb := by omega
    have HR := Bx.mk hr'; have HC0 := Bx.mk hc0
    clear hr' hc0
    go_wp2_with fail
    go_region_held3 (fun W => W.cell? ⟨w.heap.size, 1, none⟩ = some (.int .i64 (r : Int)))
      (first
        | (exact x1)
        | (exact cBel x1d (by assumption))
        | (exact cellFar (cellFar (cellFar (by assumption) hne) hne) hne))
      (first | (go_at_call 37; ((with_reducible refine (cn.out _).mono ?_); rintro e w5 ⟨rfl, b5⟩; have h5 := HAG.out.wk.drew.bel b5; have q0 := h5.reg HC0.out 0 (by decide); have q1 := h5.reg HC0.out 1 (by decide); have q2 := h5.reg HC0.out 2 (by decide); simp only [cnC, List.getElem?_cons_zero, List.getElem?_cons_succ, Nat.add_zero] at q0 q1 q2; have qf0 := tOf h5.kb (5 + r * 3); have qf1 := tOf h5.kb (5 + r * 3 + 1); have qf2 := tOf h5.kb (5 + r * 3 + 2); have H5 := Bx.mk h5; have B5 := Bx.mk b5; clear h5)))
    go_wp2_with fail
    refine bodyPost_ret (results_none rfl _ _ _) rfl ⟨rfl, ?_, ?_⟩
    · have e : accM c s k x = setM s1 r (numC0 1) := by
        unfold accM
        rw [if_pos H14.out.1]
        simp only [H14.out.2, HR.out, HS1.out]
        rfl
      rw [e]
      exact H5.out.setReg ok r (numC0 1) (by omega)
    · exact ((((HAG.out.fp.drew).bel B5.out).set 0 (by decide) _ _).set 0 (by decide) _ _).set 0 (by decide) _ _
  · obtain ⟨s1, hs1⟩ : ∃ s1, s1 = if x.op = 14 then pairM' s k x else s := ⟨_, rfl⟩
    have hacc : accM c s k x = goM c s1 k x := by
      unfold accM
      rw [hs1]
      by_cases h : x.op = 14
      · rw [if_pos h, if_pos h]
        have : worksM c k = true := by
          cases hw : worksM c k with
          | true => rfl
          | false => exact absurd ⟨h, hw⟩ h14
        simp only [this, if_true]
      · rw [if_neg h, if_neg h]
    have HAC := Bx.mk hacc
    have ok1 : WkOk n m s1 := by
      rw [hs1]; split
      · exact ok_pair HS.out k x
      · exact HS.out
    have OK1 := Bx.mk ok1
    have H14 := Bx.mk h14; have HS1 := Bx.mk hs1
    clear hacc ok1 h14 hs1
    obtain ⟨x0, _⟩ := HA.out.cells
    go_upto_if 11 with fail
    go_cut [] (fun wx => Bx (AccH w wx K n m s1 x b6))
    case first =>
      obtain ⟨x0, x1, x2, x3, x4, x5, x6, x7, x8, x9, x10, x11, x12⟩ := insC_of HA.out.hx
      by_cases h : x.op = 14
      · have hw1 : worksM c k = true := by
          cases hw : worksM c k with
          | true => rfl
          | false => exact absurd ⟨h, hw⟩ H14.out
        have hs1 := HS1.out
        rw [if_pos h] at hs1
        have HW1 := Bx.mk hw1; have H1 := Bx.mk hs1
        have hq : (x.op == 14) = true := by rw [h]; rfl
        clear hs1 hw1 h
        go_wp2_with (first
          | (go_at_call 66; ((with_reducible refine (cp.out _ HA.out.wk).mono ?_); rintro e w3 ⟨rfl, wk3, f3⟩; have HA3 := Bx.mk (HA.out.set hl hz2 f3 wk3); have cs := succeeds_any K n m (pairM' s k x) c HCO.out.wl k (by omega) w3 wk3 (HC.out.bel (HA3.out.fp.below ok H0.out)); rw [HW1.out] at cs; have CS := Bx.mk cs; clear cs wk3 f3))
          | (go_at_call 67; ((with_reducible refine (CS.out).mono ?_); rintro e w4 ⟨rfl, rfl⟩)))
        go_meet
        exact ⟨by rw [H1.out]; exact HA3.out⟩
      · have hs1 := HS1.out
        rw [if_neg h] at hs1
        have hq : (x.op == 14) = false := by rw [beq_eq_false_iff_ne]; exact h
        have H1 := Bx.mk hs1
        clear hs1 h
        go_wp2_with fail
        go_meet
        exact ⟨by rw [H1.out]; exact HA.out⟩
    case rest =>
      have HA1 := hcut
      clear hcut HA x0
      obtain ⟨q0, _⟩ := HA1.out.wk.head
      obtain ⟨r0, _⟩ := HA1.out.wk.rows
      have g0 : wc.cell? ⟨K.st, k, none⟩ = some (.int .i64 ((s1.state.getD k 0 : Nat) : Int)) := by rw [cOf HA1.out.wk.st, nI_get (by rw [OK1.out.state]; exact hkn)]
      have gf := tOf HA1.out.wk.st k
      go_upto_region 8 with fail
      obtain ⟨s2, hs2⟩ : ∃ s2 : WkM, s2 = { s1 with state := s1.state.set k 1 } := ⟨_, rfl⟩
      have HA2 : Bx (AccH w (wc.setCell ⟨K.st, k, none⟩ (.int .i64 1)) K n m s2 x b6) := ⟨HA1.out.set hl hz2 ((Fp.ofBel (Below.refl _ _)).set 2 (by decide) _ _) (by rw [hs2]; exact HA1.out.wk.setSt ok k 1)⟩
      have HS2 := Bx.mk hs2
      have hr2 : s2.regs.length = 8 := by rw [hs2]; exact OK1.out.regs
      have hl2 : s2.fpath.length = n ∧ s2.place.length = n := by rw [hs2]; exact ⟨OK1.out.fpath, OK1.out.place⟩
      generalize wc.setCell ⟨K.st, k, none⟩ (.int .i64 1) = G at *
      clear hs2 q0 r0 g0 gf HA1
      obtain ⟨q0, _⟩ := HA2.out.wk.head
      obtain ⟨t0, _⟩ := HA2.out.wk.tail hr2
      obtain ⟨_, _, _, _, _, r5, _⟩ := HA2.out.wk.rows
      have g0 : G.cell? ⟨K.fp, k, none⟩ = some (.int .u64 ((s2.fpath.getD k 0 : Nat) : Int)) := by rw [cOf HA2.out.wk.fp, nU_get (by rw [hl2.1]; exact hkn)]
      have gf := tOf HA2.out.wk.fp k
      go_still_tail 13, (by kernel_rfl)
      change wpList _ _ _ _ _ G.drew
      go_upto_region 9 with fail
      obtain ⟨s3, hs3⟩ : ∃ s3 : WkM, s3 = { s2 with fpath := s2.fpath.set k s2.path } := ⟨_, rfl⟩
      have HA3 : Bx (AccH w (G.setCell ⟨K.fp, k, none⟩ (.int .u64 (s2.path : Int))).drew K n m s3 x b6) := ⟨HA2.out.set hl hz2 ((Fp.ofBel (Below.refl _ _)).set 7 (by decide) _ _).drew (by rw [hs3]; exact (HA2.out.wk.setFp ok k s2.path).drew)⟩
      have HS3 := Bx.mk hs3
      have hr3 : s3.regs.length = 8 := by rw [hs3]; exact hr2
      have hl3 : s3.place.length = n := by rw [hs3]; exact hl2.2
      generalize (G.setCell ⟨K.fp, k, none⟩ (.int .u64 (s2.path : Int))).drew = H at *
      clear hs3 q0 t0 r5 g0 gf HA2 hl2
      obtain ⟨s4, hs4⟩ : ∃ s4, s4 = runM s1 k x := ⟨_, rfl⟩
      have ok4 : WkOk n m s4 := by rw [hs4]; exact ok_run OK1.out k x
      have hs34 : s4 = if 0 < x.dep then { s3 with place := s3.place.set k (cnAt s3.regs (x.dep.toNat - 1)).f } else s3 := by
        rw [hs4, HS3.out, HS2.out]
        unfold runM
        split <;> rfl
      have OK4 := Bx.mk ok4; have HS34 := Bx.mk hs34; have HS4 := Bx.mk hs4
      clear ok4 hs34 hs4
      obtain ⟨_, _, _, x9, _⟩ := HA3.out.cells
      go_upto_if 60 with fail
      go_cut [] (fun wx => Bx (AccH w wx K n m s4 x b6))
      case first =>
        by_cases h : 0 < x.dep
        · have hs4 := HS34.out
          rw [if_pos h] at hs4
          have H4 := Bx.mk hs4
          obtain ⟨d, hd⟩ := Int.eq_ofNat_of_zero_le (show 0 ≤ x.dep - 1 by omega)
          have hdep : x.dep = ((d + 1 : Nat) : Int) := by omega
          have hd8 : d < 8 := by have := HXN.out.dep.2; omega
          rw [hdep] at x9
          obtain ⟨c0, hc0⟩ : ∃ c0, s3.regs[d]? = some c0 := ⟨_, List.getElem?_eq_getElem (by omega)⟩
          have u1 := HA3.out.wk.reg hc0 1 (by decide)
          simp only [cnC, List.getElem?_cons_zero, List.getElem?_cons_succ] at u1
          obtain ⟨q0, _⟩ := HA3.out.wk.head
          obtain ⟨_, _, _, r3, _⟩ := HA3.out.wk.rows
          have g0 : H.cell? ⟨K.pl, k, none⟩ = some (.int .u64 ((s3.place.getD k 0 : Nat) : Int)) := by rw [cOf HA3.out.wk.pl, nU_get (by rw [hl3]; exact hkn)]
          have gf := tOf HA3.out.wk.pl k
          have u2 := HA3.out.wk.reg hc0 2 (by decide)
          simp only [cnC, List.getElem?_cons_zero, List.getElem?_cons_succ] at u2
          have hdi : (d : Int) < 8 := by omega
          have hd0 : (0 : Int) ≤ (d : Int) := by omega
          have HD := Bx.mk hdep; have HC0 := Bx.mk hc0
          have hx0 : decide (0 < x.dep) = true := by simpa using h
          have hw1 : IntKind.i64.wrap (d : Int) = (d : Int) := by rw [IntKind.wrap_i64]; omega
          clear hs4 hd hdep hc0
          go_wp2_with fail
          go_still_tail 18, (by kernel_rfl)
          change wpList _ _ _ _ _ H.drew
          go_wp2_with fail
          go_meet
          have e : cnAt s3.regs (x.dep.toNat - 1) = c0 := by
            rw [HD.out]
            unfold cnAt
            rw [List.getD_eq_getElem?_getD, show ((d + 1 : Nat) : Int).toNat - 1 = d by omega, HC0.out]; rfl
          exact ⟨HA3.out.set hl hz2 ((Fp.ofBel (Below.refl _ _)).set 5 (by decide) _ _).drew (by rw [H4.out, e]; exact (HA3.out.wk.setPl ok k c0.f).drew)⟩
        · have hs4 := HS34.out
          rw [if_neg h] at hs4
          have hx0 : decide (0 < x.dep) = false := by simpa using h
          have H4 := Bx.mk hs4
          clear hs4
          go_wp2_with fail
          go_meet
          exact ⟨by rw [H4.out]; exact HA3.out⟩
      case rest =>
        have HA4 := hcut
        clear hcut HA3 x9 hr3 hl3 hr2
        obtain ⟨s5, hs5⟩ : ∃ s5, s5 = if kwr x.op then writeM c s4 k x else s4 := ⟨_, rfl⟩
        have ok5 : WkOk n m s5 := by
          rw [hs5]; split
          · exact ok_write OK4.out c k x
          · exact OK4.out
        have OK5 := Bx.mk ok5; have HS5 := Bx.mk hs5
        clear ok5 hs5
        obtain ⟨_, _, _, _, _, z1⟩ := HA4.out.cells
        go_upto_if 80 with fail
        go_cut [] (fun wx => Bx (AccH w wx K n m s5 x b6))
        case first =>
          have hs5 := HS5.out
          obtain ⟨x0, x1, x2, x3, x4, x5, x6, x7, x8, x9, x10, x11, x12⟩ := insC_of HA4.out.hx
          cases hkw : kwr x.op
          · rw [hkw, if_neg (by decide)] at hs5
            have H5 := Bx.mk hs5
            clear hs5
            go_wp2_with fail
            go_meet
            exact ⟨by rw [H5.out]; exact HA4.out⟩
          · rw [hkw, if_pos rfl] at hs5
            have H5 := Bx.mk hs5
            have cw := write_any w0 K ok n m s4 OK4.out c HCO.out.rl x HXN.out k hkn hnn wc (HA4.out.fp.below ok H0.out) HA4.out.wk HC.out
            rw [insV_eq] at cw
            have CW := Bx.mk cw
            clear hs5 cw
            go_wp2_with (go_at_call 68; ((with_reducible refine (CW.out).mono ?_); rintro e w5 ⟨rfl, wk5, f5⟩; have HA5 := Bx.mk (HA4.out.set hl hz2 f5 wk5); clear wk5 f5))
            go_meet
            exact ⟨by rw [H5.out]; exact HA5.out⟩
        case rest =>
          have HA5 := hcut
          clear hcut HA4 z1
          obtain ⟨s6, hs6⟩ : ∃ s6, s6 = endM c s5 k x := ⟨_, rfl⟩
          have HS6 := Bx.mk hs6
          obtain ⟨x0, x1, _, _, z0, _⟩ := HA5.out.cells
          obtain ⟨r, hr'⟩ := Int.eq_ofNat_of_zero_le HXN.out.rd.1
          have hr8 : r < 8 := by have := HXN.out.rd.2; omega
          rw [hr'] at x1
          have hr5 := OK5.out.regs
          obtain ⟨c0, hc0⟩ : ∃ c0, s5.regs[r]? = some c0 := ⟨_, List.getElem?_eq_getElem (by omega)⟩
          have hri : (r : Int) < 8 := by omega
          have hr0 : (0 : Int) ≤ (r : Int) := by omega
          have x1d : wc.drew.cell? _ = _ := x1
          have hne : w.heap.size ≠ K.kb := by omega
          have HR := Bx.mk hr'; have HC0 := Bx.mk hc0
          clear hs6 hr' hc0
          have cwi : Bx (∀ W, Calls Try.prog 65 #[.int .u64 0, .int .i64 (k : Int)] W fun e w' => e = .returned (.int .u64 ((bit1 k : Nat) : Int)) ∧ W = w') := ⟨fun W => wordWith_any 0 (k : Int) (by decide) W⟩
          go_upto_block 0 with fail
          go_cut [] (fun wx => Bx (AccH w wx K n m s6 x b6))
          case first =>
            by_cases hkr : krd x.op = true
            · have e6 : endM c s5 k x = setM s5 r ⟨(readM c k).1, (readM c k).2, bit1 k⟩ := by
                unfold endM
                rw [if_pos hkr, HR.out]; rfl
              rw [e6] at HS6
              have cr := read_any K n m s5 c HCO.out.rl k (by omega) wc.drew HA5.out.wk.drew (HC.out.bel ((HA5.out.fp.below ok H0.out).drew))
              obtain ⟨p, hp⟩ : ∃ p, p = readM c k := ⟨_, rfl⟩
              rw [← hp] at cr HS6
              have CR := Bx.mk cr
              clear cr hp e6
              go_wp2_with fail
              go_region_held3 (fun W => W.cell? ⟨w.heap.size, 1, none⟩ = some (.int .i64 (r : Int)))
                (first
                  | (exact x1)
                  | assumption
                  | (exact cBel x1d (by assumption))
                  | (exact cellFar (cellFar (cellFar (by assumption) hne) hne) hne))
                (first
                  | (go_at_call 69; ((with_reducible refine (CR.out).mono ?_); rintro e w5 ⟨rfl, b5⟩; have h5 := HA5.out.wk.drew.bel b5; have q0 := h5.reg HC0.out 0 (by decide); have q1 := h5.reg HC0.out 1 (by decide); have q2 := h5.reg HC0.out 2 (by decide); simp only [cnC, List.getElem?_cons_zero, List.getElem?_cons_succ, Nat.add_zero] at q0 q1 q2; have qf0 := tOf h5.kb (5 + r * 3); have qf1 := tOf h5.kb (5 + r * 3 + 1); have qf2 := tOf h5.kb (5 + r * 3 + 2); have H5 := Bx.mk h5; have B5 := Bx.mk b5; clear h5))
                  | (go_at_call 65; ((with_reducible refine (cwi.out _).mono ?_); rintro e w7 ⟨rfl, rfl⟩)))
              go_wp2_with fail
              go_meet
              exact ⟨HA5.out.set hl hz2 (((((Fp.ofBel (Below.refl _ _)).drew.bel B5.out).set 0 (by decide) _ _).set 0 (by decide) _ _).set 0 (by decide) _ _) (by rw [HS6.out]; exact H5.out.setReg ok r ⟨p.1, p.2, bit1 k⟩ (by omega))⟩
            · have hkf : krd x.op = false := by simpa using hkr
              by_cases h : x.op = 14
              · have hq : (x.op == 14) = true := by rw [h]; rfl
                have e6 : endM c s5 k x = setM s5 r ⟨true, 0, bit1 k⟩ := by
                  unfold endM
                  rw [if_neg hkr, if_pos h, HR.out]; rfl
                rw [e6] at HS6
                have ck : Bx (∀ W, Calls Try.prog 64 #[.int .u64 0] W fun e w' => e = .returned (.agg #[.bool true, .int .u64 0]) ∧ Below W.heap.size W w') := ⟨fun W => known_any 0 W⟩
                rw [hkf] at z0
                clear h e6 hkr hkf
                go_wp2_with fail
                go_region_held3 (fun W => W.cell? ⟨w.heap.size, 1, none⟩ = some (.int .i64 (r : Int)))
                  (first
                    | (exact x1)
                    | assumption
                    | (exact cBel x1d (by assumption))
                    | (exact cellFar (cellFar (cellFar (by assumption) hne) hne) hne))
                  (first
                    | (go_at_call 64; ((with_reducible refine (ck.out _).mono ?_); rintro e w5 ⟨rfl, b5⟩; have h5 := HA5.out.wk.drew.bel b5; have q0 := h5.reg HC0.out 0 (by decide); have q1 := h5.reg HC0.out 1 (by decide); have q2 := h5.reg HC0.out 2 (by decide); simp only [cnC, List.getElem?_cons_zero, List.getElem?_cons_succ, Nat.add_zero] at q0 q1 q2; have qf0 := tOf h5.kb (5 + r * 3); have qf1 := tOf h5.kb (5 + r * 3 + 1); have qf2 := tOf h5.kb (5 + r * 3 + 2); have H5 := Bx.mk h5; have B5 := Bx.mk b5; clear h5))
                    | (go_at_call 65; ((with_reducible refine (cwi.out _).mono ?_); rintro e w7 ⟨rfl, rfl⟩)))
                go_wp2_with fail
                go_meet
                exact ⟨HA5.out.set hl hz2 (((((Fp.ofBel (Below.refl _ _)).drew.bel B5.out).set 0 (by decide) _ _).set 0 (by decide) _ _).set 0 (by decide) _ _) (by rw [HS6.out]; exact H5.out.setReg ok r ⟨true, 0, bit1 k⟩ (by omega))⟩
              · have hq : (x.op == 14) = false := by rw [beq_eq_false_iff_ne]; exact h
                have e6 : endM c s5 k x = s5 := by
                  unfold endM
                  rw [if_neg hkr, if_neg h]
                rw [e6] at HS6
                rw [hkf] at z0
                clear h e6 hkr hkf
                go_wp2_with fail
                go_meet
                exact ⟨by rw [HS6.out]; exact HA5.out⟩
          case rest =>
            have HA6 := hcut
            clear hcut HA5 x0 x1 z0 x1d
            obtain ⟨x0, _, x2, _, _, _⟩ := HA6.out.cells
            have fin : accM c s k x = lrM s6 k x := by
              rw [HAC.out]
              unfold goM
              dsimp only
              rw [← HS4.out, ← HS5.out, ← HS6.out]
            have FIN := Bx.mk fin
            clear fin
            have hr6 : s6.regs.length = 8 := by
              have := (ok_end OK5.out HCO.out k x).regs
              rw [HS6.out]; exact this
            by_cases h : x.op = 13
            · have hq : (x.op == 13) = true := by rw [h]; rfl
              have e7 : lrM s6 k x = { s6 with lrOp := k + 1, lrLoc := x.loc } := by
                unfold lrM; rw [if_pos h]
              have E7 := Bx.mk e7
              obtain ⟨_, t1, t2⟩ := HA6.out.wk.tail hr6
              have tf1 := tOf HA6.out.wk.kb 30; have tf2 := tOf HA6.out.wk.kb 31
              clear h e7
              go_wp2_with fail
              go_end0
              refine ⟨rfl, ?_, ?_⟩
              · rw [FIN.out, E7.out]
                exact HA6.out.wk.setLr ok hr6 (k + 1) x.loc
              · exact (HA6.out.fp.set 0 (by decide) _ _).set 0 (by decide) _ _
            · have hq : (x.op == 13) = false := by rw [beq_eq_false_iff_ne]; exact h
              have e7 : lrM s6 k x = s6 := by
                unfold lrM; rw [if_neg h]
              have E7 := Bx.mk e7
              clear h e7
              go_wp2_with fail
              go_end0
              exact ⟨rfl, by rw [FIN.out, E7.out]; exact HA6.out.wk, HA6.out.fp⟩
end Go.Proofs.Ytccjekgbhablpaa
