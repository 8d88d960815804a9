/- FlowOf: the walk. -/
import Derived.Test.YtccjekgbhablpaaGo
namespace Go.Proofs.Ytccjekgbhablpaa
set_option maxRecDepth 100000
open Go.RowKit

set_option maxRecDepth 100000 in
set_option maxHeartbeats 51200000 in
theorem flowOf_walk (lv tv av rv wv : Value) (t : TestM) (R : List (Bool × Nat)) (S : List Bool) (hl : t.locs.length ≤ maxLen) (hn : ∀ l ∈ t.locs, l.1.length ≤ maxLen) (hl2 : t.thr.length ≤ maxLen) (hl3 : ∀ l ∈ t.thr, l.length ≤ maxLen) (hl4 : t.asks.length ≤ maxLen)
    (hnum : ∀ l ∈ t.thr, ∀ x ∈ l, (0 ≤ x.an ∧ x.an < 18446744073709551616) ∧ (0 ≤ x.bn ∧ x.bn < 18446744073709551616)) (hRl : R.length ≤ maxLen) (hSl : S.length ≤ maxLen) (hRv : ∀ x ∈ R, x.2 < 18446744073709551616)
    (w : World) (h : CapIn w lv tv av t) (hR : SlIn w rv 2 R.length (nV R)) (hS : SlIn w wv 1 S.length (S.map Value.bool)) :
    Calls Try.prog 3 #[.agg #[lv, tv, av], rv, wv] w fun e w' => e = .returned (.bool true) ∧ Below w.heap.size w w' := by
  obtain ⟨lp0, lc0, tp0, tc0, ap0, ac0, rfl, rfl, rfl⟩ := testValsF h.test
  obtain ⟨rp, rc, rfl⟩ := hR.slice
  obtain ⟨wp, wpc, rfl⟩ := hS.slice
  have cf := fun (o : Obj) => few_any _ _ _ t hl hn hl2 hl3 hl4 (w.alloc o) ⟨h.locs.below (aset w o), h.lc, by obtain ⟨vs, h1, h2, h3⟩ := h.thr; exact ⟨vs, h1, h2.below (aset w o), fun i v hv => ⟨(h3 i v hv).1, by obtain ⟨l, x, y⟩ := (h3 i v hv).2; exact ⟨l, x, y.below (aset w o)⟩⟩⟩, h.tc, h.asks.below (aset w o), h.ac⟩
  have hok := few_okF t
  have hun := few_num hnum
  obtain ⟨u, hu⟩ : ∃ u, u = fewM t := ⟨_, rfl⟩
  rw [← hu] at cf hok hun
  have ca := fun W => awake13_any W
  have cc := fun (b : Nat) W (hW : TestAt W b u) => check_test b u hok.1 hok.2 W hW
  have CF := Bx.mk cf; have CA := Bx.mk ca; have CC := Bx.mk cc; have HOK := Bx.mk hok; have HUN := Bx.mk hun
  have HR := Bx.mk hR; have HS := Bx.mk hS; have HRV := Bx.mk hRv
  have HRL := Bx.mk hRl; have HSL := Bx.mk hSl
  unfold maxLen at hRl hSl
  clear cf ca cc hok h hl hn hl2 hl3 hl4 hu hnum hun hR hS hRv
  obtain ⟨Q, hQ⟩ : ∃ Q, Q = chkTest u := ⟨_, rfl⟩
  rw [← hQ] at CC
  have HQ := Bx.mk hQ
  clear hQ
  generalize t.locs.length = n1 at *
  generalize t.thr.length = n2 at *
  generalize t.asks.length = n3 at *
  go_enter Try.func3, Try.ntmps3
  go_upto_region 2 with (first
    | (go_at_call 4; ((with_reducible refine (CF.out _).mono ?_); rintro e w1 ⟨⟨lv, tv, av, rfl, ht⟩, hb1⟩; obtain ⟨lp, lc, tp, tc, ap, ac, rfl, rfl, rfl⟩ := testValsF ht.cap.test; have X := nBlock hb1; have x0 := cOf X 0; have x1 := cOf X 1; have x2 := cOf X 2; have xf0 := tOf X 0; have xf1 := tOf X 1; have xf2 := tOf X 2; simp at x0 x1 x2; have HX := Bx.mk X; clear X; have HT := Bx.mk ht; have HB := Bx.mk hb1; clear ht hb1)))
  clear x0 x1 x2 xf0 xf1 xf2
  have fin : ∃ W, W = ((w1.setCell ⟨w.heap.size, 0, none⟩ (.slice lp u.locs.length lc)).setCell ⟨w.heap.size, 1, none⟩ (.slice tp u.thr.length tc)).setCell ⟨w.heap.size, 2, none⟩ (.slice ap u.asks.length ac) := ⟨_, rfl⟩
  obtain ⟨W, hW⟩ := fin
  have hblk : W.heap[w.heap.size]? = some (.cells #[.slice lp u.locs.length lc, .slice tp u.thr.length tc, .slice ap u.asks.length ac] 26) := by
    rw [hW]; exact heapSet (heapSet (heapSet HX.out 0 _) 1 _) 2 _
  have hkeep : ∀ b, w.heap.size + 1 ≤ b → W.heap[b]? = w1.heap[b]? := fun b hb => by
    rw [hW, Below.heap_setCell _ _ _ _ (by show b ≠ w.heap.size; omega), Below.heap_setCell _ _ _ _ (by show b ≠ w.heap.size; omega), Below.heap_setCell _ _ _ _ (by show b ≠ w.heap.size; omega)]
  have HB2 : Below w.heap.size w W := by rw [hW]; exact (((bel (aset _ _) HB.out).setCell (p := ⟨w.heap.size, 0, none⟩) (Nat.le_refl _) _).setCell (p := ⟨w.heap.size, 1, none⟩) (Nat.le_refl _) _).setCell (p := ⟨w.heap.size, 2, none⟩) (Nat.le_refl _) _
  have MS : Bx (FlSt w W (.slice lp u.locs.length lc) (.slice tp u.thr.length tc) (.slice ap u.asks.length ac) u) := ⟨⟨by rw [cOf hblk]; rfl, by rw [cOf hblk]; rfl, by rw [cOf hblk]; rfl, (((HT.out.mono (by simp : w.heap.size + 1 ≤ _)).keep fun b hb _ => hkeep b hb).cap.test), HB2⟩⟩
  rw [← hW]
  clear hW hkeep hblk HT HB HX CF HB2
  by_cases h0 : ¬ Q = 0
  · have hq1 : ((Q : Int) == 0) = false := by rw [beq_eq_false_iff_ne]; omega
    have hq2 : ((Q : Int) != 0) = true := by rw [bne, hq1]; rfl
    clear h0
    go_wp2_with (first
      | (go_at_call 5; ((with_reducible refine (CA.out _).mono ?_); rintro e w2 ⟨rfl, hbq⟩; have MS := Bx.mk (MS.out.below hbq); clear hbq))
      | (go_at_call 6; ((with_reducible refine (CC.out _ _ MS.out.at).mono ?_); rintro e w3 ⟨rfl, hbq⟩; have MS := Bx.mk (MS.out.below hbq); clear hbq)))
    go_ret
    exact ⟨rfl, MS.out.bel⟩
  obtain rfl : Q = 0 := by omega
  clear h0
  have hg := HQ.out.symm
  obtain ⟨hl4, hl8⟩ := good_len hg
  have hnn : memT u.thr ≤ 32 := by have := memT_le 8 u.thr hl8; omega
  obtain ⟨n, hnd⟩ : ∃ n, n = memT u.thr := ⟨_, rfl⟩
  rw [← hnd] at hnn
  have HND := Bx.mk hnd
  have HG := Bx.mk hg
  have HL8 := Bx.mk hl8
  have HIX : Bx (∀ l ∈ u.thr, ∀ x ∈ l, InsN x ∧ 1 ≤ x.op ∧ x.op ≤ 17) := ⟨fun l hl x hx => ⟨good_insN hg HUN.out l hl x hx, good_op hg l hl x hx⟩⟩
  clear hl8 hg hnd
  go_upto_region 4 with (first
    | (go_at_call 5; ((with_reducible refine (CA.out _).mono ?_); rintro e w2 ⟨rfl, hbq⟩; have MS := Bx.mk (MS.out.below hbq); clear hbq))
    | (go_at_call 6; ((with_reducible refine (CC.out _ _ MS.out.at).mono ?_); rintro e w3 ⟨rfl, hbq⟩; have MS3 := Bx.mk (MS.out.below hbq); clear hbq)))
  obtain ⟨c0, c1, c2, _, _⟩ := MS3.out
  have CT := Bx.mk (told_any _ _ _ u HOK.out.1 w3 MS3.out.row)
  go_upto_region 5 with (go_at_call 7; ((with_reducible refine (CT.out).mono ?_); rintro e w4 ⟨⟨l2, t2, a2, rfl, htol⟩, b4⟩; obtain ⟨lp2, lc2, tp2, tc2, ap2, ac2, rfl, rfl, rfl⟩ := testValsF htol.test.test; have TL := Bx.mk htol.test.test; have B4 := Bx.mk b4; clear htol b4))
  have AW := Bx.mk (aset w4 (.cells #[.slice lp2 u.locs.length lc2, .slice tp2 u.thr.length tc2, .slice ap2 u.asks.length ac2] 37))
  have XB := Bx.mk (heap_alloc_new w4 (.cells #[.slice lp2 u.locs.length lc2, .slice tp2 u.thr.length tc2, .slice ap2 u.asks.length ac2] 37))
  have MS5 := Bx.mk ((MS3.out.below B4.out).below AW.out)
  have TL5 := Bx.mk (TL.out.below AW.out)
  clear c0 c1 c2 CT MS3 B4 TL AW
  generalize w4.alloc (.cells #[.slice lp2 u.locs.length lc2, .slice tp2 u.thr.length tc2, .slice ap2 u.asks.length ac2] 37) = W5 at *
  generalize w4.heap.size = xb at *
  have dr : Below W5.heap.size W5 W5.drew := ⟨rfl, rfl, rfl, Nat.le_refl _, fun _ _ => rfl⟩
  have co := ops_any w.heap.size u HOK.out.1 W5.drew (MS5.out.below dr).at
  unfold OpsP at co
  rw [opsM_len, ← HND.out] at co
  have CO := Bx.mk co
  have hol : (opsX 0 u.thr).length = n := by rw [opsX_len, HND.out]
  have HOL := Bx.mk hol
  have CR := Bx.mk (fun W (hW : TestIn W (.slice lp2 u.locs.length lc2) (.slice tp2 u.thr.length tc2) (.slice ap2 u.asks.length ac2) u) => refOps_any _ _ _ u (by omega) (fun l hl => by have := HL8.out l hl; omega) W hW)
  have x0 := cOf XB.out 0; have x1 := cOf XB.out 1; have x2 := cOf XB.out 2
  simp only [List.getElem?_toArray, List.getElem?_cons_zero, List.getElem?_cons_succ] at x0 x1 x2
  have x0d : W5.drew.cell? ⟨xb, 0, none⟩ = _ := x0
  have x1d : W5.drew.cell? ⟨xb, 1, none⟩ = _ := x1
  have x2d : W5.drew.cell? ⟨xb, 2, none⟩ = _ := x2
  clear co hol
  go_region_held3 (fun W => W.cell? ⟨xb, 0, none⟩ = some (.slice lp2 u.locs.length lc2) ∧ W.cell? ⟨xb, 1, none⟩ = some (.slice tp2 u.thr.length tc2) ∧ W.cell? ⟨xb, 2, none⟩ = some (.slice ap2 u.asks.length ac2))
    (first
      | (exact ⟨x0, x1, x2⟩)
      | (go_split_ands; exact ⟨cBel x0d (by assumption), cBel x1d (by assumption), cBel x2d (by assumption)⟩)
      | (go_split_ands; exact ⟨cBel (cBel x0d B6.out) (by assumption), cBel (cBel x1d B6.out) (by assumption), cBel (cBel x2d B6.out) (by assumption)⟩))
    (first
      | (go_at_call 8; ((with_reducible refine (CO.out).mono ?_); rintro e w6 ⟨o1, rfl, r1, b6⟩; obtain ⟨op1, oc1, rfl⟩ := rowSlice r1; have RA := Bx.mk (rowSlN r1); have B6 := Bx.mk b6; clear r1))
      | (go_at_call 9; ((with_reducible refine (CR.out _ ((TL5.out.below dr).below B6.out)).mono ?_); rintro e w7 ⟨o2, rfl, r2, b7⟩; rw [HOL.out] at r2; obtain ⟨op2, oc2, rfl⟩ := rowSlice r2; have RB := Bx.mk (rowSlN r2); have B7 := Bx.mk b7; clear r2)))
  have MS7 := Bx.mk (((MS5.out.below dr).below B6.out).below B7.out)
  have TL7 := Bx.mk (((TL5.out.below dr).below B6.out).below B7.out)
  have XB7 : Bx (w7.heap[xb]? = some (.cells #[.slice lp2 u.locs.length lc2, .slice tp2 u.thr.length tc2, .slice ap2 u.asks.length ac2] 37 (0, 0))) := ⟨(B7.out.block _ (ltOf ((B6.out.block _ (ltOf XB.out)).trans XB.out))).trans ((B6.out.block _ (ltOf XB.out)).trans XB.out)⟩
  have RA7 := Bx.mk (RA.out.below B7.out)
  clear dr MS5 TL5 XB RA CO CR B6 B7 x0 x1 x2 x0d x1d x2d
  go_wp2_with fail
  go_loopw [45] (fun q wr => ∃ j : Nat, q = .int .i64 (j : Int) ∧ j ≤ n ∧ Bx (Below w7.heap.size w7 wr)) (fun q _ => n - (intOf q).toNat)
  case atStart => exact ⟨0, rfl, by omega, ⟨Below.refl _ _⟩⟩
  case round =>
    obtain ⟨j, rfl, hj, hbb⟩ := hrel
    by_cases hlt : j < n
    · have ji : (j : Int) < (n : Int) := by omega
      have j0 : (0 : Int) ≤ (j : Int) := by omega
      obtain ⟨⟨o1, o2, ox⟩, ho⟩ : ∃ o, (opsX 0 u.thr)[j]? = some o := ⟨_, List.getElem?_eq_getElem (by rw [HOL.out]; exact hlt)⟩
      have hm := opsM_at ho
      obtain ⟨qb, qo, qc, hv, hbl, hcl⟩ := RA7.out.at (by omega)
      obtain ⟨rfl, _, rfl⟩ := Value.slice.inj hv
      have y0 : wr.cell? ⟨qb, qo + j * 2, none⟩ = some (.int .i64 (o1 : Int)) := (hbb.out.cell hbl).trans (hcl _ _ (flatAt opC 2 (fun _ => rfl) _ j 0 _ hm (by decide)))
      have y1 : wr.cell? ⟨qb, qo + j * 2 + 1, none⟩ = some (.int .i64 (o2 : Int)) := by
        rw [Nat.add_assoc]; exact (hbb.out.cell hbl).trans (hcl _ _ (flatAt opC 2 (fun _ => rfl) _ j 1 _ hm (by decide)))
      obtain ⟨rb, ro, rcc, hv2, hbl2, hcl2⟩ := RB.out.at (by omega)
      obtain ⟨rfl, _, rfl⟩ := Value.slice.inj hv2
      have z0 : wr.cell? ⟨rb, ro + j * 15, none⟩ = some (.int .i64 (o1 : Int)) := (hbb.out.cell hbl2).trans (hcl2 _ _ (flatAt opX 15 opX_len _ j 0 _ ho (by decide)))
      have z1 : wr.cell? ⟨rb, ro + j * 15 + 1, none⟩ = some (.int .i64 (o2 : Int)) := by
        rw [Nat.add_assoc]; exact (hbb.out.cell hbl2).trans (hcl2 _ _ (flatAt opX 15 opX_len _ j 1 _ ho (by decide)))
      clear hv hv2 hcl hcl2 ho hm
      go_wp2_with fail
      go_quiet (fail)
      go_wp2_with fail
      go_roundw
      case rel => exact ⟨j + 1, by go_num, by omega, ⟨hbb.out.trans (belN _ _ _)⟩⟩
      case measure => simp [intOf]; omega
    · have jnl : ¬ ((j : Int) < (n : Int)) := by omega
      have MS8 := Bx.mk (MS7.out.below hbb.out)
      have TL8 := Bx.mk (TL7.out.below hbb.out)
      have XB8 := Bx.mk ((hbb.out.block _ (ltOf XB7.out)).trans XB7.out)
      clear MS7 TL7 XB7 RA7 RB hlt hj hbb
      obtain ⟨w8, rfl⟩ : ∃ w8 : World, w8 = wr := ⟨_, rfl⟩
      obtain ⟨c0, c1, c2, _, _⟩ := MS8.out
      have cg := given_any _ _ _ _ _ u HOK.out.1 n HND.out.symm (by omega) R S HRL.out HSL.out w8 MS8.out.row (HR.out.below MS8.out.bel) (HS.out.below MS8.out.bel)
      have CG := Bx.mk cg
      clear cg
      go_upto_region 15 with (go_at_call 10; ((with_reducible refine (CG.out).mono ?_); rintro e w9 ⟨z, hz, rfl, hgs⟩; have HZ := Bx.mk hz; have HGS := Bx.mk hgs; clear hz hgs))
      clear c0 c1 c2 CG jnl
      obtain ⟨A, hA⟩ : ∃ A, A = pA n R n := ⟨_, rfl⟩
      obtain ⟨B, hB⟩ : ∃ B, B = pB n S n := ⟨_, rfl⟩
      rw [← hA, ← hB] at HGS
      have hAl : A.length = n := by rw [hA]; exact pA_len n R n
      have hBl : B.length = n := by rw [hB]; exact pB_len n S n
      have hAv : ∀ x ∈ A, x.2 < 18446744073709551616 := by rw [hA]; exact pA_ok HRV.out n n
      have b89 := bel HZ.out HGS.out.bel
      have MS9 := Bx.mk (MS8.out.below b89)
      have TL9 := Bx.mk (TL8.out.below b89)
      have XB9 := Bx.mk ((b89.block _ (ltOf XB8.out)).trans XB8.out)
      have ca : w9.heap[z.heap.size]? = some (.cells (nV A ++ []).toArray 74 (0, 0)) := by rw [List.append_nil]; exact HGS.out.a
      have cb : w9.heap[z.heap.size + 1]? = some (.cells (B.map Value.bool ++ []).toArray 4 (0, 0)) := by rw [List.append_nil]; exact HGS.out.b
      have cc : w9.heap[z.heap.size + 1 + 1]? = some (.cells (rV A ++ []).toArray 70 (0, 0)) := by rw [List.append_nil]; exact HGS.out.c
      have c1 : CtxOk ⟨A, B⟩ := ⟨hAv, by show A.length ≤ _; omega, by show B.length ≤ _; omega⟩
      have co := flowOf_any w.heap.size u HOK.out.1 HOK.out.2 HG.out HUN.out ⟨A, B⟩ c1 (.slice (some ⟨z.heap.size, 0, none⟩) n n) (.slice (some ⟨z.heap.size + 1, 0, none⟩) n n) w9 MS9.out.at (by show SlIn _ _ 2 A.length _; rw [hAl]; exact slHeap ca (by rw [nV_len, hAl]) n) (by show SlIn _ _ 1 B.length _; rw [hBl]; exact slHeap cb (by simp [hBl]) n)
      have rvl : (rV A).length = n * 3 := by unfold rV; rw [flat_len rvC 3 (fun _ => rfl), hAl]
      have hc3 := slHeap cc rvl n
      rw [rV_range A n hAl ⟨A, B⟩ rfl] at hc3
      have hc1 : SlIn w9 (.slice (some ⟨z.heap.size + 1, 0, none⟩) n n) 1 n (B.map Value.bool) := slHeap cb (by simp [hBl]) n
      rw [bV_range B n hBl ⟨A, B⟩ rfl] at hc1
      have bo := (flow_ref ⟨A, B⟩ u.thr (fun l hl x hx => (HIX.out l hl x hx).2)).both
      have r8 := ofR_r8 ⟨A, B⟩ u.thr
      obtain ⟨F1, hF1⟩ : ∃ F1, F1 = flowM ⟨A, B⟩ u.thr := ⟨_, rfl⟩
      obtain ⟨G1, hG1⟩ : ∃ G1, G1 = ofR ⟨A, B⟩ u.thr := ⟨_, rfl⟩
      rw [← HND.out, ← hF1] at co
      rw [← HND.out, ← hF1, ← hG1] at bo
      rw [← hG1] at r8
      obtain ⟨tn, htn⟩ : ∃ tn, tn = u.thr.length := ⟨_, rfl⟩
      rw [← htn] at bo co
      have htn4 : tn ≤ 4 := by omega
      have cr : ∀ W, Below w9.heap.size w9 W → Calls Try.prog 12 #[.agg #[.slice lp2 u.locs.length lc2, .slice tp2 u.thr.length tc2, .slice ap2 u.asks.length ac2], .slice (some ⟨z.heap.size + 1 + 1, 0, none⟩) n n, .slice (some ⟨z.heap.size + 1, 0, none⟩) n n] W fun e w' => ∃ (F RR LL : Value) (XR : List (Value × List Cn)) (XL : List (Value × Nat)) (fb rb : Nat), e = .returned (.agg #[F, RR, LL, .bool G1.whole]) ∧ XR.map (·.2) = G1.regs ∧ XL.map (·.2) = G1.left ∧ RwR w' fb rb RR LL F XR XL G1.facts ∧ Below W.heap.size W w' := fun W hb => by
        rw [hG1]; exact ofR_any _ _ _ u hl4 HL8.out HIX.out ⟨A, B⟩ c1 n HND.out.symm (.slice (some ⟨z.heap.size + 1 + 1, 0, none⟩) n n) (.slice (some ⟨z.heap.size + 1, 0, none⟩) n n) W (TL9.out.below hb) (hc3.below hb) (hc1.below hb)
      have CO := Bx.mk co; have CR := Bx.mk cr; have BO := Bx.mk bo; have R8 := Bx.mk r8
      clear co cr bo r8 hc1 hc3 rvl ca cb cc c1 hAv hAl hBl hA hB hF1 hG1 htn b89 HGS HZ MS8 TL8 XB8
      go_upto_region 16 with (go_at_call 11; ((with_reducible refine (CO.out).mono ?_); rintro e w10 ⟨K1, rfl, f1, _, b10⟩; have FL1 := Bx.mk f1; have B10 := Bx.mk b10; clear f1 b10))
      have XB10 := Bx.mk ((B10.out.block _ (ltOf XB9.out)).trans XB9.out)
      have MS10 := Bx.mk (MS9.out.below B10.out)
      have CR10 := Bx.mk (CR.out w10 B10.out)
      have x0 := cOf XB10.out 0; have x1 := cOf XB10.out 1; have x2 := cOf XB10.out 2
      simp only [List.getElem?_toArray, List.getElem?_cons_zero, List.getElem?_cons_succ] at x0 x1 x2
      clear CO CR B10 MS9 XB9 TL9
      go_upto_region 17 with fail
      with_reducible refine (CR10.out).mono ?_
      rintro e w11 ⟨Fv, RR, LL, XR, XL, fb, rb, rfl, hxr, hxl, hrw, b11⟩
      have FL2 := Bx.mk (FL1.out.bel b11)
      have MS11 := Bx.mk (MS10.out.below b11)
      have HXR := Bx.mk hxr
      have HXL := Bx.mk hxl
      have HRW := Bx.mk hrw
      obtain ⟨fq, fc, hFe⟩ := hrw.fa.slice
      rw [BO.out.fl] at hFe
      subst hFe
      have hl1 : XR.length = tn := by rw [← BO.out.rl, ← hxr, List.length_map]
      have hl2 : XL.length = tn := by rw [← BO.out.ll, ← hxl, List.length_map]
      have hrs := (rowSlN hrw.rr)
      rw [hl1] at hrs
      have hls := (rowSlN hrw.ll)
      rw [hl2] at hls
      obtain ⟨q1, q2, hRe⟩ := hrs.slice
      subst hRe
      obtain ⟨q3, q4, hLe⟩ := hls.slice
      subst hLe
      have HRS := Bx.mk hrs
      have HLS := Bx.mk hls
      have HL1 := Bx.mk hl1
      have HL2 := Bx.mk hl2
      clear hrs hls hl1 hl2 hxr hxl hrw b11
      go_upto_region 17 with fail
      obtain ⟨gw, hgw⟩ : ∃ gw, gw = G1.whole := ⟨_, rfl⟩
      rw [← hgw]
      have AL := Bx.mk (aset w11 (.cells #[.slice fq n fc, .slice q1 tn q2, .slice q3 tn q4, .bool gw] 62))
      have YB := Bx.mk (heap_alloc_new w11 (.cells #[.slice fq n fc, .slice q1 tn q2, .slice q3 tn q4, .bool gw] 62))
      have FL3 := Bx.mk (FL2.out.bel AL.out); have MS12 := Bx.mk (MS11.out.below AL.out); have RW12 := Bx.mk (HRW.out.below AL.out); have RS12 := Bx.mk (HRS.out.below AL.out); have LS12 := Bx.mk (HLS.out.below AL.out)
      have HGW : Bx (F1.whole = gw) := ⟨by rw [hgw]; exact BO.out.whole⟩
      clear FL1 FL2 MS11 MS10 HRW HRS HLS AL XB10 CR10 x0 x1 x2 hgw
      generalize w11.alloc (.cells #[.slice fq n fc, .slice q1 tn q2, .slice q3 tn q4, .bool gw] 62) = w12 at *
      generalize w11.heap.size = yb at *
      refine reg17_any w12 CA K1.fb yb K1.st K1.rg n tn oc2 q2 op2 q1 gw (by rw [cOf FL3.out.fb]; show some (Value.bool F1.whole) = _; rw [HGW.out]) (by rw [cOf FL3.out.fb]; rfl) (by rw [cOf FL3.out.fb]; rfl) (by rw [cOf YB.out]; rfl) (by rw [cOf YB.out]; rfl) _ _ _ _ _ _ _ _ _ _ _ _ _ _ _ _ _ _ _ _ _ _ _ _ _ _ _ _ _ _ _ _ _ _ _ _ _ _ _ _ _ _ _ _ _ _ _ _ _ _ _ _ _ _ _ _ _ _ _ _ _ _ _ _ _ _ _ _ _ _ _ _ _ _ _ _ _ _ _ _ _ _ _ _ _ _ _ _ _ _ _ _ _ _ _ _ _ _ _ _ _ _ _ _ _ _ _ _ _ _ _ _ _ _ _ _ _ _ _ _ _ _ _ _ _ _ _ _ _ _ _ _ _ _ _ _ _ _ _ _ _ _ _ _ _ _ _ _ _ _ _ _ _ _ _ _ _ _ _ _ _ _ _ _ _ _ _ _ _ _ _ _ _ _ _ _ _ _ _ _ _ _ _ _ _ _ _ _ _ _ _ _ _ _ _ _ _ _ _ _ _ _ _ _ _ _ _ _ _ _ _ _ _ _ _ _ _ _ _ _ _ _ _ _ _ _ _ _ _ _ _ _ _ _ _ _ _ _ _ _ _ _ _ _ _ _ _ _ _ _ _ _ _ _ _ _ _ _ _ _ _ _ _ _ _ _ _ _ _ _ _ (fun _ _ _ _ h => h) (fun w13 vv88 vv89 vv90 vv91 vv92 vv93 vv94 vv95 vv96 vv97 vv98 vv99 vv100 vv101 vv102 vv103 vv104 vv105 vv106 vv107 vv108 vv109 vv110 vv111 vv112 vv113 vv114 vv115 vv116 vv117 vv118 vv119 vv120 vv121 vv122 b13 => ?_)
      have FL4 := Bx.mk (FL3.out.bel b13); have MS13 := Bx.mk (MS12.out.below b13); have RW13 := Bx.mk (RW12.out.below b13); have RS13 := Bx.mk (RS12.out.below b13); have LS13 := Bx.mk (LS12.out.below b13); have YB13 := Bx.mk ((b13.block _ (ltOf YB.out)).trans YB.out)
      clear FL3 MS12 RW12 RS12 LS12 YB b13
      have y0 := cOf YB13.out 0
      simp only [List.getElem?_toArray, List.getElem?_cons_zero] at y0
      obtain ⟨Y, hY1, hY2, hY3⟩ := RW13.out.fa.ex
      have hYl : Y.length = n := by rw [← BO.out.fl, ← hY1, List.length_map]
      rw [hYl] at hY2
      have HY1 := Bx.mk hY1; have HY2 := Bx.mk hY2; have HY3 := Bx.mk hY3; have HYL := Bx.mk hYl
      clear hY1 hY2 hY3 hYl
      go_wp2_with fail
      clear y0
      go_loopw [127] (fun q wr => ∃ j : Nat, q = .int .i64 (j : Int) ∧ j ≤ n ∧ Bx (Below w13.heap.size w13 wr)) (fun q _ => n - (intOf q).toNat)
      case atStart => exact ⟨0, rfl, by omega, ⟨Below.refl _ _⟩⟩
      case round =>
        obtain ⟨j, rfl, hj, hbb⟩ := hrel
        by_cases hlt : j < n
        · have ji : (j : Int) < (n : Int) := by omega
          have j0 : (0 : Int) ≤ (j : Int) := by omega
          obtain ⟨⟨pv, vv, tv, fx⟩, hy⟩ : ∃ y, Y[j]? = some y := ⟨_, List.getElem?_eq_getElem (by rw [HYL.out]; exact hlt)⟩
          have hfx : fx = factF F1 j := by
            have h1 := BO.out.fact j hlt
            rw [← HY1.out, List.getElem?_map, hy] at h1
            exact Option.some.inj h1
          have hfm := HY3.out _ (List.mem_of_getElem? hy)
          obtain ⟨qb, qo, qc, hv, hbl, hcl⟩ := HY2.out.at (by omega)
          obtain ⟨rfl, _, rfl⟩ := Value.slice.inj hv
          have k0 := (hbb.out.cell hbl).trans (hcl _ _ (flatAt fxC 8 (fun _ => rfl) _ j 0 _ hy (by decide)))
          have k1 := (hbb.out.cell hbl).trans (hcl _ _ (flatAt fxC 8 (fun _ => rfl) _ j 1 _ hy (by decide)))
          have k2 := (hbb.out.cell hbl).trans (hcl _ _ (flatAt fxC 8 (fun _ => rfl) _ j 2 _ hy (by decide)))
          have k3 := (hbb.out.cell hbl).trans (hcl _ _ (flatAt fxC 8 (fun _ => rfl) _ j 3 _ hy (by decide)))
          have k4 := (hbb.out.cell hbl).trans (hcl _ _ (flatAt fxC 8 (fun _ => rfl) _ j 4 _ hy (by decide)))
          have k5 := (hbb.out.cell hbl).trans (hcl _ _ (flatAt fxC 8 (fun _ => rfl) _ j 5 _ hy (by decide)))
          have k6 := (hbb.out.cell hbl).trans (hcl _ _ (flatAt fxC 8 (fun _ => rfl) _ j 6 _ hy (by decide)))
          have k7 := (hbb.out.cell hbl).trans (hcl _ _ (flatAt fxC 8 (fun _ => rfl) _ j 7 _ hy (by decide)))
          simp only [← Nat.add_assoc, Nat.add_zero] at k0 k1 k2 k3 k4 k5 k6 k7
          obtain ⟨m1, m2, m3, rfl⟩ := hfm.pl.slice
          obtain ⟨m4, m5, m6, rfl⟩ := hfm.va.slice
          obtain ⟨m7, m8, m9, rfl⟩ := hfm.pa.slice
          have HFM := Bx.mk hfm; have HFX := Bx.mk hfx
          clear hy hfx hfm hv hcl
          have AL := Bx.mk (aset wr (.cells #[.int .i64 (fx.st : Int), .int .i64 (fx.pr : Int), .bool fx.wk, .int .u64 (fx.wv : Int), .slice none 0 0, .slice m1 m2 m3, .slice m4 m5 m6, .slice m7 m8 m9] 72))
          have TB := Bx.mk (heap_alloc_new wr (.cells #[.int .i64 (fx.st : Int), .int .i64 (fx.pr : Int), .bool fx.wk, .int .u64 (fx.wv : Int), .slice none 0 0, .slice m1 m2 m3, .slice m4 m5 m6, .slice m7 m8 m9] 72))
          go_upto_region 22 with fail
          clear k0 k1 k2 k3 k4 k5 k6 k7
          have bw := Bx.mk (bel hbb.out AL.out)
          generalize wr.alloc (.cells #[.int .i64 (fx.st : Int), .int .i64 (fx.pr : Int), .bool fx.wk, .int .u64 (fx.wv : Int), .slice none 0 0, .slice m1 m2 m3, .slice m4 m5 m6, .slice m7 m8 m9] 72) = w14 at *
          generalize wr.heap.size = tb at *
          have FL5 := FL4.out.bel bw.out
          have d0 : Below w14.heap.size w14 w14.drew := ⟨rfl, rfl, rfl, Nat.le_refl _, fun _ _ => rfl⟩
          have FM : ∀ (W : World), Below w14.drew.heap.size w14.drew W → FxM W (GD fb rb (.slice q1 tn q2) (.slice q3 tn q4)) 10000 (.slice m1 m2 m3, .slice m4 m5 m6, .slice m7 m8 m9, fx) := fun W hW => HFM.out.keep (fun k _ hl => ((bel bw.out (bel d0 hW)).block k hl))
          have e := HFX.out
          obtain ⟨l1, l2, l3, l4, l5, l6⟩ := BO.out.lens
          have v1 : F1.wr[j]? = some (F1.wr.getD j (false, 0)) := by rw [List.getD_eq_getElem?_getD, List.getElem?_eq_getElem (by omega)]; rfl
          refine reg22_any w14 K1.fb tb K1.st K1.wr K1.pr K1.pl K1.va K1.fp n j fx.st fx.pr fx.wv fx.pl fx.va fx.pa fx.wk (.slice m1 m2 m3) (.slice m4 m5 m6) (.slice m7 m8 m9) ji j0 ⟨fun W hW => mask_any W _ 10000 (by omega) _ _ (FM W hW).pl⟩ ⟨fun W hW => mask_any W _ 10000 (by omega) _ _ (FM W hW).va⟩ ⟨fun W hW => mask_any W _ 10000 (by omega) _ _ (FM W hW).pa⟩
            (by rw [cOf FL5.fb]; rfl) (by rw [cOf FL5.fb]; rfl) (by rw [cOf FL5.fb]; rfl) (by rw [cOf FL5.fb]; rfl) (by rw [cOf FL5.fb]; rfl) (by rw [cOf FL5.fb]; rfl)
            (by rw [cOf FL5.st, nI_get (by omega), e]; rfl) (by rw [cOf FL5.wr, e, List.getElem?_toArray]; exact nV_get v1 0 (by decide)) (by rw [cOf FL5.wr, e, List.getElem?_toArray]; exact nV_get v1 1 (by decide)) (by rw [cOf FL5.pr, nI_get (by omega), e]; rfl) (by rw [cOf FL5.pl, nU_get (by omega), e]; rfl) (by rw [cOf FL5.va, nU_get (by omega), e]; rfl) (by rw [cOf FL5.fp, nU_get (by omega), e]; rfl)
            (by rw [cOf TB.out]; rfl) (by rw [cOf TB.out]; rfl) (by rw [cOf TB.out]; rfl) (by rw [cOf TB.out]; rfl) (by rw [cOf TB.out]; rfl) (by rw [cOf TB.out]; rfl) (by rw [cOf TB.out]; rfl) _ _ _ _ _ _ _ _ _ _ _ _ _ _ _ _ _ _ _ _ _ _ _ _ _ _ _ _ _ _ _ _ _ _ _ _ _ _ _ _ _ _ _ _ _ _ _ _ _ _ _ _ _ _ _ _ _ _ _ _ _ _ _ _ _ _ _ _ _ _ _ _ _ _ _ _ _ _ _ _ _ _ _ _ _ _ _ _ _ _ _ _ _ _ _ _ _ _ _ _ _ _ _ _ _ _ _ _ _ _ _ _ _ _ _ _ _ _ _ _ _ _ _ _ _ _ _ _ _ _ _ _ _ _ _ _ _ _ _ _ _ _ _ _ _ _ _ _ _ _ _ _ _ _ _ _ _ _ _ _ _ _ _ _ _ _ _ _ _ _ _ _ _ _ _ _ _ _ _ _ _ _ _ _ _ _ _ _ _ _ _ _ _ _ _ _ _ _ _ _ _ _ _ _ _ _ _ _ _ _ _ _ _ _ _ _ _ _ _ _ _ _ _ _ _ _ _ _ _ _ _ _ _ _ _ _ _ _ _ _ _ _ _ _ _ _ _ _ _ _ _ _ _ _ _ _ _ _ _ _ _ _ _ _ _ _ _ _ _ _ _ (fun _ _ _ _ h => h) (fun w15 vv132 vv133 vv134 vv135 vv136 vv137 vv138 vv139 vv140 vv141 vv142 vv143 vv144 vv145 vv146 vv147 vv148 vv149 vv150 vv151 vv152 vv153 vv154 vv155 vv156 vv157 vv158 vv159 vv160 vv161 vv162 vv163 vv164 vv165 vv166 vv167 vv168 vv169 vv170 vv171 vv172 vv173 vv174 vv175 vv176 vv177 vv178 vv179 vv180 vv181 vv182 vv183 vv184 vv185 vv186 vv187 vv188 vv189 vv190 vv191 vv192 vv193 vv194 vv195 vv196 vv197 vv198 vv199 vv200 vv201 vv202 vv203 vv204 vv205 vv206 vv207 vv208 b15 => ?_)
          have B15 := Bx.mk (bel bw.out b15)
          clear FL5 d0 FM e l1 l2 l3 l4 l5 l6 v1 b15 bw AL TB HFM HFX
          go_wp2_with fail
          go_roundw
          case rel => exact ⟨j + 1, by go_num, by omega, B15⟩
          case measure => simp [intOf]; omega
        · have jnl : ¬ ((j : Int) < (n : Int)) := by omega
          have FL6 := Bx.mk (FL4.out.bel hbb.out); have MS14 := Bx.mk (MS13.out.below hbb.out); have RW14 := Bx.mk (RW13.out.below hbb.out); have RS14 := Bx.mk (RS13.out.below hbb.out); have LS14 := Bx.mk (LS13.out.below hbb.out); have YB14 := Bx.mk ((hbb.out.block _ (ltOf YB13.out)).trans YB13.out)
          clear FL4 MS13 RW13 RS13 LS13 YB13 hbb hlt hj HY1 HY2 HY3 HYL
          obtain ⟨w14, rfl⟩ : ∃ w14 : World, w14 = wr := ⟨_, rfl⟩
          have y2 := cOf YB14.out 2
          simp only [List.getElem?_toArray, List.getElem?_cons_zero, List.getElem?_cons_succ] at y2
          go_wp2_with fail
          clear y2 jnl
          go_loopw [214] (fun q wr => ∃ j : Nat, q = .int .i64 (j : Int) ∧ j ≤ tn ∧ Bx (Below w14.heap.size w14 wr)) (fun q _ => tn - (intOf q).toNat)
          case atStart => exact ⟨0, rfl, by omega, ⟨Below.refl _ _⟩⟩
          case round =>
            obtain ⟨j, rfl, hj, hbb⟩ := hrel
            by_cases hlt : j < tn
            · have ji : (j : Int) < (tn : Int) := by omega
              have j0 : (0 : Int) ≤ (j : Int) := by omega
              obtain ⟨⟨lv, lm⟩, hy⟩ : ∃ y, XL[j]? = some y := ⟨_, List.getElem?_eq_getElem (by rw [HL2.out]; exact hlt)⟩
              have hlm : lm = F1.left.getD j 0 := by
                have h1 := BO.out.left j hlt
                rw [← HXL.out, List.getElem?_map, hy] at h1
                exact Option.some.inj h1
              have hmk := RW14.out.la _ (List.mem_of_getElem? hy)
              obtain ⟨qb, qo, qc, hv, hbl, hcl⟩ := LS14.out.at (by omega)
              obtain ⟨rfl, _, rfl⟩ := Value.slice.inj hv
              have k0 : wr.cell? ⟨qb, qo + j, none⟩ = some lv := (hbb.out.cell hbl).trans (hcl j _ (by rw [List.getElem?_map, hy]; rfl))
              obtain ⟨m1, m2, m3, rfl⟩ := hmk.slice
              have HMK := Bx.mk hmk; have HLM := Bx.mk hlm
              clear hy hmk hlm hv hcl
              go_upto_region 28 with fail
              clear k0
              have FL7 := FL6.out.bel hbb.out
              have d0 : Below wr.heap.size wr wr.drew := ⟨rfl, rfl, rfl, Nat.le_refl _, fun _ _ => rfl⟩
              have YB7 := (hbb.out.block _ (ltOf YB14.out)).trans YB14.out
              refine reg28_any wr K1.fb yb K1.lf tn j lm q4 (some ⟨qb, qo, none⟩) (.slice m1 m2 m3) ji j0 ⟨fun W hW => mask_any W _ 6561 (by omega) _ _ (HMK.out.below (bel hbb.out (bel d0 hW)))⟩ (by rw [cOf FL7.fb]; rfl) (by rw [cOf YB7]; rfl) (by rw [cOf FL7.lf, nU_get (by rw [BO.out.fll]; exact hlt), HLM.out]) _ _ _ _ _ _ _ _ _ _ _ _ _ _ _ _ _ _ _ _ _ _ _ _ _ _ _ _ _ _ _ _ _ _ _ _ _ _ _ _ _ _ _ _ _ _ _ _ _ _ _ _ _ _ _ _ _ _ _ _ _ _ _ _ _ _ _ _ _ _ _ _ _ _ _ _ _ _ _ _ _ _ _ _ _ _ _ _ _ _ _ _ _ _ _ _ _ _ _ _ _ _ _ _ _ _ _ _ _ _ _ _ _ _ _ _ _ _ _ _ _ _ _ _ _ _ _ _ _ _ _ _ _ _ _ _ _ _ _ _ _ _ _ _ _ _ _ _ _ _ _ _ _ _ _ _ _ _ _ _ _ _ _ _ _ _ _ _ _ _ _ _ _ _ _ _ _ _ _ _ _ _ _ _ _ _ _ _ _ _ _ _ _ _ _ _ _ _ _ _ _ _ _ _ _ _ _ _ _ _ _ _ _ _ _ _ _ _ _ _ _ _ _ _ _ _ _ _ _ _ _ _ _ _ _ _ _ _ _ _ _ _ _ _ _ _ _ _ _ _ _ _ _ _ _ _ _ _ _ _ _ _ _ _ _ _ _ _ _ _ (fun _ _ _ _ h => h) (fun w15 vv219 vv220 vv221 vv222 vv223 vv224 vv225 vv226 vv227 vv228 vv229 vv230 vv231 vv232 vv233 vv234 vv235 vv236 vv237 vv238 b15 => ?_)
              have B15 := Bx.mk (bel hbb.out b15)
              clear FL7 d0 YB7 b15 HMK HLM
              go_wp2_with fail
              go_roundw
              case rel => exact ⟨j + 1, by go_num, by omega, B15⟩
              case measure => simp [intOf]; omega
            · have jnl : ¬ ((j : Int) < (tn : Int)) := by omega
              have FL8 := Bx.mk (FL6.out.bel hbb.out); have MS16 := Bx.mk (MS14.out.below hbb.out); have RW16 := Bx.mk (RW14.out.below hbb.out); have RS16 := Bx.mk (RS14.out.below hbb.out); have YB16 := Bx.mk ((hbb.out.block _ (ltOf YB14.out)).trans YB14.out)
              clear FL6 MS14 RW14 RS14 LS14 YB14 hbb hlt hj
              obtain ⟨w16, rfl⟩ : ∃ w16 : World, w16 = wr := ⟨_, rfl⟩
              have y1 := cOf YB16.out 1
              simp only [List.getElem?_toArray, List.getElem?_cons_zero, List.getElem?_cons_succ] at y1
              go_wp2_with fail
              clear y1 jnl
              go_loopw [244] (fun q wr => ∃ j : Nat, q = .int .i64 (j : Int) ∧ j ≤ tn ∧ Bx (Below w16.heap.size w16 wr)) (fun q _ => tn - (intOf q).toNat)
              case atStart => exact ⟨0, rfl, by omega, ⟨Below.refl _ _⟩⟩
              case round =>
                obtain ⟨j, rfl, hj, hbb⟩ := hrel
                by_cases hlt : j < tn
                · have ji : (j : Int) < (tn : Int) := by omega
                  have j0 : (0 : Int) ≤ (j : Int) := by omega
                  obtain ⟨⟨rv, rg⟩, hy⟩ : ∃ y, XR[j]? = some y := ⟨_, List.getElem?_eq_getElem (by rw [HL1.out]; exact hlt)⟩
                  have hrg : G1.regs[j]? = some rg := by rw [← HXR.out, List.getElem?_map, hy]; rfl
                  have hr8 := R8.out rg (List.mem_of_getElem? hrg)
                  have hfr := BO.out.regs j rg hrg
                  have hrm := RW16.out.ra _ (List.mem_of_getElem? hy)
                  obtain ⟨qb, qo, qc, hv, hbl, hcl⟩ := RS16.out.at (by omega)
                  obtain ⟨rfl, _, rfl⟩ := Value.slice.inj hv
                  have k0 : wr.cell? ⟨qb, qo + j, none⟩ = some rv := (hbb.out.cell hbl).trans (hcl j _ (by rw [List.getElem?_map, hy]; rfl))
                  obtain ⟨m1, m3, hRe⟩ := hrm.slice
                  rw [hr8] at hRe
                  subst hRe
                  have HRM := Bx.mk (hrm.below hbb.out); have HFR := Bx.mk hfr; have HR8 := Bx.mk hr8
                  clear hy hrm hrg hfr hr8 hv hcl
                  obtain ⟨w17, hw17⟩ : ∃ w17 : World, w17 = wr := ⟨_, rfl⟩
                  have HB17 : Bx (Below w16.heap.size w16 w17) := ⟨by rw [hw17]; exact hbb.out⟩
                  rw [← hw17] at HRM
                  subst hw17
                  go_wp2_with fail
                  clear k0
                  go_loopw [251] (fun q wx => ∃ r : Nat, q = .int .i64 (r : Int) ∧ r ≤ 8 ∧ Bx (Below w17.heap.size w17 wx)) (fun q _ => 8 - (intOf q).toNat)
                  case atStart => exact ⟨0, rfl, by omega, ⟨Below.refl _ _⟩⟩
                  case round =>
                    obtain ⟨r, rfl, hr, hbr⟩ := hrel
                    by_cases hrl : r < 8
                    · have ri : (r : Int) < 8 := by omega
                      have r0 : (0 : Int) ≤ (r : Int) := by omega
                      obtain ⟨d, hd⟩ : ∃ d, rg[r]? = some d := ⟨_, List.getElem?_eq_getElem (by rw [HR8.out]; exact hrl)⟩
                      obtain ⟨bb, off, cap, sv, hv, hl, hm, e0, e1, e2⟩ := (HRM.out.below hbr.out).at hd
                      rw [HR8.out] at hv
                      obtain ⟨rfl, rfl⟩ : m1 = some ⟨bb, off, none⟩ ∧ m3 = cap := by
                        obtain ⟨a, _, b⟩ := Value.slice.inj hv
                        exact ⟨a, b⟩
                      obtain ⟨sp, sn, sc, rfl⟩ := hm.slice
                      have bq := bel HB17.out hbr.out
                      have FL9 := FL8.out.bel bq
                      have hvm : (valsM rg)[r]? = some (d.k, d.v) := by unfold valsM; rw [List.getElem?_map, hd]; rfl
                      have RR9 := rng_rg FL9 (fun x hx => by
                        obtain ⟨i, hi⟩ := List.mem_iff_getElem?.1 hx
                        have hi2 := (List.getElem?_eq_some_iff.1 hi).1
                        rw [BO.out.frl] at hi2
                        obtain ⟨g, hg⟩ : ∃ g, G1.regs[i]? = some g := ⟨_, List.getElem?_eq_getElem (by rw [BO.out.rl]; exact hi2)⟩
                        have h1 := BO.out.regs i g hg
                        rw [hi] at h1
                        have h2 := Option.some.inj h1
                        rw [h2]; unfold valsM; rw [List.length_map]
                        exact R8.out g (List.mem_of_getElem? hg)) HFR.out
                      have g0 : wr.cell? ⟨K1.rg, j * 16 + r * 2, none⟩ = some (.bool d.k) := RR9 (r * 2) _ (nV_get hvm 0 (by decide))
                      have g1 : wr.cell? ⟨K1.rg, j * 16 + r * 2 + 1, none⟩ = some (.int .u64 (d.v : Int)) := by rw [Nat.add_assoc]; exact RR9 (r * 2 + 1) _ (nV_get hvm 1 (by decide))
                      have f7 : wr.cell? ⟨K1.fb, 7, none⟩ = some (.slice (some ⟨K1.rg, 0, none⟩) tn tn) := by rw [cOf FL9.fb]; rfl
                      have AL := Bx.mk (aset wr (.cells #[.bool d.k, .int .u64 (d.v : Int), .slice sp sn sc] 70))
                      have TB := Bx.mk (heap_alloc_new wr (.cells #[.bool d.k, .int .u64 (d.v : Int), .slice sp sn sc] 70))
                      have g0 := Bx.mk (cBel g0 AL.out); have g1 := Bx.mk (cBel g1 AL.out); have f7 := Bx.mk (cBel f7 AL.out)
                      clear hv hm hd hvm RR9 FL9 bq
                      have HAL := Bx.mk (bel hbr.out AL.out)
                      go_upto_region 37 with fail
                      clear e0 e1 e2
                      generalize wr.alloc (.cells #[.bool d.k, .int .u64 (d.v : Int), .slice sp sn sc] 70) = w18 at *
                      generalize wr.heap.size = tb at *
                      have e0 := cOf TB.out 0; have e1 := cOf TB.out 1
                      simp only [List.getElem?_toArray, List.getElem?_cons_zero, List.getElem?_cons_succ] at e0 e1
                      have g0 := g0.out; have g1 := g1.out; have f7 := f7.out
                      go_quiet (fail)
                      go_wp2_with fail
                      go_roundw
                      case rel => exact ⟨r + 1, by go_num, by omega, ⟨HAL.out.trans (belN _ _ _)⟩⟩
                      case measure => simp [intOf]; omega
                    · have rnl : ¬ ((r : Int) < 8) := by omega
                      go_wp2_with fail
                      go_roundw
                      case rel => exact ⟨j + 1, by go_num, by omega, ⟨HB17.out.trans (hbr.out.mono HB17.out.size)⟩⟩
                      case measure => simp [intOf]; omega
                · have jnl : ¬ ((j : Int) < (tn : Int)) := by omega
                  go_wp2_with fail
                  go_ret
                  exact ⟨rfl, bel MS16.out.bel hbb.out⟩
end Go.Proofs.Ytccjekgbhablpaa
