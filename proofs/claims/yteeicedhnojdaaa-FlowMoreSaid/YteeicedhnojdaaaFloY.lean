/- FlowMore: the walk. -/
import Derived.Test.YteeicedhnojdaaaFloX
namespace Go.Proofs.Yteeicedhnojdaaa
set_option maxRecDepth 100000
open Go.RowKit

theorem atCellsF {W : World} {b : Nat} {lv tv av : Value} {u : TestM} (c0 : W.cell? ⟨b, 0, none⟩ = some lv) (c1 : W.cell? ⟨b, 1, none⟩ = some tv) (c2 : W.cell? ⟨b, 2, none⟩ = some av) (h : TestIn W lv tv av u) : TestAt W b u := ⟨lv, tv, av, c0, c1, c2, h⟩
/-- the test variable, and the test that is in it -/
structure MoreSt (w W : World) (l0 t0 a0 : Value) (u : TestM) : Prop where
  c0 : W.cell? ⟨w.heap.size, 0, none⟩ = some l0
  c1 : W.cell? ⟨w.heap.size, 1, none⟩ = some t0
  c2 : W.cell? ⟨w.heap.size, 2, none⟩ = some a0
  row : TestIn W l0 t0 a0 u
  bel : Below w.heap.size w W
theorem MoreSt.below {w W W' : World} {l0 t0 a0 : Value} {u : TestM} (h : MoreSt w W l0 t0 a0 u) (hb : Below W.heap.size W W') : MoreSt w W' l0 t0 a0 u :=
  ⟨cBel h.c0 hb, cBel h.c1 hb, cBel h.c2 hb, h.row.below hb, _root_.Go.Proofs.Yteeicedhnojdaaa.bel h.bel hb⟩
theorem MoreSt.at {w W : World} {l0 t0 a0 : Value} {u : TestM} (h : MoreSt w W l0 t0 a0 u) : TestAt W w.heap.size u := atCellsF h.c0 h.c1 h.c2 h.row

set_option maxHeartbeats 25600000 in
theorem flowMore_walk (lv tv av rv wv mv : Value) (t : TestM) (R : List (Bool × Nat)) (S : List Bool) (M : List Nat) (hl : t.locs.length ≤ maxLen) (hn : ∀ l ∈ t.locs, l.1.length ≤ maxLen) (hl2 : t.thr.length ≤ maxLen) (hl3 : ∀ l ∈ t.thr, l.length ≤ maxLen) (hl4 : t.asks.length ≤ maxLen)
    (hnum : ∀ l ∈ t.thr, ∀ x ∈ l, (0 ≤ x.an ∧ x.an < 18446744073709551616) ∧ (0 ≤ x.bn ∧ x.bn < 18446744073709551616)) (hRl : R.length ≤ maxLen) (hSl : S.length ≤ maxLen) (hMl : M.length ≤ maxLen) (hRv : ∀ x ∈ R, x.2 < 18446744073709551616) (hMv : ∀ x ∈ M, x < 18446744073709551616)
    (w : World) (h : CapIn w lv tv av t) (hR : SlIn w rv 2 R.length (nV R)) (hS : SlIn w wv 1 S.length (S.map Value.bool)) (hM : SlIn w mv 1 M.length (nU M)) :
    Calls Try.prog 5 #[.agg #[lv, tv, av], rv, wv, mv] w fun e w' => e = .returned (.bool true) ∧ Below w.heap.size w w' := by
  obtain ⟨lp0, lc0, tp0, tc0, ap0, ac0, rfl, rfl, rfl⟩ := testValsF h.test
  obtain ⟨rp, rc, rfl⟩ := hR.slice
  obtain ⟨wp, wc, rfl⟩ := hS.slice
  obtain ⟨mp, mc, rfl⟩ := hM.slice
  have cf := fun (o : Obj) => few_any _ _ _ t hl hn hl2 hl3 hl4 (w.alloc o) ⟨h.locs.below (aset w o), h.lc, by obtain ⟨vs, h1, h2, h3⟩ := h.thr; exact ⟨vs, h1, h2.below (aset w o), fun i v hv => ⟨(h3 i v hv).1, by obtain ⟨l, x, y⟩ := (h3 i v hv).2; exact ⟨l, x, y.below (aset w o)⟩⟩⟩, h.tc, h.asks.below (aset w o), h.ac⟩
  have hok := few_okF t
  have hun := few_num hnum
  obtain ⟨u, hu⟩ : ∃ u, u = fewM t := ⟨_, rfl⟩
  rw [← hu] at cf hok hun
  have ca := fun W => awake13_any W
  have cc := fun (b : Nat) W (hW : TestAt W b u) => check_test b u hok.1 hok.2 W hW
  have CF := Bx.mk cf; have CA := Bx.mk ca; have CC := Bx.mk cc; have HOK := Bx.mk hok; have HUN := Bx.mk hun
  have HR := Bx.mk hR; have HS := Bx.mk hS; have HM := Bx.mk hM; have HRV := Bx.mk hRv; have HMV := Bx.mk hMv
  have HRL := Bx.mk hRl; have HSL := Bx.mk hSl
  unfold maxLen at hRl hSl hMl
  clear cf ca cc hok h hl hn hl2 hl3 hl4 hu hnum hun hR hS hM hRv hMv
  obtain ⟨Q, hQ⟩ : ∃ Q, Q = chkTest u := ⟨_, rfl⟩
  rw [← hQ] at CC
  have HQ := Bx.mk hQ
  clear hQ
  generalize t.locs.length = n1 at *
  generalize t.thr.length = n2 at *
  generalize t.asks.length = n3 at *
  go_enter Try.func5, Try.ntmps5
  go_upto_region 2 with (first
    | (go_at_call 7; ((with_reducible refine (CF.out _).mono ?_); rintro e w1 ⟨⟨lv, tv, av, rfl, ht⟩, hb1⟩; obtain ⟨lp, lc, tp, tc, ap, ac, rfl, rfl, rfl⟩ := testValsF ht.cap.test; have X := nBlock hb1; have x0 := cOf X 0; have x1 := cOf X 1; have x2 := cOf X 2; have xf0 := tOf X 0; have xf1 := tOf X 1; have xf2 := tOf X 2; simp at x0 x1 x2; have HX := Bx.mk X; clear X; have HT := Bx.mk ht; have HB := Bx.mk hb1; clear ht hb1)))
  clear x0 x1 x2 xf0 xf1 xf2
  have fin : ∃ W, W = ((w1.setCell ⟨w.heap.size, 0, none⟩ (.slice lp u.locs.length lc)).setCell ⟨w.heap.size, 1, none⟩ (.slice tp u.thr.length tc)).setCell ⟨w.heap.size, 2, none⟩ (.slice ap u.asks.length ac) := ⟨_, rfl⟩
  obtain ⟨W, hW⟩ := fin
  have hblk : W.heap[w.heap.size]? = some (.cells #[.slice lp u.locs.length lc, .slice tp u.thr.length tc, .slice ap u.asks.length ac] 26) := by
    rw [hW]; exact heapSet (heapSet (heapSet HX.out 0 _) 1 _) 2 _
  have hkeep : ∀ b, w.heap.size + 1 ≤ b → W.heap[b]? = w1.heap[b]? := fun b hb => by
    rw [hW, Below.heap_setCell _ _ _ _ (by show b ≠ w.heap.size; omega), Below.heap_setCell _ _ _ _ (by show b ≠ w.heap.size; omega), Below.heap_setCell _ _ _ _ (by show b ≠ w.heap.size; omega)]
  have HB2 : Below w.heap.size w W := by rw [hW]; exact (((bel (aset _ _) HB.out).setCell (p := ⟨w.heap.size, 0, none⟩) (Nat.le_refl _) _).setCell (p := ⟨w.heap.size, 1, none⟩) (Nat.le_refl _) _).setCell (p := ⟨w.heap.size, 2, none⟩) (Nat.le_refl _) _
  have MS : Bx (MoreSt w W (.slice lp u.locs.length lc) (.slice tp u.thr.length tc) (.slice ap u.asks.length ac) u) := ⟨⟨by rw [cOf hblk]; rfl, by rw [cOf hblk]; rfl, by rw [cOf hblk]; rfl, (((HT.out.mono (by simp : w.heap.size + 1 ≤ _)).keep fun b hb _ => hkeep b hb).cap.test), HB2⟩⟩
  rw [← hW]
  clear hW hkeep hblk HT HB HX CF HB2
  by_cases h0 : ¬ Q = 0
  · have hq1 : ((Q : Int) == 0) = false := by rw [beq_eq_false_iff_ne]; omega
    have hq2 : ((Q : Int) != 0) = true := by rw [bne, hq1]; rfl
    clear h0
    go_wp2_with (first
      | (go_at_call 8; ((with_reducible refine (CA.out _).mono ?_); rintro e w2 ⟨rfl, hbq⟩; have MS := Bx.mk (MS.out.below hbq); clear hbq))
      | (go_at_call 9; ((with_reducible refine (CC.out _ _ MS.out.at).mono ?_); rintro e w3 ⟨rfl, hbq⟩; have MS := Bx.mk (MS.out.below hbq); clear hbq)))
    go_ret
    exact ⟨rfl, MS.out.bel⟩
  obtain rfl : Q = 0 := by omega
  clear h0
  have hg := HQ.out.symm
  obtain ⟨hl4, hl8⟩ := good_len hg
  have hnn : memT u.thr ≤ 32 := by have := memT_le 8 u.thr hl8; omega
  obtain ⟨n, hnd⟩ : ∃ n, n = memT u.thr := ⟨_, rfl⟩
  rw [← hnd] at hnn
  have HND := Bx.mk hnd
  have HG := Bx.mk hg
  clear hl8 hg hnd
  go_upto_region 4 with (first
    | (go_at_call 8; ((with_reducible refine (CA.out _).mono ?_); rintro e w2 ⟨rfl, hbq⟩; have MS := Bx.mk (MS.out.below hbq); clear hbq))
    | (go_at_call 9; ((with_reducible refine (CC.out _ _ MS.out.at).mono ?_); rintro e w3 ⟨rfl, hbq⟩; have MS3 := Bx.mk (MS.out.below hbq); clear hbq)))
  obtain ⟨c0, c1, c2, _, _⟩ := MS3.out
  have cg := given_any _ _ _ _ _ u HOK.out.1 n HND.out.symm (by omega) R S HRL.out HSL.out w3 MS3.out.row (HR.out.below MS3.out.bel) (HS.out.below MS3.out.bel)
  have CG := Bx.mk cg
  clear cg
  go_upto_region 5 with (go_at_call 13; ((with_reducible refine (CG.out).mono ?_); rintro e w4 ⟨z, hz, rfl, hgs⟩; have HZ := Bx.mk hz; have HGS := Bx.mk hgs; clear hz hgs))
  clear c0 c1 c2 CG
  obtain ⟨A, hA⟩ : ∃ A, A = pA n R n := ⟨_, rfl⟩
  obtain ⟨B, hB⟩ : ∃ B, B = pB n S n := ⟨_, rfl⟩
  rw [← hA, ← hB] at HGS
  have hAl : A.length = n := by rw [hA]; exact pA_len n R n
  have hBl : B.length = n := by rw [hB]; exact pB_len n S n
  have hAv : ∀ x ∈ A, x.2 < 18446744073709551616 := by rw [hA]; exact pA_ok HRV.out n n
  have MS4 := Bx.mk (MS3.out.below (bel HZ.out HGS.out.bel))
  have ca : w4.heap[z.heap.size]? = some (.cells (nV A ++ []).toArray 74 (0, 0)) := by rw [List.append_nil]; exact HGS.out.a
  have cb : w4.heap[z.heap.size + 1]? = some (.cells (B.map Value.bool ++ []).toArray 4 (0, 0)) := by rw [List.append_nil]; exact HGS.out.b
  have c1 : CtxOk ⟨A, B⟩ := ⟨hAv, by show A.length ≤ _; omega, by show B.length ≤ _; omega⟩
  have co := flowOf_any w.heap.size u HOK.out.1 HOK.out.2 HG.out HUN.out ⟨A, B⟩ c1 (.slice (some ⟨z.heap.size, 0, none⟩) n n) (.slice (some ⟨z.heap.size + 1, 0, none⟩) n n) w4 MS4.out.at (by show SlIn _ _ 2 A.length _; rw [hAl]; exact slHeap ca (by rw [nV_len, hAl]) n) (by show SlIn _ _ 1 B.length _; rw [hBl]; exact slHeap cb (by simp [hBl]) n)
  obtain ⟨F1, hF1⟩ : ∃ F1, F1 = flowM ⟨A, B⟩ u.thr := ⟨_, rfl⟩
  rw [← HND.out, ← hF1] at co
  have CO := Bx.mk co; have HAV := Bx.mk hAv; have HF1 := Bx.mk hF1; have HA := Bx.mk HGS.out.a; have CBB := Bx.mk cb
  have hz4 := ltOf HGS.out.c
  clear co ca cb hF1 hAv hA hB c1 HGS HZ MS3
  go_upto_region 6 with (go_at_call 14; ((with_reducible refine (CO.out).mono ?_); rintro e w5 ⟨K1, rfl, f1, _, b5⟩; have FL1 := Bx.mk f1; have B5 := Bx.mk b5; clear f1 b5))
  have MS5 := Bx.mk (MS4.out.below B5.out)
  have HA5 : Bx (w5.heap[z.heap.size]? = some (.cells (nV A).toArray 74 (0, 0))) := ⟨(B5.out.block _ (ltOf HA.out)).trans HA.out⟩
  have CB5 : Bx (w5.heap[z.heap.size + 1]? = some (.cells (B.map Value.bool ++ []).toArray 4 (0, 0))) := ⟨(B5.out.block _ (ltOf CBB.out)).trans CBB.out⟩
  clear CO HA CBB MS4 B5
  go_upto_region 7 with (at_builtin; refine wpList_append_copy w5 rfl (.tmp 37) (.tmp 38) (by rfl) (by rfl) z.heap.size n (by omega) A (by rfl) hAl HA5.out ?_; intro g cap w6 hrow6 hb6; have ROW6 := Bx.mk hrow6; have B6 := Bx.mk hb6; clear hrow6 hb6)
  obtain ⟨T, hT, hgB⟩ := rowHeap ROW6.out
  have L0 : Bx (w6.heap[g]? = some (.cells (nV (pL n A M 0) ++ T).toArray 74 (0, 0))) := ⟨by rw [pL_zero n A M hAl]; exact hT⟩
  have hgB' : w5.heap.size ≤ g := hgB
  clear hT hgB ROW6 HA5
  have pdec : Bx (∀ i, i < n → A[i]? = some (A.getD i (false, 0))) := ⟨fun i hi => by rw [List.getD_eq_getElem?_getD, List.getElem?_eq_getElem (by omega)]; rfl⟩
  obtain ⟨wo, hwo⟩ : ∃ wo, wo = w6 := ⟨_, rfl⟩
  go_wp2_with fail
  go_loopw [42] (fun q wx => ∃ j : Nat, q = .int .i64 (j : Int) ∧ j ≤ n ∧ Bx (wx.heap[g]? = some (.cells (nV (pL n A M j) ++ T).toArray 74 (0, 0))) ∧ Bx (Below w5.heap.size w5 wx)) (fun q _ => n - (intOf q).toNat)
  case atStart => exact ⟨0, rfl, by omega, L0, B6⟩
  case round =>
    obtain ⟨j, rfl, hj, hL, hb⟩ := hrel
    by_cases hlt : j < n
    · have hji : (j : Int) < (n : Int) := by omega
      have hj0 : (0 : Int) ≤ (j : Int) := by omega
      have hp := pL_at n A M j hlt
      have hset := pL_set n A M j
      have hstay := pL_stay n A M j hlt
      obtain ⟨⟨pk, pv⟩, hpp⟩ : ∃ p, p = A.getD j (false, 0) := ⟨_, rfl⟩
      rw [← hpp] at hp hstay
      obtain ⟨k0, k1⟩ := nVT_get hL.out hp
      have kf0 := tOf hL.out (j * 2); have kf1 := tOf hL.out (j * 2 + 1)
      have hlen : j < (pL n A M j).length := by rw [pL_len]; exact hlt
      have HP := Bx.mk hp; have HSET := Bx.mk hset; have HPP := Bx.mk hpp; have HLEN := Bx.mk hlen
      cases pk
      · have hmv : mv A M j = (true, if j < M.length then M.getD j 0 else pv) := by unfold mv; rw [← hpp]; rfl
        have HMV2 := Bx.mk hmv
        clear hp hset hstay hpp hlen hmv
        by_cases hm : j < M.length
        · obtain ⟨mb, mo, mc', hmv', hml, hmcl⟩ := HM.out.at (by omega)
          obtain ⟨rfl, _, rfl⟩ := Value.slice.inj hmv'
          have hbw := bel MS5.out.bel hb.out
          have m0 : wr.cell? ⟨mb, mo + j, none⟩ = some (.int .u64 ((M.getD j 0 : Nat) : Int)) := (hbw.cell hml).trans (hmcl j _ (by have := nU_get hm; simpa using this))
          have hmi : (j : Int) < (M.length : Int) := by omega
          have hmg : mb ≠ g := by have := MS5.out.bel.size; omega
          obtain ⟨x, hx⟩ : ∃ x, x = M.getD j 0 := ⟨_, rfl⟩
          rw [← hx] at m0
          have HX := Bx.mk hx
          clear hmv' hmcl hbw hx
          go_wp2_with fail
          go_roundw
          case rel => exact ⟨j + 1, by go_num, by omega, ⟨by rw [heapSet' (heapSet' hL.out _ _) _ _, nVT_set2 _ T j (true, x) HLEN.out, ← HSET.out, HMV2.out, if_pos hm, HX.out]⟩, ⟨belSet (belSet hb.out _ _ _ hgB') _ _ _ hgB'⟩⟩
          case measure => simp [intOf] <;> omega
        · have hmi : ¬ ((j : Int) < (M.length : Int)) := by omega
          go_wp2_with fail
          go_roundw
          case rel => exact ⟨j + 1, by go_num, by omega, ⟨by rw [heapSet' hL.out _ _, nVT_set1 _ T j true false pv HP.out, ← HSET.out, HMV2.out, if_neg hm]⟩, ⟨belSet hb.out _ _ _ hgB'⟩⟩
          case measure => simp [intOf] <;> omega
      · have hs := hstay rfl
        have HST := Bx.mk hs
        clear hp hset hstay hpp hlen hs
        go_wp2_with fail
        go_roundw
        case rel => exact ⟨j + 1, by go_num, by omega, ⟨by rw [HST.out]; exact hL.out⟩, hb⟩
        case measure => simp [intOf] <;> omega
    · have hjn : j = n := by omega
      rw [hjn] at hL
      have hnl : ¬ ((j : Int) < (n : Int)) := by omega
      obtain ⟨L, hLd⟩ : ∃ L, L = pL n A M n := ⟨_, rfl⟩
      have hLl : L.length = n := by rw [hLd]; exact pL_len n A M n
      have hLv : ∀ x ∈ L, x.2 < 18446744073709551616 := by rw [hLd]; exact pL_ok HAV.out HMV.out n n
      have ce : CtxLe ⟨A, B⟩ ⟨L, B⟩ := by rw [hLd]; exact more_le n A B M hAl
      have cf : ∀ k, k < n → (readM ⟨L, B⟩ k).1 = true := by rw [hLd]; exact more_all n A B M
      rw [← hLd] at hL
      have MS8 := Bx.mk (MS5.out.below hb.out)
      have cb8 := (hb.out.block _ (ltOf CB5.out)).trans CB5.out
      have c2 : CtxOk ⟨L, B⟩ := ⟨hLv, by show L.length ≤ _; omega, by show B.length ≤ _; omega⟩
      have co := flowOf_any w.heap.size u HOK.out.1 HOK.out.2 HG.out HUN.out ⟨L, B⟩ c2 (.slice (some ⟨g, 0, none⟩) n cap) (.slice (some ⟨z.heap.size + 1, 0, none⟩) n n) wr MS8.out.at (by show SlIn _ _ 2 L.length _; rw [hLl]; exact slHeap hL.out (by rw [nV_len, hLl]) cap) (by show SlIn _ _ 1 B.length _; rw [hBl]; exact slHeap cb8 (by simp [hBl]) n)
      obtain ⟨F2, hF2⟩ : ∃ F2, F2 = flowM ⟨L, B⟩ u.thr := ⟨_, rfl⟩
      have hle := flow_le ce u.thr (by rw [← HND.out]; exact cf)
      rw [← HF1.out, ← hF2, ← HND.out] at hle
      rw [← HND.out, ← hF2] at co
      have CO := Bx.mk co; have LE := Bx.mk hle
      have FL1R := Bx.mk (FL1.out.bel hb.out)
      clear co hle hLd hLl hLv ce cf cb8 c2 hF2 hjn hL L0 HMV HAV FL1 CB5 MS5 pdec
      obtain ⟨wz, rfl⟩ : ∃ wz : World, wz = wr := ⟨_, rfl⟩
      go_upto_region 16 with (go_at_call 14; ((with_reducible refine (CO.out).mono ?_); rintro e w7 ⟨K2, rfl, f2, _, b7⟩; have FL2 := Bx.mk f2; have FL1S := Bx.mk (FL1R.out.bel b7); have MS9 := Bx.mk (MS8.out.below b7); clear f2 b7))
      have q0 : w7.cell? ⟨K1.fb, 0, none⟩ = some (.slice (some ⟨K1.st, 0, none⟩) n n) := by rw [cOf FL1S.out.fb]; rfl
      have q1 : w7.cell? ⟨K2.fb, 0, none⟩ = some (.slice (some ⟨K2.st, 0, none⟩) n n) := by rw [cOf FL2.out.fb]; rfl
      have q8 : w7.cell? ⟨K2.fb, 8, none⟩ = some (.bool true) := by rw [cOf FL2.out.fb, ← LE.out.whole]; rfl
      clear CO FL1R MS8
      go_wp2_with fail
      clear q0 q1 q8
      go_loopw [106] (fun q wx => ∃ i : Nat, q = .int .i64 (i : Int) ∧ i ≤ n ∧ Bx (Below w7.heap.size w7 wx)) (fun q _ => n - (intOf q).toNat)
      case atStart => exact ⟨0, rfl, by omega, ⟨Below.refl _ _⟩⟩
      case round =>
        obtain ⟨i, rfl, hi, hbb⟩ := hrel
        by_cases hil : i < n
        · have hii : (i : Int) < (n : Int) := by omega
          have hi0 : (0 : Int) ≤ (i : Int) := by omega
          have G1 := FL1S.out.bel hbb.out
          have G2 := FL2.out.bel hbb.out
          obtain ⟨s1, hs1⟩ : ∃ s1, s1 = F1.state.getD i 0 := ⟨_, rfl⟩
          obtain ⟨s2, hs2⟩ : ∃ s2, s2 = F2.state.getD i 0 := ⟨_, rfl⟩
          obtain ⟨⟨pk, pv⟩, hp1⟩ : ∃ p, p = F1.wr.getD i (false, 0) := ⟨_, rfl⟩
          obtain ⟨⟨qk, qv⟩, hp2⟩ : ∃ p, p = F2.wr.getD i (false, 0) := ⟨_, rfl⟩
          have y1 : wr.cell? ⟨K1.st, i, none⟩ = some (.int .i64 (s1 : Int)) := by rw [hs1, cOf G1.st, nI_get (by rw [LE.out.len]; exact hil)]
          have y2 : wr.cell? ⟨K2.st, i, none⟩ = some (.int .i64 (s2 : Int)) := by rw [hs2, cOf G2.st, nI_get (by rw [LE.out.glen]; exact hil)]
          have v1 : F1.wr[i]? = some (pk, pv) := by rw [hp1, List.getD_eq_getElem?_getD, List.getElem?_eq_getElem (by rw [LE.out.len2]; exact hil)]; rfl
          have v2 : F2.wr[i]? = some (qk, qv) := by rw [hp2, List.getD_eq_getElem?_getD, List.getElem?_eq_getElem (by rw [LE.out.glen2]; exact hil)]; rfl
          have z1 : wr.cell? ⟨K1.wr, i * 2, none⟩ = some (.bool pk) := by rw [cOf G1.wr]; have := nV_get v1 0 (by decide); simpa [vC] using this
          have z2 : wr.cell? ⟨K1.wr, i * 2 + 1, none⟩ = some (.int .u64 (pv : Int)) := by rw [cOf G1.wr]; have := nV_get v1 1 (by decide); simpa [vC] using this
          have z3 : wr.cell? ⟨K2.wr, i * 2, none⟩ = some (.bool qk) := by rw [cOf G2.wr]; have := nV_get v2 0 (by decide); simpa [vC] using this
          have z4 : wr.cell? ⟨K2.wr, i * 2 + 1, none⟩ = some (.int .u64 (qv : Int)) := by rw [cOf G2.wr]; have := nV_get v2 1 (by decide); simpa [vC] using this
          have x0 : wr.cell? ⟨K1.fb, 0, none⟩ = some (.slice (some ⟨K1.st, 0, none⟩) n n) := by rw [cOf G1.fb]; rfl
          have x1 : wr.cell? ⟨K1.fb, 1, none⟩ = some (.slice (some ⟨K1.wr, 0, none⟩) n n) := by rw [cOf G1.fb]; rfl
          have x2 : wr.cell? ⟨K2.fb, 0, none⟩ = some (.slice (some ⟨K2.st, 0, none⟩) n n) := by rw [cOf G2.fb]; rfl
          have x3 : wr.cell? ⟨K2.fb, 1, none⟩ = some (.slice (some ⟨K2.wr, 0, none⟩) n n) := by rw [cOf G2.fb]; rfl
          have hst := LE.out.st i hil
          have hwr := LE.out.wr i hil
          have hgs := LE.out.gst i hil
          have hst' : s1 ≠ 0 → s1 = s2 := by rw [hs1, hs2]; exact hst
          have hwr' : pk = true → ((pk, pv) : Bool × Nat) = (qk, qv) := fun e => by
            have e1 : (F1.wr.getD i (false, 0)).1 = true := by rw [← hp1]; exact e
            rw [hp1, hp2]; exact hwr e1
          have hgs' : s2 ≠ 0 := by rw [hs2]; exact hgs
          clear hst hwr hgs v1 v2 hp1 hp2 hs1 hs2 G1 G2
          have g0 : ((s2 : Int) == 0) = false := by rw [beq_eq_false_iff_ne]; omega
          have g1 : ((s2 : Int) != 0) = true := by rw [bne, g0]; rfl
          by_cases h1 : s1 = 0
          · subst h1
            cases pk
            · clear hst' hwr' hgs'
              go_wp2_with fail
              go_quiet (fail)
              go_wp2_with fail
              go_roundw
              case rel => exact ⟨i + 1, by go_num, by omega, ⟨hbb.out.trans (belN _ _ _)⟩⟩
              case measure => simp [intOf] <;> omega
            · obtain ⟨e1, e2⟩ := Prod.mk.inj (hwr' rfl)
              subst e1 e2
              clear hst' hwr' hgs'
              go_wp2_with fail
              go_quiet (fail)
              go_wp2_with fail
              go_roundw
              case rel => exact ⟨i + 1, by go_num, by omega, ⟨hbb.out.trans (belN _ _ _)⟩⟩
              case measure => simp [intOf] <;> omega
          · have e3 := hst' h1
            subst e3
            cases pk
            · clear hst' hwr' hgs' h1
              go_wp2_with fail
              go_quiet (fail)
              go_wp2_with fail
              go_roundw
              case rel => exact ⟨i + 1, by go_num, by omega, ⟨hbb.out.trans (belN _ _ _)⟩⟩
              case measure => simp [intOf] <;> omega
            · obtain ⟨e1, e2⟩ := Prod.mk.inj (hwr' rfl)
              subst e1 e2
              clear hst' hwr' hgs' h1
              go_wp2_with fail
              go_quiet (fail)
              go_wp2_with fail
              go_roundw
              case rel => exact ⟨i + 1, by go_num, by omega, ⟨hbb.out.trans (belN _ _ _)⟩⟩
              case measure => simp [intOf] <;> omega
        · have hnl2 : ¬ ((i : Int) < (n : Int)) := by omega
          go_wp2_with (go_at_call 8; ((with_reducible refine (CA.out _).mono ?_); rintro e w9 ⟨rfl, b9⟩; have B9 := Bx.mk b9; clear b9))
          go_ret
          exact ⟨rfl, bel (bel MS9.out.bel hbb.out) B9.out⟩
end Go.Proofs.Yteeicedhnojdaaa
