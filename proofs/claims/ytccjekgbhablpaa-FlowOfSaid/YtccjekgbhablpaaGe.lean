/- FloJ, FloK, in one text. -/
import Derived.Test.YtccjekgbhablpaaFloH
namespace Go.Proofs.Ytccjekgbhablpaa
set_option maxRecDepth 100000
open Go.RowKit

def regsJ (j : Nat) : List Cn := (List.range 8).map fun i => if i < j then numC0 0 else ⟨false, 0, 0⟩
theorem regsJ_len (j : Nat) : (regsJ j).length = 8 := by simp [regsJ]
theorem regsJ_set (j : Nat) (h : j < 8) : (regsJ j).set j (numC0 0) = regsJ (j + 1) := by
  match j, h with
  | 0, _ => rfl
  | 1, _ => rfl
  | 2, _ => rfl
  | 3, _ => rfl
  | 4, _ => rfl
  | 5, _ => rfl
  | 6, _ => rfl
  | 7, _ => rfl
theorem regs0_ok : ∀ c ∈ regs0, CnOk c := fun c h => by
  rw [List.eq_of_mem_replicate h]; exact ⟨show (0 : Nat) < 18446744073709551616 by decide, show (0 : Nat) < 18446744073709551616 by decide⟩
theorem memL_take {l : List Ins} {j : Nat} {x : Ins} (h : l[j]? = some x) : memL (l.take (j + 1)) = memL (l.take j) + if isMem x.op then 1 else 0 := by
  have e : l.take (j + 1) = l.take j ++ [x] := by rw [List.take_add_one, h]; rfl
  rw [e]
  unfold memL
  rw [List.filter_append, List.length_append]
  congr 1
  rw [List.filter_cons]
  split <;> simp
theorem memL_lt {l : List Ins} {j : Nat} {x : Ins} (h : l[j]? = some x) (hm : isMem x.op = true) : memL (l.take j) < memL l := by
  have e1 := memL_take h
  rw [hm, if_pos rfl] at e1
  have e2 : memL (l.take (j + 1)) ≤ memL l := by
    unfold memL
    exact ((List.take_sublist (j + 1) l).filter _).length_le
  omega

theorem insAll {W : World} {b : Nat} {x : Ins} (h : W.heap[b]? = some (inO x)) : W.cell? ⟨b, 0, none⟩ = some (.int .i64 x.op) ∧ W.cell? ⟨b, 1, none⟩ = some (.int .i64 x.rd) ∧ W.cell? ⟨b, 2, none⟩ = some (.int .i64 x.loc) ∧ W.cell? ⟨b, 3, none⟩ = some (.bool x.ar) ∧ W.cell? ⟨b, 4, none⟩ = some (.int .u64 x.an) ∧ W.cell? ⟨b, 5, none⟩ = some (.bool x.br) ∧ W.cell? ⟨b, 6, none⟩ = some (.int .u64 x.bn) ∧ W.cell? ⟨b, 7, none⟩ = some (.bool x.acq) ∧ W.cell? ⟨b, 8, none⟩ = some (.bool x.rel) ∧ W.cell? ⟨b, 9, none⟩ = some (.int .i64 x.dep) ∧ W.cell? ⟨b, 10, none⟩ = some (.int .i64 x.pred) ∧ W.cell? ⟨b, 11, none⟩ = some (.int .i64 x.succ) ∧ W.cell? ⟨b, 12, none⟩ = some (.int .i64 x.skip) := by
  obtain ⟨x0, x1, x2, x3, x4, x5, x6, x7, x8, x9, x10, x11, x12⟩ := insC_of h
  exact ⟨x0, x1, x2, x3, x4, x5, x6, x7, x8, x9, x10, x11, x12⟩

set_option maxHeartbeats 12800000 in
theorem walk_any (w0 : World) (K : WkB) (ok : KOk w0.heap.size K) (n m : Nat) (s : WkM) (hs : WkOk n m { s with regs := regs0 }) (hsr : s.regs = regsJ 0) (os : List (Nat × Nat)) (c : CtxM) (hco : CtxOk c) (hm : K.thr < m) (l : List Ins) (v : Value) (hl : l.length ≤ 1000000) (hins : ∀ x ∈ l, InsN x) (k0 : Nat)
    (hops : ∀ (j : Nat) (x : Ins), l[j]? = some x → isMem x.op = true → OpIs os K.thr j (k0 + memL (l.take j))) (hkn : k0 + memL l ≤ n) (hnn : n ≤ 1000000) (w : World) (h0 : Below w0.heap.size w0 w) (hw : WkIn w K n m s) (hc : CtxIn w0 K c) (ho : OpsIn w0 K os) (hv : SlIn w0 v 13 l.length (l.flatMap insC)) :
    Calls Try.prog 24 #[.pointer (some ⟨K.kb, 0, none⟩), v] w fun e w' => e = .returned (.tuple #[]) ∧ WkIn w' K n m (walkM c K.thr l 0 k0 0 { s with regs := regs0 }) ∧ Fp K w w' := by
  obtain ⟨vp, vc, rfl⟩ := hv.slice
  obtain ⟨R, hR⟩ : ∃ R, R = walkM c K.thr l 0 k0 0 { s with regs := regs0 } := ⟨_, rfl⟩
  rw [← hR]
  have HR := Bx.mk hR; have HS := Bx.mk hs; have HV := Bx.mk hv; have HC := Bx.mk hc; have HO := Bx.mk ho; have HCO := Bx.mk hco; have HIN := Bx.mk hins; have HOP := Bx.mk hops; have H0 := Bx.mk h0; have HW := Bx.mk hw; have HSR := Bx.mk hsr
  have hlt := hw.lt
  have hkk := hlt 0 (by decide)
  have HLT := Bx.mk hlt
  have cn : Bx (∀ W, Calls Try.prog 37 #[.int .u64 0] W fun e w' => e = .returned (.agg #[.bool true, .int .u64 0, .int .u64 0]) ∧ Below W.heap.size W w') := ⟨fun W => number_any 0 W⟩
  clear hR hs hv hc ho hco hins hops h0 hw hlt hsr
  go_enter Try.func24, Try.ntmps24
  go_wp2_with fail
  go_loopw [9] (fun q wr => ∃ j : Nat, q = .int .i64 (j : Int) ∧ j ≤ 8 ∧ Bx (WkIn wr K n m { s with regs := regsJ j }) ∧ Bx (Fp K w wr)) (fun q _ => 8 - (intOf q).toNat)
  case atStart => exact ⟨0, rfl, by omega, ⟨by rw [← HSR.out]; exact HW.out⟩, ⟨Fp.ofBel (Below.refl _ _)⟩⟩
  case round =>
    obtain ⟨j, rfl, hj, hwk, hfp⟩ := hrel
    by_cases hlt : j < 8
    · have hri : (j : Int) < 8 := by omega
      have hr0 : (0 : Int) ≤ (j : Int) := by omega
      obtain ⟨c0, hc0⟩ : ∃ c0, (regsJ j)[j]? = some c0 := ⟨_, List.getElem?_eq_getElem (by rw [regsJ_len]; exact hlt)⟩
      have HC0 := Bx.mk hc0
      clear hc0
      go_wp2_with fail
      go_region_held3 (fun _ => True) (trivial)
        (first | (go_at_call 37; ((with_reducible refine (cn.out _).mono ?_); rintro e w5 ⟨rfl, b5⟩; have h5 := hwk.out.drew.bel b5; have q0 := h5.reg HC0.out 0 (by decide); have q1 := h5.reg HC0.out 1 (by decide); have q2 := h5.reg HC0.out 2 (by decide); simp only [cnC, List.getElem?_cons_zero, List.getElem?_cons_succ, Nat.add_zero] at q0 q1 q2; have qf0 := tOf h5.kb (5 + j * 3); have qf1 := tOf h5.kb (5 + j * 3 + 1); have qf2 := tOf h5.kb (5 + j * 3 + 2); have H5 := Bx.mk h5; have B5 := Bx.mk b5; clear h5)))
      go_wp2_with fail
      go_roundw
      case rel => exact ⟨j + 1, by go_num, by omega, ⟨by rw [← regsJ_set j hlt]; exact H5.out.setReg ok j (numC0 0) (by rw [regsJ_len]; exact hlt)⟩, ⟨((((hfp.out.drew).bel B5.out).set 0 (by decide) _ _).set 0 (by decide) _ _).set 0 (by decide) _ _⟩⟩
      case measure => simp [intOf] <;> omega
    · have hj8 : j = 8 := by omega
      have hr8 : regsJ j = regs0 := by rw [hj8]; rfl
      rw [hr8] at hwk
      have hnl : ¬ ((j : Int) < 8) := by omega
      clear hr8 hj8
      obtain ⟨wo, rfl⟩ : ∃ wo : World, wo = wr := ⟨_, rfl⟩
      go_wp2_with fail
      go_loopw [5, 21] (fun q5 q wx => ∃ (j skip k : Nat) (s' : WkM), q = .int .i64 (j : Int) ∧ j ≤ l.length ∧ q5 = .int .i64 (skip : Int) ∧ skip ≤ 1000000 ∧ Bx (k = k0 + memL (l.take j)) ∧ Bx (WkIn wx K n m s') ∧ Bx (WkOk n m s') ∧ Bx (Fp K w wx) ∧ Bx (walkM c K.thr (l.drop j) j k skip s' = R)) (fun _ q _ => l.length - (intOf q).toNat)
      case atStart => exact ⟨0, 0, k0, _, rfl, by omega, rfl, by omega, ⟨by simp [memL]⟩, hwk, HS, hfp, ⟨HR.out.symm⟩⟩
      case round =>
        obtain ⟨j, skip, k, s', rfl, hjl, rfl, hsk, hk, hwk, hok, hfp, hRR⟩ := hrel
        by_cases hlt : j < l.length
        · obtain ⟨x, hx⟩ : ∃ x, l[j]? = some x := ⟨_, List.getElem?_eq_getElem hlt⟩
          have hxn := HIN.out x (List.mem_of_getElem? hx)
          have hd : l.drop j = x :: l.drop (j + 1) := by
            rw [List.drop_eq_getElem_cons hlt]
            congr 1
            rw [List.getElem?_eq_getElem hlt] at hx
            exact Option.some.inj hx
          have hRR2 := hRR.out
          rw [hd, walkM] at hRR2
          have hmt := memL_take hx
          have hopk := fun hM => HOP.out j x hx hM
          have hkn2 : isMem x.op = true → k < n := fun hM => by
            have := memL_lt hx hM
            have := hk.out
            omega
          rw [← hk.out] at hopk
          obtain ⟨bi, oi, ci, hvi, hbi, hci⟩ := HV.out.at (by omega)
          obtain ⟨rfl, _, rfl⟩ := Value.slice.inj hvi
          have hia := SlIn.ins hci hx
          have hbw := hfp.out.below ok H0.out
          obtain ⟨q0, q1, q2, q3, q4, q5, q6, q7, q8, q9, q10, q11, q12⟩ : InsAt wr bi (oi + j * 13) x := hia.below hbw
          have hlti := hlt
          have hji : (j : Int) < (l.length : Int) := by omega
          have hj0 : (0 : Int) ≤ (j : Int) := by omega
          have RRR := Bx.mk hRR2; have HXN := Bx.mk hxn; have HMT := Bx.mk hmt; have HOPK := Bx.mk hopk; have HKN := Bx.mk hkn2; have HBW := Bx.mk hbw
          clear hx hxn hd hRR2 hmt hopk hkn2 hvi hci hia hbw hRR
          obtain ⟨E, hE⟩ : ∃ E, E = wr.alloc (.cells #[.int .i64 x.op, .int .i64 x.rd, .int .i64 x.loc, .bool x.ar, .int .u64 x.an, .bool x.br, .int .u64 x.bn, .bool x.acq, .bool x.rel, .int .i64 x.dep, .int .i64 x.pred, .int .i64 x.succ, .int .i64 x.skip] 84) := ⟨_, rfl⟩
          have bE : Below wr.heap.size wr E := by rw [hE]; exact aset _ _
          have X : E.heap[wr.heap.size]? = some (inO x) := by rw [hE]; exact heap_alloc_new _ _
          have HX := Bx.mk X
          have HWE : Bx (WkIn E K n m s') := ⟨hwk.out.bel bE⟩
          have HFE : Bx (Fp K w E) := ⟨hfp.out.bel bE⟩
          have HBE : Bx (Below w0.heap.size w0 E) := ⟨HBW.out.trans (bE.mono HBW.out.size)⟩
          have hnk : ∀ i, i < 9 → wr.heap.size ≠ K.blk i := fun i hi e => by have := HLT.out i hi; have := hfp.out.size; omega
          have HNK := Bx.mk hnk
          clear X bE hnk
          go_upto_region 9 with fail
          rw [← hE]
          clear hE q0 q1 q2 q3 q4 q5 q6 q7 q8 q9 q10 q11 q12 HBW hwk hfp
          obtain ⟨x0, x1, x2, x3, x4, x5, x6, x7, x8, x9, x10, x11, x12⟩ := insC_of HX.out
          by_cases hs0 : 0 < skip
          · have RR := RRR.out
            rw [if_pos hs0] at RR
            have RR2 := Bx.mk RR
            have cl := leave_any w0 K ok n m s' hok.out os hm x j k HOPK.out HKN.out E HBE.out HWE.out HO.out
            rw [insV_eq] at cl
            have CL := Bx.mk cl
            have hsi : (0 : Int) < (skip : Int) := by omega
            have ew : IntKind.i64.wrap ((skip : Int) - 1) = ((skip - 1 : Nat) : Int) := by rw [IntKind.wrap_i64]; omega
            clear RR cl hs0
            go_wp2_with (go_at_call 38; ((with_reducible refine (CL.out).mono ?_); rintro e w5 ⟨rfl, wk5, f5⟩; have W5 := Bx.mk wk5; have F5 := Bx.mk f5; clear wk5 f5))
            go_roundw
            case rel => exact ⟨j + 1, skip - 1, if isMem x.op then k + 1 else k, _, by go_num, by omega, by go_num, by omega, ⟨by rw [HMT.out, hk.out]; split <;> omega⟩, W5, ⟨ok_leave hok.out _ _ _ _⟩, ⟨HFE.out.trans F5.out⟩, RR2⟩
            case measure => simp [intOf] <;> omega
          · obtain rfl : skip = 0 := by omega
            have RR := RRR.out
            rw [if_neg (Nat.lt_irrefl 0)] at RR
            have hs0' : ¬ (0 : Int) < ((0 : Nat) : Int) := by omega
            have CM0 : Bx (∀ W, Calls Try.prog 21 #[insV x] W fun e w' => e = .returned (.bool (isMem x.op)) ∧ Below W.heap.size W w') := ⟨fun W => isMemory_any x W⟩
            rw [insV_eq] at CM0
            clear hs0 hs0'
            cases hM : isMem x.op
            · rw [hM] at RR CM0
              rw [if_neg (by decide)] at RR
              have hk2 : k = k0 + memL (l.take (j + 1)) := by rw [HMT.out, hM, hk.out]; simp
              have HK2 := Bx.mk hk2
              clear hk2
              by_cases hbr : x.op = 16 ∨ x.op = 17
              · rw [if_pos hbr] at RR
                have cb := fun W (hW : WkIn W K n m s') => branch_any w0.heap.size K ok n m s' hok.out x HXN.out W hW
                obtain ⟨sk, hsk'⟩ := Int.eq_ofNat_of_zero_le HXN.out.skip.1
                have hskm : sk ≤ 1000000 := by have := HXN.out.skip.2; omega
                have hskn : x.skip.toNat = sk := by omega
                rw [hskn] at RR
                obtain ⟨p, hp⟩ : ∃ p, p = brVal s' x := ⟨_, rfl⟩
                rw [← hp] at RR
                rw [insV_eq] at cb
                have cb2 : ∀ W (hW : WkIn W K n m s'), Calls Try.prog 41 #[.pointer (some ⟨K.kb, 0, none⟩), .agg #[.int .i64 x.op, .int .i64 x.rd, .int .i64 x.loc, .bool x.ar, .int .u64 x.an, .bool x.br, .int .u64 x.bn, .bool x.acq, .bool x.rel, .int .i64 x.dep, .int .i64 x.pred, .int .i64 x.succ, .int .i64 x.skip]] W fun e w' => e = .returned (.agg #[.bool p.1, .int .u64 (p.2 : Int)]) ∧ WkIn w' K n m (brPath s' x) ∧ Fp K W w' := fun W hW => by rw [hp]; exact cb W hW
                have CB := Bx.mk cb2
                have HSK := Bx.mk hsk'
                clear cb cb2 hp hsk' hskn
                have hq : ((x.op == 16) = true) ∨ ((x.op == 16) = false ∧ (x.op == 17) = true) := by
                  rcases hbr with h | h
                  · exact .inl (by rw [h]; rfl)
                  · exact .inr ⟨by rw [h]; rfl, by rw [h]; rfl⟩
                have hp2 : ((p.2 : Int) == 1) = decide (p.2 = 1) := by
                  rw [Bool.eq_iff_iff]; simp only [beq_iff_eq, decide_eq_true_eq]; omega
                obtain ⟨pk, pv⟩ := p
                dsimp only at RR hp2 CB
                obtain ⟨d, hd⟩ : ∃ d, d = decide (pv = 1) := ⟨_, rfl⟩
                rw [← hd] at hp2
                have HD := Bx.mk hd
                have RR2 := Bx.mk RR
                clear RR hd hbr
                cases pk <;> cases d <;> rcases hq with hq | ⟨hq, hq7⟩
                all_goals
                  go_wp2_with (first
                    | (go_at_call 21; ((with_reducible refine (CM0.out _).mono ?_); rintro e w3 ⟨rfl, b3⟩; have X3 := (b3.block _ (ltOf HX.out)).trans HX.out; have H3 := Bx.mk (HWE.out.bel b3); have F3 := Bx.mk (HFE.out.bel b3); obtain ⟨x0, x1, x2, x3, x4, x5, x6, x7, x8, x9, x10, x11, x12⟩ := insC_of X3; have X3 := Bx.mk X3; clear b3))
                    | (go_at_call 41; ((with_reducible refine (CB.out _ H3.out).mono ?_); rintro e w5 ⟨rfl, wk5, f5⟩; have X5 := (f5.kept _ (ltOf X3.out) (fun i hi => HNK.out i hi)).trans X3.out; have hb5 := ltOf X5; have s12 := (insC_of X5).c12; rw [HSK.out] at s12; have W5 := Bx.mk wk5; have F5 := Bx.mk (F3.out.trans f5); clear wk5 f5 X5)))
                · have r := RR2.out
                  rw [if_neg (by decide)] at r
                  exact bodyPost_ret (results_none rfl _ _ _) rfl ⟨rfl, by rw [← r]; exact W5.out.bel (aset _ _), F5.out.bel (aset _ _)⟩
                · have r := RR2.out
                  rw [if_neg (by decide)] at r
                  exact bodyPost_ret (results_none rfl _ _ _) rfl ⟨rfl, by rw [← r]; exact W5.out.bel (aset _ _), F5.out.bel (aset _ _)⟩
                · have r := RR2.out
                  rw [if_neg (by decide)] at r
                  exact bodyPost_ret (results_none rfl _ _ _) rfl ⟨rfl, by rw [← r]; exact W5.out.bel (aset _ _), F5.out.bel (aset _ _)⟩
                · have r := RR2.out
                  rw [if_neg (by decide)] at r
                  exact bodyPost_ret (results_none rfl _ _ _) rfl ⟨rfl, by rw [← r]; exact W5.out.bel (aset _ _), F5.out.bel (aset _ _)⟩
                · go_roundw
                  case rel =>
                    refine ⟨j + 1, 0, k, _, by go_num, by omega, rfl, by omega, HK2, ⟨W5.out.bel (aset _ _)⟩, ⟨ok_br hok.out HXN.out⟩, ⟨F5.out.bel (aset _ _)⟩, ⟨?_⟩⟩
                    have r := RR2.out
                    simp only [if_true] at r
                    rw [if_neg (by simpa using HD.out)] at r
                    exact r
                  case measure => simp [intOf] <;> omega
                · go_roundw
                  case rel =>
                    refine ⟨j + 1, 0, k, _, by go_num, by omega, rfl, by omega, HK2, ⟨W5.out.bel (aset _ _)⟩, ⟨ok_br hok.out HXN.out⟩, ⟨F5.out.bel (aset _ _)⟩, ⟨?_⟩⟩
                    have r := RR2.out
                    simp only [if_true] at r
                    rw [if_neg (by simpa using HD.out)] at r
                    exact r
                  case measure => simp [intOf] <;> omega
                · go_roundw
                  case rel =>
                    refine ⟨j + 1, sk, k, _, by go_num, by omega, rfl, by omega, HK2, ⟨W5.out.bel (aset _ _)⟩, ⟨ok_br hok.out HXN.out⟩, ⟨F5.out.bel (aset _ _)⟩, ⟨?_⟩⟩
                    have r := RR2.out
                    simp only [if_true] at r
                    rw [if_pos (by simpa using HD.out)] at r
                    exact r
                  case measure => simp [intOf] <;> omega
                · go_roundw
                  case rel =>
                    refine ⟨j + 1, sk, k, _, by go_num, by omega, rfl, by omega, HK2, ⟨W5.out.bel (aset _ _)⟩, ⟨ok_br hok.out HXN.out⟩, ⟨F5.out.bel (aset _ _)⟩, ⟨?_⟩⟩
                    have r := RR2.out
                    simp only [if_true] at r
                    rw [if_pos (by simpa using HD.out)] at r
                    exact r
                  case measure => simp [intOf] <;> omega
              · rw [if_neg hbr] at RR
                have q16 : (x.op == 16) = false := by rw [beq_eq_false_iff_ne]; omega
                have q17 : (x.op == 17) = false := by rw [beq_eq_false_iff_ne]; omega
                by_cases h15 : x.op = 15
                · rw [if_neg (by simpa using h15)] at RR
                  have q15 : (x.op == 15) = true := by rw [h15]; rfl
                  have q15' : (x.op != 15) = false := by rw [h15]; rfl
                  have RR2 := Bx.mk RR
                  clear RR hbr h15
                  go_wp2_with (first
                    | (go_at_call 21; ((with_reducible refine (CM0.out _).mono ?_); rintro e w3 ⟨rfl, b3⟩; have X3 := (b3.block _ (ltOf HX.out)).trans HX.out; have H3 := Bx.mk (HWE.out.bel b3); have F3 := Bx.mk (HFE.out.bel b3); obtain ⟨x0, x1, x2, x3, x4, x5, x6, x7, x8, x9, x10, x11, x12⟩ := insC_of X3; have X3 := Bx.mk X3; clear b3)))
                  go_roundw
                  case rel => exact ⟨j + 1, 0, k, _, by go_num, by omega, rfl, by omega, HK2, H3, hok, F3, RR2⟩
                  case measure => simp [intOf] <;> omega
                · rw [if_pos h15] at RR
                  have q15 : (x.op == 15) = false := by rw [beq_eq_false_iff_ne]; exact h15
                  have q15' : (x.op != 15) = true := by rw [bne, q15]; rfl
                  have RR2 := Bx.mk RR
                  have cc : ∀ W (hW : WkIn W K n m s'), Calls Try.prog 42 #[.pointer (some ⟨K.kb, 0, none⟩), insV x] W fun e w' => e = .returned (.tuple #[]) ∧ WkIn w' K n m (compM s' x) ∧ Fp K W w' := fun W hW => by
                    by_cases h1 : x.op = 1
                    · exact compute_li w0.heap.size K ok n m s' hok.out x HXN.out W hW h1
                    · exact compute_op w0.heap.size K ok n m s' hok.out x HXN.out W hW h1
                  rw [insV_eq] at cc
                  have CC := Bx.mk cc
                  clear RR hbr h15 cc
                  go_wp2_with (first
                    | (go_at_call 21; ((with_reducible refine (CM0.out _).mono ?_); rintro e w3 ⟨rfl, b3⟩; have X3 := (b3.block _ (ltOf HX.out)).trans HX.out; have H3 := Bx.mk (HWE.out.bel b3); have F3 := Bx.mk (HFE.out.bel b3); obtain ⟨x0, x1, x2, x3, x4, x5, x6, x7, x8, x9, x10, x11, x12⟩ := insC_of X3; have X3 := Bx.mk X3; clear b3))
                    | (go_at_call 42; ((with_reducible refine (CC.out _ H3.out).mono ?_); rintro e w5 ⟨rfl, wk5, f5⟩; have W5 := Bx.mk wk5; have F5 := Bx.mk (F3.out.trans f5); clear wk5 f5)))
                  go_roundw
                  case rel => exact ⟨j + 1, 0, k, _, by go_num, by omega, rfl, by omega, HK2, W5, ⟨ok_comp hok.out HXN.out⟩, F5, RR2⟩
                  case measure => simp [intOf] <;> omega
            · rw [hM] at RR CM0
              rw [if_pos rfl] at RR
              have hk2 : k + 1 = k0 + memL (l.take (j + 1)) := by rw [HMT.out, hM, hk.out]; simp; omega
              have HK2 := Bx.mk hk2
              have hkn := HKN.out hM
              have RR2 := Bx.mk RR
              clear hk2 RR
              go_upto_region 13 with (go_at_call 21; ((with_reducible refine (CM0.out _).mono ?_); rintro e w3 ⟨rfl, b3⟩; have X3 := (b3.block _ (ltOf HX.out)).trans HX.out; have H3 := Bx.mk (HWE.out.bel b3); have F3 := Bx.mk (HFE.out.bel b3); obtain ⟨x0, x1, x2, x3, x4, x5, x6, x7, x8, x9, x10, x11, x12⟩ := insC_of X3; have X3 := Bx.mk X3; clear b3))
              have co := opIdx_any K n m s' os j k (HOPK.out hM) w3.drew H3.out.drew ⟨(HO.out.bel (F3.out.below ok H0.out)).ops, HO.out.len⟩
              have ca := fun W (hW : WkIn W K n m s') (hb : Below w0.heap.size w0 W) => access_any w0 K ok n m s' hok.out c HCO.out x HXN.out k hkn hnn W hb hW HC.out
              rw [insV_eq] at ca
              have CO := Bx.mk co; have CA := Bx.mk ca
              have y := insAll (W := w3.drew) X3.out
              clear co ca x0 x1 x2 x3 x4 x5 x6 x7 x8 x9 x10 x11 x12
              go_region_held3 (fun W => W.cell? ⟨wr.heap.size, 0, none⟩ = some (.int .i64 x.op) ∧ W.cell? ⟨wr.heap.size, 1, none⟩ = some (.int .i64 x.rd) ∧ W.cell? ⟨wr.heap.size, 2, none⟩ = some (.int .i64 x.loc) ∧ W.cell? ⟨wr.heap.size, 3, none⟩ = some (.bool x.ar) ∧ W.cell? ⟨wr.heap.size, 4, none⟩ = some (.int .u64 x.an) ∧ W.cell? ⟨wr.heap.size, 5, none⟩ = some (.bool x.br) ∧ W.cell? ⟨wr.heap.size, 6, none⟩ = some (.int .u64 x.bn) ∧ W.cell? ⟨wr.heap.size, 7, none⟩ = some (.bool x.acq) ∧ W.cell? ⟨wr.heap.size, 8, none⟩ = some (.bool x.rel) ∧ W.cell? ⟨wr.heap.size, 9, none⟩ = some (.int .i64 x.dep) ∧ W.cell? ⟨wr.heap.size, 10, none⟩ = some (.int .i64 x.pred) ∧ W.cell? ⟨wr.heap.size, 11, none⟩ = some (.int .i64 x.succ) ∧ W.cell? ⟨wr.heap.size, 12, none⟩ = some (.int .i64 x.skip))
                (first | (exact y) | (exact insAll (by assumption)))
                (first
                  | (go_at_call 40; ((with_reducible refine (CO.out).mono ?_); rintro e w4 ⟨rfl, b4⟩; have X4 := (b4.block _ (ltOf X3.out)).trans X3.out; have H4 := Bx.mk (H3.out.drew.bel b4); have F4 := Bx.mk (F3.out.drew.bel b4)))
                  | (go_at_call 39; ((with_reducible refine (CA.out _ H4.out (F4.out.below ok H0.out)).mono ?_); rintro e w5 ⟨rfl, wk5, f5⟩; have X5 := (f5.kept _ (ltOf X4) (fun i hi => HNK.out i hi)).trans X4; have W5 := Bx.mk wk5; have F5 := Bx.mk (F4.out.trans f5))))
              go_wp2_with fail
              go_roundw
              case rel => exact ⟨j + 1, 0, k + 1, _, by go_num, by omega, rfl, by omega, HK2, W5, ⟨ok_acc hok.out HCO.out hkn x⟩, F5, RR2⟩
              case measure => simp [intOf] <;> omega
        · obtain rfl : j = l.length := by omega
          have hRR2 := hRR.out
          rw [List.drop_length] at hRR2
          have H2 : Bx (s' = R) := ⟨hRR2⟩
          clear hRR2
          go_wp2_with fail
          go_end0
          exact ⟨rfl, by rw [← H2.out]; exact hwk.out, hfp.out⟩
end Go.Proofs.Ytccjekgbhablpaa
namespace Go.Proofs.Ytccjekgbhablpaa
set_option maxRecDepth 100000
open Go.RowKit

def opsL (i : Nat) : Nat → List Ins → List (Nat × Nat)
  | _, [] => []
  | a, x :: l => (if isMem x.op then [(i, a)] else []) ++ opsL i (a + 1) l
def opsM : Nat → List (List Ins) → List (Nat × Nat)
  | _, [] => []
  | i, l :: t => opsL i 0 l ++ opsM (i + 1) t
theorem opsL_app (i : Nat) : ∀ (l m : List Ins) (a : Nat), opsL i a (l ++ m) = opsL i a l ++ opsL i (a + l.length) m
  | [], m, a => by simp [opsL]
  | x :: l, m, a => by
    rw [List.cons_append, opsL, opsL, opsL_app i l m (a + 1), List.append_assoc, List.length_cons, show a + 1 + l.length = a + (l.length + 1) by omega]
theorem opsM_app : ∀ (t u : List (List Ins)) (i : Nat), opsM i (t ++ u) = opsM i t ++ opsM (i + t.length) u
  | [], u, i => by simp [opsM]
  | l :: t, u, i => by
    rw [List.cons_append, opsM, opsM, opsM_app t u (i + 1), List.append_assoc, List.length_cons, show i + 1 + t.length = i + (t.length + 1) by omega]
theorem opsL_len (i : Nat) : ∀ (l : List Ins) (a : Nat), (opsL i a l).length = memL l
  | [], a => rfl
  | x :: l, a => by
    rw [opsL, List.length_append, opsL_len i l (a + 1)]
    unfold memL
    rw [List.filter_cons]
    split <;> simp <;> omega
theorem opsM_len : ∀ (t : List (List Ins)) (i : Nat), (opsM i t).length = memT t
  | [], i => rfl
  | l :: t, i => by
    rw [opsM, List.length_append, opsL_len, opsM_len t (i + 1)]
    simp [memT]
theorem memL_le (l : List Ins) : memL l ≤ l.length := List.length_filter_le _ _
theorem memT_le (M : Nat) : ∀ t : List (List Ins), (∀ l ∈ t, l.length ≤ M) → memT t ≤ M * t.length
  | [], _ => by simp [memT]
  | l :: t, h => by
    have h1 := memL_le l
    have h2 := memT_le M t (fun x hx => h x (by simp [hx]))
    have h3 := h l (by simp)
    unfold memT at *
    simp only [List.map_cons, List.sum_cons, List.length_cons, Nat.mul_add, Nat.mul_one]
    omega
theorem opsM_take {t : List (List Ins)} {k : Nat} {l : List Ins} (h : t[k]? = some l) : opsM 0 (t.take (k + 1)) = opsM 0 (t.take k) ++ opsL k 0 l := by
  have hl := (List.getElem?_eq_some_iff.1 h).1
  rw [List.take_add_one, h, show (some l).toList = [l] from rfl, opsM_app, Nat.zero_add]
  have : (t.take k).length = k := by simp; omega
  rw [this]; simp [opsM]
theorem opsL_take (i : Nat) {l : List Ins} {j : Nat} {x : Ins} (h : l[j]? = some x) : opsL i 0 (l.take (j + 1)) = opsL i 0 (l.take j) ++ (if isMem x.op then [(i, j)] else []) := by
  have hl := (List.getElem?_eq_some_iff.1 h).1
  rw [List.take_add_one, h, show (some x).toList = [x] from rfl, opsL_app, Nat.zero_add]
  have : (l.take j).length = j := by simp; omega
  rw [this]; simp [opsL]
theorem opsL_mem (i : Nat) : ∀ (l : List Ins) (a : Nat) (p : Nat × Nat), p ∈ opsL i a l → p.1 = i ∧ a ≤ p.2 ∧ p.2 < a + l.length
  | [], a, p, h => by simp [opsL] at h
  | x :: l, a, p, h => by
    rw [opsL, List.mem_append] at h
    rcases h with h | h
    · split at h
      · simp at h; subst h; simp
      · simp at h
    · obtain ⟨h1, h2, h3⟩ := opsL_mem i l (a + 1) p h
      simp only [List.length_cons]
      exact ⟨h1, by omega, by omega⟩
theorem opsM_mem : ∀ (t : List (List Ins)) (i : Nat) (p : Nat × Nat), p ∈ opsM i t → i ≤ p.1 ∧ p.1 < i + t.length
  | [], i, p, h => by simp [opsM] at h
  | l :: t, i, p, h => by
    rw [opsM, List.mem_append] at h
    simp only [List.length_cons]
    rcases h with h | h
    · have := opsL_mem i l 0 p h; omega
    · have := opsM_mem t (i + 1) p h; omega
theorem memT_take {t : List (List Ins)} {k : Nat} {l : List Ins} (h : t[k]? = some l) : memT (t.take (k + 1)) = memT (t.take k) + memL l := by
  have e : t.take (k + 1) = t.take k ++ [l] := by rw [List.take_add_one, h]; rfl
  rw [e]; simp [memT]
theorem memT_take_le {t : List (List Ins)} {k : Nat} {l : List Ins} (h : t[k]? = some l) : memT (t.take k) + memL l ≤ memT t := by
  rw [← memT_take h]
  conv => rhs; rw [← List.take_append_drop (k + 1) t]
  unfold memT
  rw [List.map_append, List.sum_append]
  omega
/-- an Op of a thread, and its number -/
theorem opIs_of {t : List (List Ins)} {i : Nat} {l : List Ins} (hi : t[i]? = some l) {j : Nat} {x : Ins} (hj : l[j]? = some x) (hm : isMem x.op = true) : OpIs (opsM 0 t) i j (memT (t.take i) + memL (l.take j)) := by
  have hil := (List.getElem?_eq_some_iff.1 hi).1
  have hjl := (List.getElem?_eq_some_iff.1 hj).1
  have e1 : opsM 0 t = opsM 0 (t.take (i + 1)) ++ opsM (i + 1) (t.drop (i + 1)) := by
    conv => lhs; rw [← List.take_append_drop (i + 1) t]
    rw [opsM_app, Nat.zero_add]
    congr 2
    simp; omega
  have e2 : opsL i 0 l = opsL i 0 (l.take (j + 1)) ++ opsL i (j + 1) (l.drop (j + 1)) := by
    conv => lhs; rw [← List.take_append_drop (j + 1) l]
    rw [opsL_app, Nat.zero_add]
    congr 2
    simp; omega
  obtain ⟨P, hP⟩ : ∃ P, P = opsM 0 (t.take i) ++ opsL i 0 (l.take j) := ⟨_, rfl⟩
  obtain ⟨R, e⟩ : ∃ R, opsM 0 t = P ++ (i, j) :: R := by
    rw [e1, opsM_take hi, e2, opsL_take i hj, if_pos hm, hP]
    simp only [List.append_assoc, List.cons_append, List.nil_append]
    exact ⟨_, rfl⟩
  have hl : P.length = memT (t.take i) + memL (l.take j) := by rw [hP, List.length_append, opsM_len, opsL_len]
  have hn : (i, j) ∉ P := fun h => by
    rw [hP, List.mem_append] at h
    rcases h with h | h
    · have := opsM_mem _ _ _ h
      have h2 : (t.take i).length ≤ i := by simp; omega
      simp at this; omega
    · have := opsL_mem _ _ _ _ h
      have h2 : (l.take j).length ≤ j := by simp; omega
      simp at this; omega
  rw [← hl, e]
  refine ⟨by simp, fun m hm2 hc => hn ?_⟩
  rw [List.getElem?_append_left hm2] at hc
  exact List.mem_of_getElem? hc
end Go.Proofs.Ytccjekgbhablpaa
