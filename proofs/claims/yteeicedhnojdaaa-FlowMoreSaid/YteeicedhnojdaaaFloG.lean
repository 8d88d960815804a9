/- Contracts of flow: what is written. -/
import Derived.Test.YteeicedhnojdaaaFloF
namespace Go.Proofs.Yteeicedhnojdaaa
set_option maxRecDepth 100000
open Go.RowKit

theorem nV_at {l : List (Bool × Nat)} {k : Nat} (h : k < l.length) (j : Nat) (hj : j < 2) : ∃ v, (nV l).toArray[k * 2 + j]? = some v := by
  obtain ⟨p, hp⟩ : ∃ p, l[k]? = some p := ⟨_, List.getElem?_eq_getElem h⟩
  rw [List.getElem?_toArray, nV_get hp j hj]
  match j, hj with
  | 0, _ => exact ⟨_, rfl⟩
  | 1, _ => exact ⟨_, rfl⟩
set_option maxHeartbeats 6400000 in
theorem write_any (w0 : World) (K : WkB) (ok : KOk w0.heap.size K) (n m : Nat) (s : WkM) (hs : WkOk n m s) (c : CtxM) (hrl : c.reads.length ≤ 1000000) (x : Ins) (hx : InsN x) (k : Nat) (hkn : k < n) (hnn : n ≤ 1000000) (w : World) (h0 : Below w0.heap.size w0 w) (hw : WkIn w K n m s) (hc : CtxIn w0 K c) :
    Calls Try.prog 75 #[.pointer (some ⟨K.kb, 0, none⟩), .int .i64 (k : Int), insV x] w fun e w' => e = .returned (.tuple #[]) ∧ WkIn w' K n m (writeM c s k x) ∧ Fp K w w' := by
  have hkl := ltOf hw.kb
  have ca := fun W (h : WkIn W K n m s) => arg_ins K n m s hs.regs x.ar x.an hx.an.1 hx.ar W h
  obtain ⟨a, ha⟩ : ∃ a, a = argM s x.ar x.an.toNat := ⟨_, rfl⟩
  rw [← ha] at ca
  rw [insV_eq]
  obtain ⟨E, hE⟩ : ∃ E, E = w.alloc (.cells #[.int .i64 x.op, .int .i64 x.rd, .int .i64 x.loc, .bool x.ar, .int .u64 x.an, .bool x.br, .int .u64 x.bn, .bool x.acq, .bool x.rel, .int .i64 x.dep, .int .i64 x.pred, .int .i64 x.succ, .int .i64 x.skip] 85) := ⟨_, rfl⟩
  have bE : Below w.heap.size w E := by rw [hE]; exact aset _ _
  have X : E.heap[w.heap.size]? = some (inO x) := by rw [hE]; exact heap_alloc_new _ _
  have x3 := cOf X 3; have x4 := cOf X 4
  simp only [List.getElem?_toArray, List.getElem?_cons_zero, List.getElem?_cons_succ] at x3 x4
  have HA := Bx.mk ha; have CA := Bx.mk (ca E (hw.bel bE)); have HWE := Bx.mk (hw.bel bE); have BE : Bx (Fp K w E) := ⟨Fp.ofBel bE⟩; have HS := Bx.mk hs; have HX := Bx.mk X; have HC := Bx.mk hc; have HW := Bx.mk hw
  have hzE : w.heap.size < E.heap.size := ltOf X
  have ne1 : K.kb ≠ K.va := (show K.kb ≠ K.va from ok.nd 0 6 (by decide) (by decide) (by decide))
  have ne2 : K.kb ≠ K.wr := (show K.kb ≠ K.wr from ok.nd 0 3 (by decide) (by decide) (by decide))
  have ne3 : K.fb ≠ K.wr := (show K.fb ≠ K.wr from ok.nd 1 3 (by decide) (by decide) (by decide))
  clear hw X bE hs ha ca hc
  go_enter Try.func75, Try.ntmps75
  go_upto_region 1 with fail
  rw [← hE]
  clear hE
  go_upto_region 2 with (go_at_call 78; ((with_reducible refine (CA.out).mono ?_); rintro e w2 ⟨rfl, b2⟩; have B2 := Bx.mk b2; clear b2))
  obtain ⟨F, hF⟩ : ∃ F, F = w2.alloc (.cells #[.bool a.k, .int .u64 (a.v : Int), .int .u64 (a.f : Int)] 99) := ⟨_, rfl⟩
  have bF : Below E.heap.size E F := by rw [hF]; exact B2.out.alloc B2.out.size _
  have Y : F.heap[w2.heap.size]? = some (cnO a) := by rw [hF]; exact heap_alloc_new _ _
  have y2 := cOf Y 2
  simp only [List.getElem?_toArray, List.getElem?_cons_zero, List.getElem?_cons_succ] at y2
  have hwf := HWE.out.bel bF
  obtain ⟨q0, _⟩ := hwf.head
  obtain ⟨_, _, _, _, r4, _⟩ := hwf.rows
  have hki : (k : Int) < (n : Int) := by omega
  have hk0 : (0 : Int) ≤ (k : Int) := by omega
  have g0 : F.cell? ⟨K.va, k, none⟩ = some (.int .u64 ((s.value.getD k 0 : Nat) : Int)) := by rw [cOf hwf.va, nU_get (by rw [HS.out.value]; exact hkn)]
  have gf := tOf hwf.va k
  have HWF := Bx.mk hwf; have BF := Bx.mk (BE.out.bel bF); have HY := Bx.mk Y; have HXF := Bx.mk ((bF.block _ hzE).trans HX.out)
  have hz2 : w.heap.size < w2.heap.size := by have := B2.out.size; omega
  rw [← hF]
  clear hF bF Y hwf x3 x4 HWE BE HX CA B2
  go_still_tail 11, (by kernel_rfl)
  change wpList _ _ _ _ _ F.drew
  go_upto_region 3 with fail
  have hva : K.va < w.heap.size := HW.out.lt 6 (by decide)
  have hwr : K.wr < w.heap.size := HW.out.lt 3 (by decide)
  obtain ⟨s1, hs1⟩ : ∃ s1 : WkM, s1 = { s with value := s.value.set k a.f } := ⟨_, rfl⟩
  obtain ⟨G, hG⟩ : ∃ G, G = (F.setCell ⟨K.va, k, none⟩ (.int .u64 (a.f : Int))).drew := ⟨_, rfl⟩
  have kG : ∀ b', b' ≠ K.va → G.heap[b']? = F.heap[b']? := fun b' hb' => by rw [hG]; exact hset hb'
  have hwg : WkIn G K n m s1 := by rw [hs1, hG]; exact (HWF.out.setVa ok k a.f).drew
  have bG : Fp K w G := by rw [hG]; exact (BF.out.set 6 (by decide) _ _).drew
  have YG := (kG w2.heap.size (by omega)).trans HY.out
  have XG := (kG w.heap.size (by omega)).trans HXF.out
  have y0 := cOf YG 0; have y1 := cOf YG 1
  simp only [List.getElem?_toArray, List.getElem?_cons_zero, List.getElem?_cons_succ] at y0 y1
  obtain ⟨q0, _⟩ := hwg.head
  obtain ⟨_, r1, _⟩ := hwg.rows
  have hwl : k < s1.wr.length := by rw [hs1]; show k < s.wr.length; rw [HS.out.wr]; exact hkn
  obtain ⟨u0, g0⟩ := nV_at hwl 0 (by decide)
  obtain ⟨u1, g1⟩ := nV_at hwl 1 (by decide)
  rw [← cOf hwg.wr, Nat.add_zero] at g0
  rw [← cOf hwg.wr] at g1
  have gf0 := tOf hwg.wr (k * 2); have gf1 := tOf hwg.wr (k * 2 + 1)
  have HWG := Bx.mk hwg; have BG := Bx.mk bG; have HYG := Bx.mk YG; have HXG := Bx.mk XG; have HS1 := Bx.mk hs1
  rw [← hG]
  clear hG kG hwg bG YG XG HWF BF HY HXF y2 r4 hs1 hwl
  go_still_tail 11, (by kernel_rfl)
  change wpList _ _ _ _ _ G.drew
  go_upto_region 4 with fail
  obtain ⟨s2, hs2⟩ : ∃ s2 : WkM, s2 = { s1 with wr := s1.wr.set k (a.k, a.v) } := ⟨_, rfl⟩
  obtain ⟨H, hH⟩ : ∃ H, H = ((G.setCell ⟨K.wr, k * 2, none⟩ (.bool a.k)).setCell ⟨K.wr, k * 2 + 1, none⟩ (.int .u64 (a.v : Int))).drew := ⟨_, rfl⟩
  have kH : ∀ b', b' ≠ K.wr → H.heap[b']? = G.heap[b']? := fun b' hb' => by rw [hH]; exact (hset hb').trans (hset hb')
  have hwh : WkIn H K n m s2 := by rw [hs2, hH]; exact (HWG.out.setWr ok k a.k a.v).drew
  have bH : Fp K w H := by rw [hH]; exact ((BG.out.set 3 (by decide) _ _).set 3 (by decide) _ _).drew
  have YH := (kH w2.heap.size (by omega)).trans HYG.out
  have XH := (kH w.heap.size (by omega)).trans HXG.out
  have x0 := cOf XH 0
  simp only [List.getElem?_toArray, List.getElem?_cons_zero] at x0
  have HWH := Bx.mk hwh; have BH := Bx.mk bH; have HYH := Bx.mk YH; have HS2 := Bx.mk hs2
  rw [← hH]
  clear hH kH hwh bH YH XH HWG BG HYG HXG y0 y1 r1 q0 g0 g1 gf0 gf1 hs2
  by_cases h12 : x.op = 12
  · rw [h12] at x0
    have H12 := Bx.mk h12
    clear h12
    have YH := HYH.out
    have y0 := cOf YH 0; have y1 := cOf YH 1
    simp only [List.getElem?_toArray, List.getElem?_cons_zero, List.getElem?_cons_succ] at y0 y1
    obtain ⟨q0, _⟩ := HWH.out.head
    obtain ⟨_, r1, _⟩ := HWH.out.rows
    have cr := read_any K n m s2 c hrl k (by omega) H.drew HWH.out.drew ((HC.out.bel (BH.out.drew.below ok h0)))
    obtain ⟨p, hp⟩ : ∃ p, p = readM c k := ⟨_, rfl⟩
    rw [← hp] at cr
    have CR := Bx.mk cr; have HP := Bx.mk hp; have CC := Bx.mk (fun W => comb_add (a.k, a.v) p W)
    have HZ := Bx.mk HWH.out.wr
    have hzl := ltOf HWH.out.wr
    have hwl : k < s2.wr.length := by rw [HS2.out, HS1.out]; show k < (s.wr.set k _).length; rw [List.length_set, HS.out.wr]; exact hkn
    have G0 := Bx.mk (nV_at hwl 0 (by decide)); have G1 := Bx.mk (nV_at hwl 1 (by decide))
    have q0d : H.drew.cell? _ = _ := q0
    have r1d : H.drew.cell? _ = _ := r1
    have y0d : H.drew.cell? _ = _ := y0
    have y1d : H.drew.cell? _ = _ := y1
    have ne4 : w2.heap.size ≠ K.wr := by omega
    clear cr hp YH hwl
    go_wp2_with fail
    go_region_held3 (fun W => W.cell? ⟨K.kb, 0, none⟩ = some (.pointer (some ⟨K.fb, 0, none⟩)) ∧ W.cell? ⟨K.fb, 1, none⟩ = some (.slice (some ⟨K.wr, 0, none⟩) n n) ∧ W.cell? ⟨w2.heap.size, 0, none⟩ = some (.bool a.k) ∧ W.cell? ⟨w2.heap.size, 1, none⟩ = some (.int .u64 (a.v : Int)))
      (first
        | (exact ⟨q0, r1, y0, y1⟩)
        | (go_split_ands; exact ⟨cBel (by assumption) (by assumption), cBel (by assumption) (by assumption), cBel (by assumption) (by assumption), cBel (by assumption) (by assumption)⟩)
        | (go_split_ands; exact ⟨cellFar (cellFar (by assumption) ne2) ne2, cellFar (cellFar (by assumption) ne3) ne3, cellFar (cellFar (by assumption) ne4) ne4, cellFar (cellFar (by assumption) ne4) ne4⟩))
      (first
        | (go_at_call 76; ((with_reducible refine (CR.out).mono ?_); rintro e w3 ⟨rfl, b3⟩; have Z3 := Bx.mk ((b3.block K.wr hzl).trans HZ.out); have B3 := Bx.mk b3))
        | (go_at_call 79; ((with_reducible refine (CC.out _).mono ?_); rintro e w4 ⟨rfl, b4⟩; have Z4 := Bx.mk ((b4.block K.wr (ltOf Z3.out)).trans Z3.out); obtain ⟨u0, g0⟩ := G0.out; obtain ⟨u1, g1⟩ := G1.out; rw [← cOf Z4.out, Nat.add_zero] at g0; rw [← cOf Z4.out] at g1; have gf0 := tOf Z4.out (k * 2); have gf1 := tOf Z4.out (k * 2 + 1); have B4 := Bx.mk b4)))
    go_wp2_with fail
    go_end0
    refine ⟨rfl, ?_, ?_⟩
    · have e : writeM c s k x = { s2 with wr := s2.wr.set k (combM (a.k, a.v) p addM) } := by
        unfold writeM writeV
        rw [if_pos H12.out, ← HA.out, HS2.out, HS1.out, ← HP.out]
        simp [List.set_set]
      rw [e]
      exact ((HWH.out.drew.bel B3.out).bel B4.out).setWr ok k _ _
    · exact (((BH.out.drew.bel B3.out).bel B4.out).set 3 (by decide) _ _).set 3 (by decide) _ _
  · have h12b : (x.op == 12) = false := by rw [beq_eq_false_iff_ne]; exact h12
    have H12 := Bx.mk h12
    clear h12
    go_wp2_with fail
    go_end0
    refine ⟨rfl, ?_, BH.out⟩
    have e : writeM c s k x = s2 := by
      unfold writeM writeV
      rw [if_neg H12.out, ← HA.out, HS2.out, HS1.out]
    rw [e]
    exact HWH.out
end Go.Proofs.Yteeicedhnojdaaa
