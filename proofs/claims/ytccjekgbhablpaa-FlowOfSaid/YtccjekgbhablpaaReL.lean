/- The reference's flow: a thread: the walk. -/
import Derived.Test.YtccjekgbhablpaaReR
import Derived.Test.YtccjekgbhablpaaReFb
namespace Go.Proofs.Ytccjekgbhablpaa
set_option maxRecDepth 100000
open Go.RowKit

set_option maxRecDepth 100000 in
set_option maxHeartbeats 51200000 in
theorem thread_any (w : World) (G : Nat → Prop) (hG : ∀ k, w.heap.size ≤ k → G k) (os : List (Nat × Nat × Ins)) (hos : os.length ≤ 1000) (ov : Value) (ho : SlIn w ov 15 os.length (os.flatMap opX)) (s0 : RefSt) (h8 : s0.regs.length = 8) (hv0 : V64 s0.regs) (hlast : s0.last ≤ os.length) (hfl : s0.facts.length = os.length)
    (R0 P0 L0 F0 : Value) (hr : RegM w G 1 R0 s0.regs) (hp : MaskIn w G 1 P0 s0.path) (hl : MaskIn w G 1 L0 s0.left) (hf : FactM w G 10000 F0 s0.facts)
    (i : Nat) (l : List Ins) (hll : l.length ≤ 8) (lv : Value) (hlv : SlIn w lv 13 l.length (l.flatMap insC)) (hx : ∀ x ∈ l, InsN x ∧ 1 ≤ x.op ∧ x.op ≤ 17)
    (c : CtxM) (hc : CtxOk c) (k0 : Nat) (hk0 : k0 + memL l ≤ os.length) (hseg : ∀ j o, (opsXL i 0 l)[j]? = some o → os[k0 + j]? = some o) (rv wv : Value) (hrv : SlIn w rv 3 os.length ((List.range os.length).flatMap fun k => [.bool (rdK c k), .int .u64 (rdV c k : Int), .slice none 0 0])) (hwv : SlIn w wv 1 os.length ((List.range os.length).map fun k => Value.bool (worksM c k))) :
    Calls Try.prog 27 #[.agg #[R0, P0, .int .i64 (s0.last : Int), L0, F0, .bool s0.known], lv, ov, .int .i64 (k0 : Int), rv, wv] w fun e w' =>
      ∃ R P L F, e = .returned (.agg #[R, P, .int .i64 ((thrR c os l 0 k0 0 s0).last : Int), L, F, .bool (thrR c os l 0 k0 0 s0).known]) ∧ RegM w' G 6561 R (thrR c os l 0 k0 0 s0).regs ∧ MaskIn w' G 6561 P (thrR c os l 0 k0 0 s0).path ∧ MaskIn w' G 6561 L (thrR c os l 0 k0 0 s0).left ∧ FactM w' G 10000 F (thrR c os l 0 k0 0 s0).facts ∧ Below w.heap.size w w' := by
  obtain ⟨lp, lc, rfl⟩ := hlv.slice
  obtain ⟨op, oc, rfl⟩ := ho.slice
  obtain ⟨rp, rc, rfl⟩ := hrv.slice
  obtain ⟨wp, wpc, rfl⟩ := hwv.slice
  have ST := Bx.mk (ThrH.start w G (3 ^ 0) 10000 s0 R0 P0 L0 F0 hr hp hl hf)
  have HL := Bx.mk hlv
  have HX := Bx.mk hx
  have HO := Bx.mk ho; have HRV := Bx.mk hrv; have HWV := Bx.mk hwv; have HC := Bx.mk hc
  have S0 : Bx (V64 s0.regs ∧ s0.regs.length = 8 ∧ s0.last ≤ os.length ∧ s0.facts.length = os.length) := ⟨hv0, h8, hlast, hfl⟩
  clear hr hp hl hf hlv hx ho hrv hwv hc hv0 h8 hlast hfl
  go_enter Try.func27, Try.ntmps27
  go_wp2_with fail
  generalize ((w.alloc (.cells #[R0, P0, .int .i64 (s0.last : Int), L0, F0, .bool s0.known] 105)).alloc (.cells #[.slice none 0 0, .slice none 0 0, .int .i64 0, .slice none 0 0, .slice none 0 0, .bool false] 105)) = W0 at *
  go_loopw [3, 13, 20] (fun kv sv jv wr => ∃ (j k sk : Nat) (s : RefSt) (R P L F : Value), j ≤ l.length ∧ jv = .int .i64 (j : Int) ∧ kv = .int .i64 (k : Int) ∧ sv = .int .i64 (sk : Int) ∧ sk ≤ 1000000 ∧ k + memL (l.drop j) ≤ os.length ∧ Bx (V64 s.regs ∧ s.regs.length = 8 ∧ s.last ≤ os.length ∧ s.facts.length = os.length) ∧ Bx (thrR c os l 0 k0 0 s0 = thrR c os (l.drop j) j k sk s) ∧ Bx (∀ q o, (opsXL i j (l.drop j))[q]? = some o → os[k + q]? = some o) ∧ Bx (ThrH w wr (FarT w.heap.size G) (3 ^ j) 10000 s R P L F)) (fun _ _ jv _ => l.length - (intOf jv).toNat)
  case atStart => exact ⟨0, k0, 0, s0, R0, P0, L0, F0, by omega, rfl, rfl, rfl, by omega, hk0, S0, ⟨rfl⟩, ⟨hseg⟩, ST⟩
  case round =>
    clear ST S0
    obtain ⟨j, k, sk, s, R, P, L, F, hj, rfl, rfl, rfl, hsk, hko, SS, HT, HS, TH⟩ := hrel
    by_cases hjl : j < l.length
    · obtain ⟨x, hxj⟩ : ∃ x, l[j]? = some x := ⟨_, List.getElem?_eq_getElem hjl⟩
      obtain ⟨ib, io, ic', hiv, hil, hicl⟩ := HL.out.at (by omega)
      obtain ⟨rfl, _, rfl⟩ := Value.slice.inj hiv
      have HXN := Bx.mk (HX.out x (List.mem_of_getElem? hxj))
      obtain ⟨y0, y1, y2, y3, y4, y5, y6, y7, y8, y9, y10, y11, y12⟩ : InsAt wr ib (io + j * 13) x := (SlIn.ins hicl hxj).below TH.out.bel
      have hdr : l.drop j = x :: l.drop (j + 1) := atDropR hxj
      have TH1 := Bx.mk (TH.out.below (aset wr (.cells #[.int .i64 x.op, .int .i64 x.rd, .int .i64 x.loc, .bool x.ar, .int .u64 x.an, .bool x.br, .int .u64 x.bn, .bool x.acq, .bool x.rel, .int .i64 x.dep, .int .i64 x.pred, .int .i64 x.succ, .int .i64 x.skip] 50)))
      have XI := Bx.mk (heap_alloc_new wr (.cells #[.int .i64 x.op, .int .i64 x.rd, .int .i64 x.loc, .bool x.ar, .int .u64 x.an, .bool x.br, .int .u64 x.bn, .bool x.acq, .bool x.rel, .int .i64 x.dep, .int .i64 x.pred, .int .i64 x.succ, .int .i64 x.skip] 50))
      have hxg : w.heap.size + 1 < wr.heap.size := ltOf TH.out.b1
      have i9 : (j : Int) < (l.length : Int) := by omega
      have HDR := Bx.mk hdr
      clear hicl hiv hxj hdr
      go_upto_region 5 with fail
      clear y0 y1 y2 y3 y4 y5 y6 y7 y8 y9 y10 y11 y12 TH
      have hsz : (wr.alloc (.cells #[.int .i64 x.op, .int .i64 x.rd, .int .i64 x.loc, .bool x.ar, .int .u64 x.an, .bool x.br, .int .u64 x.bn, .bool x.acq, .bool x.rel, .int .i64 x.dep, .int .i64 x.pred, .int .i64 x.succ, .int .i64 x.skip] 50)).heap.size = wr.heap.size + 1 := by simp
      generalize wr.alloc (.cells #[.int .i64 x.op, .int .i64 x.rd, .int .i64 x.loc, .bool x.ar, .int .u64 x.an, .bool x.br, .int .u64 x.bn, .bool x.acq, .bool x.rel, .int .i64 x.dep, .int .i64 x.pred, .int .i64 x.succ, .int .i64 x.skip] 50) = W1 at *
      generalize wr.heap.size = xb at *
      have h3p : 1 ≤ 3 ^ j := Nat.one_le_pow _ _ (by decide)
      have h3s : 3 ^ (j + 1) = 3 * 3 ^ j := by rw [Nat.pow_succ]; omega
      have h38 : 3 ^ j ≤ 6561 := Nat.le_trans (Nat.pow_le_pow_right (by decide) (by omega : j ≤ 8)) (by decide)
      have H3 := Bx.mk (And.intro h3p (And.intro h3s h38))
      have hGT := Bx.mk (farT (G := G) hG hxg)
      have HSZ := Bx.mk hsz
      clear h3p h3s h38 hsz
      have CM := Bx.mk (fun W => refMemory_any x.op W)
      by_cases hs : 0 < sk
      · have hs1 : (0 : Int) < (sk : Int) := by omega
        have hsub : IntKind.i64.wrap ((sk : Int) - 1) = ((sk - 1 : Nat) : Int) := by
          rw [IntWalk.i64_in _ (by omega)]; omega
        obtain ⟨la, a1, a2, a3, a4⟩ := TH1.out.left
        obtain ⟨lq, lr, rfl⟩ := a1.slice
        have A1 := Bx.mk (a1.below (aset W1 (.cells #[] 3)))
        have A2 := Bx.mk a2
        have A3 := Bx.mk a3
        have hla : la.length ≤ 6561 := Nat.le_trans a3 H3.out.2.2
        have t0 := TH1.out.b0
        have x3 := cOf t0 3; have xf3 := tOf t0 3
        simp only [List.getElem?_toArray, List.getElem?_cons_zero, List.getElem?_cons_succ] at x3
        have hlw := ltOf t0
        have hlw1 := ltOf TH1.out.b1
        have R0 := Bx.mk (newRow0 W1 W1.heap.size 3 1 (Nat.le_refl _))
        clear a1 a2 a3 a4 t0
        go_upto_region 8 with (first
          | (at_builtin; refine wpList_append_rows (w := W1.alloc (.cells #[] 3)) W1.heap.size (by simp) rfl (.tmp 29) (.tmp 31) 64 3 1 8 (.int .i64 0) (by rfl) Try.underlying64 info_iR rfl (by decide) (by decide) W1.heap.size 0 0 [] (by rfl) R0.out _ la.length (nI la) (by rfl) A1.out (nI_one la) (by omega) ?_; intro g1 cap1 w1 r1 bl1 _; have R1 : Bx (w1.ownsRow W1.heap.size 3 1 (.slice (some ⟨g1, 0, none⟩) la.length cap1) la.length (nI la)) := ⟨(by simpa using r1)⟩; have BL1 := Bx.mk ((aset W1 (.cells #[] 3)).trans bl1); have s1 := BL1.out.size; clear r1 bl1)
          | (at_builtin; refine wpList_append_rows (w := w1.alloc (.cells #[.int .i64 (j : Int)] 3)) W1.heap.size (Nat.le_trans s1 (by simp)) rfl (.tmp 32) (.tmp 34) 64 3 1 8 (.int .i64 0) (by rfl) Try.underlying64 info_iR rfl (by decide) (by decide) g1 la.length cap1 (nI la) (by rfl) (R1.out.alloc _) _ 1 (nI [j]) (by rfl) (slNewR w1 #[.int .i64 (j : Int)] 3 1 1 rfl) (nI_one [j]) (by omega) ?_; intro g2 cap2 w2 r2 bl2 _; have R2 := Bx.mk r2; have BL2 := Bx.mk (((BL1.out).trans ((aset w1 (.cells #[.int .i64 (j : Int)] 3)).mono s1)).trans bl2); have x3 := cBel x3 BL2.out; have xf3 := tOf ((BL2.out.block _ (ltOf TH1.out.b0)).trans TH1.out.b0) 3; clear r2 bl2))
        obtain ⟨W2, hW2⟩ : ∃ W2, W2 = w2.setCell ⟨w.heap.size, 3, none⟩ (.slice (some ⟨g2, 0, none⟩) (la.length + 1) cap2) := ⟨_, rfl⟩
        have TB := TH1.out.below BL2.out
        have TH2 : Bx (ThrH w W2 (FarT w.heap.size G) (3 ^ (j + 1)) 10000 { s with left := s.left ||| bit1 j } R P (.slice (some ⟨g2, 0, none⟩) (la.length + 1) cap2) F) := ⟨by
          have hm : 3 ^ j ≤ 3 ^ (j + 1) := by have := H3.out; omega
          rw [hW2]
          refine (TB.mono hm).setW (fun q hq => hset hq) (by rw [heapSet' TB.b0]; rfl) (TB.regs.mono hm) (TB.path.mono hm) ?_ TB.facts (belSet TB.bel _ _ _ (Nat.le_refl _))
          refine ⟨la ++ [j], ?_, by rw [mask_app, A2.out, mask_one], by have := H3.out; have := A3.out; simp; omega, fun q _ hq => hGT.out q ?_⟩
          · have h := (rowSlIn R2.out).1
            rw [nI_app] at h
            rw [List.length_append]
            exact h
          · have := (rowLt R2.out q hq).1
            rw [HSZ.out] at this
            omega⟩
        have XI2 : Bx (W2.heap[xb]? = some (.cells #[.int .i64 x.op, .int .i64 x.rd, .int .i64 x.loc, .bool x.ar, .int .u64 x.an, .bool x.br, .int .u64 x.bn, .bool x.acq, .bool x.rel, .int .i64 x.dep, .int .i64 x.pred, .int .i64 x.succ, .int .i64 x.skip] 50 (0, 0))) := ⟨by
          rw [hW2, hset (by omega)]
          exact (BL2.out.block xb (by rw [HSZ.out]; omega)).trans XI.out⟩
        rw [← hW2]
        clear hW2 TB R1 R2 BL1 BL2 x3 xf3 A1 A2 A3 R0 XI TH1 s1 hlw hlw1 HSZ
        have x0 := cOf XI2.out 0
        simp only [List.getElem?_toArray, List.getElem?_cons_zero] at x0
        cases hM : isMem x.op with
        | false =>
          rw [hM] at CM
          go_wp2_with (go_at_call 22; ((with_reducible refine (CM.out _).mono ?_); rintro e w5 ⟨rfl, rfl⟩))
          go_roundw
          case rel =>
            have e2 : thrR c os (l.drop j) j k sk s = thrR c os (l.drop (j + 1)) (j + 1) k (sk - 1) { s with left := s.left ||| bit1 j } := by
              rw [HDR.out, thrR, if_pos hs, hM]; rfl
            exact ⟨j + 1, k, sk - 1, { s with left := s.left ||| bit1 j }, R, P, _, F, by omega, by go_num, rfl, rfl, by omega, by rw [HDR.out, memL_cons, hM] at hko; simpa using hko, SS, ⟨by rw [HT.out, e2]⟩, ⟨fun q o hq => HS.out q o (by rw [HDR.out, opsXL, hM]; simpa using hq)⟩, TH2⟩
          case measure => simp [intOf]; omega
        | true =>
          rw [hM] at CM
          have hkm : k + 1 + memL (l.drop (j + 1)) ≤ os.length := by rw [HDR.out, memL_cons, hM] at hko; simp at hko; omega
          have hkn0 : k < os.length := by omega
          have hkn : (k : Int) < (os.length : Int) := by omega
          have hk0' : (0 : Int) ≤ (k : Int) := by omega
          obtain ⟨Y, hY1, hY2, hY3⟩ := TH2.out.facts.ex
          have hYl : Y.length = os.length := by rw [← SS.out.2.2.2, ← List.length_map (f := fun y : Value × Value × Value × Fx => y.2.2.2), hY1]
          rw [hYl] at hY2
          obtain ⟨fq, fc, rfl⟩ := hY2.slice
          have HY1 := Bx.mk hY1; have HY2 := Bx.mk hY2; have HY3 := Bx.mk hY3
          have hlt := ltOf TH2.out.b1
          have hlt0 := ltOf TH2.out.b0
          have hltx := ltOf XI2.out
          have v4 := cOf TH2.out.b0 4; have vf4 := tOf TH2.out.b0 4
          simp only [List.getElem?_toArray, List.getElem?_cons_zero, List.getElem?_cons_succ] at v4
          have R0 : Bx ((W2.alloc (.cells #[] 72)).ownsRow W2.heap.size 72 8 (.slice (some ⟨W2.heap.size, 0, none⟩) 0 0) 0 []) := ⟨newRow0 W2 W2.heap.size 72 8 (Nat.le_refl _)⟩
          have AX := Bx.mk (HY2.out.below (aset W2 (.cells #[] 72)))
          clear hY1 hY2 hY3
          go_upto_region 10 with (first
            | (go_at_call 22; ((with_reducible refine (CM.out _).mono ?_); rintro e w5 ⟨rfl, rfl⟩))
            | (at_builtin; refine wpList_append_rows (w := W2.alloc (.cells #[] 72)) W2.heap.size (by simp) rfl (.tmp 40) (.tmp 42) 58 72 8 128 (.agg #[.int .i64 0, .int .i64 0, .bool false, .int .u64 0, .slice none 0 0, .slice none 0 0, .slice none 0 0, .slice none 0 0]) (by rfl) Try.underlying58 info_fx rfl (by decide) (by decide) W2.heap.size 0 0 [] (by rfl) R0.out _ os.length (Y.flatMap fxC) (by rfl) AX.out (fxC_one HY3.out) (by omega) ?_; intro g cap w4 r1 bl1 _; have R1 : Bx (w4.ownsRow W2.heap.size 72 8 (.slice (some ⟨g, 0, none⟩) os.length cap) os.length (Y.flatMap fxC)) := ⟨(by simpa using r1)⟩; have B4 := Bx.mk ((aset W2 (.cells #[] 72)).trans bl1); have y4 := cBel v4 B4.out; have yf4 := tOf ((B4.out.block _ (ltOf TH2.out.b0)).trans TH2.out.b0) 4; clear r1 bl1))
          obtain ⟨T, hT', hgB⟩ := rowHeapG R1.out
          obtain ⟨Gw, hG'⟩ : ∃ Gw, Gw = w4.setCell ⟨w.heap.size, 4, none⟩ (.slice (some ⟨g, 0, none⟩) os.length cap) := ⟨_, rfl⟩
          have HH := TH2.out.below B4.out
          have g0 : Gw.heap[w.heap.size]? = some (.cells #[R, P, .int .i64 (s.last : Int), .slice (some ⟨g2, 0, none⟩) (la.length + 1) cap2, .slice (some ⟨g, 0, none⟩) os.length cap, .bool s.known] 105 (0, 0)) := by rw [hG', heapSet' HH.b0]; rfl
          have g1' : Gw.heap[w.heap.size + 1]? = some (.cells #[.slice none 0 0, .slice none 0 0, .int .i64 0, .slice none 0 0, .slice none 0 0, .bool false] 105 (0, 0)) := by rw [hG', hset (by omega)]; exact HH.b1
          have gg : Gw.heap[g]? = some (.cells (Y.flatMap fxC ++ T).toArray 72 (0, 0)) := by rw [hG', hset (by omega)]; exact hT'
          have bG : Below w.heap.size w Gw := by rw [hG']; exact belSet HH.bel _ _ _ (Nat.le_refl _)
          have kG : ∀ q, FarT w.heap.size G q → q < W2.heap.size → Gw.heap[q]? = W2.heap[q]? := fun q hq hl => by
            have : q ≠ w.heap.size := by unfold FarT at hq; omega
            rw [hG', hset this]; exact B4.out.block q hl
          (try rw [← hG'])
          have KGW := Bx.mk kG
          clear hG' hT' R1 B4 y4 yf4 v4 vf4 R0 AX HH kG
          have x4 := cOf g0 4
          simp only [List.getElem?_toArray, List.getElem?_cons_zero, List.getElem?_cons_succ] at x4
          have rl := flat_len fxC 8 (fun _ => rfl) Y
          obtain ⟨u0, r0⟩ : ∃ u, Gw.cell? ⟨g, k * 8, none⟩ = some u := ⟨_, by rw [cOf gg]; exact Array.getElem?_eq_getElem (by rw [List.size_toArray, List.length_append, rl, hYl]; omega)⟩
          have rf0 := tOf gg (k * 8)
          obtain ⟨u1, r1⟩ : ∃ u, Gw.cell? ⟨g, k * 8 + 1, none⟩ = some u := ⟨_, by rw [cOf gg]; exact Array.getElem?_eq_getElem (by rw [List.size_toArray, List.length_append, rl, hYl]; omega)⟩
          have rf1 := tOf gg (k * 8 + 1)
          obtain ⟨u2, r2⟩ : ∃ u, Gw.cell? ⟨g, k * 8 + 2, none⟩ = some u := ⟨_, by rw [cOf gg]; exact Array.getElem?_eq_getElem (by rw [List.size_toArray, List.length_append, rl, hYl]; omega)⟩
          have rf2 := tOf gg (k * 8 + 2)
          obtain ⟨u3, r3⟩ : ∃ u, Gw.cell? ⟨g, k * 8 + 3, none⟩ = some u := ⟨_, by rw [cOf gg]; exact Array.getElem?_eq_getElem (by rw [List.size_toArray, List.length_append, rl, hYl]; omega)⟩
          have rf3 := tOf gg (k * 8 + 3)
          obtain ⟨u4, r4⟩ : ∃ u, Gw.cell? ⟨g, k * 8 + 4, none⟩ = some u := ⟨_, by rw [cOf gg]; exact Array.getElem?_eq_getElem (by rw [List.size_toArray, List.length_append, rl, hYl]; omega)⟩
          have rf4 := tOf gg (k * 8 + 4)
          obtain ⟨u5, r5⟩ : ∃ u, Gw.cell? ⟨g, k * 8 + 5, none⟩ = some u := ⟨_, by rw [cOf gg]; exact Array.getElem?_eq_getElem (by rw [List.size_toArray, List.length_append, rl, hYl]; omega)⟩
          have rf5 := tOf gg (k * 8 + 5)
          obtain ⟨u6, r6⟩ : ∃ u, Gw.cell? ⟨g, k * 8 + 6, none⟩ = some u := ⟨_, by rw [cOf gg]; exact Array.getElem?_eq_getElem (by rw [List.size_toArray, List.length_append, rl, hYl]; omega)⟩
          have rf6 := tOf gg (k * 8 + 6)
          obtain ⟨u7, r7⟩ : ∃ u, Gw.cell? ⟨g, k * 8 + 7, none⟩ = some u := ⟨_, by rw [cOf gg]; exact Array.getElem?_eq_getElem (by rw [List.size_toArray, List.length_append, rl, hYl]; omega)⟩
          have rf7 := tOf gg (k * 8 + 7)
          have GG := Bx.mk gg; have BG := Bx.mk bG; have G0 := Bx.mk g0; have G1 := Bx.mk g1'
          have hng0 : w.heap.size ≠ g := by omega
          have hng1 : w.heap.size + 1 ≠ g := by omega
          have hgx : xb ≤ g := by omega
          have HYL := Bx.mk hYl
          clear g0 g1' gg bG rl hYl
          go_upto_region 11 with fail
          obtain ⟨K, hK⟩ : ∃ K, K = Gw.setCells g (k * 8) (fxC (.slice none 0 0, .slice none 0 0, .slice none 0 0, ⟨2, 0, false, 0, 0, 0, 0⟩)) := ⟨_, rfl⟩
          have bK : Below w.heap.size w K := by rw [hK]; exact belSets (by omega) _ _ _ BG.out
          have KG : K.heap[g]? = some (.cells ((Y.set k (.slice none 0 0, .slice none 0 0, .slice none 0 0, ⟨2, 0, false, 0, 0, 0, 0⟩)).flatMap fxC ++ T).toArray 72 (0, 0)) := by rw [hK]; exact flat_setCells fxC 8 (fun _ => rfl) (.slice none 0 0, .slice none 0 0, .slice none 0 0, (⟨2, 0, false, 0, 0, 0, 0⟩ : Fx)) (by rw [HYL.out]; exact hkn0) GG.out
          have kK : ∀ q, FarT w.heap.size G q → q < W2.heap.size → K.heap[q]? = W2.heap[q]? := fun q hq hl => by
            rw [hK]; exact (heapSets' (by omega) _ _ _).trans (KGW.out q hq hl)
          have TH3 : Bx (ThrH w K (FarT w.heap.size G) (3 ^ (j + 1)) 10000 (leaveR s j k true) R P (.slice (some ⟨g2, 0, none⟩) (la.length + 1) cap2) (.slice (some ⟨g, 0, none⟩) os.length cap)) := ⟨by
            refine ⟨by rw [hK]; exact (heapSets' hng0 _ _ _).trans G0.out, by rw [hK]; exact (heapSets' hng1 _ _ _).trans G1.out, TH2.out.regs.keep kK, TH2.out.path.keep kK, TH2.out.left.keep kK, ?_, bK⟩
            have := fact_mk (G := FarT w.heap.size G) (hGT.out g hgx) (b := 10000) (c := cap) (X := Y) (T := T) (e := 72) k (.slice none 0 0, .slice none 0 0, .slice none 0 0, (⟨2, 0, false, 0, 0, 0, 0⟩ : Fx)) KG (fun y hy => (HY3.out y hy).keep kK) ⟨MaskIn.nil _ _ _, MaskIn.nil _ _ _, MaskIn.nil _ _ _⟩
            rw [HYL.out, HY1.out] at this
            exact this⟩
          have eK : ((((((((Gw.setCell ⟨g, k * 8, none⟩ (.int .i64 2)).setCell ⟨g, k * 8 + 1, none⟩ (.int .i64 0)).setCell ⟨g, k * 8 + 2, none⟩ (.bool false)).setCell ⟨g, k * 8 + 3, none⟩ (.int .u64 0)).setCell ⟨g, k * 8 + 4, none⟩ (.slice none 0 0)).setCell ⟨g, k * 8 + 5, none⟩ (.slice none 0 0)).setCell ⟨g, k * 8 + 6, none⟩ (.slice none 0 0)).setCell ⟨g, k * 8 + 7, none⟩ (.slice none 0 0)) = K := by rw [hK]; rfl
          rw [eK]
          clear x0 x4 r0 r1 r2 r3 r4 r5 r6 r7 rf0 rf1 rf2 rf3 rf4 rf5 rf6 rf7 hK eK KG bK GG BG G0 G1 KGW kK
          go_wp2_with fail
          go_roundw
          case rel =>
            have e2 : thrR c os (l.drop j) j k sk s = thrR c os (l.drop (j + 1)) (j + 1) (k + 1) (sk - 1) (leaveR s j k true) := by
              rw [HDR.out, thrR, if_pos hs, hM]; rfl
            refine ⟨j + 1, k + 1, sk - 1, leaveR s j k true, R, P, _, _, by omega, by go_num, by go_num, rfl, by omega, hkm, ⟨⟨SS.out.1, SS.out.2.1, SS.out.2.2.1, ?_⟩⟩, ⟨by rw [HT.out, e2]⟩, ⟨fun q o hq => ?_⟩, TH3⟩
            · show (s.facts.set k _).length = os.length
              rw [List.length_set]; exact SS.out.2.2.2
            · have := HS.out (q + 1) o (by rw [HDR.out, opsXL, hM]; simpa using hq)
              rw [show k + 1 + q = k + (q + 1) by omega]; exact this
          case measure => simp [intOf]; omega
      · obtain rfl : sk = 0 := by omega
        cases hM : isMem x.op with
        | true =>
          rw [hM] at CM
          have hkm : k + 1 + memL (l.drop (j + 1)) ≤ os.length := by rw [HDR.out, memL_cons, hM] at hko; simp at hko; omega
          have hkn0 : k < os.length := by omega
          have hkn : (k : Int) < (os.length : Int) := by omega
          have hk0' : (0 : Int) ≤ (k : Int) := by omega
          have hox : os[k]? = some (i, j, x) := by
            have := HS.out 0 (i, j, x) (by rw [HDR.out, opsXL, hM]; rfl)
            simpa using this
          have HOX := Bx.mk hox
          obtain ⟨rq, rqc, hRe⟩ := TH1.out.regs.slice
          rw [SS.out.2.1] at hRe
          subst hRe
          obtain ⟨pq, pn, pc, rfl⟩ := TH1.out.path.slice
          obtain ⟨lq, ln, lqc, rfl⟩ := TH1.out.left.slice
          obtain ⟨fq, fc, hFe⟩ := TH1.out.facts.slice
          rw [SS.out.2.2.2] at hFe
          subst hFe
          have x0 := cOf XI.out 0
          have t0 := cOf TH1.out.b0 0; have t1 := cOf TH1.out.b0 1; have t2 := cOf TH1.out.b0 2; have t3 := cOf TH1.out.b0 3; have t4 := cOf TH1.out.b0 4; have t5 := cOf TH1.out.b0 5
          simp only [List.getElem?_toArray, List.getElem?_cons_zero, List.getElem?_cons_succ] at x0 t0 t1 t2 t3 t4 t5
          have hrg : (List.range os.length)[k]? = some k := List.getElem?_range hkn0
          obtain ⟨rb, ro, rcc, hre, hrl, hrcl⟩ := HRV.out.at (by omega)
          obtain ⟨rfl, _, rfl⟩ := Value.slice.inj hre
          have r0 : W1.cell? ⟨rb, ro + k * 3, none⟩ = some (.bool (rdK c k)) := (TH1.out.bel.cell hrl).trans (hrcl _ _ (flatAt (fun k : Nat => ([.bool (rdK c k), .int .u64 (rdV c k : Int), .slice none 0 0] : List Value)) 3 (fun _ => rfl) _ k 0 k hrg (by decide)))
          have r1 : W1.cell? ⟨rb, ro + k * 3 + 1, none⟩ = some (.int .u64 (rdV c k : Int)) := by
            rw [Nat.add_assoc]; exact (TH1.out.bel.cell hrl).trans (hrcl _ _ (flatAt (fun k : Nat => ([.bool (rdK c k), .int .u64 (rdV c k : Int), .slice none 0 0] : List Value)) 3 (fun _ => rfl) _ k 1 k hrg (by decide)))
          have r2 : W1.cell? ⟨rb, ro + k * 3 + 2, none⟩ = some (.slice none 0 0) := by
            rw [Nat.add_assoc]; exact (TH1.out.bel.cell hrl).trans (hrcl _ _ (flatAt (fun k : Nat => ([.bool (rdK c k), .int .u64 (rdV c k : Int), .slice none 0 0] : List Value)) 3 (fun _ => rfl) _ k 2 k hrg (by decide)))
          obtain ⟨wb, wo, wcc, hwe, hwl, hwcl⟩ := HWV.out.at (by omega)
          obtain ⟨rfl, _, rfl⟩ := Value.slice.inj hwe
          have q0 : W1.cell? ⟨wb, wo + k, none⟩ = some (.bool (worksM c k)) := (TH1.out.bel.cell hwl).trans (hwcl _ _ (by rw [List.getElem?_map, hrg]; rfl))
          have CMEM := Bx.mk (memR_any W1.drew (FarT w.heap.size G) (fun q hq => hGT.out q (by have h1 := HSZ.out; have h2 : W1.drew.heap.size = W1.heap.size := rfl; omega)) (3 ^ j) 10000 H3.out.1 (by have := H3.out; omega) os hos _ ((HO.out.below TH1.out.drew.bel)) s SS.out.2.1 SS.out.2.2.1 (by rw [SS.out.2.2.2]; omega)
            rq pq lq fq rqc pn pc ln lqc os.length fc SS.out.2.2.2.symm TH1.out.drew.regs TH1.out.drew.path TH1.out.drew.left TH1.out.drew.facts k i j x hox HXN.out.1 (by rw [SS.out.2.2.2]; exact hkn0) (rdK c k) (rdV c k) (worksM c k))
          clear hre hrl hrcl hwe hwl hwcl hrg hox
          go_upto_region 13 with (go_at_call 22; ((with_reducible refine (CM.out _).mono ?_); rintro e w5 ⟨rfl, rfl⟩))
          go_still_tail 11, (by kernel_rfl)
          change wpList _ _ _ _ _ W1.drew
          go_wp2_with (go_at_call 45; ((with_reducible refine (CMEM.out).mono ?_); rintro e w7 ⟨rp2, rc2, fp2, fc2, rfl, hr7, hf7, b7⟩; have T7 := Bx.mk (TH1.out.drew.below b7); have HR7 := Bx.mk hr7; have HF7 := Bx.mk hf7; have e0 := cOf T7.out.b0 0; have e1 := cOf T7.out.b0 1; have e2 := cOf T7.out.b0 2; have e3 := cOf T7.out.b0 3; have e4 := cOf T7.out.b0 4; have e5 := cOf T7.out.b0 5; have ef0 := tOf T7.out.b0 0; have ef1 := tOf T7.out.b0 1; have ef2 := tOf T7.out.b0 2; have ef3 := tOf T7.out.b0 3; have ef4 := tOf T7.out.b0 4; have ef5 := tOf T7.out.b0 5; simp only [List.getElem?_toArray, List.getElem?_cons_zero, List.getElem?_cons_succ] at e0 e1 e2 e3 e4 e5; clear hr7 hf7 b7))
          go_roundw
          case rel =>
            have e9 : thrR c os (l.drop j) j k 0 s = thrR c os (l.drop (j + 1)) (j + 1) (k + 1) 0 (memR os s x k (rdK c k) (rdV c k) (worksM c k)) := by
              rw [HDR.out, thrR, if_neg (by omega), if_pos hM]
            obtain ⟨m1, m2, m3, m4, m5⟩ := len_mem os s x k (rdK c k) (rdV c k) (worksM c k)
            have hm : 3 ^ j ≤ 3 ^ (j + 1) := by have := H3.out; omega
            refine ⟨j + 1, k + 1, 0, memR os s x k (rdK c k) (rdV c k) (worksM c k), .slice rp2 8 rc2, .slice pq pn pc, .slice lq ln lqc, .slice fp2 os.length fc2, by omega, by go_num, by go_num, rfl, by omega, hkm, ⟨⟨SS.out.1.mem x k _ (rdV_lt HC.out k) _, by rw [m1]; exact SS.out.2.1, ?_, by rw [m4]; exact SS.out.2.2.2⟩⟩, ⟨by rw [HT.out, e9]⟩, ⟨fun q o hq => ?_⟩, ⟨?_⟩⟩
            · rcases m5 with e | e
              · rw [e]; exact SS.out.2.2.1
              · rw [e]; omega
            · have := HS.out (q + 1) o (by rw [HDR.out, opsXL, hM]; simpa using hq)
              rw [show k + 1 + q = k + (q + 1) by omega]; exact this
            · have := (T7.out.mono hm).store6 (s' := memR os s x k (rdK c k) (rdV c k) (worksM c k)) (HR7.out.mono hm) (by rw [m2]; exact T7.out.path.mono hm) (by rw [m3]; exact T7.out.left.mono hm) HF7.out
              rw [memR_known] at this
              exact this
          case measure => simp [intOf]; omega
        | false =>
          rw [hM] at CM
          by_cases h15 : x.op = 15
          ·
            have H15 := Bx.mk h15
            have x0 := cOf XI.out 0
            simp only [List.getElem?_toArray, List.getElem?_cons_zero] at x0
            rw [h15] at x0 CM
            clear h15
            go_wp2_with (go_at_call 22; ((with_reducible refine (CM.out _).mono ?_); rintro e w5 ⟨rfl, rfl⟩))
            go_roundw
            case rel =>
              have e2 : thrR c os (l.drop j) j k 0 s = thrR c os (l.drop (j + 1)) (j + 1) k 0 s := by
                rw [HDR.out, thrR, if_neg (by omega), if_neg (by rw [hM]; simp), if_pos H15.out]
              exact ⟨j + 1, k, 0, s, R, P, L, F, by omega, by go_num, rfl, rfl, by omega, by rw [HDR.out, memL_cons, hM] at hko; simpa using hko, SS, ⟨by rw [HT.out, e2]⟩, ⟨fun q o hq => HS.out q o (by rw [HDR.out, opsXL, hM]; simpa using hq)⟩, ⟨TH1.out.mono (Nat.pow_le_pow_right (by decide) (by omega))⟩⟩
            case measure => simp [intOf]; omega
          ·
            have hop : 1 ≤ x.op ∧ x.op ≤ 17 := HXN.out.2
            have h14 : ¬ (9 ≤ x.op ∧ x.op ≤ 14) := by have := isMem_eq x.op; rw [hM] at this; simpa using this.symm
            have hko2 : k + memL (l.drop (j + 1)) ≤ os.length := by rw [HDR.out, memL_cons, hM] at hko; simpa using hko
            have HS2 : Bx (∀ q o, (opsXL i (j + 1) (l.drop (j + 1)))[q]? = some o → os[k + q]? = some o) := ⟨fun q o hq => HS.out q o (by rw [HDR.out, opsXL, hM]; simpa using hq)⟩
            have HM := Bx.mk hM
            obtain ⟨rq, rqc, hRe⟩ := TH1.out.regs.slice
            rw [SS.out.2.1] at hRe
            subst hRe
            obtain ⟨pq, pn, pc, rfl⟩ := TH1.out.path.slice
            obtain ⟨lq, ln, lqc, rfl⟩ := TH1.out.left.slice
            obtain ⟨fq, fc, hFe⟩ := TH1.out.facts.slice
            rw [SS.out.2.2.2] at hFe
            subst hFe
            obtain ⟨an, han⟩ := Int.eq_ofNat_of_zero_le HXN.out.1.an.1
            obtain ⟨bn, hbn⟩ := Int.eq_ofNat_of_zero_le HXN.out.1.bn.1
            obtain ⟨a, ha⟩ : ∃ a, a = argL s.regs x.ar x.an.toNat := ⟨_, rfl⟩
            obtain ⟨b, hb⟩ : ∃ b, b = argL s.regs x.br x.bn.toNat := ⟨_, rfl⟩
            have hav : a.v < 18446744073709551616 := by rw [ha]; exact SS.out.1.arg _ (by have := HXN.out.1.an; omega)
            have hbv : b.v < 18446744073709551616 := by rw [hb]; exact SS.out.1.arg _ (by have := HXN.out.1.bn; omega)
            have HA := Bx.mk ha; have HB := Bx.mk hb
            obtain ⟨GE, hGE⟩ : ∃ GE : Nat → Prop, GE = fun q => FarT w.heap.size G q ∧ q < W1.heap.size := ⟨_, rfl⟩
            have REG : RegM W1 GE (3 ^ j) (.slice rq 8 rqc) s.regs := TH1.out.regs.imp (fun q h hl => by rw [hGE]; exact ⟨h, hl⟩)
            have CA : Bx (∀ W, Below W1.heap.size W1 W → Calls Try.prog 46 #[.agg #[.slice rq 8 rqc, .slice pq pn pc, .int .i64 (s.last : Int), .slice lq ln lqc, .slice fq os.length fc, .bool s.known], .agg #[.bool x.ar, .int .u64 (an : Int)]] W fun e w' => ∃ p m c, e = .returned (.agg #[.bool a.k, .int .u64 (a.v : Int), .slice p m c]) ∧ MaskIn w' GE (3 ^ j) (.slice p m c) a.f ∧ Below W.heap.size W w') := ⟨fun W hbw => by
              have := argR_any W GE (3 ^ j) rq rqc (.slice pq pn pc) (.slice lq ln lqc) (.slice fq os.length fc) pq lq fq pn pc ln lqc os.length fc rfl rfl rfl (s.last : Int) s.known (wkOf s.regs) SS.out.2.1 (REG.below hbw) x.ar an (fun e => by have := HXN.out.1.ar e; omega)
              rw [ha, han]; exact this⟩
            have CB : Bx (∀ W, Below W1.heap.size W1 W → Calls Try.prog 46 #[.agg #[.slice rq 8 rqc, .slice pq pn pc, .int .i64 (s.last : Int), .slice lq ln lqc, .slice fq os.length fc, .bool s.known], .agg #[.bool x.br, .int .u64 (bn : Int)]] W fun e w' => ∃ p m c, e = .returned (.agg #[.bool b.k, .int .u64 (b.v : Int), .slice p m c]) ∧ MaskIn w' GE (3 ^ j) (.slice p m c) b.f ∧ Below W.heap.size W w') := ⟨fun W hbw => by
              have := argR_any W GE (3 ^ j) rq rqc (.slice pq pn pc) (.slice lq ln lqc) (.slice fq os.length fc) pq lq fq pn pc ln lqc os.length fc rfl rfl rfl (s.last : Int) s.known (wkOf s.regs) SS.out.2.1 (REG.below hbw) x.br bn (fun e => by have := HXN.out.1.br e; omega)
              rw [hb, hbn]; exact this⟩
            have HGE := Bx.mk hGE
            have H15 := Bx.mk h15
            have x0 := cOf XI.out 0; have x3 := cOf XI.out 3; have x4 := cOf XI.out 4; have x5 := cOf XI.out 5; have x6 := cOf XI.out 6
            simp only [List.getElem?_toArray, List.getElem?_cons_zero, List.getElem?_cons_succ] at x0 x3 x4 x5 x6
            rw [han] at x4
            rw [hbn] at x6
            have t0 := cOf TH1.out.b0 0; have t1 := cOf TH1.out.b0 1; have t2 := cOf TH1.out.b0 2; have t3 := cOf TH1.out.b0 3; have t4 := cOf TH1.out.b0 4; have t5 := cOf TH1.out.b0 5
            simp only [List.getElem?_toArray, List.getElem?_cons_zero, List.getElem?_cons_succ] at t0 t1 t2 t3 t4 t5
            have d15 : decide (x.op = 15) = false := by simp [h15]
            have d15' : (x.op == 15) = false := by simp [h15]
            clear h15 ha hb hGE REG han hbn
            go_upto_region 16 with (go_at_call 22; ((with_reducible refine (CM.out _).mono ?_); rintro e w5 ⟨rfl, rfl⟩))
            clear d15 d15'
            go_cut [16, 17, 20] (fun v16 v17 jv wx => jv = .int .i64 (j : Int) ∧ ∃ (b4 b5 : Nat) (pa : Option Addr) (na ca : Nat) (pb : Option Addr) (nb cb : Nat), v16 = .pointer (some ⟨b4, 0, none⟩) ∧ v17 = .pointer (some ⟨b5, 0, none⟩) ∧ W1.heap.size ≤ b4 ∧ W1.heap.size ≤ b5 ∧ b4 ≠ b5 ∧ Bx (wx.heap[b4]? = some (.cells #[.bool a.k, .int .u64 (a.v : Int), .slice pa na ca] 70 (0, 0))) ∧ Bx (wx.heap[b5]? = some (.cells #[.bool b.k, .int .u64 (b.v : Int), .slice pb nb cb] 70 (0, 0))) ∧ Bx (MaskIn wx GE (3 ^ j) (.slice pa na ca) a.f) ∧ Bx (MaskIn wx GE (3 ^ j) (.slice pb nb cb) b.f) ∧ Bx (Below W1.heap.size W1 wx))
            case first =>
              clear x0 TH1 XI HM HS HS2 HT HRV HWV HO HL HX CM
              refine wp_region_held_drew (S := fun W => Below W1.heap.size W1 W) (by kernel_rfl) ((Below.refl _ _).drew) (fun hHeld => ?_)
              generalize W1.drew = wd at *
              refine wpAnyH_take (i := 0) (v := .agg #[.slice rq 8 rqc, .slice pq pn pc, .int .i64 (s.last : Int), .slice lq ln lqc, .slice fq os.length fc, .bool s.known]) rfl (by kernel_rfl) (by kernel_rfl) (by kernel_rfl) (fun _ _ _ h => h) (Or.inl ⟨by rfl, fun w' hw' => by have s0 := cBel t0 hw'; have s1 := cBel t1 hw'; have s2 := cBel t2 hw'; have s3 := cBel t3 hw'; have s4 := cBel t4 hw'; have s5 := cBel t5 hw'; have s6 := cBel x3 hw'; have s7 := cBel x4 hw'; have s8 := cBel x5 hw'; have s9 := cBel x6 hw'; go_simp; try rfl⟩) hHeld ?_
              (try simp only [Act.put, List.getElem_toArray, List.getElem_cons_zero, List.setIfInBounds_toArray, List.set_cons_zero, List.set_cons_succ])
              refine wpAnyH_take (i := 1) (v := .pointer (some ⟨xb, 3, none⟩)) rfl (by kernel_rfl) (by kernel_rfl) (by kernel_rfl) (fun _ _ _ h => h) (Or.inl ⟨by rfl, fun w' hw' => by have s0 := cBel t0 hw'; have s1 := cBel t1 hw'; have s2 := cBel t2 hw'; have s3 := cBel t3 hw'; have s4 := cBel t4 hw'; have s5 := cBel t5 hw'; have s6 := cBel x3 hw'; have s7 := cBel x4 hw'; have s8 := cBel x5 hw'; have s9 := cBel x6 hw'; go_simp; try rfl⟩) hHeld ?_
              (try simp only [Act.put, List.getElem_toArray, List.getElem_cons_zero, List.getElem_cons_succ, List.setIfInBounds_toArray, List.set_cons_zero, List.set_cons_succ])
              refine wpAnyH_take (i := 2) (v := .agg #[.bool x.ar, .int .u64 (an : Int)]) rfl (by kernel_rfl) (by kernel_rfl) (by kernel_rfl) (fun _ _ _ h => h) (Or.inl ⟨by rfl, fun w' hw' => by have s0 := cBel t0 hw'; have s1 := cBel t1 hw'; have s2 := cBel t2 hw'; have s3 := cBel t3 hw'; have s4 := cBel t4 hw'; have s5 := cBel t5 hw'; have s6 := cBel x3 hw'; have s7 := cBel x4 hw'; have s8 := cBel x5 hw'; have s9 := cBel x6 hw'; go_simp; try rfl⟩) hHeld ?_
              (try simp only [Act.put, List.getElem_toArray, List.getElem_cons_zero, List.getElem_cons_succ, List.setIfInBounds_toArray, List.set_cons_zero, List.set_cons_succ])
              refine wpAnyH_take (i := 4) (v := .agg #[.slice rq 8 rqc, .slice pq pn pc, .int .i64 (s.last : Int), .slice lq ln lqc, .slice fq os.length fc, .bool s.known]) rfl (by kernel_rfl) (by kernel_rfl) (by kernel_rfl) (fun _ _ _ h => h) (Or.inl ⟨by rfl, fun w' hw' => by have s0 := cBel t0 hw'; have s1 := cBel t1 hw'; have s2 := cBel t2 hw'; have s3 := cBel t3 hw'; have s4 := cBel t4 hw'; have s5 := cBel t5 hw'; have s6 := cBel x3 hw'; have s7 := cBel x4 hw'; have s8 := cBel x5 hw'; have s9 := cBel x6 hw'; go_simp; try rfl⟩) hHeld ?_
              (try simp only [Act.put, List.getElem_toArray, List.getElem_cons_zero, List.getElem_cons_succ, List.setIfInBounds_toArray, List.set_cons_zero, List.set_cons_succ])
              refine wpAnyH_take (i := 5) (v := .pointer (some ⟨xb, 5, none⟩)) rfl (by kernel_rfl) (by kernel_rfl) (by kernel_rfl) (fun _ _ _ h => h) (Or.inl ⟨by rfl, fun w' hw' => by have s0 := cBel t0 hw'; have s1 := cBel t1 hw'; have s2 := cBel t2 hw'; have s3 := cBel t3 hw'; have s4 := cBel t4 hw'; have s5 := cBel t5 hw'; have s6 := cBel x3 hw'; have s7 := cBel x4 hw'; have s8 := cBel x5 hw'; have s9 := cBel x6 hw'; go_simp; try rfl⟩) hHeld ?_
              (try simp only [Act.put, List.getElem_toArray, List.getElem_cons_zero, List.getElem_cons_succ, List.setIfInBounds_toArray, List.set_cons_zero, List.set_cons_succ])
              refine wpAnyH_take (i := 6) (v := .agg #[.bool x.br, .int .u64 (bn : Int)]) rfl (by kernel_rfl) (by kernel_rfl) (by kernel_rfl) (fun _ _ _ h => h) (Or.inl ⟨by rfl, fun w' hw' => by have s0 := cBel t0 hw'; have s1 := cBel t1 hw'; have s2 := cBel t2 hw'; have s3 := cBel t3 hw'; have s4 := cBel t4 hw'; have s5 := cBel t5 hw'; have s6 := cBel x3 hw'; have s7 := cBel x4 hw'; have s8 := cBel x5 hw'; have s9 := cBel x6 hw'; go_simp; try rfl⟩) hHeld ?_
              (try simp only [Act.put, List.getElem_toArray, List.getElem_cons_zero, List.getElem_cons_succ, List.setIfInBounds_toArray, List.set_cons_zero, List.set_cons_succ])
              refine wpAnyH_batch0 [3, 7, 8, 9] #[true, true, true, true, true, true, true, true, true, true, false, false] 2
                (fun R a' W => ∃ (v10 v14 v4 v5 : Value) (b4 b5 : Nat), a' = ⟨#[Value.agg #[R0, P0, Value.int IntKind.i64 ↑s0.last, L0, F0, Value.bool s0.known], Value.slice (some { block := ib, off := io }) l.length lc, Value.slice op os.length oc, Value.int IntKind.i64 ↑k, Value.slice rp os.length rc, Value.slice wp os.length wpc, Value.pointer (some { block := w.heap.size, off := 0 }), undef, undef, undef, undef, undef, Value.pointer (some { block := w.heap.size + 1, off := 0 }), Value.int IntKind.i64 0, Value.int IntKind.i64 ↑j, Value.pointer (some { block := xb, off := 0 }), v4, v5, Value.slice (some { block := ib, off := io }) l.length lc, Value.int IntKind.i64 ↑l.length, Value.int IntKind.i64 ↑j, Value.bool true, Value.int IntKind.i64 ↑j, Value.pointer (some { block := ib, off := io + j * 13 }), Value.agg #[Value.int IntKind.i64 x.op, Value.int IntKind.i64 x.rd, Value.int IntKind.i64 x.loc, Value.bool x.ar, Value.int IntKind.u64 x.an, Value.bool x.br, Value.int IntKind.u64 x.bn, Value.bool x.acq, Value.bool x.rel, Value.int IntKind.i64 x.dep, Value.int IntKind.i64 x.pred, Value.int IntKind.i64 x.succ, Value.int IntKind.i64 x.skip], Value.int IntKind.i64 0, Value.bool false, u27, u28, u29, u30, u31, u32, u33, u34, u35, u36, u37, u38, u39, u40, u41, u42, u43, u44, u45, u46, u47, u48, u49, u50, u51, Value.pointer (some { block := xb, off := 0 }), Value.int IntKind.i64 x.op, Value.bool false, u55, u56, u57, u58, u59, u60, u61, u62, u63, u64, u65, u66, u67, u68, Value.pointer (some { block := xb, off := 0 }), Value.int IntKind.i64 x.op, Value.bool false, .agg #[.slice rq 8 rqc, .slice pq pn pc, .int .i64 (s.last : Int), .slice lq ln lqc, .slice fq os.length fc, .bool s.known], .pointer (some ⟨xb, 3, none⟩), .agg #[.bool x.ar, .int .u64 (an : Int)], v10, .agg #[.slice rq 8 rqc, .slice pq pn pc, .int .i64 (s.last : Int), .slice lq ln lqc, .slice fq os.length fc, .bool s.known], .pointer (some ⟨xb, 5, none⟩), .agg #[.bool x.br, .int .u64 (bn : Int)], v14, u80, u81, u82, u83, u84, u85, u86, u87, u88, u89, u90, u91, u92, u93, u94, u95, u96, u97, u98, u99, u100, u101, u102, u103, u104, u105, u106, u107, u108, u109, u110, u111, u112, u113, u114, u115, u116, u117, u118, u119, u120, u121, u122, u123, u124, u125, u126, u127, u128, u129, u130, u131, u132, u133, u134, u135, u136, u137, u138, u139, u140, u141, u142, u143, u144, undef], []⟩ ∧ TwoR W1 W GE (3 ^ j) R v10 v14 v4 v5 b4 b5 a b) rfl (by kernel_rfl) (by kernel_rfl) (by decide) ⟨u75, u79, u16, u17, 0, 0, rfl, ⟨hHeld, fun h => by simp at h, fun h => by simp at h, fun h => by simp at h, fun h => by simp at h, fun h => by simp at h⟩⟩ ?_ ?_
              · intro q hq R a' W hJ hR
                obtain ⟨v10, v14, v4, v5, b4, b5, rfl, hT⟩ := hJ
                simp only [List.mem_cons, List.not_mem_nil, or_false] at hq
                have HT := Bx.mk hT
                have hHd := hT.bel
                clear hT hHeld t0 t1 t2 t3 t4 t5 x3 x4 x5 x6
                rcases hq with rfl | rfl | rfl | rfl
                · refine wpOp_stepS rfl (fun K' hK => ?_)
                  go_simp
                  go_at_call 46; ((with_reducible refine (CA.out _ hHd).mono ?_); rintro e w2 ⟨p2, n2, c2, rfl, m2, b2⟩)
                  exact hK.out _ _ ⟨bel hHd b2, _, v14, v4, v5, b4, b5, rfl, HT.out.setA b2 hR m2⟩
                · refine wpOp_stepS rfl (fun K' hK => ?_)
                  go_simp
                  go_at_call 46; ((with_reducible refine (CB.out _ hHd).mono ?_); rintro e w2 ⟨p2, n2, c2, rfl, m2, b2⟩)
                  exact hK.out _ _ ⟨bel hHd b2, v10, _, v4, v5, b4, b5, rfl, HT.out.setB b2 hR m2⟩
                · refine wpOp_stepS rfl (fun K' hK => ?_)
                  go_simp
                  exact hK.out _ _ ⟨bel hHd (aset W _), v10, v14, _, v5, W.heap.size, b5, rfl, HT.out.set4 hR⟩
                · refine wpOp_stepS rfl (fun K' hK => ?_)
                  go_simp
                  exact hK.out _ _ ⟨bel hHd (aset W _), v10, v14, v4, _, b4, W.heap.size, rfl, HT.out.set5 hR⟩
              · intro R a' W hJ h0
                obtain ⟨v10, v14, v4, v5, b4, b5, rfl, hT⟩ := hJ
                obtain ⟨hHd, hA, hB', h4, h5, h45⟩ := hT
                obtain ⟨pa, na, ca, rfl, ma⟩ := hA (h0 3 (by simp))
                obtain ⟨pb, nb, cb, rfl, mb⟩ := hB' (h0 7 (by simp))
                obtain ⟨rfl, g4, e4⟩ := h4 (h0 8 (by simp))
                obtain ⟨rfl, g5, e5⟩ := h5 (h0 9 (by simp))
                have hne := h45 (h0 8 (by simp)) (h0 9 (by simp))
                clear hA hB' h4 h5 h45 h0 hHeld t0 t1 t2 t3 t4 t5 x3 x4 x5 x6
                have y0 := cOf e4 0; have y1 := cOf e4 1; have y2 := cOf e4 2; have z0 := cOf e5 0; have z1 := cOf e5 1; have z2 := cOf e5 2
                have yf0 := tOf e4 0; have yf1 := tOf e4 1; have yf2 := tOf e4 2; have zf0 := tOf e5 0; have zf1 := tOf e5 1; have zf2 := tOf e5 2
                simp at y0 y1 y2 z0 z1 z2
                have hne2 : ¬ b5 = b4 := fun e => hne e.symm
                have E4 := Bx.mk e4; have E5 := Bx.mk e5; have HD := Bx.mk hHd; have MA := Bx.mk ma; have MB := Bx.mk mb
                clear e4 e5 ma mb
                refine wpAnyH_ready (rs := [10]) (by kernel_rfl) (by simp) ?_
                refine AllReadyH.cons rfl (fun K' hK => ?_) AllReadyH.nil
                go_simp
                refine hK.out _ _ (belSet (belSet (belSet hHd _ _ _ g4) _ _ _ g4) _ _ _ g4) (fun hHeld => ?_)
                clear hK K'
                refine wpAnyH_ready (rs := [11]) (by kernel_rfl) (by simp) ?_
                refine AllReadyH.cons rfl (fun K' hK => ?_) AllReadyH.nil
                go_simp
                refine hK.out _ _ (belSet (belSet (belSet hHeld _ _ _ g5) _ _ _ g5) _ _ _ g5) (fun hHeld2 => ?_)
                clear hK K'
                refine wpAnyH_done (by kernel_rfl) ?_ _
                go_wp2_with fail
                go_meet
                have kk : ∀ q, GE q → q < W.heap.size → ((((((W.setCell ⟨b4, 0, none⟩ (.bool a.k)).setCell ⟨b4, 1, none⟩ (.int .u64 (a.v : Int))).setCell ⟨b4, 2, none⟩ (.slice pa na ca)).setCell ⟨b5, 0, none⟩ (.bool b.k)).setCell ⟨b5, 1, none⟩ (.int .u64 (b.v : Int))).setCell ⟨b5, 2, none⟩ (.slice pb nb cb)).heap[q]? = W.heap[q]? := fun q hq _ => by
                  rw [HGE.out] at hq
                  have h1 : q ≠ b4 := by have := hq.2; omega
                  have h2 : q ≠ b5 := by have := hq.2; omega
                  rw [hset h2, hset h2, hset h2, hset h1, hset h1, hset h1]
                exact ⟨rfl, b4, b5, pa, na, ca, pb, nb, cb, rfl, rfl, g4, g5, hne, ⟨by rw [hset hne, hset hne, hset hne, heapSet' (heapSet' (heapSet' E4.out 0 _) 1 _) 2 _]; rfl⟩, ⟨by rw [heapSet' (heapSet' (heapSet' ((hset hne2).trans ((hset hne2).trans ((hset hne2).trans E5.out))) 0 _) 1 _) 2 _]; rfl⟩, ⟨MA.out.keep kk⟩, ⟨MB.out.keep kk⟩, ⟨hHeld2⟩⟩
            case rest =>
              obtain ⟨rfl, b4, b5, pa, na, ca, pb, nb, cb, rfl, rfl, g4, g5, g45, h4, h5, ma, mb, bc⟩ := hcut
              have TH2 := Bx.mk (TH1.out.below bc.out)
              have XI2 := Bx.mk ((bc.out.block _ (ltOf XI.out)).trans XI.out)
              have MA : Bx (MaskIn wc (FarT w.heap.size G) (3 ^ j) (.slice pa na ca) a.f) := ⟨ma.out.imp (fun q h _ => by rw [HGE.out] at h; exact h.1)⟩
              have MB : Bx (MaskIn wc (FarT w.heap.size G) (3 ^ j) (.slice pb nb cb) b.f) := ⟨mb.out.imp (fun q h _ => by rw [HGE.out] at h; exact h.1)⟩
              have hxw : xb < W1.heap.size := ltOf XI.out
              have hxc : xb ≤ wc.heap.size := by have := bc.out.size; omega
              have HGC : Bx (∀ W : World, wc.heap.size ≤ W.heap.size → ∀ q, W.heap.size ≤ q → FarT w.heap.size G q) := ⟨fun W hW q hq => hGT.out q (by omega)⟩
              have h4w : b4 ≠ w.heap.size := by omega
              have h5w : b5 ≠ w.heap.size := by omega
              have hxw' : xb ≠ w.heap.size := by omega
              clear ma mb bc TH1 XI x0 x3 x4 x5 x6 t0 t1 t2 t3 t4 t5 CA CB HSZ g4 g5
              have x0 := cOf XI2.out 0
              have t0 := cOf TH2.out.b0 0; have t1 := cOf TH2.out.b0 1; have t2 := cOf TH2.out.b0 2; have t3 := cOf TH2.out.b0 3; have t4 := cOf TH2.out.b0 4; have t5 := cOf TH2.out.b0 5
              have tf0 := tOf TH2.out.b0 0; have tf1 := tOf TH2.out.b0 1; have tf2 := tOf TH2.out.b0 2; have tf3 := tOf TH2.out.b0 3; have tf4 := tOf TH2.out.b0 4; have tf5 := tOf TH2.out.b0 5
              have y0 := cOf h4.out 0; have y1 := cOf h4.out 1; have y2 := cOf h4.out 2
              have z0 := cOf h5.out 0; have z1 := cOf h5.out 1; have z2 := cOf h5.out 2
              simp only [List.getElem?_toArray, List.getElem?_cons_zero, List.getElem?_cons_succ] at x0 t0 t1 t2 t3 t4 t5 y0 y1 y2 z0 z1 z2
              by_cases h17 : 15 < x.op
              ·
                have d17 : decide (15 < x.op) = true := by simpa using h17
                have H17 := Bx.mk h17
                go_upto_region 18 with fail
                go_cut [16, 17, 20] (fun v16 v17 jv wx => jv = .int .i64 (j : Int) ∧ v16 = .pointer (some ⟨b4, 0, none⟩) ∧ v17 = .pointer (some ⟨b5, 0, none⟩) ∧ ∃ (p : Option Addr) (n cc : Nat), Bx (ThrH w wx (FarT w.heap.size G) (3 ^ (j + 1)) 10000 (brR s x) (.slice rq 8 rqc) (.slice p n cc) (.slice lq ln lqc) (.slice fq os.length fc)) ∧ Bx (wx.heap[b4]? = some (.cells #[.bool a.k, .int .u64 (a.v : Int), .slice pa na ca] 70 (0, 0))) ∧ Bx (wx.heap[b5]? = some (.cells #[.bool b.k, .int .u64 (b.v : Int), .slice pb nb cb] 70 (0, 0))) ∧ Bx (wx.heap[xb]? = wc.heap[xb]?))
                case first =>
                  have J1 := Bx.mk (join_any wc.drew (FarT w.heap.size G) (HGC.out _ (Nat.le_refl _)) (3 ^ j) (3 ^ j) (by have := H3.out; omega) _ _ a.f b.f (MA.out.below (belN wc _ 1)) (MB.out.below (belN wc _ 1)))
                  have J2 : Bx (∀ W p n cc, Below wc.drew.heap.size wc.drew W → MaskIn W (FarT w.heap.size G) (3 ^ j + 3 ^ j) (.slice p n cc) (a.f ||| b.f) → Calls Try.prog 47 #[.slice pq pn pc, .slice p n cc] W fun e w' => ∃ p' n' c', e = .returned (.slice p' n' c') ∧ MaskIn w' (FarT w.heap.size G) (3 ^ j + (3 ^ j + 3 ^ j)) (.slice p' n' c') (s.path ||| (a.f ||| b.f)) ∧ Below W.heap.size W w') := ⟨fun W p n cc hbw hm => join_any W (FarT w.heap.size G) (HGC.out _ hbw.size) (3 ^ j) (3 ^ j + 3 ^ j) (by have := H3.out; omega) _ _ s.path (a.f ||| b.f) (TH2.out.drew.path.below hbw) hm⟩
                  have y2d : wc.drew.cell? ⟨b4, 2, none⟩ = some (.slice pa na ca) := y2
                  have z2d : wc.drew.cell? ⟨b5, 2, none⟩ = some (.slice pb nb cb) := z2
                  have t1d : wc.drew.cell? ⟨w.heap.size, 1, none⟩ = some (.slice pq pn pc) := t1
                  have BR : Bx (brR s x = { s with path := s.path ||| (a.f ||| b.f) }) := ⟨by unfold brR; rw [HA.out, HB.out]⟩
                  refine wp_region_held_drew (S := fun W => W.heap[b4]? = wc.drew.heap[b4]? ∧ W.heap[b5]? = wc.drew.heap[b5]?) (by kernel_rfl) ⟨rfl, rfl⟩ (fun hHeld => ?_)
                  refine wpAnyH_take (i := 0) (oi := { dst := some 83, op := Go.Op.fieldAddr 105 (Go.Operand.tmp 6) 1, type := 0, pos := "ref.go:169", after := #[], guard := none }) (v := .pointer (some ⟨w.heap.size, 1, none⟩)) rfl (by kernel_rfl) (by kernel_rfl) (by kernel_rfl) (fun _ _ _ h => h) (Or.inl ⟨by rfl, fun w' hw' => by go_simp; try rfl⟩) hHeld ?_
                  simp only [Act.put, List.setIfInBounds_toArray, List.set_cons_zero, List.set_cons_succ]
                  refine wpAnyH_take (i := 2) (oi := { dst := some 85, op := Go.Op.fieldAddr 70 (Go.Operand.tmp 16) 2, type := 0, pos := "ref.go:169", after := #[], guard := none }) (v := .pointer (some ⟨b4, 2, none⟩)) rfl (by kernel_rfl) (by kernel_rfl) (by kernel_rfl) (fun _ _ _ h => h) (Or.inl ⟨by rfl, fun w' hw' => by go_simp; try rfl⟩) hHeld ?_
                  simp only [Act.put, List.setIfInBounds_toArray, List.set_cons_zero, List.set_cons_succ]
                  refine wpAnyH_take (i := 3) (oi := { dst := some 86, op := Go.Op.load 64 (Go.Operand.tmp 85), type := 64, pos := "ref.go:169", after := #[{ on := 2, ground := Go.Ground.data }], guard := none }) (v := .slice pa na ca) rfl (by kernel_rfl) (by kernel_rfl) (by kernel_rfl) (fun _ _ _ h => h) (Or.inl ⟨by rfl, fun w' hw' => by have s1 := keepC hw'.1 y2d; go_simp; try rfl⟩) hHeld ?_
                  simp only [Act.put, List.setIfInBounds_toArray, List.set_cons_zero, List.set_cons_succ]
                  refine wpAnyH_take (i := 4) (oi := { dst := some 87, op := Go.Op.fieldAddr 70 (Go.Operand.tmp 17) 2, type := 0, pos := "ref.go:169", after := #[], guard := none }) (v := .pointer (some ⟨b5, 2, none⟩)) rfl (by kernel_rfl) (by kernel_rfl) (by kernel_rfl) (fun _ _ _ h => h) (Or.inl ⟨by rfl, fun w' hw' => by go_simp; try rfl⟩) hHeld ?_
                  simp only [Act.put, List.setIfInBounds_toArray, List.set_cons_zero, List.set_cons_succ]
                  refine wpAnyH_take (i := 5) (oi := { dst := some 88, op := Go.Op.load 64 (Go.Operand.tmp 87), type := 64, pos := "ref.go:169", after := #[{ on := 4, ground := Go.Ground.data }], guard := none }) (v := .slice pb nb cb) rfl (by kernel_rfl) (by kernel_rfl) (by kernel_rfl) (fun _ _ _ h => h) (Or.inl ⟨by rfl, fun w' hw' => by have s1 := keepC hw'.2 z2d; go_simp; try rfl⟩) hHeld ?_
                  simp only [Act.put, List.setIfInBounds_toArray, List.set_cons_zero, List.set_cons_succ]
                  refine wpAnyH_ready (rs := [1, 6]) (by kernel_rfl) (by simp) ?_
                  refine AllReadyH.cons rfl (fun K hK => ?_) (AllReadyH.cons rfl (fun K hK => ?_) AllReadyH.nil)
                  · have t1 := t1d
                    go_simp
                    refine hK.out _ _ hHeld (fun hHeld => ?_)
                    clear hK K
                    (try simp only [Act.put, List.setIfInBounds_toArray, List.set_cons_zero, List.set_cons_succ])
                    refine wpAnyH_ready (rs := [6]) (by kernel_rfl) (by simp) ?_
                    refine AllReadyH.cons rfl (fun K hK => ?_) AllReadyH.nil
                    go_simp
                    go_at_call 47; ((with_reducible refine (J1.out).mono ?_); rintro e w6 ⟨p6, n6, c6, rfl, m6, b6⟩)
                    have M6 := Bx.mk m6; have B6 := Bx.mk b6
                    refine hK.out _ _ ⟨b6.block b4 (ltOf h4.out), b6.block b5 (ltOf h5.out)⟩ (fun hHeld => ?_)
                    clear hK K b6 m6
                    (try simp only [Act.put, List.setIfInBounds_toArray, List.set_cons_zero, List.set_cons_succ])
                    refine wpAnyH_ready (rs := [7]) (by kernel_rfl) (by simp) ?_
                    refine AllReadyH.cons rfl (fun K hK => ?_) AllReadyH.nil
                    go_simp
                    go_at_call 47; ((with_reducible refine (J2.out w6 p6 n6 c6 B6.out M6.out).mono ?_); rintro e w7 ⟨p7, n7, c7, rfl, m7, b7⟩)
                    have M7 := Bx.mk m7; have B7 := Bx.mk b7; have T7 := Bx.mk ((TH2.out.drew.below B6.out).below b7)
                    have bb := bel B6.out B7.out
                    refine hK.out _ _ ⟨bb.block b4 (ltOf h4.out), bb.block b5 (ltOf h5.out)⟩ (fun hHeld => ?_)
                    clear hK K b7 m7 bb
                    (try simp only [Act.put, List.setIfInBounds_toArray, List.set_cons_zero, List.set_cons_succ])
                    refine wpAnyH_take (i := 8) (oi := { dst := some 91, op := Go.Op.fieldAddr 105 (Go.Operand.tmp 6) 1, type := 0, pos := "ref.go:169", after := #[{ on := 0, ground := Go.Ground.phase }, { on := 1, ground := Go.Ground.phase }, { on := 2, ground := Go.Ground.phase }, { on := 3, ground := Go.Ground.phase }, { on := 4, ground := Go.Ground.phase }, { on := 5, ground := Go.Ground.phase }, { on := 6, ground := Go.Ground.phase }, { on := 7, ground := Go.Ground.phase }], guard := none }) (v := .pointer (some ⟨w.heap.size, 1, none⟩)) rfl (by kernel_rfl) (by kernel_rfl) (by kernel_rfl) (fun _ _ _ h => h) (Or.inl ⟨by rfl, fun w' hw' => by go_simp; try rfl⟩) hHeld ?_
                    simp only [Act.put, List.setIfInBounds_toArray, List.set_cons_zero, List.set_cons_succ]
                    refine wpAnyH_ready (rs := [9]) (by kernel_rfl) (by simp) ?_
                    refine AllReadyH.cons rfl (fun K hK => ?_) AllReadyH.nil
                    have t1 := cOf T7.out.b0 1; have tf1 := tOf T7.out.b0 1
                    simp only [List.getElem?_toArray, List.getElem?_cons_zero, List.getElem?_cons_succ] at t1
                    go_simp
                    refine hK.out _ _ ⟨(hset h4w).trans hHeld.1, (hset h5w).trans hHeld.2⟩ (fun hHeld2 => ?_)
                    clear hK K
                    refine wpAnyH_done (by kernel_rfl) ?_ _
                    go_wp2_with fail
                    go_meet
                    have hm : 3 ^ j ≤ 3 ^ (j + 1) := by have := H3.out; omega
                    have bb := bel B6.out B7.out
                    refine ⟨rfl, rfl, rfl, p7, n7, c7, ⟨?_⟩, ⟨by rw [hset h4w]; exact (bb.block b4 (ltOf h4.out)).trans h4.out⟩, ⟨by rw [hset h5w]; exact (bb.block b5 (ltOf h5.out)).trans h5.out⟩, ⟨by rw [hset hxw']; exact bb.block xb (ltOf XI2.out)⟩⟩
                    rw [BR.out]
                    exact (T7.out.mono hm).setW (fun q hq => hset hq) (by rw [heapSet' T7.out.b0]; rfl) (T7.out.regs.mono hm) (M7.out.mono (by have := H3.out; omega)) (T7.out.left.mono hm) T7.out.facts (belSet T7.out.bel _ _ _ (Nat.le_refl _))
                  · go_simp
                    go_at_call 47; ((with_reducible refine (J1.out).mono ?_); rintro e w6 ⟨p6, n6, c6, rfl, m6, b6⟩)
                    have M6 := Bx.mk m6; have B6 := Bx.mk b6
                    refine hK.out _ _ ⟨b6.block b4 (ltOf h4.out), b6.block b5 (ltOf h5.out)⟩ (fun hHeld => ?_)
                    clear hK K b6 m6
                    (try simp only [Act.put, List.setIfInBounds_toArray, List.set_cons_zero, List.set_cons_succ])
                    refine wpAnyH_ready (rs := [1]) (by kernel_rfl) (by simp) ?_
                    refine AllReadyH.cons rfl (fun K hK => ?_) AllReadyH.nil
                    have t1 := cBel t1d B6.out
                    go_simp
                    refine hK.out _ _ hHeld (fun hHeld => ?_)
                    clear hK K
                    (try simp only [Act.put, List.setIfInBounds_toArray, List.set_cons_zero, List.set_cons_succ])
                    refine wpAnyH_ready (rs := [7]) (by kernel_rfl) (by simp) ?_
                    refine AllReadyH.cons rfl (fun K hK => ?_) AllReadyH.nil
                    go_simp
                    go_at_call 47; ((with_reducible refine (J2.out w6 p6 n6 c6 B6.out M6.out).mono ?_); rintro e w7 ⟨p7, n7, c7, rfl, m7, b7⟩)
                    have M7 := Bx.mk m7; have B7 := Bx.mk b7; have T7 := Bx.mk ((TH2.out.drew.below B6.out).below b7)
                    have bb := bel B6.out B7.out
                    refine hK.out _ _ ⟨bb.block b4 (ltOf h4.out), bb.block b5 (ltOf h5.out)⟩ (fun hHeld => ?_)
                    clear hK K b7 m7 bb
                    (try simp only [Act.put, List.setIfInBounds_toArray, List.set_cons_zero, List.set_cons_succ])
                    refine wpAnyH_take (i := 8) (oi := { dst := some 91, op := Go.Op.fieldAddr 105 (Go.Operand.tmp 6) 1, type := 0, pos := "ref.go:169", after := #[{ on := 0, ground := Go.Ground.phase }, { on := 1, ground := Go.Ground.phase }, { on := 2, ground := Go.Ground.phase }, { on := 3, ground := Go.Ground.phase }, { on := 4, ground := Go.Ground.phase }, { on := 5, ground := Go.Ground.phase }, { on := 6, ground := Go.Ground.phase }, { on := 7, ground := Go.Ground.phase }], guard := none }) (v := .pointer (some ⟨w.heap.size, 1, none⟩)) rfl (by kernel_rfl) (by kernel_rfl) (by kernel_rfl) (fun _ _ _ h => h) (Or.inl ⟨by rfl, fun w' hw' => by go_simp; try rfl⟩) hHeld ?_
                    simp only [Act.put, List.setIfInBounds_toArray, List.set_cons_zero, List.set_cons_succ]
                    refine wpAnyH_ready (rs := [9]) (by kernel_rfl) (by simp) ?_
                    refine AllReadyH.cons rfl (fun K hK => ?_) AllReadyH.nil
                    have t1 := cOf T7.out.b0 1; have tf1 := tOf T7.out.b0 1
                    simp only [List.getElem?_toArray, List.getElem?_cons_zero, List.getElem?_cons_succ] at t1
                    go_simp
                    refine hK.out _ _ ⟨(hset h4w).trans hHeld.1, (hset h5w).trans hHeld.2⟩ (fun hHeld2 => ?_)
                    clear hK K
                    refine wpAnyH_done (by kernel_rfl) ?_ _
                    go_wp2_with fail
                    go_meet
                    have hm : 3 ^ j ≤ 3 ^ (j + 1) := by have := H3.out; omega
                    have bb := bel B6.out B7.out
                    refine ⟨rfl, rfl, rfl, p7, n7, c7, ⟨?_⟩, ⟨by rw [hset h4w]; exact (bb.block b4 (ltOf h4.out)).trans h4.out⟩, ⟨by rw [hset h5w]; exact (bb.block b5 (ltOf h5.out)).trans h5.out⟩, ⟨by rw [hset hxw']; exact bb.block xb (ltOf XI2.out)⟩⟩
                    rw [BR.out]
                    exact (T7.out.mono hm).setW (fun q hq => hset hq) (by rw [heapSet' T7.out.b0]; rfl) (T7.out.regs.mono hm) (M7.out.mono (by have := H3.out; omega)) (T7.out.left.mono hm) T7.out.facts (belSet T7.out.bel _ _ _ (Nat.le_refl _))
                case rest =>
                  obtain ⟨rfl, rfl, rfl, p2, n2, c2, TH3, h4', h5', hxe⟩ := hcut
                  have XI3 := Bx.mk (hxe.out.trans XI2.out)
                  clear x0 t0 t1 t2 t3 t4 t5 tf0 tf1 tf2 tf3 tf4 tf5 y0 y1 y2 z0 z1 z2 XI2 TH2 h4 h5 hxe MA MB HGC d17
                  have x0 := cOf XI3.out 0; have x12 := cOf XI3.out 12
                  have t0 := cOf TH3.out.b0 0; have t1 := cOf TH3.out.b0 1; have t2 := cOf TH3.out.b0 2; have t3 := cOf TH3.out.b0 3; have t4 := cOf TH3.out.b0 4; have t5 := cOf TH3.out.b0 5
                  have tf5 := tOf TH3.out.b0 5
                  have y0 := cOf h4'.out 0; have y1 := cOf h4'.out 1
                  have z0 := cOf h5'.out 0; have z1 := cOf h5'.out 1
                  simp only [List.getElem?_toArray, List.getElem?_cons_zero, List.getElem?_cons_succ] at x0 x12 t0 t1 t2 t3 t4 t5 y0 y1 z0 z1
                  obtain ⟨sn, hsn⟩ := Int.eq_ofNat_of_zero_le HXN.out.1.skip.1
                  have hsn6 : sn ≤ 1000000 := by have := HXN.out.1.skip.2; omega
                  have HSN := Bx.mk hsn
                  rw [hsn] at x12
                  clear hsn
                  have EQ : Bx (thrR c os (l.drop j) j k 0 s = if a.k && b.k then thrR c os (l.drop (j + 1)) (j + 1) k (if decide (a.v = b.v) == decide (x.op = 16) then x.skip.toNat else 0) (brR s x) else { brR s x with known := false }) := ⟨by
                    rw [HDR.out, thrR, if_neg (by omega), if_neg (by rw [HM.out]; simp), if_neg H15.out, if_pos H17.out, ← HA.out, ← HB.out]⟩
                  have hlw := ltOf TH3.out.b1
                  cases hak : a.k
                  · rw [hak] at y0 EQ
                    have EQ2 : Bx (thrR c os l 0 k0 0 s0 = { brR s x with known := false }) := ⟨by rw [HT.out, EQ.out]; rfl⟩
                    clear HT EQ
                    go_upto_region 21 with fail
                    have TH4 : Bx (ThrH w (wc.setCell ⟨w.heap.size, 5, none⟩ (.bool false)) (FarT w.heap.size G) (3 ^ (j + 1)) 10000 { brR s x with known := false } (.slice rq 8 rqc) (.slice p2 n2 c2) (.slice lq ln lqc) (.slice fq os.length fc)) := ⟨TH3.out.setW (fun q hq => hset hq) (by rw [heapSet' TH3.out.b0]; rfl) TH3.out.regs TH3.out.path TH3.out.left TH3.out.facts (belSet TH3.out.bel _ _ _ (Nat.le_refl _))⟩
                    clear x0 x12 t0 t1 t2 t3 t4 t5 tf5 y0 y1 z0 z1 TH3 XI3 h4' h5' hlw
                    generalize (wc.setCell ⟨w.heap.size, 5, none⟩ (.bool false)) = wk at *
                    have k0' := TH4.out.b0
                    have k2 := TH4.out.b1
                    have x0 := cOf k0' 0; have x1 := cOf k0' 1; have x2 := cOf k0' 2; have x3 := cOf k0' 3; have x4 := cOf k0' 4; have x5 := cOf k0' 5
                    have z0 := cOf k2 0; have z1 := cOf k2 1; have z2 := cOf k2 2; have z3 := cOf k2 3; have z4 := cOf k2 4; have z5 := cOf k2 5
                    have zf0 := tOf k2 0; have zf1 := tOf k2 1; have zf2 := tOf k2 2; have zf3 := tOf k2 3; have zf4 := tOf k2 4; have zf5 := tOf k2 5
                    simp only [List.getElem?_toArray, List.getElem?_cons_zero, List.getElem?_cons_succ] at x0 x1 x2 x3 x4 x5 z0 z1 z2 z3 z4 z5
                    have hk2 := ltOf k2
                    clear k0' k2
                    go_wp2_with fail
                    have bF := (belSet (belSet (belSet (belSet (belSet (belSet TH4.out.bel (w.heap.size + 1) 0 (.slice rq 8 rqc) (by omega)) (w.heap.size + 1) 1 (.slice p2 n2 c2) (by omega)) (w.heap.size + 1) 2 (.int .i64 ((brR s x).last : Int)) (by omega)) (w.heap.size + 1) 3 (.slice lq ln lqc) (by omega)) (w.heap.size + 1) 4 (.slice fq os.length fc) (by omega)) (w.heap.size + 1) 5 (.bool false) (by omega))
                    have kF : ∀ q, FarT w.heap.size G q → q < wk.heap.size → ((((((wk.setCell ⟨w.heap.size + 1, 0, none⟩ (.slice rq 8 rqc)).setCell ⟨w.heap.size + 1, 1, none⟩ (.slice p2 n2 c2)).setCell ⟨w.heap.size + 1, 2, none⟩ (.int .i64 ((brR s x).last : Int))).setCell ⟨w.heap.size + 1, 3, none⟩ (.slice lq ln lqc)).setCell ⟨w.heap.size + 1, 4, none⟩ (.slice fq os.length fc)).setCell ⟨w.heap.size + 1, 5, none⟩ (.bool false)).heap[q]? = wk.heap[q]? := fun q hq hl => by
                      have hn : q ≠ w.heap.size + 1 := by unfold FarT at hq; omega
                      rw [hset hn, hset hn, hset hn, hset hn, hset hn, hset hn]
                    have h3 : 3 ^ (j + 1) ≤ 6561 := Nat.le_trans (Nat.pow_le_pow_right (by decide) (by omega : j + 1 ≤ 8)) (by decide)
                    refine bodyPost_ret (v := .agg #[.slice rq 8 rqc, .slice p2 n2 c2, .int .i64 ((brR s x).last : Int), .slice lq ln lqc, .slice fq os.length fc, .bool false]) (by simp [results, go_sem, z0, z1, z2, z3, z4, z5]) rfl ?_
                    rw [EQ2.out]
                    refine ⟨_, _, _, _, rfl, ?_, ?_, ?_, ?_, bF⟩
                    · exact ((TH4.out.regs.keep kF).imp fun q h _ => h.1).mono h3
                    · exact ((TH4.out.path.keep kF).imp fun q h _ => h.1).mono h3
                    · exact ((TH4.out.left.keep kF).imp fun q h _ => h.1).mono h3
                    · exact (TH4.out.facts.keep kF).imp fun q h _ => h.1
                  · rw [hak] at y0 EQ
                    cases hbk : b.k
                    · rw [hbk] at z0 EQ
                      have EQ2 : Bx (thrR c os l 0 k0 0 s0 = { brR s x with known := false }) := ⟨by rw [HT.out, EQ.out]; rfl⟩
                      clear HT EQ
                      go_upto_region 21 with fail
                      have TH4 : Bx (ThrH w (wc.setCell ⟨w.heap.size, 5, none⟩ (.bool false)) (FarT w.heap.size G) (3 ^ (j + 1)) 10000 { brR s x with known := false } (.slice rq 8 rqc) (.slice p2 n2 c2) (.slice lq ln lqc) (.slice fq os.length fc)) := ⟨TH3.out.setW (fun q hq => hset hq) (by rw [heapSet' TH3.out.b0]; rfl) TH3.out.regs TH3.out.path TH3.out.left TH3.out.facts (belSet TH3.out.bel _ _ _ (Nat.le_refl _))⟩
                      clear x0 x12 t0 t1 t2 t3 t4 t5 tf5 y0 y1 z0 z1 TH3 XI3 h4' h5' hlw
                      generalize (wc.setCell ⟨w.heap.size, 5, none⟩ (.bool false)) = wk at *
                      have k0' := TH4.out.b0
                      have k2 := TH4.out.b1
                      have x0 := cOf k0' 0; have x1 := cOf k0' 1; have x2 := cOf k0' 2; have x3 := cOf k0' 3; have x4 := cOf k0' 4; have x5 := cOf k0' 5
                      have z0 := cOf k2 0; have z1 := cOf k2 1; have z2 := cOf k2 2; have z3 := cOf k2 3; have z4 := cOf k2 4; have z5 := cOf k2 5
                      have zf0 := tOf k2 0; have zf1 := tOf k2 1; have zf2 := tOf k2 2; have zf3 := tOf k2 3; have zf4 := tOf k2 4; have zf5 := tOf k2 5
                      simp only [List.getElem?_toArray, List.getElem?_cons_zero, List.getElem?_cons_succ] at x0 x1 x2 x3 x4 x5 z0 z1 z2 z3 z4 z5
                      have hk2 := ltOf k2
                      clear k0' k2
                      go_wp2_with fail
                      have bF := (belSet (belSet (belSet (belSet (belSet (belSet TH4.out.bel (w.heap.size + 1) 0 (.slice rq 8 rqc) (by omega)) (w.heap.size + 1) 1 (.slice p2 n2 c2) (by omega)) (w.heap.size + 1) 2 (.int .i64 ((brR s x).last : Int)) (by omega)) (w.heap.size + 1) 3 (.slice lq ln lqc) (by omega)) (w.heap.size + 1) 4 (.slice fq os.length fc) (by omega)) (w.heap.size + 1) 5 (.bool false) (by omega))
                      have kF : ∀ q, FarT w.heap.size G q → q < wk.heap.size → ((((((wk.setCell ⟨w.heap.size + 1, 0, none⟩ (.slice rq 8 rqc)).setCell ⟨w.heap.size + 1, 1, none⟩ (.slice p2 n2 c2)).setCell ⟨w.heap.size + 1, 2, none⟩ (.int .i64 ((brR s x).last : Int))).setCell ⟨w.heap.size + 1, 3, none⟩ (.slice lq ln lqc)).setCell ⟨w.heap.size + 1, 4, none⟩ (.slice fq os.length fc)).setCell ⟨w.heap.size + 1, 5, none⟩ (.bool false)).heap[q]? = wk.heap[q]? := fun q hq hl => by
                        have hn : q ≠ w.heap.size + 1 := by unfold FarT at hq; omega
                        rw [hset hn, hset hn, hset hn, hset hn, hset hn, hset hn]
                      have h3 : 3 ^ (j + 1) ≤ 6561 := Nat.le_trans (Nat.pow_le_pow_right (by decide) (by omega : j + 1 ≤ 8)) (by decide)
                      refine bodyPost_ret (v := .agg #[.slice rq 8 rqc, .slice p2 n2 c2, .int .i64 ((brR s x).last : Int), .slice lq ln lqc, .slice fq os.length fc, .bool false]) (by simp [results, go_sem, z0, z1, z2, z3, z4, z5]) rfl ?_
                      rw [EQ2.out]
                      refine ⟨_, _, _, _, rfl, ?_, ?_, ?_, ?_, bF⟩
                      · exact ((TH4.out.regs.keep kF).imp fun q h _ => h.1).mono h3
                      · exact ((TH4.out.path.keep kF).imp fun q h _ => h.1).mono h3
                      · exact ((TH4.out.left.keep kF).imp fun q h _ => h.1).mono h3
                      · exact (TH4.out.facts.keep kF).imp fun q h _ => h.1
                    · rw [hbk] at z0 EQ
                      have EQ2 : Bx (thrR c os l 0 k0 0 s0 = thrR c os (l.drop (j + 1)) (j + 1) k (if decide (a.v = b.v) == decide (x.op = 16) then x.skip.toNat else 0) (brR s x)) := ⟨by rw [HT.out, EQ.out]; rfl⟩
                      clear HT EQ
                      have h167 : x.op = 16 ∨ x.op = 17 := by omega
                      clear hop h14 h17
                      rcases h167 with h16 | h16
                      · rw [h16] at x0 EQ2
                        by_cases hv : a.v = b.v
                        · rw [hv] at y1 EQ2
                          have EQ3 : Bx (thrR c os l 0 k0 0 s0 = thrR c os (l.drop (j + 1)) (j + 1) k sn (brR s x)) := ⟨by rw [EQ2.out, HSN.out]; simp⟩
                          clear hv h16
                          go_wp2_with fail
                          go_roundw
                          case rel => exact ⟨j + 1, k, sn, brR s x, _, _, _, _, by omega, by go_num, rfl, rfl, by omega, hko2, SS, EQ3, HS2, TH3⟩
                          case measure => simp [intOf]; omega
                        · have hv2 : ¬ ((a.v : Int) = (b.v : Int)) := by omega
                          have hv3 : decide ((a.v : Int) = (b.v : Int)) = false := decide_eq_false hv2
                          have hv4 : decide (a.v = b.v) = false := by simpa using hv
                          have hv5 : (a.v == b.v) = false := by simpa using hv
                          have hv6 : ((a.v : Int) == (b.v : Int)) = false := by rw [beq_eq_false_iff_ne]; exact hv2
                          have EQ3 : Bx (thrR c os l 0 k0 0 s0 = thrR c os (l.drop (j + 1)) (j + 1) k 0 (brR s x)) := ⟨by rw [EQ2.out]; simp [hv]⟩
                          clear h16
                          go_wp2_with fail
                          go_roundw
                          case rel => exact ⟨j + 1, k, 0, brR s x, _, _, _, _, by omega, by go_num, rfl, rfl, by omega, hko2, SS, EQ3, HS2, TH3⟩
                          case measure => simp [intOf]; omega
                      · rw [h16] at x0 EQ2
                        by_cases hv : a.v = b.v
                        · rw [hv] at y1 EQ2
                          have EQ3 : Bx (thrR c os l 0 k0 0 s0 = thrR c os (l.drop (j + 1)) (j + 1) k 0 (brR s x)) := ⟨by rw [EQ2.out]; simp⟩
                          clear hv h16
                          go_wp2_with fail
                          go_roundw
                          case rel => exact ⟨j + 1, k, 0, brR s x, _, _, _, _, by omega, by go_num, rfl, rfl, by omega, hko2, SS, EQ3, HS2, TH3⟩
                          case measure => simp [intOf]; omega
                        · have hv2 : ¬ ((a.v : Int) = (b.v : Int)) := by omega
                          have hv3 : decide ((a.v : Int) = (b.v : Int)) = false := decide_eq_false hv2
                          have hv4 : decide (a.v = b.v) = false := by simpa using hv
                          have hv5 : (a.v == b.v) = false := by simpa using hv
                          have hv6 : ((a.v : Int) == (b.v : Int)) = false := by rw [beq_eq_false_iff_ne]; exact hv2
                          have EQ3 : Bx (thrR c os l 0 k0 0 s0 = thrR c os (l.drop (j + 1)) (j + 1) k sn (brR s x)) := ⟨by rw [EQ2.out, HSN.out]; simp [hv]⟩
                          clear h16
                          go_wp2_with fail
                          go_roundw
                          case rel => exact ⟨j + 1, k, sn, brR s x, _, _, _, _, by omega, by go_num, rfl, rfl, by omega, hko2, SS, EQ3, HS2, TH3⟩
                          case measure => simp [intOf]; omega
              ·
                have d17 : decide (15 < x.op) = false := by simpa using h17
                have hop2 : x.op ≤ 8 := by have := H15.out; omega
                obtain ⟨rd, hrd⟩ := Int.eq_ofNat_of_zero_le HXN.out.1.rd.1
                have hrd8 : rd < 8 := by have := HXN.out.1.rd.2; omega
                have HRD := Bx.mk hrd
                have x1 := cOf XI2.out 1
                simp only [List.getElem?_toArray, List.getElem?_cons_zero, List.getElem?_cons_succ] at x1
                rw [hrd] at x1
                clear hrd
                have EQ : Bx (thrR c os l 0 k0 0 s0 = thrR c os (l.drop (j + 1)) (j + 1) k 0 (compR s x)) := ⟨by
                  rw [HT.out, HDR.out, thrR, if_neg (by omega), if_neg (by rw [HM.out]; simp), if_neg H15.out, if_neg (by omega)]⟩
                have LC := Bx.mk (len_comp s x)
                have S2 : Bx (V64 (compR s x).regs ∧ (compR s x).regs.length = 8 ∧ (compR s x).last ≤ os.length ∧ (compR s x).facts.length = os.length) := ⟨SS.out.1.comp HXN.out.1, by rw [LC.out.1]; exact SS.out.2.1, by rw [LC.out.2.1]; exact SS.out.2.2.1, by rw [LC.out.2.2.2.2.1]; exact SS.out.2.2.2⟩
                clear HT h14
                by_cases h1 : x.op = 1
                ·
                  have CR : Bx ((compR s x).regs = s.regs.set rd ⟨a.k, if a.k then a.v else 0, a.f⟩) := ⟨by unfold compR refSet; rw [if_pos h1, HRD.out, ← HA.out]; rfl⟩
                  have CS := Bx.mk (setR_any wc (FarT w.heap.size G) (HGC.out _ (Nat.le_refl _)) (3 ^ j) rq rqc pq lq fq pn pc ln lqc os.length fc (s.last : Int) s.known s.regs SS.out.2.1 TH2.out.regs rd hrd8 a.k a.v a.f pa na ca MA.out)
                  rw [h1] at x0 d17
                  go_wp2_with (go_at_call 48; ((with_reducible refine (CS.out).mono ?_); rintro e w7 ⟨rp2, rc2, rfl, hr7, b7⟩; have T7 := Bx.mk (TH2.out.below b7); have HR7 := Bx.mk hr7; have e0 := cOf T7.out.b0 0; have e1 := cOf T7.out.b0 1; have e2 := cOf T7.out.b0 2; have e3 := cOf T7.out.b0 3; have e4 := cOf T7.out.b0 4; have e5 := cOf T7.out.b0 5; have ef0 := tOf T7.out.b0 0; have ef1 := tOf T7.out.b0 1; have ef2 := tOf T7.out.b0 2; have ef3 := tOf T7.out.b0 3; have ef4 := tOf T7.out.b0 4; have ef5 := tOf T7.out.b0 5; simp only [List.getElem?_toArray, List.getElem?_cons_zero, List.getElem?_cons_succ] at e0 e1 e2 e3 e4 e5; clear hr7 b7))
                  go_roundw
                  case rel =>
                    have hm : 3 ^ j ≤ 3 ^ (j + 1) := by have := H3.out; omega
                    refine ⟨j + 1, k, 0, compR s x, .slice rp2 8 rc2, .slice pq pn pc, .slice lq ln lqc, .slice fq os.length fc, by omega, by go_num, rfl, rfl, by omega, hko2, S2, EQ, HS2, ⟨?_⟩⟩
                    have := (T7.out.mono hm).store6 (s' := compR s x) (by rw [CR.out]; exact HR7.out.mono hm) (by rw [LC.out.2.2.1]; exact T7.out.path.mono hm) (by rw [LC.out.2.2.2.1]; exact T7.out.left.mono hm) (by rw [LC.out.2.2.2.2.1]; exact T7.out.facts)
                    rw [LC.out.2.1, LC.out.2.2.2.2.2] at this
                    exact this
                  case measure => simp [intOf]; omega
                ·
                  have hop28 : 2 ≤ x.op ∧ x.op ≤ 8 := ⟨by omega, hop2⟩
                  have d1 : decide (x.op = 1) = false := by simpa using h1
                  have d1' : (x.op == 1) = false := by simpa using h1
                  have CR : Bx ((compR s x).regs = s.regs.set rd ⟨a.k && b.k, if a.k && b.k then reckM x.op a.v b.v else 0, a.f ||| b.f⟩) := ⟨by unfold compR refSet; rw [if_neg h1, HRD.out, ← HA.out, ← HB.out]; rfl⟩
                  go_upto_region 26 with fail
                  refine reg26_any w wc G HGC s SS.out.2.1 j H3 x hop28 rd hrd8 HRD a b hav hbv rq pq lq fq pa pb rqc pn pc ln lqc os.length fc na ca nb cb b4 b5 xb h4w h5w hxw' TH2 MA MB XI2 h4 h5 _ _ _ _ _ _ _ _ _ _ _ _ _ _ _ _ _ _ _ _ _ _ _ _ _ _ _ _ _ _ _ _ _ _ _ _ _ _ _ _ _ _ _ _ _ _ _ _ _ _ _ _ _ _ _ _ _ _ _ _ _ _ _ _ _ _ _ _ _ _ _ _ _ _ _ _ _ _ _ _ _ _ _ _ _ _ _ _ _ _ _ _ _ _ _ _ _ _ _ _ _ _ _ _ _ _ _ _ _ _ _ _ _ _ _ _ _ _ _ _ _ _ _ _ _ _ _ _ _ _ _ _ _ _ _ _ _ _ _ _ _ _ _ (fun _ _ _ _ h => h) (fun w7 rp2 rc2 vv121 vv122 vv123 vv124 vv125 vv126 vv127 vv128 vv129 vv130 vv131 vv132 vv133 vv134 vv135 vv136 vv137 vv138 vv139 vv140 vv141 vv142 vv143 T7 HR7 => ?_)
                  have T7 := Bx.mk T7; have HR7 := Bx.mk HR7
                  go_wp2_with fail
                  go_roundw
                  case rel =>
                    have hm : 3 ^ j ≤ 3 ^ (j + 1) := by have := H3.out; omega
                    refine ⟨j + 1, k, 0, compR s x, .slice rp2 8 rc2, .slice pq pn pc, .slice lq ln lqc, .slice fq os.length fc, by omega, by go_num, rfl, rfl, by omega, hko2, S2, EQ, HS2, ⟨?_⟩⟩
                    have := (T7.out.mono hm).store6 (s' := compR s x) (by rw [CR.out]; exact HR7.out) (by rw [LC.out.2.2.1]; exact T7.out.path.mono hm) (by rw [LC.out.2.2.2.1]; exact T7.out.left.mono hm) (by rw [LC.out.2.2.2.2.1]; exact T7.out.facts)
                    rw [LC.out.2.1, LC.out.2.2.2.2.2] at this
                    exact this
                  case measure => simp [intOf]; omega
    ·
      obtain rfl : j = l.length := by omega
      have hT : thrR c os l 0 k0 0 s0 = s := by rw [HT.out, List.drop_length]; rfl
      have HT2 := Bx.mk hT
      clear hT HT HS
      have i9 : ((l.length : Int) < (l.length : Int)) = False := by simp
      obtain ⟨r1, r2, rfl⟩ := TH.out.regs.slice
      obtain ⟨p1, p2, p3, rfl⟩ := TH.out.path.slice
      obtain ⟨l1, l2, l3, rfl⟩ := TH.out.left.slice
      obtain ⟨f1, f2, rfl⟩ := TH.out.facts.slice
      obtain ⟨rn, hrn⟩ : ∃ rn, rn = s.regs.length := ⟨_, rfl⟩
      obtain ⟨fn, hfn⟩ : ∃ fn, fn = s.facts.length := ⟨_, rfl⟩
      rw [← hrn, ← hfn] at TH
      clear hrn hfn
      have k0 := TH.out.b0
      have k2 := TH.out.b1
      have x0 := cOf k0 0; have x1 := cOf k0 1; have x2 := cOf k0 2; have x3 := cOf k0 3; have x4 := cOf k0 4; have x5 := cOf k0 5
      have z0 := cOf k2 0; have z1 := cOf k2 1; have z2 := cOf k2 2; have z3 := cOf k2 3; have z4 := cOf k2 4; have z5 := cOf k2 5
      have zf0 := tOf k2 0; have zf1 := tOf k2 1; have zf2 := tOf k2 2; have zf3 := tOf k2 3; have zf4 := tOf k2 4; have zf5 := tOf k2 5
      simp only [List.getElem?_toArray, List.getElem?_cons_zero, List.getElem?_cons_succ] at x0 x1 x2 x3 x4 x5 z0 z1 z2 z3 z4 z5
      have hk2 := ltOf k2
      clear k0 k2
      go_wp2_with fail
      have bF := (belSet (belSet (belSet (belSet (belSet (belSet TH.out.bel (w.heap.size + 1) 0 (.slice r1 rn r2) (by omega)) (w.heap.size + 1) 1 (.slice p1 p2 p3) (by omega)) (w.heap.size + 1) 2 (.int .i64 (s.last : Int)) (by omega)) (w.heap.size + 1) 3 (.slice l1 l2 l3) (by omega)) (w.heap.size + 1) 4 (.slice f1 fn f2) (by omega)) (w.heap.size + 1) 5 (.bool s.known) (by omega))
      have kF : ∀ q, FarT w.heap.size G q → q < wr.heap.size → ((((((wr.setCell ⟨w.heap.size + 1, 0, none⟩ (.slice r1 rn r2)).setCell ⟨w.heap.size + 1, 1, none⟩ (.slice p1 p2 p3)).setCell ⟨w.heap.size + 1, 2, none⟩ (.int .i64 (s.last : Int))).setCell ⟨w.heap.size + 1, 3, none⟩ (.slice l1 l2 l3)).setCell ⟨w.heap.size + 1, 4, none⟩ (.slice f1 fn f2)).setCell ⟨w.heap.size + 1, 5, none⟩ (.bool s.known)).heap[q]? = wr.heap[q]? := fun q hq hl => by
        have hn : q ≠ w.heap.size + 1 := by unfold FarT at hq; omega
        rw [hset hn, hset hn, hset hn, hset hn, hset hn, hset hn]
      have h3 : 3 ^ l.length ≤ 6561 := Nat.le_trans (Nat.pow_le_pow_right (by decide) hll) (by decide)
      refine bodyPost_ret (v := .agg #[.slice r1 rn r2, .slice p1 p2 p3, .int .i64 (s.last : Int), .slice l1 l2 l3, .slice f1 fn f2, .bool s.known]) (by simp [results, go_sem, z0, z1, z2, z3, z4, z5]) rfl ?_
      rw [HT2.out]
      refine ⟨_, _, _, _, rfl, ?_, ?_, ?_, ?_, bF⟩
      · exact ((TH.out.regs.keep kF).imp fun q h _ => h.1).mono h3
      · exact ((TH.out.path.keep kF).imp fun q h _ => h.1).mono h3
      · exact ((TH.out.left.keep kF).imp fun q h _ => h.1).mono h3
      · exact (TH.out.facts.keep kF).imp fun q h _ => h.1
end Go.Proofs.Ytccjekgbhablpaa

