/- Contracts of flow: Of. -/
import Derived.Test.YteeicedhnojdaaaFloQ
import Derived.Test.YteeicedhnojdaaaFloJ
namespace Go.Proofs.Yteeicedhnojdaaa
set_option maxRecDepth 100000
open Go.RowKit

theorem walker_cells (K : WkB) (kb k : Nat) (f : FlM) : (wkC (K.at kb k f.whole) { startM f with regs := regsJ 0 }).toArray = #[.pointer (some ⟨K.fb, 0, none⟩), K.ops, K.reads, K.works, .int .i64 (k : Int), .bool false, .int .u64 0, .int .u64 0, .bool false, .int .u64 0, .int .u64 0, .bool false, .int .u64 0, .int .u64 0, .bool false, .int .u64 0, .int .u64 0, .bool false, .int .u64 0, .int .u64 0, .bool false, .int .u64 0, .int .u64 0, .bool false, .int .u64 0, .int .u64 0, .bool false, .int .u64 0, .int .u64 0, .int .u64 0, .int .i64 0, .int .i64 0] := rfl
/-- the blocks of a flow that is new -/
def newK (b : Nat → Nat) (fb : Nat) (ops reads works : Value) : WkB := ⟨0, fb, b 1, b 3, b 5, b 7, b 9, b 11, b 13, b 15, ops, reads, works, 0, false⟩
theorem newK_blk (b : Nat → Nat) (fb : Nat) (ops reads works : Value) : ∀ i, 2 ≤ i → i < 10 → (newK b fb ops reads works).blk i = b (2 * i - 3) ∧ (2 * i - 3) ∈ ([1, 3, 5, 7, 9, 11, 13, 15] : List Nat) := by
  intro i h1 h2
  have : i = 2 ∨ i = 3 ∨ i = 4 ∨ i = 5 ∨ i = 6 ∨ i = 7 ∨ i = 8 ∨ i = 9 := by omega
  rcases this with rfl | rfl | rfl | rfl | rfl | rfl | rfl | rfl <;> exact ⟨rfl, by decide⟩
theorem newK_kd {B : Nat} (b : Nat → Nat) (fb : Nat) (ops reads works : Value) (hf : B ≤ fb) (h : ∀ i ∈ ([1, 3, 5, 7, 9, 11, 13, 15] : List Nat), B ≤ b i ∧ b i ≠ fb) (hn : ∀ i ∈ ([1, 3, 5, 7, 9, 11, 13, 15] : List Nat), ∀ j ∈ ([1, 3, 5, 7, 9, 11, 13, 15] : List Nat), i ≠ j → b i ≠ b j) : KD B (newK b fb ops reads works) := by
  refine ⟨fun i h1 h2 => ?_, fun i j h1 h2 h3 h4 hne => ?_⟩
  · by_cases e : i = 1
    · subst e; exact hf
    · obtain ⟨x, y⟩ := newK_blk b fb ops reads works i (by omega) h2
      rw [x]; exact (h _ y).1
  · by_cases e : i = 1
    · subst e
      obtain ⟨x, y⟩ := newK_blk b fb ops reads works j (by omega) h4
      rw [x]; exact fun e => (h _ y).2 e.symm
    · obtain ⟨x, y⟩ := newK_blk b fb ops reads works i (by omega) h2
      rw [x]
      by_cases e2 : j = 1
      · subst e2; exact (h _ y).2
      · obtain ⟨x2, y2⟩ := newK_blk b fb ops reads works j (by omega) h4
        rw [x2]
        exact hn _ y _ y2 (by omega)
theorem atDropF {α : Type} {l : List α} {j : Nat} {a : α} (h : l[j]? = some a) : l.drop j = a :: l.drop (j + 1) := by
  have hlt := (List.getElem?_eq_some_iff.1 h).1
  rw [List.drop_eq_getElem_cons hlt]
  rw [List.getElem?_eq_getElem hlt] at h
  rw [Option.some.inj h]

theorem info_w : (Try.prog.info? 104).map (·.size) = some 32 := by kernel_rfl
set_option maxHeartbeats 25600000 in
theorem flowOf_any (b : Nat) (t : TestM) (hk : TestOk t) (hs : ∀ l ∈ t.locs, l.1.length ≤ 1000000000) (hg : chkTest t = 0) (hn : NumOk t) (c : CtxM) (hco : CtxOk c) (rv wv : Value) (w : World) (h : TestAt w b t) (hrv : SlIn w rv 2 c.reads.length (nV c.reads)) (hwv : SlIn w wv 1 c.works.length (c.works.map Value.bool)) :
    Calls Try.prog 14 #[.pointer (some ⟨b, 0, none⟩), rv, wv] w fun e w' => ∃ K : WkB, e = .returned (.pointer (some ⟨K.fb, 0, none⟩)) ∧ FlIn w' K (memT t.thr) t.thr.length (flowM c t.thr) ∧ KD w.heap.size K ∧ Below w.heap.size w w' := by
  obtain ⟨hl4, hl8⟩ := good_len hg
  have hnn : memT t.thr ≤ 32 := by have := memT_le 8 t.thr hl8; omega
  have hins := good_insN hg hn
  have ck := fun W hW => check_test b t hk hs W hW
  rw [hg] at ck
  have co := fun W hW => ops_any b t hk W hW
  have cb := fun W => blank_any (memT t.thr) t.thr.length (by omega) (by omega) W
  have hol := opsM_len t.thr 0
  obtain ⟨lv, tv, av, h0, h1, h2, ⟨hx1, ⟨vs, hvl, hth, hvi⟩, hx2⟩⟩ := h
  obtain ⟨tp, tc, rfl⟩ := hth.slice
  obtain ⟨rp, rc, rfl⟩ := hrv.slice
  obtain ⟨wp, wc, rfl⟩ := hwv.slice
  have HT : Bx (TestAt w b t) := ⟨⟨lv, _, av, h0, h1, h2, ⟨hx1, ⟨vs, hvl, hth, hvi⟩, hx2⟩⟩⟩
  obtain ⟨R, hR⟩ : ∃ R, R = flowM c t.thr := ⟨_, rfl⟩
  rw [← hR]
  have CK := Bx.mk ck; have CO := Bx.mk co; have CB := Bx.mk cb; have HL8 := Bx.mk hl8; have HIN := Bx.mk hins; have HTH := Bx.mk hth; have HVL := Bx.mk hvl; have HVI := Bx.mk hvi; have HRV := Bx.mk hrv; have HWV := Bx.mk hwv; have HCO := Bx.mk hco; have HR := Bx.mk hR; have HOL := Bx.mk hol; have H1 := Bx.mk h1
  clear ck co cb hl8 hins hth hvl hvi hrv hwv hco hR hol h0 h1 h2 hx1 hx2 hk hs hg hn
  obtain ⟨n, hnd⟩ : ∃ n, n = memT t.thr := ⟨_, rfl⟩
  obtain ⟨m, hmd⟩ : ∃ m, m = t.thr.length := ⟨_, rfl⟩
  rw [← hnd, ← hmd] at CB
  rw [← hmd] at H1 HTH HVL hl4
  rw [← hnd] at HOL hnn
  rw [← hnd, ← hmd]
  have HND := Bx.mk hnd; have HMD := Bx.mk hmd
  clear hnd hmd
  go_enter Try.func14, Try.ntmps14
  go_upto_region 5 with (first
    | (go_at_call 9; ((with_reducible refine (CK.out _ HT.out).mono ?_); rintro e w1 ⟨rfl, hb1⟩; have B1 := Bx.mk hb1; clear hb1))
    | (go_at_call 11; ((with_reducible refine (CO.out _ (HT.out.below B1.out)).mono ?_); rintro e w2 ⟨u, rfl, hrow, hb2⟩; rw [HOL.out] at hrow; obtain ⟨up, uc, rfl⟩ := rowSlice hrow; have ROW := Bx.mk hrow; have B2 := Bx.mk (bel B1.out hb2); have q1 := cBel H1.out (bel B1.out hb2); clear hrow hb2))
    | (go_at_call 28; ((with_reducible refine (CB.out _).mono ?_); rintro e w3 ⟨bf, fb, rfl, hb3, hfb, hbf, hbn, hfo⟩; have q1 := cBel q1 hb3; have g8 := cOf hfo 8; have gf8 := tOf hfo 8; simp only [List.getElem?_toArray, List.getElem?_cons_zero, List.getElem?_cons_succ] at g8; have B3 := Bx.mk hb3; have HBF := Bx.mk hbf; have HBN := Bx.mk hbn; have HFO := Bx.mk hfo; have HFB := Bx.mk hfb; clear hb3 hbf hbn hfo hfb)))
  obtain ⟨K, hK⟩ : ∃ K, K = newK bf fb (.slice up n uc) (.slice rp c.reads.length rc) (.slice wp c.works.length wc) := ⟨_, rfl⟩
  have kd : KD w2.heap.size K := by rw [hK]; exact newK_kd _ _ _ _ _ HFB.out (fun i hi => ⟨(HBF.out i hi).1, (HBF.out i hi).2.1⟩) HBN.out
  have F3 : FlIn w3 K n m (blankM n m false) := by
    rw [hK]
    exact ⟨HFO.out, (HBF.out 1 (by decide)).2.2, (HBF.out 3 (by decide)).2.2, (HBF.out 5 (by decide)).2.2, (HBF.out 7 (by decide)).2.2, (HBF.out 9 (by decide)).2.2, (HBF.out 11 (by decide)).2.2, (HBF.out 13 (by decide)).2.2, (HBF.out 15 (by decide)).2.2⟩
  have hKe : K.fb = fb ∧ K.ops = .slice up n uc ∧ K.reads = .slice rp c.reads.length rc ∧ K.works = .slice wp c.works.length wc := by rw [hK]; exact ⟨rfl, rfl, rfl, rfl⟩
  obtain ⟨kf, ko, kr, kw⟩ := hKe
  subst kf
  have OPS : Bx (SlIn w2 K.ops 2 n ((opsM 0 t.thr).flatMap opC)) := ⟨by rw [ko]; exact (rowSlIn ROW.out).1⟩
  have RDS : Bx (SlIn w2 K.reads 2 c.reads.length (nV c.reads)) := ⟨by rw [kr]; exact HRV.out.below B2.out⟩
  have WKS : Bx (SlIn w2 K.works 1 c.works.length (c.works.map Value.bool)) := ⟨by rw [kw]; exact HWV.out.below B2.out⟩
  have KO := Bx.mk ko; have KR := Bx.mk kr; have KW := Bx.mk kw; have KDD := Bx.mk kd; have FF3 := Bx.mk F3
  clear hK kd F3 ko kr kw HFB HBF HBN HFO
  go_upto_region 6 with fail
  obtain ⟨G, hG⟩ : ∃ G, G = w3.setCell ⟨K.fb, 8, none⟩ (.bool true) := ⟨_, rfl⟩
  have FG : Bx (FlIn G K n m (blankM n m true)) := ⟨by rw [hG]; exact FF3.out.setWh KDD.out true⟩
  have BG : Bx (Below w2.heap.size w2 G) := ⟨by rw [hG]; exact belSet B3.out _ _ _ (KDD.out.ge 1 (by decide) (by decide))⟩
  rw [← hG]
  have q1 := cBel H1.out (bel B2.out BG.out)
  clear hG g8 gf8 FF3 B3 CB CO CK
  go_wp2_with fail
  go_loopw [35] (fun q wx => ∃ (k : Nat) (f : FlM), q = .int .i64 (k : Int) ∧ k ≤ m ∧ Bx (FlIn wx K n m f) ∧ Bx (FlOk n m f) ∧ Bx (Below w2.heap.size w2 wx) ∧ Bx (thrsM c (t.thr.drop k) k (memT (t.thr.take k)) f = R)) (fun q _ => m - (intOf q).toNat)
  case atStart => exact ⟨0, _, rfl, by omega, FG, ⟨blank_ok n m true⟩, BG, ⟨by rw [HR.out, HND.out, HMD.out]; simp [memT, flowM]⟩⟩
  case round =>
    obtain ⟨k, f, rfl, hkm, hF, hok, hbw, hrr⟩ := hrel
    by_cases hlt : k < m
    · obtain ⟨bb, off, c', hv, hbl, hcl⟩ := HTH.out.at (by omega)
      obtain ⟨rfl, _, rfl⟩ := Value.slice.inj hv
      obtain ⟨u, hvk⟩ : ∃ u, vs[k]? = some u := ⟨_, List.getElem?_eq_getElem (by rw [HVL.out]; exact hlt)⟩
      obtain ⟨l, hlk, hsl⟩ := HVI.out k u hvk
      obtain ⟨ip, ic, rfl⟩ := hsl.slice
      have hll := HL8.out l (List.mem_of_getElem? hlk)
      have bw0 := bel B2.out hbw.out
      have r0 : wr.cell? ⟨bb, off + k, none⟩ = some (.slice ip l.length ic) := (bw0.cell hbl).trans (hcl k _ hvk)
      have hmt := memT_take hlk
      have hmle := memT_take_le hlk
      rw [← HND.out] at hmle
      have e := hrr.out
      rw [atDropF hlk, thrsM, ← hmt] at e
      obtain ⟨E, hE⟩ : ∃ E, E = wr.alloc (.cells #[.pointer (some ⟨K.fb, 0, none⟩), .slice up n uc, .slice rp c.reads.length rc, .slice wp c.works.length wc, .int .i64 (k : Int), .bool false, .int .u64 0, .int .u64 0, .bool false, .int .u64 0, .int .u64 0, .bool false, .int .u64 0, .int .u64 0, .bool false, .int .u64 0, .int .u64 0, .bool false, .int .u64 0, .int .u64 0, .bool false, .int .u64 0, .int .u64 0, .bool false, .int .u64 0, .int .u64 0, .bool false, .int .u64 0, .int .u64 0, .int .u64 0, .int .i64 0, .int .i64 0] 104) := ⟨_, rfl⟩
      have WK : WkIn E (K.at wr.heap.size k f.whole) n m { startM f with regs := regsJ 0 } := by rw [hE]; exact hF.out.walker k (by rw [walker_cells, KO.out, KR.out, KW.out])
      have bE : Below wr.heap.size wr E := by rw [hE]; exact aset _ _
      have okk : KOk w2.heap.size (K.at wr.heap.size k f.whole) := at_ok KDD.out _ _ _ hbw.out.size (hF.out.lt)
      have cw := walk_any w2 (K.at wr.heap.size k f.whole) okk n m { startM f with regs := regsJ 0 } hok.out.wk rfl (opsM 0 t.thr) c HCO.out hlt l (.slice ip l.length ic) (by omega) (HIN.out l (List.mem_of_getElem? hlk)) (memT (t.thr.take k)) (fun j x hx hm => opIs_of hlk hx hm) hmle (by omega) E (bel hbw.out bE) WK ⟨RDS.out, WKS.out⟩ ⟨by rw [HOL.out]; exact OPS.out, by rw [HOL.out]; omega⟩ (hsl.below B2.out)
      have hsf : ({ ({ startM f with regs := regsJ 0 } : WkM) with regs := regs0 } : WkM) = startM f := rfl
      rw [hsf] at cw
      obtain ⟨k0, hk0⟩ : ∃ k0, k0 = memT (t.thr.take k) := ⟨_, rfl⟩
      rw [← hk0] at cw e hmle
      obtain ⟨S, hS⟩ : ∃ S, S = walkM c k l 0 k0 0 (startM f) := ⟨_, rfl⟩
      have hSok : WkOk n m S := by rw [hS]; exact walk_ok HCO.out k l 0 k0 0 (startM f) (HIN.out l (List.mem_of_getElem? hlk)) hmle hok.out.wk
      have hth2 : thrM c k k0 l f = ⟨S.state, S.wr, S.pair, S.place, S.value, S.fpath, S.left, f.regs.set k (valsM S.regs), f.whole && allK (valsM S.regs)⟩ := by rw [hS]; rfl
      have hfo : FlOk n m (thrM c k k0 l f) := thr_ok HCO.out k k0 l f (HIN.out l (List.mem_of_getElem? hlk)) hmle hok.out
      have cw2 : Calls Try.prog 29 #[.pointer (some ⟨wr.heap.size, 0, none⟩), .slice ip l.length ic] E fun e w' => e = .returned (.tuple #[]) ∧ WkIn w' (K.at wr.heap.size k f.whole) n m S ∧ Fp (K.at wr.heap.size k f.whole) E w' := by rw [hS]; exact cw
      have RGE : E.heap[K.rg]? = some (.cells (rgC f.regs).toArray 76 (0, 0)) := (bE.block _ (ltOf hF.out.rg)).trans hF.out.rg
      have CW := Bx.mk cw2; have OKK := Bx.mk okk; have BE := Bx.mk (bel hbw.out bE); have E2 := Bx.mk e; have SOK := Bx.mk hSok; have TH2 := Bx.mk hth2; have HFO := Bx.mk hfo; have RGE2 := Bx.mk RGE
      have hkb : ∀ i, 1 ≤ i → i < 10 → K.blk i < wr.heap.size := hF.out.lt
      have HKB := Bx.mk hkb
      have hs8 : S.regs.length = 8 := hSok.regs
      have hfl : f.regs.length = m := hok.out.rl
      have R8 := Bx.mk hok.out.r8
      clear hcl hv hvk hlk hsl bw0 e cw cw2 okk bE hsf hS hSok hth2 hfo WK RGE hF hok hbw hrr hmt hk0 hkb
      have TH : Bx ((wr.alloc (.cells #[.pointer none, .slice none 0 0, .slice none 0 0, .slice none 0 0, .int .i64 0, .bool false, .int .u64 0, .int .u64 0, .bool false, .int .u64 0, .int .u64 0, .bool false, .int .u64 0, .int .u64 0, .bool false, .int .u64 0, .int .u64 0, .bool false, .int .u64 0, .int .u64 0, .bool false, .int .u64 0, .int .u64 0, .bool false, .int .u64 0, .int .u64 0, .bool false, .int .u64 0, .int .u64 0, .int .u64 0, .int .i64 0, .int .i64 0] 104)).there wr.heap.size 0 32) := ⟨thrNew wr #[.pointer none, .slice none 0 0, .slice none 0 0, .slice none 0 0, .int .i64 0, .bool false, .int .u64 0, .int .u64 0, .bool false, .int .u64 0, .int .u64 0, .bool false, .int .u64 0, .int .u64 0, .bool false, .int .u64 0, .int .u64 0, .bool false, .int .u64 0, .int .u64 0, .bool false, .int .u64 0, .int .u64 0, .bool false, .int .u64 0, .int .u64 0, .bool false, .int .u64 0, .int .u64 0, .int .u64 0, .int .i64 0, .int .i64 0] 104⟩
      have FN : Bx ((wr.alloc (.cells #[.pointer none, .slice none 0 0, .slice none 0 0, .slice none 0 0, .int .i64 0, .bool false, .int .u64 0, .int .u64 0, .bool false, .int .u64 0, .int .u64 0, .bool false, .int .u64 0, .int .u64 0, .bool false, .int .u64 0, .int .u64 0, .bool false, .int .u64 0, .int .u64 0, .bool false, .int .u64 0, .int .u64 0, .bool false, .int .u64 0, .int .u64 0, .bool false, .int .u64 0, .int .u64 0, .int .u64 0, .int .i64 0, .int .i64 0] 104)).setCells wr.heap.size 0 (#[.pointer (some ⟨K.fb, 0, none⟩), .slice up n uc, .slice rp c.reads.length rc, .slice wp c.works.length wc, .int .i64 (k : Int), .bool false, .int .u64 0, .int .u64 0, .bool false, .int .u64 0, .int .u64 0, .bool false, .int .u64 0, .int .u64 0, .bool false, .int .u64 0, .int .u64 0, .bool false, .int .u64 0, .int .u64 0, .bool false, .int .u64 0, .int .u64 0, .bool false, .int .u64 0, .int .u64 0, .bool false, .int .u64 0, .int .u64 0, .int .u64 0, .int .i64 0, .int .i64 0] : Array Value).toList = E) := ⟨by rw [hE]; exact fillNew wr 104 _ _ rfl⟩
      have ON : Bx ((#[.pointer (some ⟨K.fb, 0, none⟩), .slice up n uc, .slice rp c.reads.length rc, .slice wp c.works.length wc, .int .i64 (k : Int), .bool false, .int .u64 0, .int .u64 0, .bool false, .int .u64 0, .int .u64 0, .bool false, .int .u64 0, .int .u64 0, .bool false, .int .u64 0, .int .u64 0, .bool false, .int .u64 0, .int .u64 0, .bool false, .int .u64 0, .int .u64 0, .bool false, .int .u64 0, .int .u64 0, .bool false, .int .u64 0, .int .u64 0, .int .u64 0, .int .i64 0, .int .i64 0] : Array Value).all (·.oneCell') = true) := ⟨by simp [Value.oneCell']⟩
      clear hE
      go_upto_region 10 with (first
        | ((with_reducible refine st_at 104 (.tmp 11) (.tmp 45) ?_); refine wpList_store_mid rfl 104 (.tmp 11) (.tmp 45) (by rfl) wr.heap.size 0 #[.pointer (some ⟨K.fb, 0, none⟩), .slice up n uc, .slice rp c.reads.length rc, .slice wp c.works.length wc, .int .i64 (k : Int), .bool false, .int .u64 0, .int .u64 0, .bool false, .int .u64 0, .int .u64 0, .bool false, .int .u64 0, .int .u64 0, .bool false, .int .u64 0, .int .u64 0, .bool false, .int .u64 0, .int .u64 0, .bool false, .int .u64 0, .int .u64 0, .bool false, .int .u64 0, .int .u64 0, .bool false, .int .u64 0, .int .u64 0, .int .u64 0, .int .i64 0, .int .i64 0] (by rfl) (by rfl) TH.out info_w ON.out ?_; rw [FN.out]))
      go_upto_region 11 with (go_at_call 29; ((with_reducible refine (CW.out).mono ?_); rintro e w6 ⟨rfl, wk6, f6⟩; have W6 := Bx.mk wk6; have F6 := Bx.mk f6; clear wk6 f6))
      have rg6 : w6.heap[K.rg]? = some (.cells (rgC f.regs).toArray 76 (0, 0)) := (F6.out.kept K.rg (ltOf RGE2.out) (fun i hi => OKK.out.nd 9 i (by omega) (by omega) (by omega))).trans RGE2.out
      have fl6 : FlIn w6 K n m ⟨S.state, S.wr, S.pair, S.place, S.value, S.fpath, S.left, f.regs, f.whole⟩ := W6.out.flow rg6
      have b6 := F6.out.below OKK.out BE.out
      have cv := fun W (hW : WkIn W (K.at wr.heap.size k f.whole) n m S) => values_any (K.at wr.heap.size k f.whole) n m S hs8 W hW
      obtain ⟨V, hV⟩ : ∃ V, V = valsM S.regs := ⟨_, rfl⟩
      rw [← hV] at cv
      have hVl : V.length = 8 := by rw [hV]; exact vals_len hs8
      have hvl : (nV V).length = 16 := by rw [nV_len, hVl]
      have IV : (Try.prog.info? 76).map (·.size) = some (nV V).length := by rw [hvl]; exact info_v8
      have IV2 : (Try.prog.info? 76).map (·.size) = some (nV V).toArray.size := by rw [IV]; simp
      have ON2 := Bx.mk (all_oneCell_toArray (nV_one V))
      have q7 : w6.cell? ⟨K.fb, 7, none⟩ = some (.slice (some ⟨K.rg, 0, none⟩) m m) := by rw [cOf fl6.fb]; rfl
      have CV : Bx (∀ W, WkIn W (K.at wr.heap.size k f.whole) n m S → Calls Try.prog 30 #[.pointer (some ⟨wr.heap.size, 0, none⟩)] W fun e w' => e = .returned (.agg (nV V).toArray) ∧ Below W.heap.size W w') := ⟨cv⟩
      have FL6 := Bx.mk fl6.drew; have B6 : Bx (Below w2.heap.size w2 w6.drew) := ⟨⟨b6.os, b6.tape, b6.output, b6.size, b6.block⟩⟩; have W6D := Bx.mk W6.out.drew; have HV := Bx.mk hV
      have hki : (k : Int) < (m : Int) := by omega
      have hki0 : (0 : Int) ≤ (k : Int) := by omega
      clear cv hV fl6 b6 rg6 W6 F6 CW
      refine wp_region_held_drew (S := fun W => W.cell? ⟨K.fb, 7, none⟩ = some (.slice (some ⟨K.rg, 0, none⟩) m m)) (by kernel_rfl) q7 (fun hHeld => ?_)
      generalize w6.drew = wd at *
      clear q7
      refine wpAnyH_take (i := 0) (v := .pointer (some ⟨K.fb, 0, none⟩)) rfl (by kernel_rfl) (by kernel_rfl) (by kernel_rfl) (fun _ _ _ h => h) (Or.inl ⟨by rfl, fun w' hw' => by go_simp; try rfl⟩) hHeld ?_
      (try simp only [Act.put, List.getElem_toArray, List.getElem_cons_zero, List.setIfInBounds_toArray, List.set_cons_zero, List.set_cons_succ])
      refine wpAnyH_take (i := 1) (v := .pointer (some ⟨K.fb, 0, none⟩)) rfl (by kernel_rfl) (by kernel_rfl) (by kernel_rfl) (fun _ _ _ h => h) (Or.inl ⟨by rfl, fun w' hw' => by go_simp; try rfl⟩) hHeld ?_
      (try simp only [Act.put, List.getElem_toArray, List.getElem_cons_succ, List.getElem_cons_zero, List.setIfInBounds_toArray, List.set_cons_zero, List.set_cons_succ])
      refine wpAnyH_take (i := 2) (v := .pointer (some ⟨K.fb, 7, none⟩)) rfl (by kernel_rfl) (by kernel_rfl) (by kernel_rfl) (fun _ _ _ h => h) (Or.inl ⟨by rfl, fun w' hw' => by go_simp; try rfl⟩) hHeld ?_
      (try simp only [Act.put, List.getElem_toArray, List.getElem_cons_succ, List.getElem_cons_zero, List.setIfInBounds_toArray, List.set_cons_zero, List.set_cons_succ])
      refine wpAnyH_take (i := 3) (v := .slice (some ⟨K.rg, 0, none⟩) m m) rfl (by kernel_rfl) (by kernel_rfl) (by kernel_rfl) (fun _ _ _ h => h) (Or.inl ⟨by rfl, fun w' hw' => by dsimp only at hw'; go_simp; try rfl⟩) hHeld ?_
      (try simp only [Act.put, List.getElem_toArray, List.getElem_cons_succ, List.getElem_cons_zero, List.setIfInBounds_toArray, List.set_cons_zero, List.set_cons_succ])
      refine wpAnyH_take (i := 4) (v := .int .i64 (k : Int)) rfl (by kernel_rfl) (by kernel_rfl) (by kernel_rfl) (fun _ _ _ h => h) (Or.inl ⟨by rfl, fun w' hw' => by go_simp; try rfl⟩) hHeld ?_
      (try simp only [Act.put, List.getElem_toArray, List.getElem_cons_succ, List.getElem_cons_zero, List.setIfInBounds_toArray, List.set_cons_zero, List.set_cons_succ])
      refine wpAnyH_ready (rs := [5]) (by kernel_rfl) (by simp) ?_
      refine AllReadyH.cons rfl (fun K' hK => ?_) AllReadyH.nil
      go_simp
      go_at_call 30
      refine (CV.out wd W6D.out).mono ?_
      rintro e w7 ⟨rfl, b7⟩
      have fl7 := FL6.out.bel b7
      have q7 : w7.cell? ⟨K.fb, 7, none⟩ = some (.slice (some ⟨K.rg, 0, none⟩) m m) := by rw [cOf fl7.fb]; rfl
      have TH7 : Bx (w7.there K.rg (k * 16) (nV V).toArray.size) := ⟨by simp only [List.size_toArray, hvl]; exact thr_rg fl7 R8.out (by show k < f.regs.length; omega)⟩
      have FL7 := Bx.mk fl7; have B7 := Bx.mk (bel B6.out b7)
      clear fl7 b7
      refine hK.out _ _ q7 (fun hHeld2 => ?_)
      clear hK K' hHeld
      (try simp only [Act.put, List.getElem_toArray, List.getElem_cons_succ, List.getElem_cons_zero, List.setIfInBounds_toArray, List.set_cons_zero, List.set_cons_succ])
      refine wpAnyH_take (i := 6) (v := .pointer (some ⟨K.rg, k * 16, none⟩)) rfl (by kernel_rfl) (by kernel_rfl) (by kernel_rfl) (fun _ _ _ h => h) (Or.inl ⟨by rfl, fun w' hw' => by go_simp; try rfl⟩) hHeld2 ?_
      (try simp only [Act.put, List.getElem_toArray, List.getElem_cons_succ, List.getElem_cons_zero, List.setIfInBounds_toArray, List.set_cons_zero, List.set_cons_succ])
      refine wpAnyH_ready (rs := [7]) (by kernel_rfl) (by simp) ?_
      refine AllReadyH.cons rfl (fun K' hK => ?_) AllReadyH.nil
      rw [if_pos (by rfl)]
      refine wp_store_mid 76 (.tmp 54) (.tmp 53) rfl K.rg (k * 16) (nV V).toArray (by rfl) (by rfl) TH7.out IV2 ON2.out ?_
      have FL8 : Bx (FlIn (w7.setCells K.rg (k * 16) (nV V).toArray.toList) K n m ⟨S.state, S.wr, S.pair, S.place, S.value, S.fpath, S.left, f.regs.set k V, f.whole⟩) := ⟨FL7.out.setRg KDD.out R8.out k (by show k < f.regs.length; omega) V hVl⟩
      have B8 : Bx (Below w2.heap.size w2 (w7.setCells K.rg (k * 16) (nV V).toArray.toList)) := ⟨belSets (KDD.out.ge 9 (by decide) (by decide)) _ _ _ B7.out⟩
      generalize w7.setCells K.rg (k * 16) (nV V).toArray.toList = w8 at *
      refine hK.out _ _ (by rw [cOf FL8.out.fb]; rfl) (fun hHeld3 => ?_)
      clear hK K' hHeld2 TH7 FL7 B7 ON2 IV2 q7
      refine wpAnyH_done (by kernel_rfl) ?_ _
      (try simp only [Act.put, List.getElem_toArray, List.getElem_cons_succ, List.getElem_cons_zero])
      have q7 : w8.cell? ⟨K.fb, 7, none⟩ = some (.slice (some ⟨K.rg, 0, none⟩) m m) := by rw [cOf FL8.out.fb]; rfl
      have q8 : w8.cell? ⟨K.fb, 8, none⟩ = some (.bool f.whole) := by rw [cOf FL8.out.fb]; rfl
      have qf8 := tOf FL8.out.fb 8
      have RNG : Bx (w8.rangeAt K.rg (k * 16) (nV V)) := ⟨rng_rg FL8.out (fun x hx => by
        rcases List.mem_or_eq_of_mem_set hx with h | rfl
        · exact R8.out x h
        · exact hVl) (by rw [List.getElem?_set_self (by omega)])⟩
      have hu2 := Try.underlying76
      have ca := Bx.mk (fun W => allKnown_any V hVl W)
      clear hHeld3
      have FIN : Bx (thrM c k k0 l f = ⟨S.state, S.wr, S.pair, S.place, S.value, S.fpath, S.left, f.regs.set k V, f.whole && allK V⟩) := ⟨by rw [TH2.out, HV.out]⟩
      have HQ7 := Bx.mk (KDD.out.ge 1 (by decide) (by decide))
      cases hwh : f.whole
      · rw [hwh] at q8 FIN
        go_wp2_with fail
        go_roundw
        case rel => exact ⟨k + 1, thrM c k k0 l f, by go_num, by omega, ⟨by rw [FIN.out]; exact FL8.out.setWh KDD.out false⟩, HFO, ⟨belSet B8.out _ _ _ HQ7.out⟩, E2⟩
        case measure => simp [intOf] <;> omega
      · rw [hwh] at q8 FIN
        obtain ⟨r, hr⟩ : ∃ r, r = allK V := ⟨_, rfl⟩
        rw [← hr] at ca FIN
        clear hr
        go_wp2_with (first
          | ((with_reducible refine ld_at 76 (.tmp 66) ?_); refine ld_wanted (by rfl) 76 (.tmp 66) (by rfl) K.rg (k * 16) (by rfl) (nV V) _ RNG.out hu2 rfl IV ?_)
          | (go_at_call 31; ((with_reducible refine (ca.out _).mono ?_); rintro e w9 ⟨rfl, b9⟩; have FL9 := Bx.mk (FL8.out.bel b9); have B9 := Bx.mk (bel B8.out b9); have qf9 := tOf FL9.out.fb 8; have q9 : w9.cell? ⟨K.fb, 8, none⟩ = some (.bool f.whole) := (by rw [cOf FL9.out.fb]; rfl); clear b9)))
        go_roundw
        case rel => exact ⟨k + 1, thrM c k k0 l f, by go_num, by omega, ⟨by rw [FIN.out]; exact FL9.out.setWh KDD.out r⟩, HFO, ⟨belSet B9.out _ _ _ HQ7.out⟩, E2⟩
        case measure => simp [intOf] <;> omega
    · have hkm2 : k = m := by omega
      have e : f = R := by
        have e := hrr.out
        rw [hkm2, HMD.out, List.drop_length] at e
        exact e
      have EE := Bx.mk e
      clear e hrr
      go_wp2_with fail
      go_ret
      exact ⟨K, rfl, by rw [← EE.out]; exact hF.out, ⟨fun i h1 h2 => Nat.le_trans B2.out.size (KDD.out.ge i h1 h2), KDD.out.nd⟩, bel B2.out hbw.out⟩
end Go.Proofs.Yteeicedhnojdaaa
