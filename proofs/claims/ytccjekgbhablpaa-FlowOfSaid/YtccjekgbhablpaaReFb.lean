/- The reference's flow: an Op is carried out: the walk. -/
import Derived.Test.YtccjekgbhablpaaReFa
namespace Go.Proofs.Ytccjekgbhablpaa
set_option maxRecDepth 100000
open Go.RowKit

set_option maxHeartbeats 25600000 in
theorem memR_any (w : World) (G : Nat → Prop) (hG : ∀ k, w.heap.size ≤ k → G k) (b fb : Nat) (hb1 : 1 ≤ b) (hbf : b ≤ fb) (os : List (Nat × Nat × Ins)) (hos : os.length ≤ 1000) (ov : Value) (ho : SlIn w ov 15 os.length (os.flatMap opX)) (s : RefSt) (h8 : s.regs.length = 8) (hlast : s.last ≤ os.length) (hfl : s.facts.length ≤ 1000)
    (rp pp lp fp : Option Addr) (rc pn pc ln lc fn fc : Nat) (hfn : fn = s.facts.length) (hr : RegM w G b (.slice rp 8 rc) s.regs) (hp : MaskIn w G b (.slice pp pn pc) s.path) (hl : MaskIn w G b (.slice lp ln lc) s.left) (hf : FactM w G fb (.slice fp fn fc) s.facts)
    (k : Nat) (i a : Nat) (x : Ins) (hx : os[k]? = some (i, a, x)) (hxn : InsN x) (hkf : k < s.facts.length) (rk : Bool) (rv : Nat) (works : Bool) :
    Calls Try.prog 45 #[.agg #[.slice rp 8 rc, .slice pp pn pc, .int .i64 (s.last : Int), .slice lp ln lc, .slice fp fn fc, .bool s.known], ov, .int .i64 (k : Int), .agg #[.bool rk, .int .u64 (rv : Int), .slice none 0 0], .bool works] w fun e w' =>
      ∃ rp' rc' fp' fc', e = .returned (.agg #[.slice rp' 8 rc', .slice pp pn pc, .int .i64 ((memR os s x k rk rv works).last : Int), .slice lp ln lc, .slice fp' fn fc', .bool s.known]) ∧ RegM w' G b (.slice rp' 8 rc') (memR os s x k rk rv works).regs ∧ FactM w' G fb (.slice fp' fn fc') (memR os s x k rk rv works).facts ∧ Below w.heap.size w w' := by
  have hkl := (List.getElem?_eq_some_iff.1 hx).1
  obtain ⟨ob, oo, oc, rfl, hbl, hcl⟩ := ho.at (by omega)
  have RX : w.rangeAt ob (oo + k * 15 + 2) (insC x) := rngOpX hcl hx
  have hki : (k : Int) < (os.length : Int) := by omega
  have hk0 : (0 : Int) ≤ (k : Int) := by omega
  have lt' : ∀ q, q < w.heap.size → Far w.heap.size G q ∨ ¬ G q := fun q hq => by
    by_cases h : G q
    · exact .inl ⟨h, .inl hq⟩
    · exact .inr h
  have FI : ∀ q, G q → q < w.heap.size → Far w.heap.size G q := fun q h hq => ⟨h, .inl hq⟩
  have hr2 := hr.imp FI
  have hp2 := hp.imp FI
  have hl2 := hl.imp FI
  have hf2 := hf.imp FI
  obtain ⟨W1, hW1⟩ : ∃ W1, W1 = ((w.alloc (.cells #[.slice rp 8 rc, .slice pp pn pc, .int .i64 (s.last : Int), .slice lp ln lc, .slice fp fn fc, .bool s.known] 105)).alloc (.cells #[.bool rk, .int .u64 (rv : Int), .slice none 0 0] 70)).alloc (.cells #[.slice none 0 0, .slice none 0 0, .int .i64 0, .slice none 0 0, .slice none 0 0, .bool false] 105) := ⟨_, rfl⟩
  have z1 : W1.heap.size = w.heap.size + 1 + 1 + 1 := by rw [hW1]; simp
  have bW1 : Below w.heap.size w W1 := by rw [hW1]; exact bel (bel (aset _ _) (aset _ _)) (aset _ _)
  have d0 : W1.heap[w.heap.size]? = some (.cells #[.slice rp 8 rc, .slice pp pn pc, .int .i64 (s.last : Int), .slice lp ln lc, .slice fp fn fc, .bool s.known] 105 (0, 0)) := by
    rw [hW1]; exact ((aset _ _).block _ (by first | (simp; done) | (simp; omega))).trans (((aset _ _).block _ (by first | (simp; done) | (simp; omega))).trans (heap_alloc_new _ _))
  have d1 : W1.heap[w.heap.size + 1]? = some (.cells #[.bool rk, .int .u64 (rv : Int), .slice none 0 0] 70 (0, 0)) := by
    have q := heap_alloc_new (w.alloc (.cells #[.slice rp 8 rc, .slice pp pn pc, .int .i64 (s.last : Int), .slice lp ln lc, .slice fp fn fc, .bool s.known] 105)) (.cells #[.bool rk, .int .u64 (rv : Int), .slice none 0 0] 70)
    have z : (w.alloc (.cells #[.slice rp 8 rc, .slice pp pn pc, .int .i64 (s.last : Int), .slice lp ln lc, .slice fp fn fc, .bool s.known] 105)).heap.size = w.heap.size + 1 := by simp
    rw [z] at q
    rw [hW1]; exact ((aset _ _).block _ (ltOf q)).trans q
  have d2 : W1.heap[w.heap.size + 1 + 1]? = some (.cells #[.slice none 0 0, .slice none 0 0, .int .i64 0, .slice none 0 0, .slice none 0 0, .bool false] 105 (0, 0)) := by
    have q := heap_alloc_new ((w.alloc (.cells #[.slice rp 8 rc, .slice pp pn pc, .int .i64 (s.last : Int), .slice lp ln lc, .slice fp fn fc, .bool s.known] 105)).alloc (.cells #[.bool rk, .int .u64 (rv : Int), .slice none 0 0] 70)) (.cells #[.slice none 0 0, .slice none 0 0, .int .i64 0, .slice none 0 0, .slice none 0 0, .bool false] 105)
    have z : ((w.alloc (.cells #[.slice rp 8 rc, .slice pp pn pc, .int .i64 (s.last : Int), .slice lp ln lc, .slice fp fn fc, .bool s.known] 105)).alloc (.cells #[.bool rk, .int .u64 (rv : Int), .slice none 0 0] 70)).heap.size = w.heap.size + 1 + 1 := by simp
    rw [z] at q
    rw [hW1]; exact q
  obtain ⟨W2, hW2⟩ : ∃ W2, W2 = W1.alloc (.cells (insC x).toArray 50) := ⟨_, rfl⟩
  have z2 : W2.heap.size = w.heap.size + 1 + 1 + 1 + 1 := by rw [hW2]; simp [z1]
  have b12 : Below W1.heap.size W1 W2 := by rw [hW2]; exact aset _ _
  have d3 : W2.heap[w.heap.size + 1 + 1 + 1]? = some (.cells (insC x).toArray 50 (0, 0)) := by rw [hW2, ← z1]; exact heap_alloc_new _ _
  obtain ⟨W3, hW3⟩ : ∃ W3, W3 = W2.alloc (.cells #[.int .i64 1, .int .i64 0, .bool false, .int .u64 0, .slice none 0 0, .slice none 0 0, .slice none 0 0, .slice pp pn pc] 72) := ⟨_, rfl⟩
  have b23 : Below W2.heap.size W2 W3 := by rw [hW3]; exact aset _ _
  have b13 := bel b12 b23
  have bw3 := bel bW1 b13
  have d4 : W3.heap[w.heap.size + 1 + 1 + 1 + 1]? = some (.cells #[.int .i64 1, .int .i64 0, .bool false, .int .u64 0, .slice none 0 0, .slice none 0 0, .slice none 0 0, .slice pp pn pc] 72 (0, 0)) := by rw [hW3, ← z2]; exact heap_alloc_new _ _
  have MH : MemH w W3 (Far w.heap.size G) b fb x rk rv s (mF0 s) (.slice rp 8 rc) (.slice pp pn pc) (.slice lp ln lc) (.slice fp fn fc) (.slice none 0 0) (.slice none 0 0) (.slice pp pn pc) :=
    ⟨(b13.block _ (ltOf d0)).trans d0, (b13.block _ (ltOf d1)).trans d1, (b13.block _ (ltOf d2)).trans d2, (b23.block _ (ltOf d3)).trans d3, d4, hr2.below bw3, hp2.below bw3, hl2.below bw3, hf2.below bw3, ⟨MaskIn.nil _ _ _, MaskIn.nil _ _ _, (hp2.below bw3).mono hbf⟩, bw3⟩
  have TH3 : Bx ((W1.alloc (.cells #[.int .i64 0, .int .i64 0, .int .i64 0, .bool false, .int .u64 0, .bool false, .int .u64 0, .bool false, .bool false, .int .i64 0, .int .i64 0, .int .i64 0, .int .i64 0] 50)).there (w.heap.size + 1 + 1 + 1) 0 13) := ⟨by rw [← z1]; exact thrNew W1 #[.int .i64 0, .int .i64 0, .int .i64 0, .bool false, .int .u64 0, .bool false, .int .u64 0, .bool false, .bool false, .int .i64 0, .int .i64 0, .int .i64 0, .int .i64 0] 50⟩
  have FN3 : Bx ((W1.alloc (.cells #[.int .i64 0, .int .i64 0, .int .i64 0, .bool false, .int .u64 0, .bool false, .int .u64 0, .bool false, .bool false, .int .i64 0, .int .i64 0, .int .i64 0, .int .i64 0] 50)).setCells (w.heap.size + 1 + 1 + 1) 0 (insC x).toArray.toList = W2) := ⟨by rw [← z1, hW2]; exact fillNew W1 50 _ (insC x) rfl⟩
  have IO := Bx.mk (all_oneCell_toArray (insOne x))
  have RX1 := Bx.mk (rngBel RX bW1)
  have hu := Try.underlying50
  have MM := Bx.mk MH
  have x0 := cOf d0 0; have x1 := cOf d0 1
  have HOL : Bx (SlIn w (.slice (some ⟨ob, oo, none⟩) os.length oc) 15 os.length (os.flatMap opX)) := ⟨ho⟩
  have HXN := Bx.mk hxn; have HX := Bx.mk hx
  have hkfn : k < fn := by omega
  have hfn1 : fn ≤ 1000 := by omega
  have HFN := Bx.mk hfn
  have HW3 := Bx.mk hW3.symm
  have HZ1 := Bx.mk z1; have HZ2 := Bx.mk z2
  have B12 := Bx.mk b12
  have y1 : W2.cell? ⟨w.heap.size, 1, none⟩ = some (.slice pp pn pc) := by rw [cOf ((b12.block _ (ltOf d0)).trans d0)]; rfl
  clear hcl RX lt' FI hr hp hl hf hr2 hp2 hl2 hf2 ho d0 d1 d2 d3 d4 bW1 b12 b23 b13 bw3 MH hx hxn x0 x1 hfn hW2 hW3
  go_enter Try.func45, Try.ntmps45
  go_upto_region 1 with fail
  rw [← hW1]
  clear hW1
  go_upto_region 2 with (first
    | ((with_reducible refine ld_at 50 (.tmp 17) ?_); refine wpList_load_mid rfl 50 (.tmp 17) (by rfl) ob (oo + k * 15 + 2) (by rfl) (insC x) _ RX1.out hu rfl info_ri ?_)
    | ((with_reducible refine st_at 50 (.tmp 11) (.tmp 18) ?_); refine wpList_store_mid rfl 50 (.tmp 11) (.tmp 18) (by rfl) (w.heap.size + 1 + 1 + 1) 0 (insC x).toArray (by rfl) (by rfl) TH3.out info_ri IO.out ?_; rw [FN3.out]))
  go_upto_region 3 with fail
  rw [HW3.out]
  clear z1 z2 HW3 TH3 FN3 RX1 y1 HZ1 HZ2 B12
  have mu0 := cOf MM.out.b0 0; have mu9 := cOf MM.out.b3 9; have mu4 := tOf MM.out.b4 5; have mu45 := cOf MM.out.b4 5
  simp only [List.getElem?_toArray, List.getElem?_cons_zero, List.getElem?_cons_succ, insC] at mu0 mu9 mu45
  go_upto_if 24 with fail
  go_cut [] (fun wx => ∃ p4 n4 c4 p5 n5 c5 p6 n6 c6, Bx (MemH w wx (Far w.heap.size G) b fb x rk rv s (mF1 s x) (.slice rp 8 rc) (.slice pp pn pc) (.slice lp ln lc) (.slice fp fn fc) (.slice p4 n4 c4) (.slice p5 n5 c5) (.slice p6 n6 c6)))
  case first =>
    by_cases h : 0 < x.dep
    · obtain ⟨d, hd⟩ := Int.eq_ofNat_of_zero_le (show 0 ≤ x.dep - 1 by omega)
      have hdep : x.dep = ((d + 1 : Nat) : Int) := by omega
      have hd8 : d < 8 := by have := HXN.out.dep.2; omega
      obtain ⟨c, hc⟩ : ∃ c, s.regs[d]? = some c := ⟨_, List.getElem?_eq_getElem (by omega)⟩
      obtain ⟨rb, ro, rcap, sv, hrv, hrl, hrm, r0, r1, r2⟩ := MM.out.regs.at hc
      rw [h8] at hrv
      obtain ⟨rfl, _, rfl⟩ := Value.slice.inj hrv
      obtain ⟨sp, sn, sc, rfl⟩ := hrm.slice
      have hm1 : mF1 s x = { mF0 s with pl := c.f } := by
        unfold mF1 cnAt
        rw [if_pos h, List.getD_eq_getElem?_getD, show x.dep.toNat - 1 = d by omega, hc]; rfl
      rw [hdep] at mu9
      have hx0 : decide (0 < x.dep) = true := by simpa using h
      have hw1 : IntKind.i64.wrap (d : Int) = (d : Int) := by rw [IntKind.wrap_i64]; omega
      have hdi : (d : Int) < 8 := by omega
      have hd0 : (0 : Int) ≤ (d : Int) := by omega
      have HM1 := Bx.mk hm1; have HRM := Bx.mk hrm
      clear hd hc hrv hrm hm1 h
      go_wp2_with fail
      go_meet
      refine ⟨sp, sn, sc, none, 0, 0, pp, pn, pc, ⟨?_⟩⟩
      rw [HM1.out]
      exact MM.out.setF (fun q hq => hset hq) (by rw [heapSet' MM.out.b4]; rfl) ⟨HRM.out.mono hbf, MM.out.fx.va, MM.out.fx.pa⟩ (belSet MM.out.bel _ _ _ (by omega))
    · have hm1 : mF1 s x = mF0 s := by unfold mF1; rw [if_neg h]
      have HM1 := Bx.mk hm1
      have hx0 : decide (0 < x.dep) = false := by simpa using h
      clear hm1
      go_wp2_with fail
      go_meet
      exact ⟨none, 0, 0, none, 0, 0, pp, pn, pc, ⟨by rw [HM1.out]; exact MM.out⟩⟩
  case rest =>
    obtain ⟨p4, n4, c4, p5, n5, c5, p6, n6, c6, HA⟩ := hcut
    clear MM mu0 mu9 mu4 mu45
    have v0 := cOf HA.out.b0 0; have v1 := cOf HA.out.b0 1; have v2 := cOf HA.out.b0 2; have v3 := cOf HA.out.b0 3; have v4 := cOf HA.out.b0 4; have v5 := cOf HA.out.b0 5
    have i0 := cOf HA.out.b3 0; have i3 := cOf HA.out.b3 3; have i4 := cOf HA.out.b3 4
    simp only [List.getElem?_toArray, List.getElem?_cons_zero, List.getElem?_cons_succ, insC] at v0 v1 v2 v3 v4 v5 i0 i3 i4
    obtain ⟨an, han⟩ := Int.eq_ofNat_of_zero_le HXN.out.an.1
    have han8 : x.ar = true → an < 8 := fun e => by have := HXN.out.ar e; omega
    rw [han] at i4
    have ca := argR_any wc (Far w.heap.size G) b rp rc (.slice pp pn pc) (.slice lp ln lc) (.slice fp fn fc) pp lp fp pn pc ln lc fn fc rfl rfl rfl (s.last : Int) s.known (wkOf s.regs) h8 HA.out.regs x.ar an han8
    have eA : argM (wkOf s.regs) x.ar an = mA s x := by unfold mA argL; rw [han]; rfl
    rw [eA] at ca
    have CA := Bx.mk ca
    have HAN := Bx.mk han
    clear ca eA han
    have CW := Bx.mk (fun W => refWrites_any x.op W)
    go_upto_if 40 with (first
      | (go_at_call 46; ((with_reducible refine (CA.out).mono ?_); rintro e w7 ⟨sp, sn, sc, rfl, hm7, b7⟩; have i0 := cBel i0 b7; have g7 : w.heap.size + 1 + 1 + 1 < w7.heap.size := Nat.lt_of_lt_of_le (ltOf HA.out.b3) b7.size; have M7 := Bx.mk hm7; have B7 := Bx.mk b7; clear hm7 b7))
      | (go_at_call 77; ((with_reducible refine (CW.out _).mono ?_); rintro e w8 ⟨rfl, b8⟩; have B8 := Bx.mk b8; clear b8)))
    obtain ⟨A, hA⟩ : ∃ A, A = mA s x := ⟨_, rfl⟩
    rw [← hA] at M7 B8 ⊢
    have VA : Bx (ValA w.heap.size w8 (Far w.heap.size G) b w7.heap.size A (.slice sp sn sc)) := ⟨by
      have q := heap_alloc_new w7 (.cells #[.bool A.k, .int .u64 (A.v : Int), .slice sp sn sc] 70)
      have g := ltOf HA.out.b4
      have g2 := B7.out.size
      exact ⟨(B8.out.block _ (ltOf q)).trans q, by omega, M7.out.below (bel (aset _ _) B8.out)⟩⟩
    have HB := Bx.mk (HA.out.below (bel B7.out (bel (aset _ _) B8.out)))
    have HAA := Bx.mk hA
    clear HA CA M7 B7 B8 v0 v1 v2 v3 v4 v5 i0 i3 i4 hA
    generalize w7.heap.size = ab at *
    have a0 := cOf VA.out.hp 0; have a1 := cOf VA.out.hp 1; have a2 := cOf VA.out.hp 2
    have f2 := cOf HB.out.b4 2; have f3 := cOf HB.out.b4 3; have f4 := cOf HB.out.b4 4; have f6 := cOf HB.out.b4 6
    have ff2 := tOf HB.out.b4 2; have ff3 := tOf HB.out.b4 3; have ff4 := tOf HB.out.b4 4; have ff6 := tOf HB.out.b4 6
    simp only [List.getElem?_toArray, List.getElem?_cons_zero, List.getElem?_cons_succ] at a0 a1 a2 f2 f3 f4 f6
    have hfa : w.heap.size + 1 + 1 + 1 + 1 ≠ ab := by have := VA.out.ge; omega
    have hfa2 : ab ≠ w.heap.size + 1 + 1 + 1 + 1 := by omega
    go_cut [] (fun wx => ∃ p4 n4 c4 p5 n5 c5 p6 n6 c6, Bx (MemH w wx (Far w.heap.size G) b fb x rk rv s (mF2 s x) (.slice rp 8 rc) (.slice pp pn pc) (.slice lp ln lc) (.slice fp fn fc) (.slice p4 n4 c4) (.slice p5 n5 c5) (.slice p6 n6 c6)) ∧ Bx (ValA w.heap.size wx (Far w.heap.size G) b ab A (.slice sp sn sc)))
    case first =>
      cases hkw : kwr x.op
      · have hm2 : mF2 s x = mF1 s x := by unfold mF2; rw [hkw]; rfl
        have HM2 := Bx.mk hm2
        clear hm2
        go_wp2_with fail
        go_meet
        exact ⟨p4, n4, c4, p5, n5, c5, p6, n6, c6, ⟨by rw [HM2.out]; exact HB.out⟩, VA⟩
      · have hm2 : mF2 s x = { mF1 s x with wk := A.k, wv := A.v, va := A.f } := by unfold mF2; rw [hkw, ← HAA.out]; rfl
        have HM2 := Bx.mk hm2
        clear hm2
        go_wp2_with fail
        go_meet
        refine ⟨p4, n4, c4, sp, sn, sc, p6, n6, c6, ⟨?_⟩, ⟨VA.out.keep (fun q hq => (hset (by omega)).trans ((hset (by omega)).trans ((hset (by omega)).trans (hset (by omega)))))⟩⟩
        rw [HM2.out]
        refine HB.out.setF (fun q hq => (hset hq).trans ((hset hq).trans ((hset hq).trans (hset hq)))) ?_ ⟨HB.out.fx.pl, VA.out.m.mono hbf, HB.out.fx.pa⟩ (belSet (belSet (belSet (belSet HB.out.bel _ _ _ (by omega)) _ _ _ (by omega)) _ _ _ (by omega)) _ _ _ (by omega))
        rw [heapSet' (heapSet' (heapSet' (heapSet' HB.out.b4 _ _) _ _) _ _) _ _]; rfl
    case rest =>
      clear HB VA a0 a1 a2 f2 f3 f4 f6 ff2 ff3 ff4 ff6
      obtain ⟨p4, n4, c4, p5, n5, c5, p6, n6, c6, HB, VA⟩ := hcut
      have a0 := cOf VA.out.hp 0; have a1 := cOf VA.out.hp 1
      have i0 := cOf HB.out.b3 0
      have r0 := cOf HB.out.b1 0; have r1 := cOf HB.out.b1 1
      have f2 := cOf HB.out.b4 2; have f3 := cOf HB.out.b4 3; have f4 := cOf HB.out.b4 4
      have ff2 := tOf HB.out.b4 2; have ff3 := tOf HB.out.b4 3; have ff4 := tOf HB.out.b4 4
      simp only [List.getElem?_toArray, List.getElem?_cons_zero, List.getElem?_cons_succ, insC] at a0 a1 i0 r0 r1 f2 f3 f4
      go_upto_if 52 with fail
      go_cut [] (fun wx => ∃ p4 n4 c4 p5 n5 c5 p6 n6 c6, Bx (MemH w wx (Far w.heap.size G) b fb x rk rv s (mF3 s x rk rv) (.slice rp 8 rc) (.slice pp pn pc) (.slice lp ln lc) (.slice fp fn fc) (.slice p4 n4 c4) (.slice p5 n5 c5) (.slice p6 n6 c6)) ∧ Bx (ValA w.heap.size wx (Far w.heap.size G) b ab A (.slice sp sn sc)))
      case first =>
        by_cases h12 : x.op = 12
        · have hm3 : mF3 s x rk rv = { mF2 s x with wk := A.k && rk, wv := addM A.v rv } := by unfold mF3; rw [if_pos h12, ← HAA.out]
          have HM3 := Bx.mk hm3
          have hq : (x.op == 12) = true := by rw [h12]; rfl
          have hs := u64add (a := A.v) (b := rv)
          obtain ⟨y, hy⟩ : ∃ y, y = addM A.v rv := ⟨_, rfl⟩
          have hs' : IntKind.u64.wrap ((A.v : Int) + (rv : Int)) = (y : Int) := by rw [hy]; exact hs
          have HY := Bx.mk hy
          obtain ⟨kk, hkk⟩ : ∃ kk, kk = (A.k && rk) := ⟨_, rfl⟩
          have HKK := Bx.mk hkk
          have hkc : (A.k = true ∧ rk = kk) ∨ (A.k = false ∧ kk = false) := by
            cases hA : A.k
            · right; rw [hkk, hA]; exact ⟨rfl, rfl⟩
            · left; rw [hkk, hA]; exact ⟨rfl, by simp⟩
          have fin : MemH w ((((wc.setCell ⟨w.heap.size + 1 + 1 + 1 + 1, 2, none⟩ (.bool kk)).setCell ⟨w.heap.size + 1 + 1 + 1 + 1, 3, none⟩ (.int .u64 (y : Int))).setCell ⟨w.heap.size + 1 + 1 + 1 + 1, 4, none⟩ (.slice none 0 0))) (Far w.heap.size G) b fb x rk rv s (mF3 s x rk rv) (.slice rp 8 rc) (.slice pp pn pc) (.slice lp ln lc) (.slice fp fn fc) (.slice p4 n4 c4) (.slice p5 n5 c5) (.slice p6 n6 c6) := by
            rw [HM3.out, ← hkk, ← hy]
            refine HB.out.setF (fun q hq => (hset hq).trans ((hset hq).trans (hset hq))) ?_ ⟨HB.out.fx.pl, HB.out.fx.va, HB.out.fx.pa⟩ (belSet (belSet (belSet HB.out.bel _ _ _ (by omega)) _ _ _ (by omega)) _ _ _ (by omega))
            rw [heapSet' (heapSet' (heapSet' HB.out.b4 _ _) _ _) _ _]; rfl
          have FIN := Bx.mk fin
          have VF : Bx (ValA w.heap.size ((((wc.setCell ⟨w.heap.size + 1 + 1 + 1 + 1, 2, none⟩ (.bool kk)).setCell ⟨w.heap.size + 1 + 1 + 1 + 1, 3, none⟩ (.int .u64 (y : Int))).setCell ⟨w.heap.size + 1 + 1 + 1 + 1, 4, none⟩ (.slice none 0 0))) (Far w.heap.size G) b ab A (.slice sp sn sc)) := ⟨VA.out.keep (fun q hq => (hset (by omega)).trans ((hset (by omega)).trans (hset (by omega))))⟩
          clear hm3 hs hy hkk fin h12
          rcases hkc with ⟨hA, hK⟩ | ⟨hA, hK⟩
          · rw [hA] at a0
            rw [hK] at r0
            clear hA hK
            go_wp2_with fail
            go_meet
            exact ⟨p4, n4, c4, p5, n5, c5, p6, n6, c6, FIN, VF⟩
          · rw [hA] at a0
            rw [hK] at FIN VF
            clear hA hK
            go_wp2_with fail
            go_meet
            exact ⟨p4, n4, c4, p5, n5, c5, p6, n6, c6, FIN, VF⟩
        · have hm3 : mF3 s x rk rv = mF2 s x := by unfold mF3; rw [if_neg h12]
          have HM3 := Bx.mk hm3
          have hq : (x.op == 12) = false := by rw [beq_eq_false_iff_ne]; exact h12
          clear hm3 h12
          go_wp2_with fail
          go_meet
          exact ⟨p4, n4, c4, p5, n5, c5, p6, n6, c6, ⟨by rw [HM3.out]; exact HB.out⟩, VA⟩
      case rest =>
        clear HB VA a0 a1 i0 r0 r1 f2 f3 f4 ff2 ff3 ff4
        obtain ⟨p4, n4, c4, p5, n5, c5, p6, n6, c6, HB, VA⟩ := hcut
        have f2 := cOf HB.out.b4 2; have f3 := cOf HB.out.b4 3; have ff3 := tOf HB.out.b4 3
        simp only [List.getElem?_toArray, List.getElem?_cons_zero, List.getElem?_cons_succ] at f2 f3
        go_upto_if 69 with fail
        go_cut [] (fun wx => ∃ p4 n4 c4 p5 n5 c5 p6 n6 c6, Bx (MemH w wx (Far w.heap.size G) b fb x rk rv s (mF4 s x rk rv) (.slice rp 8 rc) (.slice pp pn pc) (.slice lp ln lc) (.slice fp fn fc) (.slice p4 n4 c4) (.slice p5 n5 c5) (.slice p6 n6 c6)))
        case first =>
          cases hwk : (mF3 s x rk rv).wk
          · have hm4 : mF4 s x rk rv = { mF3 s x rk rv with wv := 0 } := by unfold mF4; rw [hwk]; rfl
            have HM4 := Bx.mk hm4
            rw [hwk] at f2
            clear hm4
            go_wp2_with fail
            go_meet
            refine ⟨p4, n4, c4, p5, n5, c5, p6, n6, c6, ⟨?_⟩⟩
            rw [HM4.out]
            refine HB.out.setF (fun q hq => hset hq) ?_ ⟨HB.out.fx.pl, HB.out.fx.va, HB.out.fx.pa⟩ (belSet HB.out.bel _ _ _ (by omega))
            rw [heapSet' HB.out.b4 _ _]; rfl
          · have hm4 : mF4 s x rk rv = mF3 s x rk rv := by unfold mF4; rw [hwk]; rfl
            have HM4 := Bx.mk hm4
            rw [hwk] at f2
            clear hm4
            go_wp2_with fail
            go_meet
            exact ⟨p4, n4, c4, p5, n5, c5, p6, n6, c6, ⟨by rw [HM4.out]; exact HB.out⟩⟩
        case rest =>
          clear HB VA f2 f3 ff3
          obtain ⟨p4, n4, c4, p5, n5, c5, p6, n6, c6, HB⟩ := hcut
          have CRD := Bx.mk (fun W => refReads_any x.op W)
          have i0 := cOf HB.out.b3 0
          simp only [List.getElem?_toArray, List.getElem?_cons_zero, insC] at i0
          go_upto_if 74 with (go_at_call 78; ((with_reducible refine (CRD.out _).mono ?_); rintro e w9 ⟨rfl, b9⟩; have HC := Bx.mk (HB.out.below b9); clear b9))
          clear HB i0 CRD
          obtain ⟨rd, hrd⟩ := Int.eq_ofNat_of_zero_le HXN.out.rd.1
          have hrd8 : rd < 8 := by have := HXN.out.rd.2; omega
          have HRD := Bx.mk hrd
          clear hrd
          have MK : Bx (∀ W : World, w.heap.size + 1 + 1 + 1 + 1 < W.heap.size → MaskIn (W.alloc (.cells #[.int .i64 (k : Int)] 3)) (Far w.heap.size G) b (.slice (some ⟨W.heap.size, 0, none⟩) 1 1) (bit1 k)) := ⟨fun W hW => ⟨[k], slNewR W #[.int .i64 (k : Int)] 3 1 1 rfl, mask_one k, hb1, fun q _ hq => by
            have e : W.heap.size = q := by simpa [Value.ownBlock] using hq
            rw [← e]; exact farN hG hW _ (Nat.le_refl _)⟩⟩
          have CS : Bx (∀ (W : World) (st : RefSt) (ff : Fx) (rp' : Option Addr) (rc' : Nat) (q4 q5 q6 : Value) (kk : Bool) (vv mm : Nat) (sp' : Option Addr) (sn' sc' : Nat), st.regs.length = 8 → MemH w W (Far w.heap.size G) b fb x rk rv st ff (.slice rp' 8 rc') (.slice pp pn pc) (.slice lp ln lc) (.slice fp fn fc) q4 q5 q6 → MaskIn W (Far w.heap.size G) b (.slice sp' sn' sc') mm →
            Calls Try.prog 48 #[.agg #[.slice rp' 8 rc', .slice pp pn pc, .int .i64 (st.last : Int), .slice lp ln lc, .slice fp fn fc, .bool st.known], .int .i64 (rd : Int), .agg #[.bool kk, .int .u64 (vv : Int), .slice sp' sn' sc']] W fun e w' => ∃ rp2 rc2, e = .returned (.agg #[.slice rp2 8 rc2, .slice pp pn pc, .int .i64 (st.last : Int), .slice lp ln lc, .slice fp fn fc, .bool st.known]) ∧ RegM w' (Far w.heap.size G) b (.slice rp2 8 rc2) (st.regs.set rd ⟨kk, if kk then vv else 0, mm⟩) ∧ Below W.heap.size W w') := ⟨fun W st ff rp' rc' q4 q5 q6 kk vv mm sp' sn' sc' h8' hM hm =>
              setR_any W (Far w.heap.size G) (farN hG (ltOf hM.b4)) b rp' rc' pp lp fp pn pc ln lc fn fc (st.last : Int) st.known st.regs h8' hM.regs rd hrd8 kk vv mm sp' sn' sc' hm⟩
          have v0 := cOf HC.out.b0 0; have v1 := cOf HC.out.b0 1; have v2 := cOf HC.out.b0 2; have v3 := cOf HC.out.b0 3; have v4 := cOf HC.out.b0 4; have v5 := cOf HC.out.b0 5
          have i1 := cOf HC.out.b3 1
          have r0 := cOf HC.out.b1 0; have r1 := cOf HC.out.b1 1
          simp only [List.getElem?_toArray, List.getElem?_cons_zero, List.getElem?_cons_succ, insC] at v0 v1 v2 v3 v4 v5 i1 r0 r1
          rw [HRD.out] at i1
          go_cut [] (fun wx => ∃ rp' rc', Bx (MemH w wx (Far w.heap.size G) b fb x rk rv (mS1 s x rk rv k) (mF4 s x rk rv) (.slice rp' 8 rc') (.slice pp pn pc) (.slice lp ln lc) (.slice fp fn fc) (.slice p4 n4 c4) (.slice p5 n5 c5) (.slice p6 n6 c6)))
          case first =>
            cases hkr : krd x.op
            · have hm : mS1 s x rk rv k = s := by unfold mS1; rw [hkr]; rfl
              have HM := Bx.mk hm
              clear hm
              go_wp2_with fail
              go_meet
              exact ⟨rp, rc, ⟨by rw [HM.out]; exact HC.out⟩⟩
            · have hm : mS1 s x rk rv k = { s with regs := s.regs.set rd ⟨rk, if rk then rv else 0, bit1 k⟩ } := by unfold mS1; rw [hkr, HRD.out]; rfl
              have HM := Bx.mk hm
              have HCA := Bx.mk (HC.out.below (aset w9 (.cells #[.int .i64 (k : Int)] 3)))
              have g9 : w.heap.size + 1 + 1 + 1 + 1 < w9.heap.size := ltOf HC.out.b4
              have g91 : w.heap.size + 1 + 1 + 1 < w9.heap.size := ltOf HC.out.b3
              have g92 : w.heap.size + 1 < w9.heap.size := ltOf HC.out.b1
              have g93 : w.heap.size < w9.heap.size := ltOf HC.out.b0
              have MK9 := Bx.mk (MK.out w9 g9)
              clear hm
              go_wp2_with (go_at_call 48; ((with_reducible refine (CS.out _ s (mF4 s x rk rv) rp rc _ _ _ rk rv (bit1 k) _ _ _ h8 HCA.out MK9.out).mono ?_); rintro e w10 ⟨rp2, rc2, rfl, hr10, b10⟩; have H10 := Bx.mk ((HCA.out).below b10); have R10 := Bx.mk hr10; have e0 := cOf H10.out.b0 0; have e1 := cOf H10.out.b0 1; have e2 := cOf H10.out.b0 2; have e3 := cOf H10.out.b0 3; have e4 := cOf H10.out.b0 4; have e5 := cOf H10.out.b0 5; have ef0 := tOf H10.out.b0 0; have ef1 := tOf H10.out.b0 1; have ef2 := tOf H10.out.b0 2; have ef3 := tOf H10.out.b0 3; have ef4 := tOf H10.out.b0 4; have ef5 := tOf H10.out.b0 5; simp only [List.getElem?_toArray, List.getElem?_cons_zero, List.getElem?_cons_succ] at e0 e1 e2 e3 e4 e5; clear hr10 b10))
              go_meet
              refine ⟨rp2, rc2, ⟨?_⟩⟩
              rw [HM.out]
              exact H10.out.setW (fun q hq => (hset hq).trans ((hset hq).trans ((hset hq).trans ((hset hq).trans ((hset hq).trans (hset hq)))))) (by rw [heapSet' (heapSet' (heapSet' (heapSet' (heapSet' (heapSet' H10.out.b0 _ _) _ _) _ _) _ _) _ _) _ _]; rfl) R10.out H10.out.facts ⟨rfl, rfl⟩ (belSet (belSet (belSet (belSet (belSet (belSet H10.out.bel _ _ _ (Nat.le_refl _)) _ _ _ (Nat.le_refl _)) _ _ _ (Nat.le_refl _)) _ _ _ (Nat.le_refl _)) _ _ _ (Nat.le_refl _)) _ _ _ (Nat.le_refl _))
          case rest =>
            clear HC v0 v1 v2 v3 v4 v5 i1 r0 r1
            obtain ⟨rp, rc, HE⟩ := hcut
            apply_assumption
            exact memTail w wc G hG b fb hb1 os hos ob oo oc HOL s h8 hlast pp lp fp pn pc ln lc fn fc HFN hfn1 k x hkl hkfn rk rv works _ rp p4 p5 p6 _ rc n4 c4 n5 c5 n6 c6 ab rd hrd8 HRD _ _ _ _ _ _ _ _ _ _ _ _ _ _ _ _ _ _ _ _ _ _ _ _ _ _ _ _ _ _ _ _ _ _ _ _ _ _ _ _ _ _ _ _ _ _ _ _ _ _ _ _ _ _ _ _ _ _ _ _ _ _ _ _ _ _ _ _ _ _ _ _ _ _ _ _ _ _ _ _ _ _ _ _ _ _ _ _ _ _ _ _ _ _ _ _ _ _ _ _ _ _ _ _ _ _ _ _ _ _ _ _ _ _ _ _ _ _ _ _ _ _ _ _ _ _ _ _ _ _ _ _ _ _ _ _ _ _ _ _ _ _ _ HE
end Go.Proofs.Ytccjekgbhablpaa
