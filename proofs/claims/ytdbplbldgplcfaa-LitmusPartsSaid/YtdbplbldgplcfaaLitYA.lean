/- LitmusParts: the walk. -/
import Derived.Test.YtdbplbldgplcfaaLitY2
import Derived.Test.YtdbplbldgplcfaaLitZ
namespace Go.Proofs.Ytdbplbldgplcfaa
set_option maxRecDepth 100000
open Go.RowKit

theorem few_ok (t : TestM) : TestOk (fewM t) ∧ (∀ l ∈ (fewM t).locs, l.1.length ≤ 1000000000) := by
  refine ⟨⟨?_, ?_, ?_, ?_⟩, ?_⟩
  · show ((t.locs.take 12).map cutL).length ≤ _
    rw [List.length_map, List.length_take]; omega
  · show ((t.thr.take 6).map (·.take 12)).length ≤ _
    rw [List.length_map, List.length_take]; omega
  · intro l hl
    obtain ⟨x, _, rfl⟩ := List.mem_map.1 hl
    rw [List.length_take]; omega
  · show (t.asks.take 50).length ≤ _
    rw [List.length_take]; omega
  · intro l hl
    obtain ⟨x, _, rfl⟩ := List.mem_map.1 hl
    show (x.1.take 20).length ≤ _
    rw [List.length_take]; omega
theorem ok_noAsks {u : TestM} (h : TestOk u) : TestOk (noAsks u) := ⟨h.locs, h.thr, h.ins, by simp [noAsks]⟩
theorem ok_less {u : TestM} (h : TestOk u) : TestOk (lessM u) := ⟨h.locs, by have := h.thr; simp [lessM]; omega, fun l hl => h.ins l (List.mem_of_mem_take hl), by simp [lessM, noAsks]⟩
theorem ok_short {u : TestM} (h : TestOk u) (k : Nat) (l : List Ins) (hk : u.thr[k]? = some l) : TestOk (shortM u k l) := by
  refine ⟨h.locs, by have := h.thr; simpa [shortM] using this, fun x hx => ?_, by simp [shortM, noAsks]⟩
  rcases mem_set hx with hx | rfl
  · exact h.ins x hx
  · have := h.ins l (List.mem_of_getElem? hk)
    rw [List.length_take]; omega
/-- a test variable that lies at a block -/
theorem atCells {W : World} {b : Nat} {lv tv av : Value} {u : TestM} (c0 : W.cell? ⟨b, 0, none⟩ = some lv) (c1 : W.cell? ⟨b, 1, none⟩ = some tv) (c2 : W.cell? ⟨b, 2, none⟩ = some av) (h : TestIn W lv tv av u) : TestAt W b u := ⟨lv, tv, av, c0, c1, c2, h⟩
theorem noAsks_in {W : World} {lv tv av : Value} {u : TestM} (h : TestIn W lv tv av u) : TestIn W lv tv (.slice none 0 0) (noAsks u) := ⟨h.locs, h.thr, ⟨rfl, .inl ⟨rfl, _, _, rfl⟩⟩⟩
/-- fewer of a slice's elements -/
theorem slTake {W : World} {p : Option Addr} {n c z m : Nat} {α : Type} {f : α → List Value} {X : List α} (hf : ∀ x, (f x).length = z) (hn : X.length = n) (h : SlIn W (.slice p n c) z n (X.flatMap f)) (hm : m ≤ n) : SlIn W (.slice p m c) z m ((X.take m).flatMap f) := by
  refine ⟨by rw [flatLen' f z hf, List.length_take, hn]; congr 1; omega, ?_⟩
  rcases h.2 with ⟨h0, q, c', hv⟩ | ⟨b, off, c', hv, hb, hc⟩
  · obtain rfl : m = 0 := by omega
    exact .inl ⟨rfl, p, c, rfl⟩
  · obtain ⟨h1, _, h3⟩ := Value.slice.inj hv
    subst h1 h3
    refine .inr ⟨b, off, c, rfl, hb, fun i u hu => hc i u ?_⟩
    rw [flatTake f z hf, List.getElem?_take] at hu
    split at hu
    · exact hu
    · cases hu
theorem newRowAt (w : World) (B : Nat) (e : TypeId) (z n : Nat) (hn : w.heap.size = n) (h : B ≤ n) : (w.alloc (.cells #[] e)).ownsRow B e z (.slice (some ⟨n, 0, none⟩) 0 0) 0 [] := by
  subst hn; exact newRow w B e z h
theorem flat1 (vs : List Value) : vs.flatMap (fun v => [v]) = vs := by induction vs <;> simp_all
theorem less_in {W : World} {lv av : Value} {p : Option Addr} {n c : Nat} {u : TestM} (hn : n = u.thr.length) (h : TestIn W lv (.slice p n c) av u) : TestIn W lv (.slice p (n - 1) c) (.slice none 0 0) (lessM u) := by
  subst hn
  obtain ⟨vs, h1, h2, h3⟩ := h.thr
  have hl : (lessM u).thr.length = u.thr.length - 1 := by simp [lessM]
  refine ⟨h.locs, ⟨vs.take (u.thr.length - 1), by rw [List.length_take, h1, hl]; omega, ?_, fun i v hv => ?_⟩, ⟨rfl, .inl ⟨rfl, _, _, rfl⟩⟩⟩
  · rw [hl]
    have := slTake (f := fun v => [v]) (X := vs) (z := 1) (m := u.thr.length - 1) (fun _ => rfl) h1 (by rw [flat1]; exact h2) (by omega)
    rwa [flat1] at this
  · rw [List.getElem?_take] at hv
    split at hv
    · rename_i hi
      obtain ⟨l, x, y⟩ := h3 i v hv
      refine ⟨l, ?_, y⟩
      show ((u.thr.take (u.thr.length - 1)) : List (List Ins))[i]? = some l
      rw [List.getElem?_take_of_lt hi]; exact x
    · cases hv

/-- what the walk keeps: the test, and the test without asks -/
structure LitSt (w W : World) (b5 : Nat) (l0 t0 a0 : Value) (u : TestM) : Prop where
  c0 : W.cell? ⟨w.heap.size, 0, none⟩ = some l0
  c1 : W.cell? ⟨w.heap.size, 1, none⟩ = some t0
  c2 : W.cell? ⟨w.heap.size, 2, none⟩ = some a0
  p0 : W.cell? ⟨b5, 0, none⟩ = some l0
  p1 : W.cell? ⟨b5, 1, none⟩ = some t0
  p2 : W.cell? ⟨b5, 2, none⟩ = some (.slice none 0 0)
  row : RowTest W (w.heap.size + 1) l0 t0 a0 u
  bel : Below w.heap.size w W
theorem LitSt.below {w W W' : World} {b5 : Nat} {l0 t0 a0 : Value} {u : TestM} (h : LitSt w W b5 l0 t0 a0 u) (hb : Below W.heap.size W W') : LitSt w W' b5 l0 t0 a0 u :=
  ⟨cBel h.c0 hb, cBel h.c1 hb, cBel h.c2 hb, cBel h.p0 hb, cBel h.p1 hb, cBel h.p2 hb, h.row.bel hb, _root_.Go.Proofs.Ytdbplbldgplcfaa.bel h.bel hb⟩

set_option maxHeartbeats 12800000 in
theorem litmusParts_walk (lv tv av : Value) (t : TestM) (th : Int) (hl : t.locs.length ≤ maxLen) (hn : ∀ l ∈ t.locs, l.1.length ≤ maxLen) (hl2 : t.thr.length ≤ maxLen) (hl3 : ∀ l ∈ t.thr, l.length ≤ maxLen) (hl4 : t.asks.length ≤ maxLen) (w : World) (h : CapIn w lv tv av t) :
    Calls Try.prog 3 #[.agg #[lv, tv, av], .int .i64 th] w fun e w' => e = .returned (.bool true) ∧ Below w.heap.size w w' := by
  obtain ⟨lp0, lc0, tp0, tc0, ap0, ac0, rfl, rfl, rfl⟩ := testVals h.test
  have cf := fun (o : Obj) => few_any _ _ _ t hl hn hl2 hl3 hl4 (w.alloc o) ⟨h.locs.below (aset w o), h.lc, by obtain ⟨vs, h1, h2, h3⟩ := h.thr; exact ⟨vs, h1, h2.below (aset w o), fun i v hv => ⟨(h3 i v hv).1, by obtain ⟨l, x, y⟩ := (h3 i v hv).2; exact ⟨l, x, y.below (aset w o)⟩⟩⟩, h.tc, h.asks.below (aset w o), h.ac⟩
  have hok := few_ok t
  obtain ⟨u, hu⟩ : ∃ u, u = fewM t := ⟨_, rfl⟩
  rw [← hu] at cf hok
  have ca := fun W => awake8_any W
  have cc := fun (b : Nat) W (hW : TestAt W b u) => check_test b u hok.1 hok.2 W hW
  have cp := fun (b : Nat) W (hW : TestAt W b (noAsks u)) => check_test b (noAsks u) (ok_noAsks hok.1) hok.2 W hW
  have cq := fun (b : Nat) W (hW : TestAt W b (lessM u)) => check_test b (lessM u) (ok_less hok.1) hok.2 W hW
  have CF := Bx.mk cf; have CA := Bx.mk ca; have CC := Bx.mk cc; have CP := Bx.mk cp; have CQ := Bx.mk cq; have HOK := Bx.mk hok
  clear cf ca cc cp cq hok h hl hn hl2 hl3 hl4 hu
  obtain ⟨R, hR⟩ : ∃ R, R = chkTest u := ⟨_, rfl⟩
  rw [← hR] at CC
  have HRR := Bx.mk hR
  clear hR
  generalize t.locs.length = n1 at *
  generalize t.thr.length = n2 at *
  generalize t.asks.length = n3 at *
  go_enter Try.func3, Try.ntmps3
  go_upto_region 2 with (first
    | (go_at_call 4; ((with_reducible refine (CF.out _).mono ?_); rintro e w1 ⟨⟨lv, tv, av, rfl, ht⟩, hb1⟩; obtain ⟨lp, lc, tp, tc, ap, ac, rfl, rfl, rfl⟩ := testVals ht.cap.test; have X := nBlock hb1; have x0 := cOf X 0; have x1 := cOf X 1; have x2 := cOf X 2; have xf0 := tOf X 0; have xf1 := tOf X 1; have xf2 := tOf X 2; simp at x0 x1 x2; have HX := Bx.mk X; clear X; have HT := Bx.mk ht; have HB := Bx.mk hb1; clear ht hb1)))
  clear x0 x1 x2 xf0 xf1 xf2
  generalize hNN : u.thr.length = N at *
  have HNN := Bx.mk hNN
  clear hNN
  have fin : ∃ W, W = ((w1.setCell ⟨w.heap.size, 0, none⟩ (.slice lp u.locs.length lc)).setCell ⟨w.heap.size, 1, none⟩ (.slice tp N tc)).setCell ⟨w.heap.size, 2, none⟩ (.slice ap u.asks.length ac) := ⟨_, rfl⟩
  obtain ⟨W, hW⟩ := fin
  have hblk : W.heap[w.heap.size]? = some (.cells #[.slice lp u.locs.length lc, .slice tp N tc, .slice ap u.asks.length ac] 26) := by
    rw [hW]; exact heapSet (heapSet (heapSet HX.out 0 _) 1 _) 2 _
  have hkeep : ∀ b, w.heap.size + 1 ≤ b → W.heap[b]? = w1.heap[b]? := fun b hb => by
    rw [hW, Below.heap_setCell _ _ _ _ (by show b ≠ w.heap.size; omega), Below.heap_setCell _ _ _ _ (by show b ≠ w.heap.size; omega), Below.heap_setCell _ _ _ _ (by show b ≠ w.heap.size; omega)]
  have c0 := cOf hblk 0; have c1 := cOf hblk 1; have c2 := cOf hblk 2
  simp at c0 c1 c2
  have HT2 : Bx (RowTest W (w.heap.size + 1) (.slice lp u.locs.length lc) (.slice tp N tc) (.slice ap u.asks.length ac) u) := ⟨(HT.out.mono (by simp)).keep fun b hb _ => hkeep b hb⟩
  have HB2 : Bx (Below w.heap.size w W) := ⟨by rw [hW]; exact (((bel (aset _ _) HB.out).setCell (p := ⟨w.heap.size, 0, none⟩) (Nat.le_refl _) _).setCell (p := ⟨w.heap.size, 1, none⟩) (Nat.le_refl _) _).setCell (p := ⟨w.heap.size, 2, none⟩) (Nat.le_refl _) _⟩
  rw [← hW]
  clear hW hkeep hblk HT HB HX CF
  have HT := HT2; have HB := HB2
  clear HT2 HB2
  by_cases h0 : ¬ R = 0
  · have hq1 : ((R : Int) == 0) = false := by rw [beq_eq_false_iff_ne]; exact h0
    have hq2 : ((R : Int) != 0) = true := by rw [bne, hq1]; rfl
    clear h0
    go_wp2_with (first | (go_at_call 5; ((with_reducible refine (CA.out _).mono ?_); rintro e w2 ⟨rfl, hbq⟩; have c0 := cBel c0 hbq; have c1 := cBel c1 hbq; have c2 := cBel c2 hbq; have HT := Bx.mk (HT.out.bel hbq); have HB := Bx.mk (bel HB.out hbq); clear hbq)) | (go_at_call 6; ((with_reducible refine (CC.out _ _ (atCells c0 c1 c2 HT.out.cap.test)).mono ?_); rintro e w3 ⟨rfl, hbq⟩; have c0 := cBel c0 hbq; have c1 := cBel c1 hbq; have c2 := cBel c2 hbq; have HT := Bx.mk (HT.out.bel hbq); have HB := Bx.mk (bel HB.out hbq); clear hbq)))
    go_ret
    exact ⟨rfl, HB.out⟩
  obtain rfl : R = 0 := by omega
  clear h0
  have g1 := plain_good u HRR.out.symm
  rw [g1] at CP
  have hcap := HT.out.thr.test.1
  have hNc : N ≤ tc := by obtain ⟨_, _, _, e, h⟩ := hcap; obtain ⟨_, h2, h3⟩ := Value.slice.inj e; omega
  have hNm : N ≤ 1000000 := by rw [← HNN.out]; exact HOK.out.1.thr
  clear g1 hcap
  go_upto_if 27 with (first | (go_at_call 5; ((with_reducible refine (CA.out _).mono ?_); rintro e w2 ⟨rfl, hbq⟩; have c0 := cBel c0 hbq; have c1 := cBel c1 hbq; have c2 := cBel c2 hbq; have HT := Bx.mk (HT.out.bel hbq); have HB := Bx.mk (bel HB.out hbq); clear hbq)) | (go_at_call 6; ((with_reducible refine (CC.out _ _ (atCells c0 c1 c2 HT.out.cap.test)).mono ?_); rintro e w3 ⟨rfl, hbq⟩; have c0 := cBel c0 hbq; have c1 := cBel c1 hbq; have c2 := cBel c2 hbq; have HT := Bx.mk (HT.out.bel hbq); have HB := Bx.mk (bel HB.out hbq); clear hbq)) | (go_at_call 6; ((with_reducible refine (CP.out _ _ (atNew (noAsks_in HT.out.cap.test) _)).mono ?_); rintro e w5 ⟨rfl, hbr⟩; have X5 := nBlock hbr; have p0 := cOf X5 0; have p1 := cOf X5 1; have p2 := cOf X5 2; simp at p0 p1 p2; clear X5; have hbq := bel (aset w3 _) hbr; clear hbr; have c0 := cBel c0 hbq; have c1 := cBel c1 hbq; have c2 := cBel c2 hbq; have HT := Bx.mk (HT.out.bel hbq); have HB := Bx.mk (bel HB.out hbq); clear hbq)))
  generalize w3.heap.size = b5 at *
  go_cut [] (fun wx => Bx (LitSt w wx b5 (.slice lp u.locs.length lc) (.slice tp N tc) (.slice ap u.asks.length ac) u))
  case first =>
    by_cases hN : 1 < N
    · have hg := less_good u HRR.out.symm (by rw [HNN.out]; exact hN)
      rw [hg] at CQ
      obtain ⟨M, rfl⟩ : ∃ M, N = M + 1 := ⟨N - 1, by omega⟩
      have LESS : Bx (∀ W, TestIn W (.slice lp u.locs.length lc) (.slice tp (M + 1) tc) (.slice ap u.asks.length ac) u → TestIn W (.slice lp u.locs.length lc) (.slice tp M tc) (.slice none 0 0) (lessM u)) := ⟨fun W h => less_in HNN.out.symm h⟩
      have hM : (0 : Int) < (M : Int) := by omega
      have hb5 : b5 < w5.heap.size := World.block_lt_of_cell? _ _ p0
      clear hg
      go_wp2_with (first | (go_at_call 6; ((with_reducible refine (CQ.out _ _ (atNew (LESS.out _ HT.out.cap.test) _)).mono ?_); rintro e w6 ⟨rfl, hbr⟩; have hbq := bel (aset w5 _) hbr; clear hbr; have c0 := cBel c0 hbq; have c1 := cBel c1 hbq; have c2 := cBel c2 hbq; have HT := Bx.mk (HT.out.bel hbq); have HB := Bx.mk (bel HB.out hbq); have p0 := cBel p0 hbq; have p1 := cBel p1 hbq; have p2 := cBel p2 hbq; clear hbq)))
      go_meet
      exact ⟨⟨c0, c1, c2, p0, p1, p2, HT.out, HB.out⟩⟩
    · go_wp2_with fail
      go_meet
      exact ⟨⟨c0, c1, c2, p0, p1, p2, HT.out, HB.out⟩⟩
  case rest =>
    clear c0 c1 c2 p0 p1 p2 HT HB CQ CP CC
    obtain ⟨c0, c1, c2, p0, p1, p2, ht, hb⟩ := hcut.out
    have HT := Bx.mk ht; have HB := Bx.mk hb
    clear ht hb hcut
    by_cases t1 : th < 0
    · go_wp2_with (first | (go_at_call 5; ((with_reducible refine (CA.out _).mono ?_); rintro e w2 ⟨rfl, hbq⟩; have c0 := cBel c0 hbq; have c1 := cBel c1 hbq; have c2 := cBel c2 hbq; have HT := Bx.mk (HT.out.bel hbq); have HB := Bx.mk (bel HB.out hbq); clear hbq)))
      go_ret
      exact ⟨rfl, HB.out⟩
    by_cases t2 : (N : Int) ≤ th
    · go_wp2_with (first | (go_at_call 5; ((with_reducible refine (CA.out _).mono ?_); rintro e w2 ⟨rfl, hbq⟩; have c0 := cBel c0 hbq; have c1 := cBel c1 hbq; have c2 := cBel c2 hbq; have HT := Bx.mk (HT.out.bel hbq); have HB := Bx.mk (bel HB.out hbq); clear hbq)))
      go_ret
      exact ⟨rfl, HB.out⟩
    obtain ⟨k, rfl⟩ := Int.eq_ofNat_of_zero_le (by omega : 0 ≤ th)
    have hk : k < N := by omega
    have e1 : decide ((k : Int) < 0) = false := by simp
    have e2 : decide (N ≤ k) = false := by simp; omega
    clear t1 t2
    obtain ⟨vs, hvl, hth, hins⟩ := HT.out.thr.test.2
    rw [HNN.out] at hth hvl
    obtain ⟨bb, off, c', hv, hbl, hcl⟩ := hth.at (by omega)
    obtain ⟨rfl, _, rfl⟩ := Value.slice.inj hv
    obtain ⟨v, hvk⟩ : ∃ v, vs[k]? = some v := ⟨_, List.getElem?_eq_getElem (by rw [hvl]; exact hk)⟩
    obtain ⟨hvc, l, hlk, hsl⟩ := hins k v hvk
    obtain ⟨q, cq, rfl⟩ := hsl.slice
    have hnq : l.length ≤ cq := by obtain ⟨_, _, _, e, h⟩ := hvc; obtain ⟨_, h2, h3⟩ := Value.slice.inj e; omega
    have hnl : l.length ≤ 1000000 := HOK.out.1.ins l (List.mem_of_getElem? hlk)
    obtain ⟨nl, hnl'⟩ : ∃ nl, nl = l.length := ⟨_, rfl⟩
    have d0 : wc.cell? ⟨bb, off + k, none⟩ = some (.slice q nl cq) := by rw [hnl']; exact hcl k _ hvk
    rw [← hnl'] at hnq hnl
    have HNL := Bx.mk hnl'; have HINS := Bx.mk hins; have HVL := Bx.mk hvl; have HCL := Bx.mk hcl; have HVK := Bx.mk hvk; have HLK := Bx.mk hlk; have HSL := Bx.mk hsl
    clear hnl' hins hvl hcl hvk hlk hsl hth hvc hv
    by_cases hz : nl = 0
    · subst hz
      go_wp2_with (first | (go_at_call 5; ((with_reducible refine (CA.out _).mono ?_); rintro e w2 ⟨rfl, hbq⟩; have c0 := cBel c0 hbq; have c1 := cBel c1 hbq; have c2 := cBel c2 hbq; have HT := Bx.mk (HT.out.bel hbq); have HB := Bx.mk (bel HB.out hbq); clear hbq)))
      go_ret
      exact ⟨rfl, HB.out⟩
    obtain ⟨j0, hj, hj0, hj1, hj2⟩ := info_parts info_thr
    go_wp2_with fail
    go_loopw [65] (fun i wr => ∃ m : Nat, i = .int .i64 (m : Int) ∧ m ≤ nl ∧ Bx (∀ (i : Nat) (x : Ins), i < m → l[i]? = some x → ¬ (x.skip = (l.length : Int) - 1 - i ∧ 0 < x.skip)) ∧ Bx (Below wc.heap.size wc wr)) (fun i _ => nl - (intOf i).toNat)
    case atStart => exact ⟨0, rfl, by omega, ⟨fun i x h => absurd h (by omega)⟩, ⟨Below.refl _ _⟩⟩
    case round =>
      obtain ⟨m, rfl, hm, hno, hbw⟩ := hrel
      by_cases hlt : m < nl
      · obtain ⟨b2, o2, c2', hv2, hbl2, hcl2⟩ := HSL.out.at (by rw [← HNL.out]; omega)
        obtain ⟨rfl, _, rfl⟩ := Value.slice.inj hv2
        obtain ⟨x, hx⟩ : ∃ x, l[m]? = some x := ⟨_, List.getElem?_eq_getElem (by rw [← HNL.out]; exact hlt)⟩
        have hia := SlIn.ins hcl2 hx
        obtain ⟨y0, y1, y2, y3, y4, y5, y6, y7, y8, y9, y10, y11, y12⟩ : InsAt wr b2 (o2 + m * 13) x := ⟨(hbw.out.cell hbl2).trans hia.c0, (hbw.out.cell hbl2).trans hia.c1, (hbw.out.cell hbl2).trans hia.c2, (hbw.out.cell hbl2).trans hia.c3, (hbw.out.cell hbl2).trans hia.c4, (hbw.out.cell hbl2).trans hia.c5, (hbw.out.cell hbl2).trans hia.c6, (hbw.out.cell hbl2).trans hia.c7, (hbw.out.cell hbl2).trans hia.c8, (hbw.out.cell hbl2).trans hia.c9, (hbw.out.cell hbl2).trans hia.c10, (hbw.out.cell hbl2).trans hia.c11, (hbw.out.cell hbl2).trans hia.c12⟩
        have HX := Bx.mk hx
        clear hv2 hcl2 hia hx
        have hnl1 : (1 : Int) ≤ (nl : Int) := by omega
        have cont : ¬ (x.skip = (nl : Int) - 1 - (m : Int) ∧ 0 < x.skip) → Bx (∀ (i : Nat) (x : Ins), i < m + 1 → l[i]? = some x → ¬ (x.skip = (l.length : Int) - 1 - i ∧ 0 < x.skip)) := fun hc => ⟨fun i z hi hz' => by
          by_cases e : i = m
          · subst e
            have : z = x := by have := HX.out.symm.trans hz'; exact (Option.some.inj this).symm
            subst this
            rw [← HNL.out]; exact hc
          · exact hno.out i z (by omega) hz'⟩
        have CONT := Bx.mk cont
        clear cont
        by_cases hs : x.skip = (nl : Int) - 1 - (m : Int)
        · have hq : ((x.skip : Int) == (nl : Int) - 1 - (m : Int)) = true := by rw [beq_iff_eq]; exact hs
          have HSX := Bx.mk hs
          clear hs
          by_cases hp : 0 < x.skip
          · go_wp2_with (first | (go_at_call 5; ((with_reducible refine (CA.out _).mono ?_); rintro e w2 ⟨rfl, hbq⟩)))
            go_ret
            exact ⟨rfl, bel HB.out (bel hbw.out (bel (aset _ _) hbq))⟩
          · have HC := CONT.out (fun h => hp h.2)
            go_wp2_with fail
            go_roundw
            case rel => exact ⟨m + 1, by go_num, by omega, HC, ⟨hbw.out.alloc hbw.out.size _⟩⟩
            case measure => simp [intOf] <;> omega
        · have hq : ((x.skip : Int) == (nl : Int) - 1 - (m : Int)) = false := by rw [beq_eq_false_iff_ne]; exact hs
          have HC := CONT.out (fun h => hs h.1)
          clear hs
          go_wp2_with fail
          go_roundw
          case rel => exact ⟨m + 1, by go_num, by omega, HC, ⟨hbw.out.alloc hbw.out.size _⟩⟩
          case measure => simp [intOf] <;> omega
      · obtain rfl : m = nl := by omega
        have hsg := short_good u HRR.out.symm k l HLK.out (fun i x hi => hno.out i x (by have := (List.getElem?_eq_some_iff.1 hi).1; rw [HNL.out]; exact this) hi)
        obtain ⟨M2, rfl⟩ : ∃ M2, m = M2 + 1 := ⟨m - 1, by omega⟩
        have c0 := cBel c0 hbw.out; have c1 := cBel c1 hbw.out; have c2 := cBel c2 hbw.out; have p0 := cBel p0 hbw.out; have p1 := cBel p1 hbw.out; have p2 := cBel p2 hbw.out
        have HT := Bx.mk (HT.out.bel hbw.out)
        have HB := Bx.mk (bel HB.out hbw.out)
        have hb5 : b5 < wr.heap.size := World.block_lt_of_cell? _ _ p0
        have hM2 : (0 : Int) ≤ (M2 : Int) := by omega
        have HNEWS : Bx (∀ W, Below wr.heap.size wr W → ∀ j u, vs[j]? = some u → W.cell? ((⟨bb, off, none⟩ : Addr).add j) = some u) := ⟨fun W hW j u hu => by
          rw [WideShapes.add_plain]; exact cBel (cBel (HCL.out j u hu) hbw.out) hW⟩
        have HONE : Bx (∀ u ∈ vs, u.oneCell' = true) := ⟨fun u hu => by
          obtain ⟨i, hi⟩ := List.getElem?_of_mem hu
          obtain ⟨⟨_, _, _, e, _⟩, _⟩ := HINS.out i u hi
          rw [e]; rfl⟩
        have HSG := Bx.mk hsg
        have HBW := Bx.mk hbw.out
        clear hsg hbw hno d0
        go_wp2_with (at_builtin; refine wpList_append_lies _ rfl (.tmp 86) (.tmp 88) 23 rfl wr.heap.size 31 j0 _ 1 24 Try.underlying23 hj hj0 hj1 hj2 rfl (by omega) _ 0 [] (by rfl) (newRowAt (wr.alloc (.cells #[.slice lp u.locs.length lc, .slice (some ⟨bb, off, none⟩) N tc, .slice none 0 0] 26)) wr.heap.size _ 1 (wr.heap.size + 1) (by simp) (by omega)) ⟨bb, off, none⟩ N tc vs (by rfl) (by rw [HVL.out, Nat.mul_one]) (HNEWS.out _ ((aset wr (.cells #[.slice lp u.locs.length lc, .slice (some ⟨bb, off, none⟩) N tc, .slice none 0 0] 26)).alloc (by simp) _)) HONE.out (by omega) (by unfold maxLen; omega) (by omega) (by simp; omega) (wr.heap.size + 1 + 1) (by simp) ?_; intro g cc w4 hown hgrow hat hlt4; simp only [Nat.zero_add, List.nil_append] at hown; have X10 : w4.heap[wr.heap.size]? = some (.cells #[.slice lp u.locs.length lc, .slice (some ⟨bb, off, none⟩) N tc, .slice none 0 0] 26) := (grownC (aset (wr.alloc (.cells #[.slice lp u.locs.length lc, .slice (some ⟨bb, off, none⟩) N tc, .slice none 0 0] 26)) _) hgrow (by simp) (by simp [Value.ownBlock])).trans (heap_alloc_new _ _); have z1 := cOf X10 1; have zf := tOf X10 1; simp at z1; have K4 : Bx (Below wr.heap.size wr w4) := ⟨((aset _ _).alloc (by simp) _).grown hgrow (by simp; omega) (fun k' e => by have h9 : wr.heap.size + 1 = k' := (by simpa [Value.ownBlock] using e); omega)⟩; have HG : Bx (g = wr.heap.size + 1 ∨ g = wr.heap.size + 1 + 1) := ⟨hat.elim (fun e => .inl (by simpa [Value.ownBlock] using e.symm)) .inr⟩; have HO := Bx.mk hown; have HX10 := Bx.mk X10; clear hown hgrow hat X10)
        have Y10 : (w4.setCell ⟨wr.heap.size, 1, none⟩ (.slice (some ⟨g, 0, none⟩) N cc)).heap[wr.heap.size]? = some (.cells #[.slice lp u.locs.length lc, .slice (some ⟨g, 0, none⟩) N cc, .slice none 0 0] 26) := heapSet HX10.out 1 _
        have O5 : (w4.setCell ⟨wr.heap.size, 1, none⟩ (.slice (some ⟨g, 0, none⟩) N cc)).ownsRow wr.heap.size 31 1 (.slice (some ⟨g, 0, none⟩) N cc) N vs := rowKeep HO.out fun b hb => Below.heap_setCell _ _ _ _ (by
          have : g = b := by simpa [Value.ownBlock] using hb
          have := HG.out
          show b ≠ wr.heap.size
          omega)
        have K5 : Bx (Below wr.heap.size wr (w4.setCell ⟨wr.heap.size, 1, none⟩ (.slice (some ⟨g, 0, none⟩) N cc))) := ⟨K4.out.setCell (p := ⟨wr.heap.size, 1, none⟩) (Nat.le_refl _) _⟩
        clear z1 zf HO HX10 K4
        generalize w4.setCell ⟨wr.heap.size, 1, none⟩ (.slice (some ⟨g, 0, none⟩) N cc) = W5 at *
        have z1 := cOf Y10 1
        simp at z1
        have zk : W5.cell? ⟨g, k, none⟩ = some (.slice q (M2 + 1) cq) := by
          rw [O5.cellAt k (by omega), HVK.out, HNL.out]
        have zf : W5.frozen? ⟨g, k, none⟩ = false := O5.frozenAt _
        have HO5 := Bx.mk O5; have HY10 := Bx.mk Y10
        clear O5 Y10
        have hw1 : IntKind.i64.wrap (M2 : Int) = (M2 : Int) := IntWalk.i64_in _ (by omega)
        have hw2 : (M2 : Int) ≤ (cq : Int) := by omega
        have hw3 : (0 : Int) ≤ (k : Int) := by omega
        have hw4 : (k : Int) < (N : Int) := by omega
        go_still_tail 9, (by kernel_rfl)
        change wpList _ _ _ _ _ W5.drew
        go_upto_region 25 with fail
        have K6 : Below wr.heap.size wr (W5.setCell ⟨g, k, none⟩ (.slice q M2 cq)).drew := (K5.out.setCell (p := ⟨g, k, none⟩) (by show wr.heap.size ≤ g; have := HG.out; omega) _).drew
        have Y6 : (W5.setCell ⟨g, k, none⟩ (.slice q M2 cq)).drew.heap[wr.heap.size]? = some (.cells #[.slice lp u.locs.length lc, .slice (some ⟨g, 0, none⟩) N cc, .slice none 0 0] 26) := (Below.heap_setCell W5 ⟨g, k, none⟩ _ _ (by have := HG.out; show wr.heap.size ≠ g; omega)).trans HY10.out
        have V6 : ∀ i v, (vs.set k (.slice q M2 cq))[i]? = some v → (W5.setCell ⟨g, k, none⟩ (.slice q M2 cq)).drew.cell? ⟨g, 0 + i, none⟩ = some v := fun i v hv => by
          rw [Nat.zero_add, World.cell?_drew]
          by_cases e : i = k
          · subst e
            rw [List.getElem?_set_self (by rw [HVL.out]; exact hk)] at hv
            rw [show (W5.setCell ⟨g, i, none⟩ (.slice q M2 cq)).cell? ⟨g, i, none⟩ = some (.slice q M2 cq) from World.cell?_setCell_same' _ _ _ (by rw [zk]; rfl), ← hv]
          · rw [List.getElem?_set_ne (fun h => e h.symm)] at hv
            have hi : i < N := by rw [← HVL.out]; exact (List.getElem?_eq_some_iff.1 hv).1
            rw [show (W5.setCell ⟨g, k, none⟩ (.slice q M2 cq)).cell? ⟨g, i, none⟩ = W5.cell? ⟨g, i, none⟩ from World.cell?_setCell_other _ _ _ _ (by intro h; have h2 : k = i := congrArg Addr.off h; exact e h2.symm), HO5.out.cellAt i (by omega), hv]
        have hgl : g < (W5.setCell ⟨g, k, none⟩ (.slice q M2 cq)).drew.heap.size := World.block_lt_of_cell? _ _ (V6 k _ (List.getElem?_set_self (by rw [HVL.out]; exact hk)))
        generalize (W5.setCell ⟨g, k, none⟩ (.slice q M2 cq)).drew = Wf at *
        have HS : Bx (TestAt Wf wr.heap.size (shortM u k l)) := ⟨by
          have hin := (HT.out.bel K6).cap.test
          have hlen : (shortM u k l).thr.length = N := by rw [← HNN.out]; simp [shortM]
          refine atCells (by rw [cOf Y6]; rfl) (by rw [cOf Y6]; rfl) (by rw [cOf Y6]; rfl) ⟨hin.locs, ⟨vs.set k (.slice q M2 cq), by rw [List.length_set, HVL.out, hlen], ?_, fun i v hv => ?_⟩, ⟨rfl, .inl ⟨rfl, _, _, rfl⟩⟩⟩
          · rw [hlen]
            exact ⟨by rw [List.length_set, HVL.out, Nat.mul_one], .inr ⟨g, 0, cc, rfl, hgl, V6⟩⟩
          · by_cases e : i = k
            · subst e
              rw [List.getElem?_set_self (by rw [HVL.out]; exact hk)] at hv
              obtain rfl := Option.some.inj hv
              have hl1 : (l.take (l.length - 1)).length = M2 := by rw [List.length_take, ← HNL.out]; omega
              refine ⟨l.take (l.length - 1), by show (u.thr.set i _)[i]? = _; rw [List.getElem?_set_self (by rw [HNN.out]; exact hk)], ?_⟩
              rw [hl1, show l.length - 1 = M2 by rw [← HNL.out]; omega]
              have h1 := (HSL.out.below HBW.out).below K6
              rw [← HNL.out] at h1
              exact slTake (fun _ => rfl) HNL.out.symm h1 (by omega)
            · rw [List.getElem?_set_ne (fun h => e h.symm)] at hv
              obtain ⟨_, l2, x, y⟩ := HINS.out i v hv
              refine ⟨l2, by show (u.thr.set k _)[i]? = _; rw [List.getElem?_set_ne (fun h => e h.symm)]; exact x, (y.below HBW.out).below K6⟩⟩
        have HU : Bx (TestAt Wf w.heap.size u) := ⟨atCells (cBel c0 K6) (cBel c1 K6) (cBel c2 K6) (HT.out.bel K6).cap.test⟩
        have HB6 : Bx (Below w.heap.size w Wf) := ⟨bel HB.out K6⟩
        have cs := fun W h => check_test wr.heap.size (shortM u k l) (ok_short HOK.out.1 k l HLK.out) HOK.out.2 W h
        have ce1 := fun W h => events_any wr.heap.size (shortM u k l) (ok_short HOK.out.1 k l HLK.out) W h
        have ce2 := fun W h => events_any w.heap.size u HOK.out.1 W h
        rw [HSG.out.1] at cs
        have hev := HSG.out.2
        generalize evM (shortM u k l).thr = ea at *
        generalize evM u.thr = eb at *
        have CS := Bx.mk cs; have CE1 := Bx.mk ce1; have CE2 := Bx.mk ce2
        clear cs ce1 ce2 K6 Y6 V6 hgl zk zf z1 HO5 HY10 K5 HSG c0 c1 c2 p0 p1 p2 HT
        go_wp2_with (first
          | (go_at_call 5; ((with_reducible refine (CA.out _).mono ?_); rintro e w6 ⟨rfl, hbq⟩; have HS := Bx.mk (HS.out.below hbq); have HU := Bx.mk (HU.out.below hbq); have HB6 := Bx.mk (bel HB6.out hbq); clear hbq))
          | (go_at_call 6; ((with_reducible refine (CS.out _ HS.out).mono ?_); rintro e w7 ⟨rfl, hbq⟩; have HS := Bx.mk (HS.out.below hbq); have HU := Bx.mk (HU.out.below hbq); have HB6 := Bx.mk (bel HB6.out hbq); clear hbq))
          | (go_at_call 7; first
            | ((with_reducible refine (CE1.out _ HS.out).mono ?_); rintro e w8 ⟨rfl, hbq⟩; have HU := Bx.mk (HU.out.below hbq); have HB6 := Bx.mk (bel HB6.out hbq); clear hbq)
            | ((with_reducible refine (CE2.out _ HU.out).mono ?_); rintro e w9 ⟨rfl, hbq⟩; have HB6 := Bx.mk (bel HB6.out hbq); clear hbq)))
        go_ret
        exact ⟨rfl, HB6.out⟩
end Go.Proofs.Ytdbplbldgplcfaa
