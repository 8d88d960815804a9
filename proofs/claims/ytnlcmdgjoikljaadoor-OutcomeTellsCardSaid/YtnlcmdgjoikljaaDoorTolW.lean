/- OutcomeTells: the walk. -/
import Derived.Test.YtnlcmdgjoikljaaDoorTolY
import Derived.Test.YtnlcmdgjoikljaaDoorOutK
import Derived.Test.YtnlcmdgjoikljaaDoorLitY2
namespace Go.Proofs.YtnlcmdgjoikljaaDoor
set_option maxRecDepth 100000
open Go.RowKit

theorem fewOk (t : TestM) : TestOk (fewM t) ∧ (∀ l ∈ (fewM t).locs, l.1.length ≤ 1000000) := by
  refine ⟨⟨?_, ?_, ?_, ?_⟩, ?_⟩
  · show ((t.locs.take 12).map cutL).length ≤ _
    rw [List.length_map, List.length_take]; omega
  · show ((t.thr.take 6).map (·.take 12)).length ≤ _
    rw [List.length_map, List.length_take]; omega
  · intro l hl
    obtain ⟨x, _, rfl⟩ := List.mem_map.1 hl
    rw [List.length_take]; omega
  · show (t.asks.take 50).length ≤ _
    rw [List.length_take]; omega
  · intro l hl
    obtain ⟨x, _, rfl⟩ := List.mem_map.1 hl
    show (x.1.take 20).length ≤ _
    rw [List.length_take]; omega
/-- a test variable that lies at a block -/
theorem atCell {W : World} {b : Nat} {lv tv av : Value} {u : TestM} (c0 : W.cell? ⟨b, 0, none⟩ = some lv) (c1 : W.cell? ⟨b, 1, none⟩ = some tv) (c2 : W.cell? ⟨b, 2, none⟩ = some av) (h : TestIn W lv tv av u) : TestAt W b u := ⟨lv, tv, av, c0, c1, c2, h⟩

theorem preSt_take (n : Int) (l : List Int) (k : Nat) (h : l.length = k) (hk : k ≤ 40) : (preSt n l k).v.take k = l := by
  apply List.ext_getElem?
  intro i
  by_cases hi : i < k
  · rw [List.getElem?_take_of_lt hi, preSt_get _ _ _ _ (by omega), if_pos hi]
    rw [List.getElem?_eq_getElem (by omega)]
    simp [List.getD, List.getElem?_eq_getElem (show i < l.length by omega)]
  · rw [List.getElem?_eq_none (by rw [List.length_take]; omega), List.getElem?_eq_none (by omega)]
theorem info_a8 : (Tryd.prog.info? 41).map (fun i => (i.zero, i.size, i.bytes)) = some (some (.agg #[.int .u64 0, .int .u64 0, .int .u64 0, .int .u64 0, .int .u64 0, .int .u64 0, .int .u64 0, .int .u64 0]), 8, 64) := by kernel_rfl
theorem info_su : (Tryd.prog.info? 27).map (fun i => (i.zero, i.size, i.bytes)) = some (some (.slice none 0 0), 1, 24) := by kernel_rfl
theorem made8 (N : Nat) : (madeCells (Value.agg #[.int .u64 0, .int .u64 0, .int .u64 0, .int .u64 0, .int .u64 0, .int .u64 0, .int .u64 0, .int .u64 0]).cells (N * 8)).toList = (List.replicate (N * 8) (0 : Int)).map (Value.int .u64) := by
  have hz : ∀ r : Fin 8, (#[Value.int .u64 0, .int .u64 0, .int .u64 0, .int .u64 0, .int .u64 0, .int .u64 0, .int .u64 0, .int .u64 0] : Array Value)[r.val]! = .int .u64 0 := fun r => match r with
    | ⟨0, _⟩ => rfl
    | ⟨1, _⟩ => rfl
    | ⟨2, _⟩ => rfl
    | ⟨3, _⟩ => rfl
    | ⟨4, _⟩ => rfl
    | ⟨5, _⟩ => rfl
    | ⟨6, _⟩ => rfl
    | ⟨7, _⟩ => rfl
  apply List.ext_getElem?
  intro j
  by_cases hj : j < N * 8
  · have h2 := hz ⟨j % 8, Nat.mod_lt _ (by decide)⟩
    show ((madeCells #[Value.int .u64 0, .int .u64 0, .int .u64 0, .int .u64 0, .int .u64 0, .int .u64 0, .int .u64 0, .int .u64 0] (N * 8)).toList)[j]? = _
    have h3 : (madeCells #[Value.int .u64 0, .int .u64 0, .int .u64 0, .int .u64 0, .int .u64 0, .int .u64 0, .int .u64 0, .int .u64 0] (N * 8)).toList[j]? = some ((#[Value.int .u64 0, .int .u64 0, .int .u64 0, .int .u64 0, .int .u64 0, .int .u64 0, .int .u64 0, .int .u64 0] : Array Value)[j % 8]!) := by
      simp [madeCells, hj]
    rw [h3, h2]
    simp [hj]
  · rw [List.getElem?_eq_none (by simp [madeCells]; omega), List.getElem?_eq_none (by simp; omega)]
theorem regBlock {w6 : World} {G N : Nat} {nums : List Int} (h : w6.ownsRow G 41 8 (.slice (some ⟨G, 0, none⟩) N N) N (madeCells (Value.agg #[.int .u64 0, .int .u64 0, .int .u64 0, .int .u64 0, .int .u64 0, .int .u64 0, .int .u64 0, .int .u64 0]).cells (N * 8)).toList) : w6.heap[G]? = some (.cells (numC (numF nums 0 (N * 8) 0)) 41 (0, 0)) := by
  rcases h.2 with ⟨hv, _⟩ | ⟨g, cap, cur, hv, _, hh, _, _, hs, ht⟩
  · cases hv
  · obtain ⟨e1, _, rfl⟩ := Value.slice.inj hv
    obtain rfl : G = g := by injection e1 with e1; injection e1
    rw [made8 N, List.take_of_length_le (by simp [hs])] at ht
    rw [hh, numF_zero]
    obtain ⟨cl⟩ := cur
    simp only at ht
    subst ht
    rfl
theorem nUS : (40 : TypeId) ≠ 27 := by decide
/-- rows of numbers, a row of them -/
def PRow (W : World) (B : Nat) (v : Value) (m : Nat) (nums : List Int) : Prop :=
  ∃ vs : List Value, W.ownsRow B 27 1 v m vs ∧ ∀ (j : Nat) (x : Value), vs[j]? = some x → W.ownsRow B 40 1 x 8 ((rowM nums (j * 8) 8).map (Value.int .u64))
theorem PRow.keep {W W' : World} {B : Nat} {v : Value} {m : Nat} {nums : List Int} (h : PRow W B v m nums) (hk : ∀ k, B ≤ k → k < W.heap.size → W'.heap[k]? = W.heap[k]?) : PRow W' B v m nums := by
  obtain ⟨vs, h1, h2⟩ := h
  exact ⟨vs, rowKeep h1 fun k e => hk k (rowLt h1 k e).1 (rowLt h1 k e).2, fun j x hx => rowKeep (h2 j x hx) fun k e => hk k (rowLt (h2 j x hx) k e).1 (rowLt (h2 j x hx) k e).2⟩
theorem PRow.push {W W' : World} {B : Nat} {v : Value} {m : Nat} {nums : List Int} {vs : List Value} (h1 : W.ownsRow B 27 1 v m vs) (h2 : ∀ (j : Nat) (x : Value), vs[j]? = some x → W.ownsRow B 40 1 x 8 ((rowM nums (j * 8) 8).map (Value.int .u64))) {o : Obj} (hg : (W.alloc o).grownBy W' v.ownBlock) {u v' : Value} (hu : W.ownsRow B 40 1 u 8 ((rowM nums (m * 8) 8).map (Value.int .u64))) (hown : W'.ownsRow B 27 1 v' (m + 1) (vs ++ [u])) : PRow W' B v' (m + 1) nums := by
  have ki : ∀ {y us n}, W.ownsRow B 40 1 y n us → W'.ownsRow B 40 1 y n us := fun {y us n} hr => rowKeep hr fun k e => grownC (aset W o) hg (rowLt hr k e).2 (fun e2 => rowApart hr h1 nUS k e e2)
  refine ⟨vs ++ [u], hown, fun j x hx => ?_⟩
  have hl : vs.length = m := by have := h1.1; omega
  rw [List.getElem?_append] at hx
  split at hx
  · exact ki (h2 j x hx)
  · rename_i hj
    have hjm : j = m := by
      have := (List.getElem?_eq_some_iff.1 hx).1
      simp at this; omega
    subst hjm
    rw [hl, Nat.sub_self] at hx
    simp at hx
    subst hx
    exact ki hu
set_option maxHeartbeats 25600000 in
theorem outcomeTells_walk (lv tv av nv : Value) (t : TestM) (nums : List Int) (hnl : nums.length ≤ maxLen) (hnu : ∀ x ∈ nums, 0 ≤ x ∧ x < 18446744073709551616) (hl : t.locs.length ≤ maxLen) (hn : ∀ l ∈ t.locs, l.1.length ≤ maxLen) (hl2 : t.thr.length ≤ maxLen) (hl3 : ∀ l ∈ t.thr, l.length ≤ maxLen) (hl4 : t.asks.length ≤ maxLen) (w : World) (h : CapIn w lv tv av t) (hnv : SlIn w nv 1 nums.length (nums.map (Value.int .u64)))
    (hpow : Pow10 w) :
    Calls Tryd.prog 3 #[.agg #[lv, tv, av], nv] w fun e w' => e = .returned (.bool true) ∧ Below w.heap.size w w' := by
  obtain ⟨lp0, lc0, tp0, tc0, ap0, ac0, rfl, rfl, rfl⟩ := valsP h.test
  obtain ⟨np, nc, rfl⟩ := hnv.slice
  have cf := fun (o : Obj) => few_any _ _ _ t hl hn hl2 hl3 hl4 (w.alloc o) ⟨h.locs.below (aset w o), h.lc, by obtain ⟨vs, h1, h2, h3⟩ := h.thr; exact ⟨vs, h1, h2.below (aset w o), fun i v hv => ⟨(h3 i v hv).1, by obtain ⟨l, x, y⟩ := (h3 i v hv).2; exact ⟨l, x, y.below (aset w o)⟩⟩⟩, h.tc, h.asks.below (aset w o), h.ac⟩
  have hok := fewOk t
  unfold maxLen at hnl
  obtain ⟨u, hu⟩ : ∃ u, u = fewM t := ⟨_, rfl⟩
  rw [← hu] at cf hok
  have ca := fun W => awake12_any W
  have cc := fun (b : Nat) W (hW : TestAt W b u) => check_test b u hok.1 (fun l hl => Nat.le_trans (hok.2 l hl) (by decide)) W hW
  have CF := Bx.mk cf; have CA := Bx.mk ca; have CC := Bx.mk cc; have HOK := Bx.mk hok; have HNV := Bx.mk hnv; have HNU := Bx.mk hnu; have HPW := Bx.mk hpow
  clear cf ca cc hok h hl hn hl2 hl3 hl4 hu hnv hnu hpow
  obtain ⟨R, hR⟩ : ∃ R, R = chkTest u := ⟨_, rfl⟩
  rw [← hR] at CC
  have HRR := Bx.mk hR
  clear hR
  generalize t.locs.length = n1 at *
  generalize t.thr.length = n2 at *
  generalize t.asks.length = n3 at *
  go_enter Tryd.func3, Tryd.ntmps3
  go_upto_region 2 with (first
    | (go_at_call 5; ((with_reducible refine (CF.out _).mono ?_); rintro e w1 ⟨⟨lv, tv, av, rfl, ht⟩, hb1⟩; obtain ⟨lp, lc, tp, tc, ap, ac, rfl, rfl, rfl⟩ := valsP ht.cap.test; have X := nBlock hb1; have x0 := cOf X 0; have x1 := cOf X 1; have x2 := cOf X 2; have xf0 := tOf X 0; have xf1 := tOf X 1; have xf2 := tOf X 2; simp at x0 x1 x2; have HX := Bx.mk X; clear X; have HT := Bx.mk ht; have HB := Bx.mk hb1; clear ht hb1)))
  clear x0 x1 x2 xf0 xf1 xf2
  generalize hNN : u.thr.length = N at *
  have HNN := Bx.mk hNN
  clear hNN
  have fin : ∃ W, W = ((w1.setCell ⟨w.heap.size, 0, none⟩ (.slice lp u.locs.length lc)).setCell ⟨w.heap.size, 1, none⟩ (.slice tp N tc)).setCell ⟨w.heap.size, 2, none⟩ (.slice ap u.asks.length ac) := ⟨_, rfl⟩
  obtain ⟨W, hW⟩ := fin
  have hblk : W.heap[w.heap.size]? = some (.cells #[.slice lp u.locs.length lc, .slice tp N tc, .slice ap u.asks.length ac] 26) := by
    rw [hW]; exact heapSet (heapSet (heapSet HX.out 0 _) 1 _) 2 _
  have hkeep : ∀ b, w.heap.size + 1 ≤ b → W.heap[b]? = w1.heap[b]? := fun b hb => by
    rw [hW, Below.heap_setCell _ _ _ _ (by show b ≠ w.heap.size; omega), Below.heap_setCell _ _ _ _ (by show b ≠ w.heap.size; omega), Below.heap_setCell _ _ _ _ (by show b ≠ w.heap.size; omega)]
  have c0 := cOf hblk 0; have c1 := cOf hblk 1; have c2 := cOf hblk 2
  simp at c0 c1 c2
  have HT2 : Bx (RowTest W (w.heap.size + 1) (.slice lp u.locs.length lc) (.slice tp N tc) (.slice ap u.asks.length ac) u) := ⟨(HT.out.mono (by simp)).keep fun b hb _ => hkeep b hb⟩
  have HB2 : Bx (Below w.heap.size w W) := ⟨by rw [hW]; exact (((bel (aset _ _) HB.out).setCell (p := ⟨w.heap.size, 0, none⟩) (Nat.le_refl _) _).setCell (p := ⟨w.heap.size, 1, none⟩) (Nat.le_refl _) _).setCell (p := ⟨w.heap.size, 2, none⟩) (Nat.le_refl _) _⟩
  rw [← hW]
  clear hW hkeep hblk HT HB HX CF
  have HT := HT2; have HB := HB2
  clear HT2 HB2
  by_cases h0 : ¬ R = 0
  · have hq1 : ((R : Int) == 0) = false := by rw [beq_eq_false_iff_ne]; exact h0
    have hq2 : ((R : Int) != 0) = true := by rw [bne, hq1]; rfl
    clear h0
    go_wp2_with (first
    | (go_at_call 6; ((with_reducible refine (CA.out _).mono ?_); rintro e w2 ⟨rfl, hbq⟩; have c0 := cBel c0 hbq; have c1 := cBel c1 hbq; have c2 := cBel c2 hbq; have HT := Bx.mk (HT.out.bel hbq); have HB := Bx.mk (bel HB.out hbq); clear hbq))
    | (go_at_call 7; ((with_reducible refine (CC.out _ _ (atCell c0 c1 c2 HT.out.cap.test)).mono ?_); rintro e w3 ⟨rfl, hbq⟩; have c0 := cBel c0 hbq; have c1 := cBel c1 hbq; have c2 := cBel c2 hbq; have HT := Bx.mk (HT.out.bel hbq); have HB := Bx.mk (bel HB.out hbq); clear hbq)))
    go_ret
    exact ⟨rfl, HB.out⟩
  obtain rfl : R = 0 := by omega
  clear h0
  have hg1 := good_rd HRR.out.symm
  have hg2 := good_slots HRR.out.symm
  have hsz := (sizes0 u).1 ((chk0 u).1 HRR.out.symm).1
  rw [HNN.out] at hg2 hsz
  have HG1 := Bx.mk hg1; have HG2 := Bx.mk hg2
  have hN1 : 1 ≤ N := by omega
  have hN4 : N ≤ 4 := hsz.2.1
  clear hg1 hg2 hsz
  go_upto_region 4 with (first
    | (go_at_call 6; ((with_reducible refine (CA.out _).mono ?_); rintro e w2 ⟨rfl, hbq⟩; have c0 := cBel c0 hbq; have c1 := cBel c1 hbq; have c2 := cBel c2 hbq; have HT := Bx.mk (HT.out.bel hbq); have HB := Bx.mk (bel HB.out hbq); clear hbq))
    | (go_at_call 7; ((with_reducible refine (CC.out _ _ (atCell c0 c1 c2 HT.out.cap.test)).mono ?_); rintro e w3 ⟨rfl, hbq⟩; have c0 := cBel c0 hbq; have c1 := cBel c1 hbq; have c2 := cBel c2 hbq; have HT := Bx.mk (HT.out.bel hbq); have HB := Bx.mk (bel HB.out hbq); clear hbq)))
  have cto : ∀ W, TestIn W (.slice lp u.locs.length lc) (.slice tp N tc) (.slice ap u.asks.length ac) u → Calls Tryd.prog 8 #[.agg #[.slice lp u.locs.length lc, .slice tp N tc, .slice ap u.asks.length ac]] W fun e w' => (∃ lv' tv' av', e = .returned (.agg #[lv', tv', av']) ∧ TolR w' W.heap.size lv' tv' av' u) ∧ Below W.heap.size W w' := fun W h => told_any _ _ _ u HOK.out.1 W h
  have CTO := Bx.mk cto
  clear cto
  go_upto_region 5 with (go_at_call 8; ((with_reducible refine (CTO.out _ HT.out.cap.test).mono ?_); rintro e w4 ⟨⟨xl, xt, xa, rfl, hx⟩, hbq⟩; obtain ⟨xlp, xlc, xtp, xtc, xap, xac, rfl, rfl, rfl⟩ := valsP hx.test.test; have c0 := cBel c0 hbq; have c1 := cBel c1 hbq; have c2 := cBel c2 hbq; have HT := Bx.mk (HT.out.bel hbq); have HB := Bx.mk (bel HB.out hbq); have HX := Bx.mk hx.test.test; clear hbq hx))
  have HX5 := Bx.mk (HX.out.below (aset w4 (.cells #[.slice xlp u.locs.length xlc, .slice xtp u.thr.length xtc, .slice xap u.asks.length xac] 36)))
  have bt5 := heap_alloc_new w4 (.cells #[.slice xlp u.locs.length xlc, .slice xtp u.thr.length xtc, .slice xap u.asks.length xac] 36)
  have BT5 := Bx.mk bt5
  have HT5 := Bx.mk (HT.out.bel (aset w4 (.cells #[.slice xlp u.locs.length xlc, .slice xtp u.thr.length xtc, .slice xap u.asks.length xac] 36)))
  have HB5 := Bx.mk (bel HB.out (aset w4 (.cells #[.slice xlp u.locs.length xlc, .slice xtp u.thr.length xtc, .slice xap u.asks.length xac] 36)))
  have d0 := cBel c0 (aset w4 (.cells #[.slice xlp u.locs.length xlc, .slice xtp u.thr.length xtc, .slice xap u.asks.length xac] 36))
  have d1 := cBel c1 (aset w4 (.cells #[.slice xlp u.locs.length xlc, .slice xtp u.thr.length xtc, .slice xap u.asks.length xac] 36))
  have d2 := cBel c2 (aset w4 (.cells #[.slice xlp u.locs.length xlc, .slice xtp u.thr.length xtc, .slice xap u.asks.length xac] 36))
  clear c0 c1 c2 HT HB HX bt5
  generalize w4.alloc (.cells #[.slice xlp u.locs.length xlc, .slice xtp u.thr.length xtc, .slice xap u.asks.length xac] 36) = w5 at *
  rw [HNN.out] at HX5 BT5 ⊢
  obtain ⟨i0, hi, hz0, hz1, hz2⟩ := info_parts info_a8
  obtain ⟨j0, hj, hj0, hj1, hj2⟩ := info_parts info_u64
  obtain ⟨k0, hk, hk0, hk1, hk2⟩ := info_parts info_su
  go_upto_region 6 with (at_make; refine wpList_make_full _ rfl (.tmp 33) (.tmp 33) 38 rfl w5.heap.size 41 i0 _ 8 Tryd.underlying38 hi hz0 hz1 .i64 .i64 (N : Int) (N : Int) N rfl rfl rfl rfl (by rw [hz2]; omega) (by unfold maxLen; omega) (Nat.le_refl _) ?_; intro w6 hown hg; have G6 := Bx.mk (regBlock (nums := nums) hown); have B6 : Bx (Below w5.heap.size w5 w6) := ⟨(Below.refl _ _).grown hg (Nat.le_refl _) (fun k e => by cases e)⟩; clear hown hg)
  have hG6 : w5.heap.size < w6.heap.size := by
    rcases Nat.lt_or_ge w5.heap.size w6.heap.size with e | e
    · exact e
    · have := G6.out; rw [Array.getElem?_eq_none e] at this; cases this
  go_wp2_with fail
  go_loopw [7, 8, 38] (fun pv kv i wr => ∃ (m : Nat) (p : Option Addr) (c : Nat), pv = .slice p m c ∧ kv = .int .i64 ((m * 8 : Nat) : Int) ∧ i = .int .i64 (m : Int) ∧ m ≤ N ∧ Bx (PRow wr (w5.heap.size + 1) (.slice p m c) m nums) ∧ Bx (wr.heap[w5.heap.size]? = some (.cells (numC (numF nums 0 (N * 8) (m * 8))) 41 (0, 0))) ∧ Bx (Below w5.heap.size w5 wr)) (fun _ _ i _ => N - (intOf i).toNat)
  case atStart =>
    exact ⟨0, _, _, rfl, rfl, rfl, by omega, ⟨[], rowMono (newRowE w6 27 1) (by omega), fun j x hx => by cases hx⟩, ⟨((aset _ _).block _ hG6).trans G6.out⟩, ⟨bel B6.out (aset _ _)⟩⟩
  case round =>
    obtain ⟨m, p, c, rfl, rfl, rfl, hmN, hP, hG, hb⟩ := hrel
    obtain ⟨wo, rfl⟩ : ∃ wo : World, wo = wr := ⟨_, rfl⟩
    by_cases hlt : m < N
    · have hGl : w5.heap.size < wo.heap.size := by
        rcases Nat.lt_or_ge w5.heap.size wo.heap.size with e | e
        · exact e
        · have := hG.out; rw [Array.getElem?_eq_none e] at this; cases this
      have hmi : (m : Int) < (N : Int) := by omega
      have hm0 : (0 : Int) ≤ (m : Int) := by omega
      go_wp2_with fail
      go_loopw [8, 10, 42] (fun kv lv r wr => ∃ (q : Nat) (p2 : Option Addr) (c2 : Nat), lv = .slice p2 q c2 ∧ kv = .int .i64 ((m * 8 + q : Nat) : Int) ∧ r = .int .i64 (q : Int) ∧ q ≤ 8 ∧ Bx (wr.ownsRow wo.heap.size 40 1 (.slice p2 q c2) q ((rowM nums (m * 8) q).map (Value.int .u64))) ∧ Bx (wr.heap[w5.heap.size]? = some (.cells (numC (numF nums 0 (N * 8) (m * 8 + q))) 41 (0, 0))) ∧ Bx (∀ b, w5.heap.size < b → b < wo.heap.size → wr.heap[b]? = wo.heap[b]?) ∧ Bx (Below w5.heap.size w5 wr) ∧ wo.heap.size ≤ wr.heap.size) (fun _ _ r _ => 8 - (intOf r).toNat)
      case atStart =>
        exact ⟨0, _, _, rfl, rfl, rfl, by omega, ⟨newRowE wo 40 1⟩, ⟨((aset _ _).block _ hGl).trans hG.out⟩, ⟨fun b _ hb2 => (aset wo _).block _ hb2⟩, ⟨bel hb.out (aset _ _)⟩, by simp⟩
      case round =>
        obtain ⟨q, p2, c2, rfl, rfl, rfl, hq8, hrow, hG2, hkp, hb2, hsw⟩ := hrel
        by_cases hq : q < 8
        · have hkN : m * 8 + q < N * 8 := by omega
          obtain ⟨k, hk9⟩ : ∃ k, k = m * 8 + q := ⟨_, rfl⟩
          rw [← hk9] at hG2 hkN ⊢
          obtain ⟨X, hX⟩ : ∃ X, X = nums.getD k 0 := ⟨_, rfl⟩
          have hGr : w5.heap.size < wr.heap.size := by omega
          have hqi : (q : Int) < 8 := by omega
          have hq0 : (0 : Int) ≤ (q : Int) := by omega
          have gz : wr.cell? ⟨w5.heap.size, k, none⟩ = some (.int .u64 0) := by
            rw [cOf hG2.out, numC_get _ k 0 (by rw [numF_get _ _ _ _ _ hkN, if_neg (by omega)])]
          have gf : wr.frozen? ⟨w5.heap.size, k, none⟩ = false := tOf hG2.out _
          have HK9 := Bx.mk hk9
          clear hk9
          go_upto_if 48 with fail
          go_cut [] (fun wx => Bx (wx.heap[w5.heap.size]? = some (.cells (numC (numF nums 0 (N * 8) (k + 1))) 41 (0, 0))) ∧ Bx (∀ b, b ≠ w5.heap.size → wx.heap[b]? = wr.heap[b]?) ∧ Bx (Below w5.heap.size w5 wx) ∧ wx.heap.size = wr.heap.size)
          case first =>
            by_cases hkn : k < nums.length
            · obtain ⟨nb, no, nc', hnv, hnl2, hnc⟩ := HNV.out.at (by omega)
              obtain ⟨rfl, _, rfl⟩ := Value.slice.inj hnv
              have hx : nums[k]? = some X := by rw [hX, List.getElem?_eq_getElem hkn]; simp [List.getD, hkn]
              have qx : wr.cell? ⟨nb, no + k, none⟩ = some (.int .u64 X) := cBel (hnc k _ (by rw [List.getElem?_map, hx]; rfl)) (bel HB5.out hb2.out)
              have S1 : Bx ((wr.setCell ⟨w5.heap.size, k, none⟩ (.int .u64 X)).heap[w5.heap.size]? = some (.cells (numC (numF nums 0 (N * 8) (k + 1))) 41 (0, 0))) := ⟨by
                have h1 := heapSet hG2.out k (.int .u64 X)
                have h2 := numF_set nums 0 (N * 8) k hkN
                rw [Nat.zero_add, ← hX] at h2
                rw [numC_set, h2] at h1
                exact h1⟩
              have S2 : Bx (∀ b, b ≠ w5.heap.size → (wr.setCell ⟨w5.heap.size, k, none⟩ (.int .u64 X)).heap[b]? = wr.heap[b]?) := ⟨fun b hb => Below.heap_setCell _ _ _ _ hb⟩
              have S3 : Bx (Below w5.heap.size w5 (wr.setCell ⟨w5.heap.size, k, none⟩ (.int .u64 X))) := ⟨hb2.out.setCell (p := ⟨w5.heap.size, k, none⟩) (Nat.le_refl _) _⟩
              have hki : (k : Int) < (nums.length : Int) := by omega
              have hk0' : (0 : Int) ≤ (k : Int) := by omega
              have ha : (m : Int) * 8 + (q : Int) = (k : Int) := by have := HK9.out; omega
              have HA := Bx.mk ha
              have ha2 : m * 8 + q = k := HK9.out.symm
              clear ha
              clear hnv hnc hx hX
              go_wp2_with fail
              go_still_tail 9, (by kernel_rfl)
              change wpList _ _ _ _ _ wr.drew
              go_wp2_with fail
              go_meet
              exact ⟨⟨S1.out⟩, ⟨S2.out⟩, ⟨S3.out.drew⟩, by show (wr.setCell _ _).heap.size = _; simp [World.setCell]⟩
            · have hX0 : X = 0 := by rw [hX]; simp [List.getD, List.getElem?_eq_none (Nat.le_of_not_lt hkn)]
              have S1 : Bx (wr.heap[w5.heap.size]? = some (.cells (numC (numF nums 0 (N * 8) (k + 1))) 41 (0, 0))) := ⟨by
                rw [← numF_same nums 0 (N * 8) k (by rw [Nat.zero_add, ← hX, hX0])]
                exact hG2.out⟩
              have hkd : ¬ (k : Int) < (nums.length : Int) := by omega
              have hkd2 : decide (k < nums.length) = false := by simpa using hkn
              clear hX hX0
              go_wp2_with fail
              go_meet
              exact ⟨S1, ⟨fun _ _ => rfl⟩, hb2, rfl⟩
          case rest =>
          obtain ⟨GC, KC, BC, hszc⟩ := hcut
          have ha2 : m * 8 + q = k := HK9.out.symm
          have hX2 := hX
          have EX : Bx (rowM nums (m * 8) (q + 1) = rowM nums (m * 8) q ++ [X]) := ⟨by rw [rowM_succ, hX, HK9.out]⟩
          have gx : wc.cell? ⟨w5.heap.size, k, none⟩ = some (.int .u64 X) := by
            rw [cOf GC.out, numC_get _ k X (by rw [numF_get _ _ _ _ _ hkN, if_pos (by omega), Nat.zero_add, ← hX])]
          have ROWC := Bx.mk (rowKeep hrow.out fun b e => KC.out b (by have := (rowLt hrow.out b e).1; omega))
          have hwow : wo.heap.size ≤ wc.heap.size := by omega
          have hGc : w5.heap.size < wc.heap.size := by omega
          have NB : Bx (∀ b, b < wo.heap.size → (Value.slice p2 q c2).ownBlock ≠ some b) := ⟨fun b hb e => by have := (rowLt hrow.out b e).1; omega⟩
          clear gz gf hX hX2 hszc
          go_wp2_with (at_builtin; refine wpList_append_lies _ rfl (.tmp 60) (.tmp 67) 27 rfl wo.heap.size 40 j0 _ 1 8 Tryd.underlying27 hj hj0 hj1 hj2 rfl (by omega) _ q ((rowM nums (m * 8) q).map (Value.int .u64)) rfl (ROWC.out.alloc _) ⟨wc.heap.size, 0, none⟩ 1 1 [.int .u64 X] rfl rfl (World.news_of_block (cs := #[.int .u64 X]) (t := 40) (fr := (0, 0)) (heap_alloc_new _ _)) (by simp [Value.oneCell']) (by omega) (by unfold maxLen; omega) (by omega) (by first | (simp; done) | (simp; omega)) (wc.heap.size + 1) (by simp) ?_; intro g cap w9 hown3 hgrow hat hlt3; have R9 : Bx (w9.ownsRow wo.heap.size 40 1 (.slice (some ⟨g, 0, none⟩) (q + 1) cap) (q + 1) ((rowM nums (m * 8) (q + 1)).map (Value.int .u64))) := ⟨(by rw [EX.out, List.map_append]; exact hown3)⟩; have G9 : Bx (w9.heap[w5.heap.size]? = some (.cells (numC (numF nums 0 (N * 8) (k + 1))) 41 (0, 0))) := ⟨(grownC (aset wc _) hgrow hGc (NB.out _ hGl)).trans GC.out⟩; have K9 : Bx (∀ b, w5.heap.size < b → b < wo.heap.size → w9.heap[b]? = wo.heap[b]?) := ⟨fun b h1 h2 => ((grownC (aset wc _) hgrow (by omega) (NB.out _ h2)).trans (KC.out b (by omega))).trans (hkp.out b h1 h2)⟩; have B9 : Bx (Below w5.heap.size w5 w9) := ⟨(BC.out.alloc BC.out.size _).grown hgrow (by first | (simp; done) | (simp; omega)) (fun k e => by have := (rowLt hrow.out k e).1; omega)⟩; have hs9 : wo.heap.size ≤ w9.heap.size := (by have := hgrow.size; simp at this; omega); clear hown3 hgrow hat hlt3)
          go_roundw
          case rel => exact ⟨q + 1, _, _, rfl, congrArg (Value.int .i64) (by have := HK9.out; omega), by go_num, by omega, R9, ⟨by rw [show m * 8 + (q + 1) = k + 1 by have := HK9.out; omega]; exact G9.out⟩, K9, B9, hs9⟩
          case measure => simp [intOf] <;> omega
        · obtain rfl : q = 8 := by omega
          obtain ⟨vs, hv1, hv2⟩ := hP.out
          have kp : ∀ b, w5.heap.size + 1 ≤ b → b < wo.heap.size → wr.heap[b]? = wo.heap[b]? := fun b h1 h2 => hkp.out b (by omega) h2
          have PV1 := Bx.mk (rowKeep hv1 fun b e => kp b (rowLt hv1 b e).1 (rowLt hv1 b e).2)
          have PV2 : Bx (∀ (j : Nat) (x : Value), vs[j]? = some x → wr.ownsRow (w5.heap.size + 1) 40 1 x 8 ((rowM nums (j * 8) 8).map (Value.int .u64))) := ⟨fun j x hx => rowKeep (hv2 j x hx) fun b e => kp b (rowLt (hv2 j x hx) b e).1 (rowLt (hv2 j x hx) b e).2⟩
          have HU := Bx.mk (rowMono hrow.out (show w5.heap.size + 1 ≤ wo.heap.size by omega))
          have NP : Bx ((Value.slice p m c).ownBlock ≠ some w5.heap.size) := ⟨fun e => by have := (rowLt hv1 _ e).1; omega⟩
          have LP : Bx (∀ k, (Value.slice p m c).ownBlock = some k → w5.heap.size ≤ k) := ⟨fun k e => by have := (rowLt hv1 _ e).1; omega⟩
          have hGr : w5.heap.size < wr.heap.size := by omega
          have hq9 : ¬ ((8 : Nat) : Int) < 8 := by omega
          clear hv1 hv2 kp
          go_wp2_with (at_builtin; refine wpList_append_lies _ rfl (.tmp 70) (.tmp 72) 39 rfl (w5.heap.size + 1) 27 k0 _ 1 24 Tryd.underlying39 hk hk0 hk1 hk2 rfl (by omega) _ m vs rfl (PV1.out.alloc _) ⟨wr.heap.size, 0, none⟩ 1 1 [.slice p2 8 c2] rfl rfl (World.news_of_block (cs := #[.slice p2 8 c2]) (t := 27) (fr := (0, 0)) (heap_alloc_new _ _)) (by simp [Value.oneCell']) (by omega) (by unfold maxLen; omega) (by omega) (by first | (simp; done) | (simp; omega)) (wr.heap.size + 1) (by simp) ?_; intro g cap w9 hown3 hgrow hat hlt3; have P9 : Bx (PRow w9 (w5.heap.size + 1) (.slice (some ⟨g, 0, none⟩) (m + 1) cap) (m + 1) nums) := ⟨PRow.push PV1.out PV2.out hgrow HU.out hown3⟩; have G9 : Bx (w9.heap[w5.heap.size]? = some (.cells (numC (numF nums 0 (N * 8) (m * 8 + 8))) 41 (0, 0))) := ⟨(grownC (aset wr _) hgrow hGr NP.out).trans hG2.out⟩; have B9 : Bx (Below w5.heap.size w5 w9) := ⟨(hb2.out.alloc hb2.out.size _).grown hgrow (by first | (simp; done) | (simp; omega)) LP.out⟩; clear hown3 hgrow hat hlt3)
          go_roundw
          case rel => exact ⟨m + 1, _, _, rfl, congrArg (Value.int .i64) (by omega), by go_num, by omega, P9, ⟨by rw [show (m + 1) * 8 = m * 8 + 8 by omega]; exact G9.out⟩, B9⟩
          case measure => simp [intOf] <;> omega
    · obtain rfl : m = N := by omega
      have hGl : w5.heap.size < wo.heap.size := by
        rcases Nat.lt_or_ge w5.heap.size wo.heap.size with e | e
        · exact e
        · have := hG.out; rw [Array.getElem?_eq_none e] at this; cases this
      go_wp2_with fail
      go_loopw [8, 13, 76] (fun kv lv r wr => ∃ (q : Nat) (p2 : Option Addr) (c2 : Nat), lv = .slice p2 q c2 ∧ kv = .int .i64 ((m * 8 + q : Nat) : Int) ∧ r = .int .i64 (q : Int) ∧ q ≤ 8 ∧ Bx (wr.ownsRow (wo.heap.size + 1) 40 1 (.slice p2 q c2) q ((rowM nums (m * 8) q).map (Value.int .u64))) ∧ Bx (wr.heap[wo.heap.size]? = some (.cells (numC (numF nums (m * 8) 8 q)) 41 (0, 0))) ∧ Bx (Below wo.heap.size wo wr)) (fun _ _ r _ => 8 - (intOf r).toNat)
      case atStart =>
        have hs : (wo.alloc (.cells (numC (numF nums (m * 8) 8 0)) 41)).heap.size = wo.heap.size + 1 := by simp
        have hr := newRowE (wo.alloc (.cells (numC (numF nums (m * 8) 8 0)) 41)) 40 1
        rw [hs] at hr
        have hz : numC (numF nums (m * 8) 8 0) = #[.int .u64 0, .int .u64 0, .int .u64 0, .int .u64 0, .int .u64 0, .int .u64 0, .int .u64 0, .int .u64 0] := by rw [numF_zero]; rfl
        rw [hz] at hr hs
        refine ⟨0, _, _, rfl, rfl, rfl, by omega, ⟨hr⟩, ⟨?_⟩, ⟨bel (aset _ _) (aset _ _)⟩⟩
        rw [hz]
        exact ((aset _ _).block _ (by rw [hs]; omega)).trans (heap_alloc_new _ _)
      case round =>
        obtain ⟨q, p2, c2, rfl, rfl, rfl, hq8, hrow, hL, hb2⟩ := hrel
        by_cases hq : q < 8
        · obtain ⟨k, hk9⟩ : ∃ k, k = m * 8 + q := ⟨_, rfl⟩
          rw [← hk9]
          obtain ⟨X, hX⟩ : ∃ X, X = nums.getD k 0 := ⟨_, rfl⟩
          have hkb : k < 100 := by omega
          have hLr : wo.heap.size < wr.heap.size := by
            rcases Nat.lt_or_ge wo.heap.size wr.heap.size with e | e
            · exact e
            · have := hL.out; rw [Array.getElem?_eq_none e] at this; cases this
          have hqi : (q : Int) < 8 := by omega
          have hq0 : (0 : Int) ≤ (q : Int) := by omega
          have gz : wr.cell? ⟨wo.heap.size, q, none⟩ = some (.int .u64 0) := by
            rw [cOf hL.out, numC_get _ q 0 (by rw [numF_get _ _ _ _ _ hq, if_neg (by omega)])]
          have gf : wr.frozen? ⟨wo.heap.size, q, none⟩ = false := tOf hL.out _
          have HK9 := Bx.mk hk9
          clear hk9
          go_upto_if 82 with fail
          go_cut [] (fun wx => Bx (wx.heap[wo.heap.size]? = some (.cells (numC (numF nums (m * 8) 8 (q + 1))) 41 (0, 0))) ∧ Bx (∀ b, b ≠ wo.heap.size → wx.heap[b]? = wr.heap[b]?) ∧ Bx (Below wo.heap.size wo wx) ∧ wx.heap.size = wr.heap.size)
          case first =>
            by_cases hkn : k < nums.length
            · obtain ⟨nb, no, nc', hnv, hnl2, hnc⟩ := HNV.out.at (by omega)
              obtain ⟨rfl, _, rfl⟩ := Value.slice.inj hnv
              have hx : nums[k]? = some X := by rw [hX, List.getElem?_eq_getElem hkn]; simp [List.getD, hkn]
              have qx : wr.cell? ⟨nb, no + k, none⟩ = some (.int .u64 X) := cBel (hnc k _ (by rw [List.getElem?_map, hx]; rfl)) (bel (bel HB5.out hb.out) hb2.out)
              have S1 : Bx ((wr.setCell ⟨wo.heap.size, q, none⟩ (.int .u64 X)).heap[wo.heap.size]? = some (.cells (numC (numF nums (m * 8) 8 (q + 1))) 41 (0, 0))) := ⟨by
                have h1 := heapSet hL.out q (.int .u64 X)
                have h2 := numF_set nums (m * 8) 8 q hq
                rw [← HK9.out, ← hX] at h2
                rw [numC_set, h2] at h1
                exact h1⟩
              have S2 : Bx (∀ b, b ≠ wo.heap.size → (wr.setCell ⟨wo.heap.size, q, none⟩ (.int .u64 X)).heap[b]? = wr.heap[b]?) := ⟨fun b hb => Below.heap_setCell _ _ _ _ hb⟩
              have S3 : Bx (Below wo.heap.size wo (wr.setCell ⟨wo.heap.size, q, none⟩ (.int .u64 X))) := ⟨hb2.out.setCell (p := ⟨wo.heap.size, q, none⟩) (Nat.le_refl _) _⟩
              have hki : (k : Int) < (nums.length : Int) := by omega
              have hk0' : (0 : Int) ≤ (k : Int) := by omega
              clear hnv hnc hx hX
              go_wp2_with fail
              go_meet
              exact ⟨S1, S2, S3, by simp [World.setCell]⟩
            · have hX0 : X = 0 := by rw [hX]; simp [List.getD, List.getElem?_eq_none (Nat.le_of_not_lt hkn)]
              have S1 : Bx (wr.heap[wo.heap.size]? = some (.cells (numC (numF nums (m * 8) 8 (q + 1))) 41 (0, 0))) := ⟨by
                rw [← numF_same nums (m * 8) 8 q (by rw [← HK9.out, ← hX, hX0])]
                exact hL.out⟩
              have hkd : ¬ (k : Int) < (nums.length : Int) := by omega
              have hkd2 : decide (k < nums.length) = false := by simpa using hkn
              clear hX hX0
              go_wp2_with fail
              go_meet
              exact ⟨S1, ⟨fun _ _ => rfl⟩, hb2, rfl⟩
          case rest =>
          obtain ⟨GC, KC, BC, hszc⟩ := hcut
          have EX : Bx (rowM nums (m * 8) (q + 1) = rowM nums (m * 8) q ++ [X]) := ⟨by rw [rowM_succ, hX, HK9.out]⟩
          have gx : wc.cell? ⟨wo.heap.size, q, none⟩ = some (.int .u64 X) := by
            rw [cOf GC.out, numC_get _ q X (by rw [numF_get _ _ _ _ _ hq, if_pos (by omega), ← HK9.out, ← hX])]
          have ROWC := Bx.mk (rowKeep hrow.out fun b e => KC.out b (by have := (rowLt hrow.out b e).1; omega))
          have hGc : wo.heap.size < wc.heap.size := by omega
          have NB : Bx ((Value.slice p2 q c2).ownBlock ≠ some wo.heap.size) := ⟨fun e => by have := (rowLt hrow.out _ e).1; omega⟩
          clear gz gf hX hszc
          go_wp2_with (at_builtin; refine wpList_append_lies _ rfl (.tmp 91) (.tmp 95) 27 rfl (wo.heap.size + 1) 40 j0 _ 1 8 Tryd.underlying27 hj hj0 hj1 hj2 rfl (by omega) _ q ((rowM nums (m * 8) q).map (Value.int .u64)) rfl (ROWC.out.alloc _) ⟨wc.heap.size, 0, none⟩ 1 1 [.int .u64 X] rfl rfl (World.news_of_block (cs := #[.int .u64 X]) (t := 40) (fr := (0, 0)) (heap_alloc_new _ _)) (by simp [Value.oneCell']) (by omega) (by unfold maxLen; omega) (by omega) (by first | (simp; done) | (simp; omega)) (wc.heap.size + 1) (by simp) ?_; intro g cap w9 hown3 hgrow hat hlt3; have R9 : Bx (w9.ownsRow (wo.heap.size + 1) 40 1 (.slice (some ⟨g, 0, none⟩) (q + 1) cap) (q + 1) ((rowM nums (m * 8) (q + 1)).map (Value.int .u64))) := ⟨(by rw [EX.out, List.map_append]; exact hown3)⟩; have G9 : Bx (w9.heap[wo.heap.size]? = some (.cells (numC (numF nums (m * 8) 8 (q + 1))) 41 (0, 0))) := ⟨(grownC (aset wc _) hgrow hGc NB.out).trans GC.out⟩; have B9 : Bx (Below wo.heap.size wo w9) := ⟨(BC.out.alloc BC.out.size _).grown hgrow (by first | (simp; done) | (simp; omega)) (fun k e => by have := (rowLt hrow.out k e).1; omega)⟩; clear hown3 hgrow hat hlt3)
          go_roundw
          case rel => exact ⟨q + 1, _, _, rfl, congrArg (Value.int .i64) (by have := HK9.out; omega), by go_num, by omega, R9, G9, B9⟩
          case measure => simp [intOf] <;> omega
        · obtain rfl : q = 8 := by omega
          have hq9 : ¬ ((8 : Nat) : Int) < 8 := by omega
          have BW : Bx (Below w.heap.size w wr) := ⟨bel (bel HB5.out hb.out) hb2.out⟩
          have B5r := Bx.mk (bel hb.out hb2.out)
          have hLl : wo.heap.size < wr.heap.size := by
            rcases Nat.lt_or_ge wo.heap.size wr.heap.size with e | e
            · exact e
            · have := hL.out; rw [Array.getElem?_eq_none e] at this; cases this
          have TA : Bx (TestAt wr w.heap.size u) := ⟨atCell (cBel d0 B5r.out) (cBel d1 B5r.out) (cBel d2 B5r.out) (HT5.out.cap.test.below B5r.out)⟩
          have XA := Bx.mk (HX5.out.below B5r.out)
          have bt4 : wr.heap[w4.heap.size]? = some (.cells #[.slice xlp u.locs.length xlc, .slice xtp m xtc, .slice xap u.asks.length xac] 36) := by
            have h1 : w4.heap.size < w5.heap.size := by
              rcases Nat.lt_or_ge w4.heap.size w5.heap.size with e | e
              · exact e
              · have := BT5.out; rw [Array.getElem?_eq_none e] at this; cases this
            exact (B5r.out.block _ h1).trans BT5.out
          have GR : Bx (SlIn wr (.slice (some ⟨w5.heap.size, 0, none⟩) m m) 8 (regRR nums m).length ((regRR nums m).flatMap fun l => l.map (Value.int .u64))) := ⟨by
            rw [regRR_flat, regRR_len, ← numF_full]
            refine ⟨by rw [List.length_map, numF_len], .inr ⟨_, 0, _, rfl, by have := hb2.out.size; omega, fun i x hx => ?_⟩⟩
            rw [Nat.zero_add, cOf ((hb2.out.block _ hGl).trans hG.out)]
            unfold numC
            simpa using hx⟩
          have PR := Bx.mk (hP.out.keep fun k _ h2 => hb2.out.block k h2)
          have RL : Bx (wr.rangeAt wo.heap.size 0 ((rowM nums (m * 8) 8).map (Value.int .u64))) := ⟨fun j v hv => by
            rw [Nat.zero_add, cOf hL.out, numF_full]
            unfold numC
            simpa using hv⟩
          obtain ⟨L8, hL8⟩ : ∃ L8, L8 = rowM nums (m * 8) 8 := ⟨_, rfl⟩
          rw [← hL8] at hrow RL
          have HL8 := Bx.mk hL8
          have hL8l : L8.length = 8 := by rw [hL8, rowM_len]
          have LL8 := Bx.mk hL8l
          clear hL8 hL8l hL hG hP d0 d1 d2
          have hi8 : (Tryd.prog.info? 41).map (·.size) = some (L8.map (Value.int .u64)).length := by
            rw [List.length_map, LL8.out]; kernel_rfl
          have HI8 := Bx.mk hi8
          have hu8 := Tryd.underlying41
          have HU8 := Bx.mk hu8
          clear hi8 hu8
          have hg2 := HG2.out
          have cm : ∀ (W : World), TestAt W w.heap.size u → SlIn W (.slice (some ⟨w5.heap.size, 0, none⟩) m m) 8 (regRR nums m).length ((regRR nums m).flatMap fun l => l.map (Value.int .u64)) → Calls Tryd.prog 9 #[.pointer (some ⟨w.heap.size, 0, none⟩), .slice (some ⟨w5.heap.size, 0, none⟩) m m, .agg (L8.map (Value.int .u64)).toArray] W fun e w' => e = .returned (.agg (stA (madeM u (regRR nums m) L8))) ∧ Below W.heap.size W w' := fun W h1 h2 =>
            made_any w.heap.size u HOK.out.1 hg2.1 _ (regRR nums m) L8 LL8.out (regRR_row nums m) (by rw [regRR_len]; omega) (fun p hp => by rcases (hg2.2.1 p hp).1 with h | h <;> omega) W h1 h2
          obtain ⟨SS, hSS⟩ : ∃ SS, SS = madeM u (regRR nums m) L8 := ⟨_, rfl⟩
          rw [← hSS] at cm
          have CM := Bx.mk cm; have HSS := Bx.mk hSS
          clear cm hSS hg2
          have I1 := Bx.mk (info_sz SS); have I2 := Bx.mk (info_sa SS); have O1 := Bx.mk (all_oneCell_toArray (stC_one SS))
          have hu := Tryd.underlying44
          go_upto_region 33 with (first
            | ((with_reducible refine ld_at 41 (.tmp 12) ?_); refine wpList_load_mid rfl 41 (.tmp 12) (by rfl) wo.heap.size 0 (by rfl) (L8.map (Value.int .u64)) _ RL.out HU8.out rfl HI8.out ?_)
            | (go_at_call 9; ((with_reducible refine (CM.out _ TA.out GR.out).mono ?_); rintro e w9 ⟨rfl, hb9⟩; have B9 := Bx.mk hb9; clear hb9))
            | ((with_reducible refine at_store 44 (.tmp 15) (.tmp 100) ?_); refine wpList_store_mid rfl 44 (.tmp 15) (.tmp 100) (by rfl) w9.heap.size 0 (stA SS) (by rfl) (by rfl) (thereZ w9 SS) I2.out O1.out ?_; rw [allocZ w9 SS]))
          simp only [Act.put]
          have BA : Bx (Below wr.heap.size wr (w9.alloc (.cells (stA SS) 44))) := ⟨bel B9.out (aset _ _)⟩
          have RS := Bx.mk (rangeNew w9 SS 44)
          have NS := (stA_at (heap_alloc_new w9 (.cells (stA SS) 44))).1
          have hlA : w9.heap.size < (w9.alloc (.cells (stA SS) 44)).heap.size := by simp
          generalize w9.alloc (.cells (stA SS) 44) = wA at *
          clear B9
          obtain ⟨M, hM⟩ : ∃ M, M = (slotsM u).length := ⟨_, rfl⟩
          have hM40 : M ≤ 40 := by rw [hM]; exact HG2.out.1
          have hSn : SS.n = (M : Int) := by rw [HSS.out, hM]; rfl
          obtain ⟨vals, hvals⟩ : ∃ vals, vals = (slotsM u).map (valM (regRR nums m) L8) := ⟨_, rfl⟩
          have hvl : vals.length = M := by rw [hvals, List.length_map, hM]
          have hSv : SS.v.take M = vals := by
            rw [HSS.out]
            unfold madeM
            rw [← hvals, ← hM]
            exact preSt_take _ vals M hvl hM40
          rw [hSn] at NS
          obtain ⟨vs, pv1, pv2⟩ := PR.out
          have hvsl : vs.length = m := by have := pv1.1; omega
          have cr : ∀ W, Below wA.heap.size wA W → Calls Tryd.prog 10 #[.agg #[.slice xlp u.locs.length xlc, .slice xtp m xtc, .slice xap u.asks.length xac], .slice p m c, .slice p2 8 c2] W fun e w' => (∃ u', e = .returned u' ∧ w'.ownsRow W.heap.size 40 1 u' M (vals.map (Value.int .u64))) ∧ Below W.heap.size W w' := fun W hW => by
            have hb := bel BA.out hW
            have h1 := refMade_any (.slice xlp u.locs.length xlc) (.slice xtp m xtc) (.slice xap u.asks.length xac) u HOK.out.1 HG1.out (Nat.le_trans HG2.out.1 (by decide)) (.slice p m c) (.slice p2 8 c2) (regRR nums m) vs L8 (by rw [regRR_len]; exact HG2.out.2.1) (by rw [regRR_len]; exact hvsl) LL8.out (regRR_row nums m) W (XA.out.below hb) (by rw [regRR_len]; exact (rowSlIn (rowBel pv1 hb)).1) (fun i v l hv hl => by
              have hi : i < m := by
                have := (List.getElem?_eq_some_iff.1 hv).1
                omega
              rw [regRR_get nums m i hi] at hl
              obtain rfl := Option.some.inj hl
              exact (rowSlIn (rowBel (pv2 i v hv) hb)).1) (rowSlIn (rowBel hrow.out hb)).1
            rw [← hvals, ← hM] at h1
            exact h1
          have CR := Bx.mk cr
          have HM := Bx.mk hM; have HVS := Bx.mk hvals; have HSN := Bx.mk hSn; have HSV := Bx.mk hSv; have HVLL := Bx.mk hvl
          have btA : wA.heap[w4.heap.size]? = some (.cells #[.slice xlp u.locs.length xlc, .slice xtp m xtc, .slice xap u.asks.length xac] 36) := by
            have h1 : w4.heap.size < wr.heap.size := by
              rcases Nat.lt_or_ge w4.heap.size wr.heap.size with e | e
              · exact e
              · have := bt4; rw [Array.getElem?_eq_none e] at this; cases this
            exact (BA.out.block _ h1).trans bt4
          have e0 := cOf btA 0; have e1 := cOf btA 1; have e2 := cOf btA 2
          simp at e0 e1 e2
          have TAA := Bx.mk (TA.out.below BA.out)
          have XAA := Bx.mk (XA.out.below BA.out)
          have BWA := Bx.mk (bel BW.out BA.out)
          clear cr hM hvals hSn hSv hvl pv1 pv2 hvsl btA bt4 PR GR RL TA XA CM I2 O1
          go_upto_region 34 with (go_at_call 10; ((with_reducible refine (CR.out _ (Below.refl _ _)).mono ?_); rintro e wB ⟨⟨uv, rfl, hur⟩, hbB⟩; obtain ⟨uvp, uvc, rfl⟩ := rowSlice hur; have UR := Bx.mk hur; have BB := Bx.mk hbB; clear hur hbB))
          obtain ⟨sl, hsl⟩ : ∃ sl, sl = slotsM u := ⟨_, rfl⟩
          have csl : ∀ W, Below wA.heap.size wA W → Calls Tryd.prog 11 #[.pointer (some ⟨w.heap.size, 0, none⟩)] W fun e w' => (∃ u', e = .returned u' ∧ w'.ownsRow W.heap.size 54 2 u' M (sl.flatMap slC)) ∧ Below W.heap.size W w' := fun W hW => (slots_any w.heap.size u HOK.out.1 W (TAA.out.below hW)).mono fun e w' ⟨u', h1, h2, h3⟩ => ⟨⟨u', h1, by rw [hsl, HM.out]; exact h2⟩, h3⟩
          have crl : ∀ W, Below wA.heap.size wA W → Calls Tryd.prog 12 #[.agg #[.slice xlp u.locs.length xlc, .slice xtp m xtc, .slice xap u.asks.length xac]] W fun e w' => (∃ u', e = .returned u' ∧ w'.ownsRow W.heap.size 53 2 u' M (sl.flatMap slC)) ∧ Below W.heap.size W w' := fun W hW => (refSlots_any _ _ _ u HOK.out.1 HG1.out W (XAA.out.below hW)).mono fun e w' ⟨⟨u', h1, h2⟩, h3⟩ => ⟨⟨u', h1, by rw [hsl, HM.out]; exact h2⟩, h3⟩
          have hsll : sl.length = M := by rw [hsl, HM.out]
          have CSL := Bx.mk csl; have CRL := Bx.mk crl; have HSL := Bx.mk hsl; have HSLL := Bx.mk hsll
          have f0 := cBel e0 BB.out; have f1 := cBel e1 BB.out; have f2 := cBel e2 BB.out
          clear csl crl hsl hsll CR
          refine wp_region_held_drew (S := fun w' => w'.cell? ⟨w4.heap.size, 0, none⟩ = some (.slice xlp u.locs.length xlc) ∧ w'.cell? ⟨w4.heap.size, 1, none⟩ = some (.slice xtp m xtc) ∧ w'.cell? ⟨w4.heap.size, 2, none⟩ = some (.slice xap u.asks.length xac)) (by kernel_rfl) ⟨by simpa using f0, by simpa using f1, by simpa using f2⟩ (fun hHeld => ?_)
          have BD := Bx.mk ((Below.refl wB.heap.size wB).drew)
          clear f0 f1 f2
          generalize wB.drew = wd at *
          refine wpAnyH_take (i := 1) (v := .agg #[.slice xlp u.locs.length xlc, .slice xtp m xtc, .slice xap u.asks.length xac]) rfl (by kernel_rfl) (by kernel_rfl) (by kernel_rfl) (fun _ _ _ h => h) (Or.inl ⟨by rfl, fun w' hw' => by obtain ⟨s1, s2, s3⟩ := hw'; go_simp; try rfl⟩) hHeld ?_
          refine wpAnyH_ready (rs := [0]) (by kernel_rfl) (by simp) ?_
          refine AllReadyH.cons rfl (fun K hK => ?_) AllReadyH.nil
          go_simp
          go_at_call 11; ((with_reducible refine (CSL.out _ (bel BB.out BD.out)).mono ?_); rintro e wC ⟨⟨us, rfl, hus⟩, hbC⟩; obtain ⟨sp, sc, rfl⟩ := rowSlice hus)
          refine hK.out _ _ ⟨cBel hHeld.1 hbC, cBel hHeld.2.1 hbC, cBel hHeld.2.2 hbC⟩ (fun hHeld => ?_)
          have BD := Bx.mk (bel BD.out hbC)
          have SR := Bx.mk hus
          clear hK K hbC hus
          refine wpAnyH_ready (rs := [2]) (by kernel_rfl) (by simp) ?_
          refine AllReadyH.cons rfl (fun K hK => ?_) AllReadyH.nil
          go_simp
          go_at_call 12; ((with_reducible refine (CRL.out _ (bel BB.out BD.out)).mono ?_); rintro e wD ⟨⟨ur, rfl, hurr⟩, hbD⟩; obtain ⟨rp, rc, rfl⟩ := rowSlice hurr)
          refine hK.out _ _ ⟨cBel hHeld.1 hbD, cBel hHeld.2.1 hbD, cBel hHeld.2.2 hbD⟩ (fun hHeld => ?_)
          have BD := Bx.mk (bel BD.out hbD)
          have SR := Bx.mk (rowSlIn (rowBel SR.out hbD)).1
          have RR := Bx.mk (rowSlIn hurr).1
          clear hK K hbD hurr
          refine wpAnyH_take (i := 3) (v := .slice sp M sc) rfl (by kernel_rfl) (by kernel_rfl) (by kernel_rfl) (fun _ _ _ h => h) (Or.inl ⟨by rfl, fun w' hw' => by obtain ⟨s1, s2, s3⟩ := hw'; go_simp; try rfl⟩) hHeld ?_
          refine wpAnyH_take (i := 4) (v := .slice rp M rc) rfl (by kernel_rfl) (by kernel_rfl) (by kernel_rfl) (fun _ _ _ h => h) (Or.inl ⟨by rfl, fun w' hw' => by obtain ⟨s1, s2, s3⟩ := hw'; go_simp; try rfl⟩) hHeld ?_
          refine wpAnyH_done (by kernel_rfl) ?_ _
          obtain ⟨f0, f1, f2⟩ := hHeld
          have UB := Bx.mk (rowSlIn (rowBel UR.out BD.out)).1
          have BAD := Bx.mk (bel BB.out BD.out)
          clear BD UR
          go_wp2_with fail
          go_loopw [115] (fun i wr => ∃ k : Nat, i = .int .i64 (k : Int) ∧ k ≤ M ∧ Bx (Below wD.heap.size wD wr)) (fun i _ => M - (intOf i).toNat)
          case atStart => exact ⟨0, rfl, by omega, ⟨Below.refl _ _⟩⟩
          case round =>
            obtain ⟨k, rfl, hkM, hbk⟩ := hrel
            by_cases hkl : k < M
            · obtain ⟨sb, so, sc', hsv, hsl2, hsc⟩ := SR.out.at (by omega)
              obtain ⟨rfl, _, rfl⟩ := Value.slice.inj hsv
              obtain ⟨rb, ro, rc', hrv, hrl2, hrc⟩ := RR.out.at (by omega)
              obtain ⟨rfl, _, rfl⟩ := Value.slice.inj hrv
              obtain ⟨pp, hpp⟩ : ∃ pp, sl[k]? = some pp := ⟨_, List.getElem?_eq_getElem (by rw [HSLL.out]; exact hkl)⟩
              have g0 := flatAt slC 2 (fun _ => rfl) sl k 0 pp hpp (by decide)
              have g1 := flatAt slC 2 (fun _ => rfl) sl k 1 pp hpp (by decide)
              have q0 : wr.cell? ⟨sb, so + k * 2, none⟩ = some (.int .i64 pp.1) := cBel (hsc _ _ g0) hbk.out
              have q1 : wr.cell? ⟨sb, so + k * 2 + 1, none⟩ = some (.int .i64 pp.2) := by
                rw [Nat.add_assoc]; exact cBel (hsc _ _ g1) hbk.out
              have q2 : wr.cell? ⟨rb, ro + k * 2, none⟩ = some (.int .i64 pp.1) := cBel (hrc _ _ g0) hbk.out
              have q3 : wr.cell? ⟨rb, ro + k * 2 + 1, none⟩ = some (.int .i64 pp.2) := by
                rw [Nat.add_assoc]; exact cBel (hrc _ _ g1) hbk.out
              have hki : (k : Int) < (M : Int) := by omega
              have hk0' : (0 : Int) ≤ (k : Int) := by omega
              clear g0 g1 hsc hrc hsv hrv hpp
              go_wp2_with fail
              go_quiet (fail)
              go_wp2_with fail
              go_roundw
              case rel => exact ⟨k + 1, by go_num, by omega, ⟨belDr hbk.out _⟩⟩
              case measure => simp [intOf] <;> omega
            · obtain rfl : k = M := by omega
              have BAW := Bx.mk (bel BAD.out hbk.out)
              have hRS := Bx.mk (rangeBel RS.out BAW.out)
              have hN0 := cBel NS BAW.out
              have h0 := cBel f0 hbk.out; have h1 := cBel f1 hbk.out; have h2 := cBel f2 hbk.out
              have TW := Bx.mk (TAA.out.below BAW.out)
              have XW := Bx.mk (XAA.out.below BAW.out)
              have UW := Bx.mk (UB.out.below hbk.out)
              have PW := Bx.mk (pow_below HPW.out (bel BWA.out BAW.out))
              have BWW := Bx.mk (bel BWA.out BAW.out)
              have hso100 : SlotsOk u 100 := fun p hp => by
                obtain ⟨q1, q2⟩ := HG2.out.2.1 p hp
                exact ⟨by rcases q1 with q1 | q1 <;> omega, q2⟩
              have hrng := madeRange u (regRR nums m) L8 (regRange nums m HNU.out) (by rw [HL8.out]; exact rowRange nums _ _ HNU.out)
              rw [← HVS.out, ← HSS.out] at hrng
              have ctx : ∀ W, Below wr.heap.size wr W → Calls Tryd.prog 15 #[.pointer (some ⟨w.heap.size, 0, none⟩), .agg (stA SS)] W fun e w' => e = .returned (.string (st (textV u vals k))) ∧ Below W.heap.size W w' := fun W hW => by
                rw [← wordsEq u SS vals k HM.out HSN.out HSV.out]
                exact textAll w.heap.size u HOK.out.1 HG2.out.1 hso100 HOK.out.2 HG2.out.2.2 SS k HSN.out hM40 hrng.2 W (TW.out.below hW) (pow_below PW.out hW)
              have crt : ∀ W, Below wr.heap.size wr W → Calls Tryd.prog 16 #[.agg #[.slice xlp u.locs.length xlc, .slice xtp m xtc, .slice xap u.asks.length xac], .slice uvp k uvc] W fun e w' => e = .returned (.string (st (textV u vals k))) ∧ Below W.heap.size W w' := fun W hW => by
                have h9 := refText_any (.slice xlp u.locs.length xlc) (.slice xtp m xtc) (.slice xap u.asks.length xac) u HOK.out.1 HG1.out (Nat.le_trans HG2.out.1 (by decide)) hso100 HOK.out.2 HG2.out.2.2 (.slice uvp k uvc) vals (by rw [HVLL.out, HM.out]) hrng.1 W (XW.out.below hW) (by rw [HVLL.out]; exact UW.out.below hW)
                rw [← HM.out] at h9
                exact h9
              have cto : ∀ W, Calls Tryd.prog 14 #[.agg (stA SS)] W fun e w' => (∃ u', e = .returned u' ∧ w'.ownsRow W.heap.size 40 1 u' k (vals.map (Value.int .u64))) ∧ Below W.heap.size W w' := fun W => by
                have h9 := toldSt_any SS k HSN.out hM40 W
                rw [HSV.out] at h9
                exact h9
              have csa : ∀ (va : Value) W, Below wr.heap.size wr W → SlIn W va 1 k (vals.map (Value.int .u64)) → Calls Tryd.prog 13 #[va, .slice uvp k uvc] W fun e w' => e = .returned (.bool true) ∧ Below W.heap.size W w' := fun va W hW h9 =>
                refSame_any va (.slice uvp k uvc) vals W (by rw [HVLL.out]; omega) (by rw [HVLL.out]; exact h9) (by rw [HVLL.out]; exact UW.out.below hW)
              generalize st (textV u vals k) = TX at *
              have CTX := Bx.mk ctx; have CRT := Bx.mk crt; have CTO := Bx.mk cto; have CSA := Bx.mk csa
              have i1 := I1.out
              clear ctx crt cto csa hso100 hrng TAA XAA CSL CRL
              go_wp2_with fail
              refine wp_region_held_drew (S := fun w' => w'.cell? ⟨w9.heap.size, 0, none⟩ = some (.int .i64 (k : Int)) ∧ w'.cell? ⟨w4.heap.size, 0, none⟩ = some (.slice xlp u.locs.length xlc) ∧ w'.cell? ⟨w4.heap.size, 1, none⟩ = some (.slice xtp m xtc) ∧ w'.cell? ⟨w4.heap.size, 2, none⟩ = some (.slice xap u.asks.length xac) ∧ w'.rangeAt w9.heap.size 0 (stC SS)) (by kernel_rfl) ⟨by simpa using hN0, by simpa using h0, by simpa using h1, by simpa using h2, (World.rangeAt_drew _ _ _ _).2 hRS.out⟩ (fun hHeld => ?_)
              have BD := Bx.mk ((Below.refl wr.heap.size wr).drew)
              clear hN0 h0 h1 h2 f0 f1 f2 e0 e1 e2 NS
              generalize wr.drew = wd at *
              refine wpAnyH_ready (rs := [0]) (by kernel_rfl) (by simp) ?_
              refine AllReadyH.cons rfl (fun K hK => ?_) AllReadyH.nil
              go_simp
              go_at_call 6; ((with_reducible refine (CA.out _).mono ?_); rintro e wE ⟨rfl, hbx⟩)
              refine hK.out _ _ ⟨cBel hHeld.1 hbx, cBel hHeld.2.1 hbx, cBel hHeld.2.2.1 hbx, cBel hHeld.2.2.2.1 hbx, rangeBel hHeld.2.2.2.2 hbx⟩ (fun hHeld => ?_)
              have BD := Bx.mk (bel BD.out hbx)
              clear hK K hbx
              refine wpAnyH_take (i := 1) (v := .bool true) rfl (by kernel_rfl) (by kernel_rfl) (by kernel_rfl) (fun _ _ _ h => h) (Or.inl ⟨by rfl, fun w' hw' => by obtain ⟨s1, s2, s3, s4, s5⟩ := hw'; go_simp; try rfl⟩) hHeld ?_
              refine wpAnyH_take (i := 2) (v := .pointer (some ⟨w9.heap.size, 0, none⟩)) rfl (by kernel_rfl) (by kernel_rfl) (by kernel_rfl) (fun _ _ _ h => h) (Or.inl ⟨by rfl, fun w' hw' => by obtain ⟨s1, s2, s3, s4, s5⟩ := hw'; go_simp; try rfl⟩) hHeld ?_
              refine wpAnyH_take (i := 3) (v := .int .i64 (k : Int)) rfl (by kernel_rfl) (by kernel_rfl) (by kernel_rfl) (fun _ _ _ h => h) (Or.inl ⟨by rfl, fun w' hw' => by obtain ⟨s1, s2, s3, s4, s5⟩ := hw'; go_simp; try rfl⟩) hHeld ?_
              refine wpAnyH_take (i := 4) (v := .slice uvp k uvc) rfl (by kernel_rfl) (by kernel_rfl) (by kernel_rfl) (fun _ _ _ h => h) (Or.inl ⟨by rfl, fun w' hw' => by obtain ⟨s1, s2, s3, s4, s5⟩ := hw'; go_simp; try rfl⟩) hHeld ?_
              refine wpAnyH_take (i := 5) (v := .int .i64 (k : Int)) rfl (by kernel_rfl) (by kernel_rfl) (by kernel_rfl) (fun _ _ _ h => h) (Or.inl ⟨by rfl, fun w' hw' => by obtain ⟨s1, s2, s3, s4, s5⟩ := hw'; go_simp; try rfl⟩) hHeld ?_
              refine wpAnyH_take (i := 6) (v := .bool true) rfl (by kernel_rfl) (by kernel_rfl) (by kernel_rfl) (fun _ _ _ h => h) (Or.inl ⟨by rfl, fun w' hw' => by obtain ⟨s1, s2, s3, s4, s5⟩ := hw'; go_simp; try rfl⟩) hHeld ?_
              refine wpAnyH_take (i := 7) (v := .bool true) rfl (by kernel_rfl) (by kernel_rfl) (by kernel_rfl) (fun _ _ _ h => h) (Or.inl ⟨by rfl, fun w' hw' => by obtain ⟨s1, s2, s3, s4, s5⟩ := hw'; go_simp; try rfl⟩) hHeld ?_
              refine wpAnyH_take (i := 8) (v := .bool true) rfl (by kernel_rfl) (by kernel_rfl) (by kernel_rfl) (fun _ _ _ h => h) (Or.inl ⟨by rfl, fun w' hw' => by obtain ⟨s1, s2, s3, s4, s5⟩ := hw'; go_simp; try rfl⟩) hHeld ?_
              simp only [Act.put, List.getElem_toArray, List.getElem_cons_succ, List.getElem_cons_zero, List.setIfInBounds_toArray, List.set_cons_zero, List.set_cons_succ]
              refine wpAnyH_take (i := 9) (v := _) rfl (by kernel_rfl) (by kernel_rfl) (by kernel_rfl) (fun _ _ _ h => h) (yieldsIf_load_mid (by rfl) _ _ rfl _ _ rfl (stC SS) _ (fun w' h => h.2.2.2.2) hu rfl i1) hHeld ?_
              refine wpAnyH_take (i := 11) (v := .slice uvp k uvc) rfl (by kernel_rfl) (by kernel_rfl) (by kernel_rfl) (fun _ _ _ h => h) (Or.inl ⟨by rfl, fun w' hw' => by obtain ⟨s1, s2, s3, s4, s5⟩ := hw'; go_simp; try rfl⟩) hHeld ?_
              refine wpAnyH_ready (rs := [10]) (by kernel_rfl) (by simp) ?_
              refine AllReadyH.cons rfl (fun K hK => ?_) AllReadyH.nil
              go_simp
              go_at_call 14; ((with_reducible refine (CTO.out _).mono ?_); rintro e wF ⟨⟨ut, rfl, hut⟩, hbx⟩; obtain ⟨utp, utc, rfl⟩ := rowSlice hut)
              refine hK.out _ _ ⟨cBel hHeld.1 hbx, cBel hHeld.2.1 hbx, cBel hHeld.2.2.1 hbx, cBel hHeld.2.2.2.1 hbx, rangeBel hHeld.2.2.2.2 hbx⟩ (fun hHeld => ?_)
              have BD := Bx.mk (bel BD.out hbx)
              have UT := Bx.mk (rowSlIn hut).1
              clear hK K hbx hut
              refine wpAnyH_ready (rs := [12]) (by kernel_rfl) (by simp) ?_
              refine AllReadyH.cons rfl (fun K hK => ?_) AllReadyH.nil
              go_simp
              go_at_call 13; ((with_reducible refine (CSA.out _ _ BD.out UT.out).mono ?_); rintro e wG ⟨rfl, hbx⟩)
              refine hK.out _ _ ⟨cBel hHeld.1 hbx, cBel hHeld.2.1 hbx, cBel hHeld.2.2.1 hbx, cBel hHeld.2.2.2.1 hbx, rangeBel hHeld.2.2.2.2 hbx⟩ (fun hHeld => ?_)
              have BD := Bx.mk (bel BD.out hbx)
              clear hK K hbx
              refine wpAnyH_take (i := 13) (v := .bool true) rfl (by kernel_rfl) (by kernel_rfl) (by kernel_rfl) (fun _ _ _ h => h) (Or.inl ⟨by rfl, fun w' hw' => by obtain ⟨s1, s2, s3, s4, s5⟩ := hw'; go_simp; try rfl⟩) hHeld ?_
              refine wpAnyH_take (i := 14) (v := .bool true) rfl (by kernel_rfl) (by kernel_rfl) (by kernel_rfl) (fun _ _ _ h => h) (Or.inl ⟨by rfl, fun w' hw' => by obtain ⟨s1, s2, s3, s4, s5⟩ := hw'; go_simp; try rfl⟩) hHeld ?_
              simp only [Act.put, List.getElem_toArray, List.getElem_cons_succ, List.getElem_cons_zero, List.setIfInBounds_toArray, List.set_cons_zero, List.set_cons_succ]
              refine wpAnyH_take (i := 15) (v := _) rfl (by kernel_rfl) (by kernel_rfl) (by kernel_rfl) (fun _ _ _ h => h) (yieldsIf_load_mid (by rfl) _ _ rfl _ _ rfl (stC SS) _ (fun w' h => h.2.2.2.2) hu rfl i1) hHeld ?_
              refine wpAnyH_take (i := 17) (v := .agg #[.slice xlp u.locs.length xlc, .slice xtp m xtc, .slice xap u.asks.length xac]) rfl (by kernel_rfl) (by kernel_rfl) (by kernel_rfl) (fun _ _ _ h => h) (Or.inl ⟨by rfl, fun w' hw' => by obtain ⟨s1, s2, s3, s4, s5⟩ := hw'; go_simp; try rfl⟩) hHeld ?_
              refine wpAnyH_take (i := 18) (v := .slice uvp k uvc) rfl (by kernel_rfl) (by kernel_rfl) (by kernel_rfl) (fun _ _ _ h => h) (Or.inl ⟨by rfl, fun w' hw' => by obtain ⟨s1, s2, s3, s4, s5⟩ := hw'; go_simp; try rfl⟩) hHeld ?_
              refine wpAnyH_ready (rs := [16]) (by kernel_rfl) (by simp) ?_
              refine AllReadyH.cons rfl (fun K hK => ?_) AllReadyH.nil
              go_simp
              go_at_call 15; ((with_reducible refine (CTX.out _ BD.out).mono ?_); rintro e wH ⟨rfl, hbx⟩)
              refine hK.out _ _ ⟨cBel hHeld.1 hbx, cBel hHeld.2.1 hbx, cBel hHeld.2.2.1 hbx, cBel hHeld.2.2.2.1 hbx, rangeBel hHeld.2.2.2.2 hbx⟩ (fun hHeld => ?_)
              have BD := Bx.mk (bel BD.out hbx)
              clear hK K hbx
              refine wpAnyH_ready (rs := [19]) (by kernel_rfl) (by simp) ?_
              refine AllReadyH.cons rfl (fun K hK => ?_) AllReadyH.nil
              go_simp
              go_at_call 16; ((with_reducible refine (CRT.out _ BD.out).mono ?_); rintro e wI ⟨rfl, hbx⟩)
              refine hK.out _ _ ⟨cBel hHeld.1 hbx, cBel hHeld.2.1 hbx, cBel hHeld.2.2.1 hbx, cBel hHeld.2.2.2.1 hbx, rangeBel hHeld.2.2.2.2 hbx⟩ (fun hHeld => ?_)
              have BD := Bx.mk (bel BD.out hbx)
              clear hK K hbx
              refine wpAnyH_take (i := 20) (v := .bool true) rfl (by kernel_rfl) (by kernel_rfl) (by kernel_rfl) (fun _ _ _ h => h) (Or.inl ⟨by rfl, fun w' hw' => by obtain ⟨s1, s2, s3, s4, s5⟩ := hw'; go_simp; try rfl⟩) hHeld ?_
              refine wpAnyH_take (i := 21) (v := .bool true) rfl (by kernel_rfl) (by kernel_rfl) (by kernel_rfl) (fun _ _ _ h => h) (Or.inl ⟨by rfl, fun w' hw' => by obtain ⟨s1, s2, s3, s4, s5⟩ := hw'; go_simp; try rfl⟩) hHeld ?_
              refine wpAnyH_take (i := 22) (v := .bool true) rfl (by kernel_rfl) (by kernel_rfl) (by kernel_rfl) (fun _ _ _ h => h) (Or.inl ⟨by rfl, fun w' hw' => by obtain ⟨s1, s2, s3, s4, s5⟩ := hw'; go_simp; try rfl⟩) hHeld ?_
              refine wpAnyH_done (by kernel_rfl) ?_ _
              clear hHeld
              go_wp2_with fail
              go_ret
              exact ⟨rfl, bel BWW.out BD.out⟩
end Go.Proofs.YtnlcmdgjoikljaaDoor
