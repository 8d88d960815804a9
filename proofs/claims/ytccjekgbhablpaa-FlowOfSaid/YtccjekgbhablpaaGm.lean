/- FloW, FloN, FloX, in one text. -/
import Derived.Test.YtccjekgbhablpaaGn
import Derived.Test.YtccjekgbhablpaaFloM
import Derived.Test.YtccjekgbhablpaaLitY2
namespace Go.Proofs.Ytccjekgbhablpaa
set_option maxRecDepth 100000
open Go.RowKit

def gv (R : List (Bool × Nat)) (i : Nat) : Bool × Nat := if (R.getD i (false, 0)).1 then R.getD i (false, 0) else (false, 0)
def pA (n : Nat) (R : List (Bool × Nat)) (j : Nat) : List (Bool × Nat) := (List.range n).map fun i => if i < j then gv R i else (false, 0)
def pB (n : Nat) (S : List Bool) (j : Nat) : List Bool := (List.range n).map fun i => if i < j then S.getD i false else false
theorem pA_len (n : Nat) (R : List (Bool × Nat)) (j : Nat) : (pA n R j).length = n := by simp [pA]
theorem pB_len (n : Nat) (S : List Bool) (j : Nat) : (pB n S j).length = n := by simp [pB]
theorem pA_set (n : Nat) (R : List (Bool × Nat)) (j : Nat) : (pA n R j).set j (gv R j) = pA n R (j + 1) := by
  apply List.ext_getElem?
  intro i
  unfold pA
  rw [List.getElem?_set]
  by_cases hi : i < n
  · simp only [List.getElem?_map, List.getElem?_range hi, Option.map_some, List.length_map, List.length_range]
    by_cases hij : j = i
    · subst hij; simp [hi]
    · rw [if_neg hij]
      by_cases h1 : i < j
      · rw [if_pos h1, if_pos (by omega)]
      · rw [if_neg h1, if_neg (by omega)]
  · have e : ∀ g : Nat → Bool × Nat, ((List.range n).map g)[i]? = none := fun g => List.getElem?_eq_none (by simp; omega)
    rw [e, e]
    split
    · rw [if_neg (by simp; omega)]
    · rfl
theorem pB_set (n : Nat) (S : List Bool) (j : Nat) : (pB n S j).set j (S.getD j false) = pB n S (j + 1) := by
  apply List.ext_getElem?
  intro i
  unfold pB
  rw [List.getElem?_set]
  by_cases hi : i < n
  · simp only [List.getElem?_map, List.getElem?_range hi, Option.map_some, List.length_map, List.length_range]
    by_cases hij : j = i
    · subst hij; simp [hi]
    · rw [if_neg hij]
      by_cases h1 : i < j
      · rw [if_pos h1, if_pos (by omega)]
      · rw [if_neg h1, if_neg (by omega)]
  · have e : ∀ g : Nat → Bool, ((List.range n).map g)[i]? = none := fun g => List.getElem?_eq_none (by simp; omega)
    rw [e, e]
    split
    · rw [if_neg (by simp; omega)]
    · rfl
theorem pA_at (n : Nat) (R : List (Bool × Nat)) (j : Nat) (h : j < n) : (pA n R j)[j]? = some (false, 0) := by
  unfold pA
  rw [List.getElem?_map, List.getElem?_range h]; simp
theorem pA_at1 (n : Nat) (R : List (Bool × Nat)) (j : Nat) (h : j < n) : (pA n R (j + 1))[j]? = some (gv R j) := by
  unfold pA
  rw [List.getElem?_map, List.getElem?_range h]; simp
theorem set_same {α : Type} {l : List α} {j : Nat} {v : α} (h : l[j]? = some v) : l.set j v = l := by
  apply List.ext_getElem?
  intro i
  rw [List.getElem?_set]
  by_cases e : j = i
  · subst e; rw [if_pos rfl, if_pos (List.getElem?_eq_some_iff.1 h).1, h]
  · rw [if_neg e]
theorem pA_stay (n : Nat) (R : List (Bool × Nat)) (j : Nat) (h : j < n) (hg : gv R j = (false, 0)) : pA n R (j + 1) = pA n R j := by
  rw [← pA_set, hg, set_same (pA_at n R j h)]
theorem pB_at (n : Nat) (S : List Bool) (j : Nat) (h : j < n) : (pB n S j)[j]? = some false := by
  unfold pB
  rw [List.getElem?_map, List.getElem?_range h]; simp
theorem pB_stay (n : Nat) (S : List Bool) (j : Nat) (h : j < n) (hg : S.getD j false = false) : pB n S (j + 1) = pB n S j := by
  rw [← pB_set, hg, set_same (pB_at n S j h)]
/-- the reference's numbers -/
def rvC (p : Bool × Nat) : List Value := [.bool p.1, .int .u64 (p.2 : Int), .slice none 0 0]
def rV (l : List (Bool × Nat)) : List Value := l.flatMap rvC
theorem rV_set_list : ∀ (l : List (Bool × Nat)) (k : Nat) (p : Bool × Nat), (((rV l).set (k * 3) (.bool p.1)).set (k * 3 + 1) (.int .u64 (p.2 : Int))).set (k * 3 + 2) (.slice none 0 0) = rV (l.set k p)
  | [], k, p => by simp [rV]
  | a :: l, 0, p => by simp [rV, rvC]
  | a :: l, k + 1, p => by
    have ih := rV_set_list l k p
    have e : rV (a :: l) = .bool a.1 :: .int .u64 (a.2 : Int) :: .slice none 0 0 :: rV l := by simp [rV, rvC]
    rw [e, show (k + 1) * 3 = k * 3 + 1 + 1 + 1 by omega]
    have e2 : k * 3 + 1 + 1 + 1 + 2 = (k * 3 + 2) + 1 + 1 + 1 := by omega
    rw [e2]
    simp only [List.set_cons_succ]
    rw [ih]
    simp [rV, rvC]
theorem rV_set (l : List (Bool × Nat)) (k : Nat) (p : Bool × Nat) : (((rV l).toArray.setIfInBounds (k * 3) (.bool p.1)).setIfInBounds (k * 3 + 1) (.int .u64 (p.2 : Int))).setIfInBounds (k * 3 + 2) (.slice none 0 0) = (rV (l.set k p)).toArray := by
  rw [← rV_set_list l k p]; simp
theorem made_rv (n : Nat) : madeCells (Value.agg #[.bool false, .int .u64 0, .slice none 0 0]).cells (n * 3) = (rV (List.replicate n (false, 0))).toArray := by
  apply Array.ext_getElem?
  intro j
  have hlen : (rV (List.replicate n (false, 0))).length = n * 3 := by
    have : ∀ l : List (Bool × Nat), (rV l).length = l.length * 3 := fun l => by
      unfold rV
      induction l with
      | nil => rfl
      | cons a l ih => rw [List.flatMap_cons, List.length_append, ih, List.length_cons]; simp [rvC]; omega
    rw [this]; simp
  by_cases hj : j < n * 3
  · have h1 : (rV (List.replicate n (false, 0)))[j / 3 * 3 + j % 3]? = (rvC (false, 0))[j % 3]? := flatAt rvC 3 (fun _ => rfl) (List.replicate n (false, 0)) (j / 3) (j % 3) (false, 0) (by rw [List.getElem?_replicate, if_pos (by omega)]) (Nat.mod_lt _ (by decide))
    rw [show j / 3 * 3 + j % 3 = j by omega] at h1
    have h3 : (rV (List.replicate n (false, 0))).toArray[j]? = (rV (List.replicate n (false, 0)))[j]? := by simp
    rw [h3, h1]
    have h2 : j % 3 = 0 ∨ j % 3 = 1 ∨ j % 3 = 2 := by omega
    rcases h2 with h2 | h2 | h2
    · simp [madeCells, hj, Value.cells, h2, rvC]
    · simp [madeCells, hj, Value.cells, h2, rvC]
    · simp [madeCells, hj, Value.cells, h2, rvC]
  · rw [Array.getElem?_eq_none (by simp [madeCells]; omega), Array.getElem?_eq_none (by simp [hlen]; omega)]
theorem info_rv : (Try.prog.info? 70).map (fun i => (i.zero, i.size, i.bytes)) = some (some (.agg #[.bool false, .int .u64 0, .slice none 0 0]), 3, 40) := by kernel_rfl
/-- the three rows that are made -/
structure GivS (z : World) (W : World) (A : List (Bool × Nat)) (B : List Bool) (C : List (Bool × Nat)) : Prop where
  a : W.heap[z.heap.size]? = some (.cells (nV A).toArray 74 (0, 0))
  b : W.heap[z.heap.size + 1]? = some (.cells (B.map Value.bool).toArray 4 (0, 0))
  c : W.heap[z.heap.size + 1 + 1]? = some (.cells (rV C).toArray 70 (0, 0))
  bel : Below z.heap.size z W
theorem GivS.setA {z W : World} {A C : List (Bool × Nat)} {B : List Bool} (h : GivS z W A B C) (k : Nat) (p : Bool × Nat) : GivS z ((W.setCell ⟨z.heap.size, k * 2, none⟩ (.bool p.1)).setCell ⟨z.heap.size, k * 2 + 1, none⟩ (.int .u64 (p.2 : Int))) (A.set k p) B C :=
  ⟨by rw [heapSet' (heapSet' h.a _ _) _ _, nV_set], (hset (by omega)).trans ((hset (by omega)).trans h.b), (hset (by omega)).trans ((hset (by omega)).trans h.c), belSet (belSet h.bel _ _ _ (Nat.le_refl _)) _ _ _ (Nat.le_refl _)⟩
theorem GivS.setB {z W : World} {A C : List (Bool × Nat)} {B : List Bool} (h : GivS z W A B C) (k : Nat) (p : Bool) : GivS z (W.setCell ⟨z.heap.size + 1, k, none⟩ (.bool p)) A (B.set k p) C :=
  ⟨(hset (by omega)).trans h.a, by rw [heapSet' h.b]; simp [List.map_set], (hset (by omega)).trans h.c, belSet h.bel _ _ _ (by omega)⟩
theorem GivS.setC {z W : World} {A C : List (Bool × Nat)} {B : List Bool} (h : GivS z W A B C) (k : Nat) (p : Bool × Nat) : GivS z (((W.setCell ⟨z.heap.size + 1 + 1, k * 3, none⟩ (.bool p.1)).setCell ⟨z.heap.size + 1 + 1, k * 3 + 1, none⟩ (.int .u64 (p.2 : Int))).setCell ⟨z.heap.size + 1 + 1, k * 3 + 2, none⟩ (.slice none 0 0)) A B (C.set k p) :=
  ⟨(hset (by omega)).trans ((hset (by omega)).trans ((hset (by omega)).trans h.a)), (hset (by omega)).trans ((hset (by omega)).trans ((hset (by omega)).trans h.b)), by rw [heapSet' (heapSet' (heapSet' h.c _ _) _ _) _ _, rV_set], belSet (belSet (belSet h.bel _ _ _ (by omega)) _ _ _ (by omega)) _ _ _ (by omega)⟩
theorem GivS.drew {z W : World} {A C : List (Bool × Nat)} {B : List Bool} (h : GivS z W A B C) : GivS z W.drew A B C := ⟨h.a, h.b, h.c, ⟨h.bel.os, h.bel.tape, h.bel.output, h.bel.size, h.bel.block⟩⟩
theorem testNew {w : World} {lv tv av : Value} {t : TestM} (h : TestIn w lv tv av t) (T : TypeId) : TestAt (w.alloc (.cells #[lv, tv, av] T)) w.heap.size t :=
  ⟨_, _, _, by rw [cOf (heap_alloc_new _ _)]; rfl, by rw [cOf (heap_alloc_new _ _)]; rfl, by rw [cOf (heap_alloc_new _ _)]; rfl, h.below (aset _ _)⟩
theorem pA_zero (n : Nat) (R : List (Bool × Nat)) : pA n R 0 = List.replicate n (false, 0) := by
  apply List.ext_getElem?
  intro i
  unfold pA
  rw [List.getElem?_replicate]
  by_cases hi : i < n
  · rw [List.getElem?_map, List.getElem?_range hi, if_pos hi]; rfl
  · rw [List.getElem?_eq_none (by simp; omega), if_neg hi]
theorem pB_zero (n : Nat) (S : List Bool) : pB n S 0 = List.replicate n false := by
  apply List.ext_getElem?
  intro i
  unfold pB
  rw [List.getElem?_replicate]
  by_cases hi : i < n
  · rw [List.getElem?_map, List.getElem?_range hi, if_pos hi]; rfl
  · rw [List.getElem?_eq_none (by simp; omega), if_neg hi]
theorem testValsF {w : World} {lv tv av : Value} {t : TestM} (h : TestIn w lv tv av t) : ∃ lp lc tp tc ap ac, lv = .slice lp t.locs.length lc ∧ tv = .slice tp t.thr.length tc ∧ av = .slice ap t.asks.length ac := by
  obtain ⟨a, ⟨vs, _, b, _⟩, c⟩ := h
  obtain ⟨lp, lc, h1⟩ := a.slice
  obtain ⟨tp, tc, h2⟩ := b.slice
  obtain ⟨ap, ac, h3⟩ := c.slice
  exact ⟨lp, lc, tp, tc, ap, ac, h1, h2, h3⟩

theorem res_tmp3 {fn : Func} {t u v : Tmp} (h : fn.results = #[.tmp t, .tmp u, .tmp v]) (tmps : Array Value) (P : Program) (w : World) :
    (results fn tmps).run P w = .ok (.tuple #[tmps.getD t undef, tmps.getD u undef, tmps.getD v undef]) w := by
  simp [results, h]
set_option maxHeartbeats 12800000 in
theorem given_any (lv tv av rv wv : Value) (t : TestM) (hk : TestOk t) (n : Nat) (hn : memT t.thr = n) (hn1 : n ≤ 1000000) (R : List (Bool × Nat)) (S : List Bool) (hR1 : R.length ≤ maxLen) (hS1 : S.length ≤ maxLen) (w : World) (h : TestIn w lv tv av t) (hR : SlIn w rv 2 R.length (nV R)) (hS : SlIn w wv 1 S.length (S.map Value.bool)) :
    Calls Try.prog 10 #[.agg #[lv, tv, av], rv, wv] w fun e w' => ∃ z : World, Below w.heap.size w z ∧ e = .returned (.tuple #[.slice (some ⟨z.heap.size, 0, none⟩) n n, .slice (some ⟨z.heap.size + 1, 0, none⟩) n n, .slice (some ⟨z.heap.size + 1 + 1, 0, none⟩) n n]) ∧ GivS z w' (pA n R n) (pB n S n) (pA n R n) := by
  unfold maxLen at hR1 hS1
  have k1 : ∀ W : World, (Instr.makeSlice 27 (.int .i64 (n : Int)) (.int .i64 (n : Int))).run Try.prog W = .ok (.slice (some ⟨W.heap.size, 0, none⟩) n n) (W.alloc (.cells (nV (List.replicate n (false, 0))).toArray 74)) := fun W => by
    have := mk_row (T := 27) Try.underlying27 info_mv (by decide) n hn1 W
    rw [made_val] at this; exact this
  have k2 : ∀ W : World, (Instr.makeSlice 28 (.int .i64 (n : Int)) (.int .i64 (n : Int))).run Try.prog W = .ok (.slice (some ⟨W.heap.size, 0, none⟩) n n) (W.alloc (.cells (Array.replicate n (Value.bool false)) 4)) := fun W => by
    have := mk_row (T := 28) Try.underlying28 info_mb (by decide) n hn1 W
    rw [made_bool] at this; simpa using this
  have k3 : ∀ W : World, (Instr.makeSlice 53 (.int .i64 (n : Int)) (.int .i64 (n : Int))).run Try.prog W = .ok (.slice (some ⟨W.heap.size, 0, none⟩) n n) (W.alloc (.cells (rV (List.replicate n (false, 0))).toArray 70)) := fun W => by
    have := mk_row (T := 53) Try.underlying53 info_rv (by decide) n hn1 W
    rw [made_rv] at this; exact this
  have hT := testNew h 26
  obtain ⟨lp, lc, tp, tc, ap, ac, rfl, rfl, rfl⟩ := testValsF h
  obtain ⟨rp, rc, rfl⟩ := hR.slice
  obtain ⟨wp, wc, rfl⟩ := hS.slice
  have co := ops_any w.heap.size t hk _ hT
  unfold OpsP at co
  rw [opsM_len, hn] at co
  have CO := Bx.mk co; have HR := Bx.mk hR; have HS := Bx.mk hS
  have B0 := Bx.mk (aset w (.cells #[.slice lp t.locs.length lc, .slice tp t.thr.length tc, .slice ap t.asks.length ac] 26))
  clear co hT h hR hS hn hk
  go_enter Try.func10, Try.ntmps10
  go_upto_region 5 with (go_at_call 8; ((with_reducible refine (CO.out).mono ?_); rintro e z ⟨u, rfl, hrow, hbz⟩; obtain ⟨up, uc, rfl⟩ := rowSlice hrow; have BZ := Bx.mk (bel B0.out hbz); clear hrow hbz))
  have G0 : GivS z (((z.alloc (.cells (nV (List.replicate n (false, 0))).toArray 74)).alloc (.cells (Array.replicate n (Value.bool false)) 4)).alloc (.cells (rV (List.replicate n (false, 0))).toArray 70)) (pA n R 0) (pB n S 0) (pA n R 0) := by
    rw [pA_zero, pB_zero]
    have a1 := heap_alloc_new z (.cells (nV (List.replicate n (false, 0))).toArray 74)
    have b1 := aset z (.cells (nV (List.replicate n (false, 0))).toArray 74)
    have s1 : (z.alloc (.cells (nV (List.replicate n (false, 0))).toArray 74)).heap.size = z.heap.size + 1 := by simp
    generalize z.alloc (.cells (nV (List.replicate n (false, 0))).toArray 74) = z1 at *
    have a2 := heap_alloc_new z1 (.cells (Array.replicate n (Value.bool false)) 4)
    have b2 := aset z1 (.cells (Array.replicate n (Value.bool false)) 4)
    have s2 : (z1.alloc (.cells (Array.replicate n (Value.bool false)) 4)).heap.size = z1.heap.size + 1 := by simp
    generalize z1.alloc (.cells (Array.replicate n (Value.bool false)) 4) = z2 at *
    have a3 := heap_alloc_new z2 (.cells (rV (List.replicate n (false, 0))).toArray 70)
    have b3 := aset z2 (.cells (rV (List.replicate n (false, 0))).toArray 70)
    rw [s2, s1] at a3
    rw [s1] at a2
    exact ⟨(b3.block _ (by omega)).trans ((b2.block _ (by omega)).trans a1), (b3.block _ (by omega)).trans (by rw [a2]; simp), a3, bel (bel b1 b2) b3⟩
  have GG := Bx.mk G0
  clear G0 k1 k2 k3
  generalize ((z.alloc (.cells (nV (List.replicate n (false, 0))).toArray 74)).alloc (.cells (Array.replicate n (Value.bool false)) 4)).alloc (.cells (rV (List.replicate n (false, 0))).toArray 70) = w3 at *
  go_wp2_with fail
  go_loopw [13] (fun q wx => ∃ j : Nat, q = .int .i64 (j : Int) ∧ j ≤ n ∧ Bx (GivS z wx (pA n R j) (pB n S j) (pA n R j))) (fun q _ => n - (intOf q).toNat)
  case atStart => exact ⟨0, rfl, by omega, GG⟩
  case round =>
    obtain ⟨j, rfl, hj, hG⟩ := hrel
    by_cases hlt : j < n
    · have hji : (j : Int) < (n : Int) := by omega
      have hj0 : (0 : Int) ≤ (j : Int) := by omega
      have ap := pA_at n R j hlt
      have bp := pB_at n S j hlt
      have a0 : wr.cell? ⟨z.heap.size, j * 2, none⟩ = some (.bool false) := by rw [cOf hG.out.a]; have := nV_get ap 0 (by decide); simpa [vC] using this
      have a1 : wr.cell? ⟨z.heap.size, j * 2 + 1, none⟩ = some (.int .u64 0) := by rw [cOf hG.out.a]; have := nV_get ap 1 (by decide); simpa [vC] using this
      have af0 := tOf hG.out.a (j * 2); have af1 := tOf hG.out.a (j * 2 + 1)
      have AP1 := Bx.mk (pA_at1 n R j hlt)
      have PS := Bx.mk (pA_set n R j); have PST := Bx.mk (pA_stay n R j hlt); have BS := Bx.mk (pB_set n S j); have BST := Bx.mk (pB_stay n S j hlt)
      have AP := Bx.mk ap; have BP := Bx.mk bp
      clear ap bp
      by_cases hjr : R.length ≤ j
      · have hd1 : ¬ ((j : Int) < (R.length : Int)) := by omega
        have GA : Bx (GivS z wr (pA n R (j + 1)) (pB n S j) (pA n R j)) := ⟨by rw [PST.out (by unfold gv; rw [List.getD_eq_getElem?_getD, List.getElem?_eq_none hjr]; rfl)]; exact hG.out⟩
        clear hjr hG
        go_upto_region 10 with fail
        obtain ⟨WA, hWA⟩ : ∃ WA, WA = wr := ⟨_, rfl⟩
        rw [← hWA] at GA ⊢
        clear hWA a0 a1 af0 af1
        by_cases hjs : S.length ≤ j
        · have hd : ¬ ((j : Int) < (S.length : Int)) := by omega
          have GB : Bx (GivS z WA (pA n R (j + 1)) (pB n S (j + 1)) (pA n R j)) := ⟨by rw [BST.out (by rw [List.getD_eq_getElem?_getD, List.getElem?_eq_none hjs]; rfl)]; exact GA.out⟩
          clear hjs GA
          go_upto_region 12 with fail
          obtain ⟨WB, hWB⟩ : ∃ WB, WB = WA := ⟨_, rfl⟩
          rw [← hWB] at GB ⊢
          clear hWB
          obtain ⟨p, hp⟩ : ∃ p, p = gv R j := ⟨_, rfl⟩
          have q0 : WB.cell? ⟨z.heap.size, j * 2, none⟩ = some (.bool p.1) := by rw [hp, cOf GB.out.a]; have := nV_get AP1.out 0 (by decide); simpa [vC] using this
          have q1 : WB.cell? ⟨z.heap.size, j * 2 + 1, none⟩ = some (.int .u64 (p.2 : Int)) := by rw [hp, cOf GB.out.a]; have := nV_get AP1.out 1 (by decide); simpa [vC] using this
          have c0 : WB.cell? ⟨z.heap.size + 1 + 1, j * 3, none⟩ = some (.bool false) := by rw [cOf GB.out.c]; have := flatAt rvC 3 (fun _ => rfl) _ j 0 _ AP.out (by decide); simpa [rvC, rV] using this
          have c1 : WB.cell? ⟨z.heap.size + 1 + 1, j * 3 + 1, none⟩ = some (.int .u64 0) := by rw [cOf GB.out.c]; have := flatAt rvC 3 (fun _ => rfl) _ j 1 _ AP.out (by decide); simpa [rvC, rV] using this
          have c2 : WB.cell? ⟨z.heap.size + 1 + 1, j * 3 + 2, none⟩ = some (.slice none 0 0) := by rw [cOf GB.out.c]; have := flatAt rvC 3 (fun _ => rfl) _ j 2 _ AP.out (by decide); simpa [rvC, rV] using this
          have cf0 := tOf GB.out.c (j * 3); have cf1 := tOf GB.out.c (j * 3 + 1); have cf2 := tOf GB.out.c (j * 3 + 2)
          have GC : Bx (GivS z (((WB.drew.setCell ⟨z.heap.size + 1 + 1, j * 3, none⟩ (.bool p.1)).setCell ⟨z.heap.size + 1 + 1, j * 3 + 1, none⟩ (.int .u64 (p.2 : Int))).setCell ⟨z.heap.size + 1 + 1, j * 3 + 2, none⟩ (.slice none 0 0)) (pA n R (j + 1)) (pB n S (j + 1)) (pA n R (j + 1))) := ⟨by
            rw [← PS.out, ← hp]
            have := GB.out.drew.setC j p
            rw [← PS.out, ← hp] at this
            exact this⟩
          clear hp GB
          go_still_tail 14, (by kernel_rfl)
          change wpList _ _ _ _ _ WB.drew
          go_wp2_with fail
          go_roundw
          case rel => exact ⟨j + 1, by go_num, by omega, GC⟩
          case measure => simp [intOf] <;> omega
        · have hd : (j : Int) < (S.length : Int) := by omega
          obtain ⟨sb, so, sc, hsv, hsl, hsc⟩ := HS.out.at (by omega)
          obtain ⟨rfl, _, rfl⟩ := Value.slice.inj hsv
          obtain ⟨v, hv⟩ : ∃ v, S[j]? = some v := ⟨_, List.getElem?_eq_getElem (by omega)⟩
          have s0 : WA.cell? ⟨sb, so + j, none⟩ = some (.bool v) := ((bel BZ.out GA.out.bel).cell hsl).trans (hsc j _ (by rw [List.getElem?_map, hv]; rfl))
          have b0 : WA.cell? ⟨z.heap.size + 1, j, none⟩ = some (.bool false) := by rw [cOf GA.out.b]; simp only [List.getElem?_toArray, List.getElem?_map, BP.out]; rfl
          have bf0 := tOf GA.out.b j
          have GB : Bx (GivS z (WA.setCell ⟨z.heap.size + 1, j, none⟩ (.bool v)) (pA n R (j + 1)) (pB n S (j + 1)) (pA n R j)) := ⟨by
            have e : S.getD j false = v := by rw [List.getD_eq_getElem?_getD, hv]; rfl
            rw [← BS.out, e]
            exact GA.out.setB j v⟩
          clear hjs GA hsv hsc hv
          go_upto_region 12 with fail
          generalize WA.setCell ⟨z.heap.size + 1, j, none⟩ (.bool v) = WB at *
          clear s0 b0 bf0
          obtain ⟨p, hp⟩ : ∃ p, p = gv R j := ⟨_, rfl⟩
          have q0 : WB.cell? ⟨z.heap.size, j * 2, none⟩ = some (.bool p.1) := by rw [hp, cOf GB.out.a]; have := nV_get AP1.out 0 (by decide); simpa [vC] using this
          have q1 : WB.cell? ⟨z.heap.size, j * 2 + 1, none⟩ = some (.int .u64 (p.2 : Int)) := by rw [hp, cOf GB.out.a]; have := nV_get AP1.out 1 (by decide); simpa [vC] using this
          have c0 : WB.cell? ⟨z.heap.size + 1 + 1, j * 3, none⟩ = some (.bool false) := by rw [cOf GB.out.c]; have := flatAt rvC 3 (fun _ => rfl) _ j 0 _ AP.out (by decide); simpa [rvC, rV] using this
          have c1 : WB.cell? ⟨z.heap.size + 1 + 1, j * 3 + 1, none⟩ = some (.int .u64 0) := by rw [cOf GB.out.c]; have := flatAt rvC 3 (fun _ => rfl) _ j 1 _ AP.out (by decide); simpa [rvC, rV] using this
          have c2 : WB.cell? ⟨z.heap.size + 1 + 1, j * 3 + 2, none⟩ = some (.slice none 0 0) := by rw [cOf GB.out.c]; have := flatAt rvC 3 (fun _ => rfl) _ j 2 _ AP.out (by decide); simpa [rvC, rV] using this
          have cf0 := tOf GB.out.c (j * 3); have cf1 := tOf GB.out.c (j * 3 + 1); have cf2 := tOf GB.out.c (j * 3 + 2)
          have GC : Bx (GivS z (((WB.drew.setCell ⟨z.heap.size + 1 + 1, j * 3, none⟩ (.bool p.1)).setCell ⟨z.heap.size + 1 + 1, j * 3 + 1, none⟩ (.int .u64 (p.2 : Int))).setCell ⟨z.heap.size + 1 + 1, j * 3 + 2, none⟩ (.slice none 0 0)) (pA n R (j + 1)) (pB n S (j + 1)) (pA n R (j + 1))) := ⟨by
            rw [← PS.out, ← hp]
            have := GB.out.drew.setC j p
            rw [← PS.out, ← hp] at this
            exact this⟩
          clear hp GB
          go_still_tail 14, (by kernel_rfl)
          change wpList _ _ _ _ _ WB.drew
          go_wp2_with fail
          go_roundw
          case rel => exact ⟨j + 1, by go_num, by omega, GC⟩
          case measure => simp [intOf] <;> omega
      · have hd1 : (j : Int) < (R.length : Int) := by omega
        obtain ⟨rb, ro, rc2, hrv, hrl, hrc⟩ := HR.out.at (by omega)
        obtain ⟨rfl, _, rfl⟩ := Value.slice.inj hrv
        obtain ⟨⟨pk, pv⟩, hx⟩ : ∃ x, R[j]? = some x := ⟨_, List.getElem?_eq_getElem (by omega)⟩
        have e0 : R.getD j (false, 0) = (pk, pv) := by rw [List.getD_eq_getElem?_getD, hx]; rfl
        have r0 : wr.cell? ⟨rb, ro + j * 2, none⟩ = some (.bool pk) := ((bel BZ.out hG.out.bel).cell hrl).trans (hrc _ _ (by have := nV_get hx 0 (by decide); simpa [vC] using this))
        have r1 : wr.cell? ⟨rb, ro + j * 2 + 1, none⟩ = some (.int .u64 (pv : Int)) := ((bel BZ.out hG.out.bel).cell hrl).trans (hrc (j * 2 + 1) _ (by have := nV_get hx 1 (by decide); simpa [vC] using this))
        cases pk
        · have GA : Bx (GivS z wr (pA n R (j + 1)) (pB n S j) (pA n R j)) := ⟨by rw [PST.out (by unfold gv; rw [e0]; rfl)]; exact hG.out⟩
          clear hjr hG hrv hrc hx e0
          go_upto_region 10 with fail
          obtain ⟨WA, hWA⟩ : ∃ WA, WA = wr := ⟨_, rfl⟩
          rw [← hWA] at GA ⊢
          clear hWA a0 a1 af0 af1 r0 r1
          by_cases hjs : S.length ≤ j
          · have hd : ¬ ((j : Int) < (S.length : Int)) := by omega
            have GB : Bx (GivS z WA (pA n R (j + 1)) (pB n S (j + 1)) (pA n R j)) := ⟨by rw [BST.out (by rw [List.getD_eq_getElem?_getD, List.getElem?_eq_none hjs]; rfl)]; exact GA.out⟩
            clear hjs GA
            go_upto_region 12 with fail
            obtain ⟨WB, hWB⟩ : ∃ WB, WB = WA := ⟨_, rfl⟩
            rw [← hWB] at GB ⊢
            clear hWB
            obtain ⟨p, hp⟩ : ∃ p, p = gv R j := ⟨_, rfl⟩
            have q0 : WB.cell? ⟨z.heap.size, j * 2, none⟩ = some (.bool p.1) := by rw [hp, cOf GB.out.a]; have := nV_get AP1.out 0 (by decide); simpa [vC] using this
            have q1 : WB.cell? ⟨z.heap.size, j * 2 + 1, none⟩ = some (.int .u64 (p.2 : Int)) := by rw [hp, cOf GB.out.a]; have := nV_get AP1.out 1 (by decide); simpa [vC] using this
            have c0 : WB.cell? ⟨z.heap.size + 1 + 1, j * 3, none⟩ = some (.bool false) := by rw [cOf GB.out.c]; have := flatAt rvC 3 (fun _ => rfl) _ j 0 _ AP.out (by decide); simpa [rvC, rV] using this
            have c1 : WB.cell? ⟨z.heap.size + 1 + 1, j * 3 + 1, none⟩ = some (.int .u64 0) := by rw [cOf GB.out.c]; have := flatAt rvC 3 (fun _ => rfl) _ j 1 _ AP.out (by decide); simpa [rvC, rV] using this
            have c2 : WB.cell? ⟨z.heap.size + 1 + 1, j * 3 + 2, none⟩ = some (.slice none 0 0) := by rw [cOf GB.out.c]; have := flatAt rvC 3 (fun _ => rfl) _ j 2 _ AP.out (by decide); simpa [rvC, rV] using this
            have cf0 := tOf GB.out.c (j * 3); have cf1 := tOf GB.out.c (j * 3 + 1); have cf2 := tOf GB.out.c (j * 3 + 2)
            have GC : Bx (GivS z (((WB.drew.setCell ⟨z.heap.size + 1 + 1, j * 3, none⟩ (.bool p.1)).setCell ⟨z.heap.size + 1 + 1, j * 3 + 1, none⟩ (.int .u64 (p.2 : Int))).setCell ⟨z.heap.size + 1 + 1, j * 3 + 2, none⟩ (.slice none 0 0)) (pA n R (j + 1)) (pB n S (j + 1)) (pA n R (j + 1))) := ⟨by
              rw [← PS.out, ← hp]
              have := GB.out.drew.setC j p
              rw [← PS.out, ← hp] at this
              exact this⟩
            clear hp GB
            go_still_tail 14, (by kernel_rfl)
            change wpList _ _ _ _ _ WB.drew
            go_wp2_with fail
            go_roundw
            case rel => exact ⟨j + 1, by go_num, by omega, GC⟩
            case measure => simp [intOf] <;> omega
          · have hd : (j : Int) < (S.length : Int) := by omega
            obtain ⟨sb, so, sc, hsv, hsl, hsc⟩ := HS.out.at (by omega)
            obtain ⟨rfl, _, rfl⟩ := Value.slice.inj hsv
            obtain ⟨v, hv⟩ : ∃ v, S[j]? = some v := ⟨_, List.getElem?_eq_getElem (by omega)⟩
            have s0 : WA.cell? ⟨sb, so + j, none⟩ = some (.bool v) := ((bel BZ.out GA.out.bel).cell hsl).trans (hsc j _ (by rw [List.getElem?_map, hv]; rfl))
            have b0 : WA.cell? ⟨z.heap.size + 1, j, none⟩ = some (.bool false) := by rw [cOf GA.out.b]; simp only [List.getElem?_toArray, List.getElem?_map, BP.out]; rfl
            have bf0 := tOf GA.out.b j
            have GB : Bx (GivS z (WA.setCell ⟨z.heap.size + 1, j, none⟩ (.bool v)) (pA n R (j + 1)) (pB n S (j + 1)) (pA n R j)) := ⟨by
              have e : S.getD j false = v := by rw [List.getD_eq_getElem?_getD, hv]; rfl
              rw [← BS.out, e]
              exact GA.out.setB j v⟩
            clear hjs GA hsv hsc hv
            go_upto_region 12 with fail
            generalize WA.setCell ⟨z.heap.size + 1, j, none⟩ (.bool v) = WB at *
            clear s0 b0 bf0
            obtain ⟨p, hp⟩ : ∃ p, p = gv R j := ⟨_, rfl⟩
            have q0 : WB.cell? ⟨z.heap.size, j * 2, none⟩ = some (.bool p.1) := by rw [hp, cOf GB.out.a]; have := nV_get AP1.out 0 (by decide); simpa [vC] using this
            have q1 : WB.cell? ⟨z.heap.size, j * 2 + 1, none⟩ = some (.int .u64 (p.2 : Int)) := by rw [hp, cOf GB.out.a]; have := nV_get AP1.out 1 (by decide); simpa [vC] using this
            have c0 : WB.cell? ⟨z.heap.size + 1 + 1, j * 3, none⟩ = some (.bool false) := by rw [cOf GB.out.c]; have := flatAt rvC 3 (fun _ => rfl) _ j 0 _ AP.out (by decide); simpa [rvC, rV] using this
            have c1 : WB.cell? ⟨z.heap.size + 1 + 1, j * 3 + 1, none⟩ = some (.int .u64 0) := by rw [cOf GB.out.c]; have := flatAt rvC 3 (fun _ => rfl) _ j 1 _ AP.out (by decide); simpa [rvC, rV] using this
            have c2 : WB.cell? ⟨z.heap.size + 1 + 1, j * 3 + 2, none⟩ = some (.slice none 0 0) := by rw [cOf GB.out.c]; have := flatAt rvC 3 (fun _ => rfl) _ j 2 _ AP.out (by decide); simpa [rvC, rV] using this
            have cf0 := tOf GB.out.c (j * 3); have cf1 := tOf GB.out.c (j * 3 + 1); have cf2 := tOf GB.out.c (j * 3 + 2)
            have GC : Bx (GivS z (((WB.drew.setCell ⟨z.heap.size + 1 + 1, j * 3, none⟩ (.bool p.1)).setCell ⟨z.heap.size + 1 + 1, j * 3 + 1, none⟩ (.int .u64 (p.2 : Int))).setCell ⟨z.heap.size + 1 + 1, j * 3 + 2, none⟩ (.slice none 0 0)) (pA n R (j + 1)) (pB n S (j + 1)) (pA n R (j + 1))) := ⟨by
              rw [← PS.out, ← hp]
              have := GB.out.drew.setC j p
              rw [← PS.out, ← hp] at this
              exact this⟩
            clear hp GB
            go_still_tail 14, (by kernel_rfl)
            change wpList _ _ _ _ _ WB.drew
            go_wp2_with fail
            go_roundw
            case rel => exact ⟨j + 1, by go_num, by omega, GC⟩
            case measure => simp [intOf] <;> omega
        · have GA : Bx (GivS z ((wr.setCell ⟨z.heap.size, j * 2, none⟩ (.bool true)).setCell ⟨z.heap.size, j * 2 + 1, none⟩ (.int .u64 (pv : Int))) (pA n R (j + 1)) (pB n S j) (pA n R j)) := ⟨by
            have e : gv R j = (true, pv) := by unfold gv; rw [e0]; rfl
            rw [← PS.out, e]
            exact hG.out.setA j (true, pv)⟩
          clear hjr hG hrv hrc hx e0
          go_upto_region 10 with fail
          generalize (wr.setCell ⟨z.heap.size, j * 2, none⟩ (.bool true)).setCell ⟨z.heap.size, j * 2 + 1, none⟩ (.int .u64 (pv : Int)) = WA at *
          clear a0 a1 af0 af1 r0 r1
          by_cases hjs : S.length ≤ j
          · have hd : ¬ ((j : Int) < (S.length : Int)) := by omega
            have GB : Bx (GivS z WA (pA n R (j + 1)) (pB n S (j + 1)) (pA n R j)) := ⟨by rw [BST.out (by rw [List.getD_eq_getElem?_getD, List.getElem?_eq_none hjs]; rfl)]; exact GA.out⟩
            clear hjs GA
            go_upto_region 12 with fail
            obtain ⟨WB, hWB⟩ : ∃ WB, WB = WA := ⟨_, rfl⟩
            rw [← hWB] at GB ⊢
            clear hWB
            obtain ⟨p, hp⟩ : ∃ p, p = gv R j := ⟨_, rfl⟩
            have q0 : WB.cell? ⟨z.heap.size, j * 2, none⟩ = some (.bool p.1) := by rw [hp, cOf GB.out.a]; have := nV_get AP1.out 0 (by decide); simpa [vC] using this
            have q1 : WB.cell? ⟨z.heap.size, j * 2 + 1, none⟩ = some (.int .u64 (p.2 : Int)) := by rw [hp, cOf GB.out.a]; have := nV_get AP1.out 1 (by decide); simpa [vC] using this
            have c0 : WB.cell? ⟨z.heap.size + 1 + 1, j * 3, none⟩ = some (.bool false) := by rw [cOf GB.out.c]; have := flatAt rvC 3 (fun _ => rfl) _ j 0 _ AP.out (by decide); simpa [rvC, rV] using this
            have c1 : WB.cell? ⟨z.heap.size + 1 + 1, j * 3 + 1, none⟩ = some (.int .u64 0) := by rw [cOf GB.out.c]; have := flatAt rvC 3 (fun _ => rfl) _ j 1 _ AP.out (by decide); simpa [rvC, rV] using this
            have c2 : WB.cell? ⟨z.heap.size + 1 + 1, j * 3 + 2, none⟩ = some (.slice none 0 0) := by rw [cOf GB.out.c]; have := flatAt rvC 3 (fun _ => rfl) _ j 2 _ AP.out (by decide); simpa [rvC, rV] using this
            have cf0 := tOf GB.out.c (j * 3); have cf1 := tOf GB.out.c (j * 3 + 1); have cf2 := tOf GB.out.c (j * 3 + 2)
            have GC : Bx (GivS z (((WB.drew.setCell ⟨z.heap.size + 1 + 1, j * 3, none⟩ (.bool p.1)).setCell ⟨z.heap.size + 1 + 1, j * 3 + 1, none⟩ (.int .u64 (p.2 : Int))).setCell ⟨z.heap.size + 1 + 1, j * 3 + 2, none⟩ (.slice none 0 0)) (pA n R (j + 1)) (pB n S (j + 1)) (pA n R (j + 1))) := ⟨by
              rw [← PS.out, ← hp]
              have := GB.out.drew.setC j p
              rw [← PS.out, ← hp] at this
              exact this⟩
            clear hp GB
            go_still_tail 14, (by kernel_rfl)
            change wpList _ _ _ _ _ WB.drew
            go_wp2_with fail
            go_roundw
            case rel => exact ⟨j + 1, by go_num, by omega, GC⟩
            case measure => simp [intOf] <;> omega
          · have hd : (j : Int) < (S.length : Int) := by omega
            obtain ⟨sb, so, sc, hsv, hsl, hsc⟩ := HS.out.at (by omega)
            obtain ⟨rfl, _, rfl⟩ := Value.slice.inj hsv
            obtain ⟨v, hv⟩ : ∃ v, S[j]? = some v := ⟨_, List.getElem?_eq_getElem (by omega)⟩
            have s0 : WA.cell? ⟨sb, so + j, none⟩ = some (.bool v) := ((bel BZ.out GA.out.bel).cell hsl).trans (hsc j _ (by rw [List.getElem?_map, hv]; rfl))
            have b0 : WA.cell? ⟨z.heap.size + 1, j, none⟩ = some (.bool false) := by rw [cOf GA.out.b]; simp only [List.getElem?_toArray, List.getElem?_map, BP.out]; rfl
            have bf0 := tOf GA.out.b j
            have GB : Bx (GivS z (WA.setCell ⟨z.heap.size + 1, j, none⟩ (.bool v)) (pA n R (j + 1)) (pB n S (j + 1)) (pA n R j)) := ⟨by
              have e : S.getD j false = v := by rw [List.getD_eq_getElem?_getD, hv]; rfl
              rw [← BS.out, e]
              exact GA.out.setB j v⟩
            clear hjs GA hsv hsc hv
            go_upto_region 12 with fail
            generalize WA.setCell ⟨z.heap.size + 1, j, none⟩ (.bool v) = WB at *
            clear s0 b0 bf0
            obtain ⟨p, hp⟩ : ∃ p, p = gv R j := ⟨_, rfl⟩
            have q0 : WB.cell? ⟨z.heap.size, j * 2, none⟩ = some (.bool p.1) := by rw [hp, cOf GB.out.a]; have := nV_get AP1.out 0 (by decide); simpa [vC] using this
            have q1 : WB.cell? ⟨z.heap.size, j * 2 + 1, none⟩ = some (.int .u64 (p.2 : Int)) := by rw [hp, cOf GB.out.a]; have := nV_get AP1.out 1 (by decide); simpa [vC] using this
            have c0 : WB.cell? ⟨z.heap.size + 1 + 1, j * 3, none⟩ = some (.bool false) := by rw [cOf GB.out.c]; have := flatAt rvC 3 (fun _ => rfl) _ j 0 _ AP.out (by decide); simpa [rvC, rV] using this
            have c1 : WB.cell? ⟨z.heap.size + 1 + 1, j * 3 + 1, none⟩ = some (.int .u64 0) := by rw [cOf GB.out.c]; have := flatAt rvC 3 (fun _ => rfl) _ j 1 _ AP.out (by decide); simpa [rvC, rV] using this
            have c2 : WB.cell? ⟨z.heap.size + 1 + 1, j * 3 + 2, none⟩ = some (.slice none 0 0) := by rw [cOf GB.out.c]; have := flatAt rvC 3 (fun _ => rfl) _ j 2 _ AP.out (by decide); simpa [rvC, rV] using this
            have cf0 := tOf GB.out.c (j * 3); have cf1 := tOf GB.out.c (j * 3 + 1); have cf2 := tOf GB.out.c (j * 3 + 2)
            have GC : Bx (GivS z (((WB.drew.setCell ⟨z.heap.size + 1 + 1, j * 3, none⟩ (.bool p.1)).setCell ⟨z.heap.size + 1 + 1, j * 3 + 1, none⟩ (.int .u64 (p.2 : Int))).setCell ⟨z.heap.size + 1 + 1, j * 3 + 2, none⟩ (.slice none 0 0)) (pA n R (j + 1)) (pB n S (j + 1)) (pA n R (j + 1))) := ⟨by
              rw [← PS.out, ← hp]
              have := GB.out.drew.setC j p
              rw [← PS.out, ← hp] at this
              exact this⟩
            clear hp GB
            go_still_tail 14, (by kernel_rfl)
            change wpList _ _ _ _ _ WB.drew
            go_wp2_with fail
            go_roundw
            case rel => exact ⟨j + 1, by go_num, by omega, GC⟩
            case measure => simp [intOf] <;> omega
    · obtain rfl : j = n := by omega
      go_wp2_with fail
      (try simp only [Exit.inBlock, Exit.then])
      refine bodyPost_ret (res_tmp3 rfl _ _ _) rfl ?_
      exact ⟨z, BZ.out, rfl, hG.out⟩
end Go.Proofs.Ytccjekgbhablpaa
namespace Go.Proofs.Ytccjekgbhablpaa
set_option maxRecDepth 100000
open Go.RowKit

def stAt (s : List Nat) (j : Nat) : Nat := s.getD j 0
def wrAt (s : List (Bool × Nat)) (j : Nat) : Bool × Nat := s.getD j (false, 0)
theorem stAt_set (s : List Nat) (k v j : Nat) : stAt (s.set k v) j = if j = k ∧ k < s.length then v else stAt s j := by
  unfold stAt
  simp only [List.getD_eq_getElem?_getD, List.getElem?_set]
  by_cases h : k = j
  · subst h
    by_cases hl : k < s.length
    · simp [hl]
    · simp [hl]
  · rw [if_neg h, if_neg (by omega)]
theorem wrAt_set (s : List (Bool × Nat)) (k : Nat) (v : Bool × Nat) (j : Nat) : wrAt (s.set k v) j = if j = k ∧ k < s.length then v else wrAt s j := by
  unfold wrAt
  simp only [List.getD_eq_getElem?_getD, List.getElem?_set]
  by_cases h : k = j
  · subst h
    by_cases hl : k < s.length
    · simp [hl]
    · simp [hl]
  · rw [if_neg h, if_neg (by omega)]
theorem cnAt_set (l : List Cn) (r : Nat) (c : Cn) (j : Nat) : cnAt (l.set r c) j = if j = r ∧ r < l.length then c else cnAt l j := by
  unfold cnAt
  simp only [List.getD_eq_getElem?_getD, List.getElem?_set]
  by_cases h : r = j
  · subst h
    by_cases hl : r < l.length
    · simp [hl]
    · simp [hl]
  · rw [if_neg h, if_neg (by omega)]

/-- one step of an Op: the parts that are asked for -/
theorem acc_state (c : CtxM) (s : WkM) (k : Nat) (x : Ins) : (accM c s k x).state = s.state.set k (if x.op = 14 ∧ worksM c k = false then 2 else 1) := by
  unfold accM goM lrM endM writeM runM pairM' setM
  by_cases h : x.op = 14
  · cases hw : worksM c k
    · simp [h]
    · simp [h]
      have e3 : krd 14 = false := by decide
      have e4 : kwr 14 = true := by decide
      simp [e3, e4]
  · simp only [h, if_false, false_and]
    cases krd x.op <;> cases kwr x.op <;> by_cases h13 : x.op = 13 <;> simp [h13]
theorem acc_wr (c : CtxM) (s : WkM) (k : Nat) (x : Ins) : (accM c s k x).wr = if kwr x.op = true ∧ ¬ (x.op = 14 ∧ worksM c k = false) then s.wr.set k (writeV c s k x) else s.wr := by
  unfold accM goM lrM endM writeM runM pairM' setM
  by_cases h : x.op = 14
  · cases hw : worksM c k
    · simp [h]
    · have e3 : krd 14 = false := by decide
      have e4 : kwr 14 = true := by decide
      simp [h, e3, e4]
      unfold writeV argM
      simp [h]
  · simp only [h, if_false, false_and]
    cases krd x.op <;> cases kwr x.op <;> by_cases h13 : x.op = 13 <;> simp [h13] <;> rfl
theorem acc_regs (c : CtxM) (s : WkM) (k : Nat) (x : Ins) : (accM c s k x).regs =
    if x.op = 14 then s.regs.set x.rd.toNat (if worksM c k then ⟨true, 0, bit1 k⟩ else numC0 1)
    else if krd x.op then s.regs.set x.rd.toNat ⟨(readM c k).1, (readM c k).2, bit1 k⟩ else s.regs := by
  unfold accM goM lrM endM writeM runM pairM' setM
  by_cases h : x.op = 14
  · cases hw : worksM c k
    · simp [h]
    · have e3 : krd 14 = false := by decide
      have e4 : kwr 14 = true := by decide
      simp [h, e3, e4]
  · simp only [h, if_false]
    cases krd x.op <;> cases kwr x.op <;> by_cases h13 : x.op = 13 <;> simp [h13]

/-- Ops of other numbers are left alone -/
theorem walk_frame (c : CtxM) (i : Nat) : ∀ (l : List Ins) (at' k skip : Nat) (s : WkM) (j : Nat), (j < k ∨ k + memL l ≤ j) →
    stAt (walkM c i l at' k skip s).state j = stAt s.state j ∧ wrAt (walkM c i l at' k skip s).wr j = wrAt s.wr j
  | [], at', k, skip, s, j, _ => ⟨rfl, rfl⟩
  | x :: l, at', k, skip, s, j, hj => by
    have hm : memL (x :: l) = (if isMem x.op then 1 else 0) + memL l := by
      unfold memL
      rw [List.filter_cons]
      split <;> simp <;> omega
    rw [hm] at hj
    rw [walkM]
    split
    · cases hx : isMem x.op
      · rw [hx] at hj
        simp only [Bool.false_eq_true, if_false]
        have := walk_frame c i l (at' + 1) k (skip - 1) (leaveM s i at' k false) j (by simp at hj; omega)
        rw [this.1, this.2]
        exact ⟨rfl, rfl⟩
      · rw [hx] at hj
        simp only [if_true] at hj ⊢
        have := walk_frame c i l (at' + 1) (k + 1) (skip - 1) (leaveM s i at' k true) j (by omega)
        rw [this.1, this.2]
        unfold leaveM
        simp only [if_true]
        rw [stAt_set, if_neg (by omega)]
        exact ⟨rfl, trivial⟩
    · split
      · rename_i h0 hx
        rw [hx] at hj
        simp only [if_true] at hj
        have := walk_frame c i l (at' + 1) (k + 1) 0 (accM c s k x) j (by omega)
        rw [this.1, this.2, acc_state, acc_wr, stAt_set, if_neg (by omega)]
        refine ⟨rfl, ?_⟩
        split
        · rw [wrAt_set, if_neg (by omega)]
        · rfl
      · rename_i h0 hx
        have hx' : isMem x.op = false := by simpa using hx
        rw [hx'] at hj
        simp only [Bool.false_eq_true, if_false, Nat.zero_add] at hj
        split
        · split
          · have := walk_frame c i l (at' + 1) k (if (brVal s x).2 = 1 then x.skip.toNat else 0) (brPath s x) j hj
            rw [this.1, this.2]; exact ⟨rfl, rfl⟩
          · exact ⟨rfl, rfl⟩
        · split
          · have := walk_frame c i l (at' + 1) k 0 (compM s x) j hj
            rw [this.1, this.2]
            unfold compM setM
            dsimp only
            split <;> exact ⟨rfl, rfl⟩
          · exact walk_frame c i l (at' + 1) k 0 s j hj
theorem len_frame (c : CtxM) (i : Nat) : ∀ (l : List Ins) (at' k skip : Nat) (s : WkM),
    (walkM c i l at' k skip s).state.length = s.state.length ∧ (walkM c i l at' k skip s).wr.length = s.wr.length ∧ (walkM c i l at' k skip s).regs.length = s.regs.length
  | [], at', k, skip, s => ⟨rfl, rfl, rfl⟩
  | x :: l, at', k, skip, s => by
    rw [walkM]
    split
    · obtain ⟨h1, h2, h3⟩ := len_frame c i l (at' + 1) (if isMem x.op then k + 1 else k) (skip - 1) (leaveM s i at' k (isMem x.op))
      rw [h1, h2, h3]
      unfold leaveM
      cases isMem x.op <;> simp
    · split
      · obtain ⟨h1, h2, h3⟩ := len_frame c i l (at' + 1) (k + 1) 0 (accM c s k x)
        rw [h1, h2, h3, acc_state, acc_wr, acc_regs]
        refine ⟨by simp, by split <;> simp, ?_⟩
        split
        · simp
        · split <;> simp
      · split
        · split
          · obtain ⟨h1, h2, h3⟩ := len_frame c i l (at' + 1) k (if (brVal s x).2 = 1 then x.skip.toNat else 0) (brPath s x)
            rw [h1, h2, h3]; exact ⟨rfl, rfl, rfl⟩
          · exact ⟨rfl, rfl, rfl⟩
        · split
          · obtain ⟨h1, h2, h3⟩ := len_frame c i l (at' + 1) k 0 (compM s x)
            rw [h1, h2, h3]
            unfold compM setM
            dsimp only
            split <;> simp
          · exact len_frame c i l (at' + 1) k 0 s

/-- all registers are known -/
def AllKn (l : List Cn) : Prop := ∀ j, (cnAt l j).k = true
theorem arg_kn {s : WkM} (h : AllKn s.regs) (r : Bool) (n : Nat) : (argM s r n).k = true := by
  unfold argM
  cases r
  · rfl
  · exact h n
theorem kn_set {l : List Cn} (h : AllKn l) (r : Nat) (c : Cn) (hc : c.k = true) : AllKn (l.set r c) := fun j => by
  rw [cnAt_set]; split
  · exact hc
  · exact h j
theorem walk_full (c : CtxM) (n i : Nat) (hc : ∀ k, k < n → (readM c k).1 = true) : ∀ (l : List Ins) (at' k skip : Nat) (s : WkM), AllKn s.regs → s.state.length = n → k + memL l ≤ n →
    AllKn (walkM c i l at' k skip s).regs ∧ ∀ j, k ≤ j → j < k + memL l → stAt (walkM c i l at' k skip s).state j ≠ 0
  | [], at', k, skip, s, h, _, _ => ⟨h, fun j h1 h2 => by simp [memL] at h2; omega⟩
  | x :: l, at', k, skip, s, h, hn, hk => by
    have hm : memL (x :: l) = (if isMem x.op then 1 else 0) + memL l := by
      unfold memL
      rw [List.filter_cons]
      split <;> simp <;> omega
    rw [hm] at hk ⊢
    rw [walkM]
    split
    · cases hx : isMem x.op
      · rw [hx] at hk
        simp only [Bool.false_eq_true, if_false, Nat.zero_add] at hk ⊢
        exact walk_full c n i hc l (at' + 1) k (skip - 1) (leaveM s i at' k false) h hn hk
      · rw [hx] at hk
        simp only [if_true] at hk ⊢
        obtain ⟨h1, h2⟩ := walk_full c n i hc l (at' + 1) (k + 1) (skip - 1) (leaveM s i at' k true) h (by unfold leaveM; simp [hn]) (by omega)
        refine ⟨h1, fun j hj1 hj2 => ?_⟩
        by_cases hjk : j = k
        · subst hjk
          rw [(walk_frame c i l (at' + 1) (j + 1) (skip - 1) (leaveM s i at' j true) j (.inl (by omega))).1]
          unfold leaveM
          simp only [if_true]
          rw [stAt_set, if_pos ⟨rfl, by omega⟩]
          decide
        · exact h2 j (by omega) (by omega)
    · split
      · rename_i h0 hx
        rw [hx] at hk
        simp only [if_true] at hk ⊢
        have hr : AllKn (accM c s k x).regs := by
          rw [acc_regs]
          split
          · refine kn_set h _ _ ?_
            split <;> rfl
          · split
            · exact kn_set h _ _ (hc k (by omega))
            · exact h
        obtain ⟨h1, h2⟩ := walk_full c n i hc l (at' + 1) (k + 1) 0 (accM c s k x) hr (by rw [acc_state]; simp [hn]) (by omega)
        refine ⟨h1, fun j hj1 hj2 => ?_⟩
        by_cases hjk : j = k
        · subst hjk
          rw [(walk_frame c i l (at' + 1) (j + 1) 0 (accM c s j x) j (.inl (by omega))).1, acc_state, stAt_set, if_pos ⟨rfl, by omega⟩]
          split <;> decide
        · exact h2 j (by omega) (by omega)
      · rename_i h0 hx
        have hx' : isMem x.op = false := by simpa using hx
        rw [hx'] at hk
        simp only [Bool.false_eq_true, if_false, Nat.zero_add] at hk ⊢
        split
        · have hb : (brVal s x).1 = true := by
            unfold brVal combM
            rw [arg_kn h, arg_kn h]; rfl
          rw [if_pos hb]
          exact walk_full c n i hc l (at' + 1) k _ (brPath s x) h hn hk
        · split
          · refine walk_full c n i hc l (at' + 1) k 0 (compM s x) ?_ ?_ hk
            · unfold compM
              dsimp only
              split
              · exact kn_set h _ _ (arg_kn h _ _)
              · refine kn_set h _ _ ?_
                unfold combM
                rw [arg_kn h, arg_kn h]; rfl
            · unfold compM setM
              dsimp only
              split <;> exact hn
          · exact walk_full c n i hc l (at' + 1) k 0 s h hn hk

/-- what is known is the same in the other -/
def cle (a b : Cn) : Prop := a.k = true → b.k = true ∧ b.v = a.v
def RegLe (l m : List Cn) : Prop := l.length = m.length ∧ ∀ j, cle (cnAt l j) (cnAt m j)
theorem le_set {l m : List Cn} (h : RegLe l m) (r : Nat) {a b : Cn} (hc : cle a b) : RegLe (l.set r a) (m.set r b) := ⟨by simp [h.1], fun j => by
  rw [cnAt_set, cnAt_set, h.1]; split
  · exact hc
  · exact h.2 j⟩
theorem arg_le {s s' : WkM} (h : RegLe s.regs s'.regs) (r : Bool) (n : Nat) : cle (argM s r n) (argM s' r n) := by
  unfold argM
  cases r
  · exact fun _ => ⟨rfl, rfl⟩
  · exact h.2 n
theorem comb_le {a b a' b' : Cn} (ha : cle a a') (hb : cle b b') (f : Nat → Nat → Nat) (h : (combM (a.k, a.v) (b.k, b.v) f).1 = true) :
    combM (a'.k, a'.v) (b'.k, b'.v) f = combM (a.k, a.v) (b.k, b.v) f := by
  unfold combM at h ⊢
  cases hak : a.k <;> cases hbk : b.k <;> simp [hak, hbk] at h
  obtain ⟨h1, h2⟩ := ha hak
  obtain ⟨h3, h4⟩ := hb hbk
  simp [h1, h2, h3, h4]
structure CtxLe (c c' : CtxM) : Prop where
  works : ∀ k, worksM c k = worksM c' k
  reads : ∀ k, (readM c k).1 = true → readM c' k = readM c k
/-- what the facts of one have of the other's, up to k; behind that nothing is known -/
structure FactLe (s s' : WkM) (k : Nat) : Prop where
  st : ∀ j, j < k → stAt s.state j ≠ 0 → stAt s.state j = stAt s'.state j
  wr : ∀ j, j < k → (wrAt s.wr j).1 = true → wrAt s.wr j = wrAt s'.wr j
  st0 : ∀ j, k ≤ j → stAt s.state j = 0
  wr0 : ∀ j, k ≤ j → wrAt s.wr j = (false, 0)
  len : s.state.length = s'.state.length
  len2 : s.wr.length = s'.wr.length
theorem writeV_le {c c' : CtxM} (hc : CtxLe c c') {s s' : WkM} (hr : RegLe s.regs s'.regs) (k : Nat) (x : Ins) (h : (writeV c s k x).1 = true) : writeV c s k x = writeV c' s' k x := by
  unfold writeV at h ⊢
  have ha := arg_le hr x.ar x.an.toNat
  by_cases h12 : x.op = 12
  · simp only [h12, if_true] at h ⊢
    unfold combM at h ⊢
    cases hak : (argM s x.ar x.an.toNat).k <;> cases hbk : (readM c k).1 <;> simp [hak, hbk] at h
    obtain ⟨h1, h2⟩ := ha hak
    rw [hc.reads k hbk, hbk, h1, h2]
  · simp only [h12, if_false] at h ⊢
    obtain ⟨h1, h2⟩ := ha h
    rw [h1, h2, h]
theorem comp_le {s s' : WkM} (hr : RegLe s.regs s'.regs) (x : Ins) : RegLe (compM s x).regs (compM s' x).regs := by
  unfold compM setM
  dsimp only
  split
  · exact le_set hr _ (arg_le hr _ _)
  · refine le_set hr _ fun h => ?_
    have := comb_le (arg_le hr x.ar x.an.toNat) (arg_le hr x.br x.bn.toNat) (reckM x.op) h
    dsimp only
    rw [this]
    exact ⟨h, rfl⟩
theorem acc_le {c c' : CtxM} (hc : CtxLe c c') {s s' : WkM} (hr : RegLe s.regs s'.regs) (k : Nat) (x : Ins) : RegLe (accM c s k x).regs (accM c' s' k x).regs := by
  rw [acc_regs, acc_regs, ← hc.works]
  split
  · exact le_set hr _ fun h => ⟨by revert h; split <;> simp [numC0], by split <;> rfl⟩
  · split
    · refine le_set hr _ fun h => ?_
      dsimp only at h ⊢
      rw [hc.reads k h]
      exact ⟨h, rfl⟩
    · exact hr
theorem acc_fact {c c' : CtxM} (hc : CtxLe c c') {s s' : WkM} (hr : RegLe s.regs s'.regs) {k : Nat} (hf : FactLe s s' k) (x : Ins) : FactLe (accM c s k x) (accM c' s' k x) (k + 1) := by
  refine ⟨fun j hj h => ?_, fun j hj h => ?_, fun j hj => ?_, fun j hj => ?_, ?_, ?_⟩
  · rw [acc_state, stAt_set] at h ⊢
    rw [acc_state, stAt_set, ← hc.works, ← hf.len]
    split
    · rfl
    · rename_i hn
      rw [if_neg hn] at h
      by_cases hjk : j < k
      · exact hf.st j hjk h
      · exact absurd (hf.st0 j (by omega)) h
  · rw [acc_wr] at h ⊢
    rw [acc_wr, ← hc.works]
    by_cases hw : kwr x.op = true ∧ ¬ (x.op = 14 ∧ worksM c k = false)
    · rw [if_pos hw] at h ⊢
      rw [if_pos hw]
      rw [wrAt_set] at h ⊢
      rw [wrAt_set, ← hf.len2]
      by_cases hjk : j = k ∧ k < s.wr.length
      · rw [if_pos hjk] at h ⊢
        rw [if_pos hjk]
        exact writeV_le hc hr k x h
      · rw [if_neg hjk] at h ⊢
        rw [if_neg hjk]
        by_cases hj2 : j < k
        · exact hf.wr j hj2 h
        · rw [hf.wr0 j (by omega)] at h; cases h
    · rw [if_neg hw] at h ⊢
      rw [if_neg hw]
      by_cases hj2 : j < k
      · exact hf.wr j hj2 h
      · rw [hf.wr0 j (by omega)] at h; cases h
  · rw [acc_state, stAt_set, if_neg (by omega)]; exact hf.st0 j (by omega)
  · rw [acc_wr]
    split
    · rw [wrAt_set, if_neg (by omega)]; exact hf.wr0 j (by omega)
    · exact hf.wr0 j (by omega)
  · rw [acc_state, acc_state]; simp [hf.len]
  · rw [acc_wr, acc_wr, ← hc.works]; split <;> simp [hf.len2]
theorem leave_fact {s s' : WkM} {k : Nat} (hf : FactLe s s' k) (i at' : Nat) : FactLe (leaveM s i at' k true) (leaveM s' i at' k true) (k + 1) := by
  unfold leaveM
  simp only [if_true]
  refine ⟨fun j hj h => ?_, fun j hj h => ?_, fun j hj => ?_, fun j hj => ?_, ?_, ?_⟩
  · dsimp only at h ⊢
    rw [stAt_set] at h ⊢
    rw [stAt_set, ← hf.len]
    split
    · rfl
    · rename_i hn
      rw [if_neg hn] at h
      by_cases hjk : j < k
      · exact hf.st j hjk h
      · exact absurd (hf.st0 j (by omega)) h
  · by_cases hj2 : j < k
    · exact hf.wr j hj2 h
    · have := hf.wr0 j (by omega)
      dsimp only at h
      rw [this] at h; cases h
  · dsimp only; rw [stAt_set, if_neg (by omega)]; exact hf.st0 j (by omega)
  · exact hf.wr0 j (by omega)
  · simp [hf.len]
  · exact hf.len2
/-- what is asked for, of two walks -/
structure Known2 (s s' : WkM) (b : Nat) : Prop where
  st : ∀ j, j < b → stAt s.state j ≠ 0 → stAt s.state j = stAt s'.state j
  wr : ∀ j, j < b → (wrAt s.wr j).1 = true → wrAt s.wr j = wrAt s'.wr j
theorem walk_le {c c' : CtxM} (hc : CtxLe c c') (i : Nat) : ∀ (l : List Ins) (at' k skip : Nat) (s s' : WkM), RegLe s.regs s'.regs → FactLe s s' k →
    Known2 (walkM c i l at' k skip s) (walkM c' i l at' k skip s') (k + memL l)
  | [], at', k, skip, s, s', _, hf => ⟨fun j hj h => hf.st j (by simpa [memL] using hj) h, fun j hj h => hf.wr j (by simpa [memL] using hj) h⟩
  | x :: l, at', k, skip, s, s', hr, hf => by
    have hm : memL (x :: l) = (if isMem x.op then 1 else 0) + memL l := by
      unfold memL
      rw [List.filter_cons]
      split <;> simp <;> omega
    rw [hm, walkM, walkM]
    split
    · cases hx : isMem x.op
      · simp only [Bool.false_eq_true, if_false, Nat.zero_add]
        exact walk_le hc i l (at' + 1) k (skip - 1) (leaveM s i at' k false) (leaveM s' i at' k false) hr ⟨hf.st, hf.wr, hf.st0, hf.wr0, hf.len, hf.len2⟩
      · simp only [if_true]
        rw [show k + (1 + memL l) = k + 1 + memL l by omega]
        exact walk_le hc i l (at' + 1) (k + 1) (skip - 1) (leaveM s i at' k true) (leaveM s' i at' k true) hr (leave_fact hf i at')
    · split
      · rename_i h0 hx
        rw [show k + (1 + memL l) = k + 1 + memL l by omega]
        exact walk_le hc i l (at' + 1) (k + 1) 0 _ _ (acc_le hc hr k x) (acc_fact hc hr hf x)
      · rename_i h0 hx
        simp only [Nat.zero_add]
        split
        · by_cases hb : (brVal s x).1 = true
          · have e : brVal s' x = brVal s x := by
              unfold brVal at hb ⊢
              exact comb_le (arg_le hr x.ar x.an.toNat) (arg_le hr x.br x.bn.toNat) _ hb
            rw [if_pos hb, e, if_pos hb]
            exact walk_le hc i l (at' + 1) k _ (brPath s x) (brPath s' x) hr ⟨hf.st, hf.wr, hf.st0, hf.wr0, hf.len, hf.len2⟩
          · rw [if_neg hb]
            have key : ∀ r : WkM, (∀ j, j < k → stAt r.state j = stAt s'.state j ∧ wrAt r.wr j = wrAt s'.wr j) → Known2 (brPath s x) r (k + memL l) := fun r hr' =>
              ⟨fun j hj h => by
                by_cases hjk : j < k
                · rw [(hr' j hjk).1]; exact hf.st j hjk h
                · exact absurd (hf.st0 j (by omega)) h,
               fun j hj h => by
                by_cases hjk : j < k
                · rw [(hr' j hjk).2]; exact hf.wr j hjk h
                · have e := hf.wr0 j (by omega)
                  have h' : (wrAt s.wr j).1 = true := h
                  rw [e] at h'; cases h'⟩
            split
            · exact key _ fun j hj => walk_frame c' i l (at' + 1) k _ (brPath s' x) j (.inl hj)
            · exact key _ fun j _ => ⟨rfl, rfl⟩
        · split
          · have e : ∀ z : WkM, (compM z x).state = z.state ∧ (compM z x).wr = z.wr := fun z => by
              unfold compM setM
              dsimp only
              split <;> exact ⟨rfl, rfl⟩
            refine walk_le hc i l (at' + 1) k 0 _ _ (comp_le hr x) ?_
            obtain ⟨e1, e2⟩ := e s
            obtain ⟨e3, e4⟩ := e s'
            exact ⟨by rw [e1, e3]; exact hf.st, by rw [e2, e4]; exact hf.wr, by rw [e1]; exact hf.st0, by rw [e2]; exact hf.wr0, by rw [e1, e3]; exact hf.len, by rw [e2, e4]; exact hf.len2⟩
          · exact walk_le hc i l (at' + 1) k 0 s s' hr hf

/-- all threads: facts of both -/
structure FlLe (n : Nat) (f g : FlM) (k : Nat) : Prop where
  st : ∀ j, j < k → stAt f.state j ≠ 0 → stAt f.state j = stAt g.state j
  wr : ∀ j, j < k → (wrAt f.wr j).1 = true → wrAt f.wr j = wrAt g.wr j
  st0 : ∀ j, k ≤ j → stAt f.state j = 0
  wr0 : ∀ j, k ≤ j → wrAt f.wr j = (false, 0)
  len : f.state.length = n
  len2 : f.wr.length = n
  glen : g.state.length = n
  glen2 : g.wr.length = n
  gst : ∀ j, j < k → stAt g.state j ≠ 0
  whole : g.whole = true
theorem regs0_kn : AllKn regs0 := fun j => by
  unfold cnAt regs0
  rw [List.getD_eq_getElem?_getD, List.getElem?_replicate]
  split <;> rfl
theorem vals_kn {l : List Cn} (h : AllKn l) : allK (valsM l) = true := by
  unfold allK valsM
  rw [List.all_eq_true]
  intro p hp
  obtain ⟨c, hc, rfl⟩ := List.mem_map.1 hp
  obtain ⟨j, hj, rfl⟩ := List.mem_iff_getElem.1 hc
  have := h j
  unfold cnAt at this
  rw [List.getD_eq_getElem?_getD, List.getElem?_eq_getElem hj] at this
  exact this
theorem thr_le {c c' : CtxM} (hc : CtxLe c c') (n : Nat) (hf : ∀ k, k < n → (readM c' k).1 = true) (i k : Nat) (l : List Ins) (f g : FlM) (h : FlLe n f g k) (hk : k + memL l ≤ n) :
    FlLe n (thrM c i k l f) (thrM c' i k l g) (k + memL l) := by
  have h1 := walk_le hc i l 0 k 0 (startM f) (startM g) ⟨rfl, fun j h => ⟨h, rfl⟩⟩ ⟨h.st, h.wr, h.st0, h.wr0, h.len.trans h.glen.symm, h.len2.trans h.glen2.symm⟩
  have h2 := walk_full c' n i hf l 0 k 0 (startM g) regs0_kn h.glen hk
  have h3 := len_frame c i l 0 k 0 (startM f)
  have h4 := len_frame c' i l 0 k 0 (startM g)
  refine ⟨h1.st, h1.wr, fun j hj => ?_, fun j hj => ?_, h3.1.trans h.len, h3.2.1.trans h.len2, h4.1.trans h.glen, h4.2.1.trans h.glen2, fun j hj => ?_, ?_⟩
  · show stAt (walkM c i l 0 k 0 (startM f)).state j = 0
    rw [(walk_frame c i l 0 k 0 (startM f) j (.inr hj)).1]
    exact h.st0 j (by omega)
  · show wrAt (walkM c i l 0 k 0 (startM f)).wr j = _
    rw [(walk_frame c i l 0 k 0 (startM f) j (.inr hj)).2]
    exact h.wr0 j (by omega)
  · show stAt (walkM c' i l 0 k 0 (startM g)).state j ≠ 0
    by_cases hjk : j < k
    · rw [(walk_frame c' i l 0 k 0 (startM g) j (.inl hjk)).1]
      exact h.gst j hjk
    · exact h2.2 j (by omega) hj
  · show (g.whole && allK (valsM (walkM c' i l 0 k 0 (startM g)).regs)) = true
    rw [h.whole, vals_kn h2.1]; rfl
theorem thrs_le {c c' : CtxM} (hc : CtxLe c c') (n : Nat) (hf : ∀ k, k < n → (readM c' k).1 = true) : ∀ (t : List (List Ins)) (i k : Nat) (f g : FlM), FlLe n f g k → k + memT t ≤ n →
    FlLe n (thrsM c t i k f) (thrsM c' t i k g) (k + memT t)
  | [], i, k, f, g, h, _ => by simpa [memT, thrsM] using h
  | l :: r, i, k, f, g, h, hk => by
    have e : memT (l :: r) = memL l + memT r := by simp [memT]
    rw [e] at hk ⊢
    rw [thrsM, thrsM, show k + (memL l + memT r) = k + memL l + memT r by omega]
    exact thrs_le hc n hf r (i + 1) (k + memL l) _ _ (thr_le hc n hf i k l f g h (by omega)) (by omega)
theorem stAt_rep (n j : Nat) : stAt (List.replicate n 0) j = 0 := by
  unfold stAt
  rw [List.getD_eq_getElem?_getD, List.getElem?_replicate]
  split <;> rfl
theorem wrAt_rep (n j : Nat) : wrAt (List.replicate n (false, 0)) j = (false, 0) := by
  unfold wrAt
  rw [List.getD_eq_getElem?_getD, List.getElem?_replicate]
  split <;> rfl
/-- what is known stays, and all is known when all that is read is -/
theorem flow_le {c c' : CtxM} (hc : CtxLe c c') (t : List (List Ins)) (hf : ∀ k, k < memT t → (readM c' k).1 = true) : FlLe (memT t) (flowM c t) (flowM c' t) (memT t) := by
  have h := thrs_le hc (memT t) hf t 0 0 (blankM (memT t) t.length true) (blankM (memT t) t.length true)
    ⟨fun j h => by omega, fun j h => by omega, fun j _ => stAt_rep _ j, fun j _ => wrAt_rep _ j, by simp [blankM], by simp [blankM], by simp [blankM], by simp [blankM], fun j h => by omega, rfl⟩ (by omega)
  rw [Nat.zero_add] at h
  exact h
end Go.Proofs.Ytccjekgbhablpaa
namespace Go.Proofs.Ytccjekgbhablpaa
set_option maxRecDepth 100000
open Go.RowKit

theorem wpList_append_zero {P : Program} {ops : Array Oper} {rest : List Oper} {o : Oper} {a : Act} {w : World} {Q : Exit → Act → World → Prop}
    (hg : o.guard = none) (s x : Operand) (t : TypeId) (hop : o.op = Op.call { callee := Callee.builtin Builtin.append, args := #[s, x], argTypes := #[t, t] })
    (e : TypeId) (i : TypeInfo) (h1 : P.underlying t = some (.slice e)) (h2 : P.info? e = some i) (b off cap : Nat) (hs : a.eval s = .slice (some ⟨b, off, none⟩) 0 cap) (p : Option Addr) (c : Nat) (hx : a.eval x = .slice p 0 c)
    (h : wpList P ops Q rest (a.put o.dst (.slice (some ⟨b, off, none⟩) 0 cap)) w) : wpList P ops Q (o :: rest) a w := by
  refine wpList_plain hg fun K hK => ?_
  have := step_append_zero (P := P) (ops := ops) (K := K) (Q := Q) (E := True) hg s x t hop e i h1 h2 b off cap hs p c hx (hK _ _ h)
  have hw : Region.wanted o (yielded ops a.tmps) = true := by simp [Region.wanted, hg]
  rwa [if_pos hw] at this
/-- a row that is copied into an empty one -/
theorem wpList_append_copy {ops : Array Oper} {rest : List Oper} {o : Oper} {a : Act} {Q : Exit → Act → World → Prop} (w0 : World) (hg : o.guard = none) (s x : Operand)
    (hop : o.op = Op.call { callee := Callee.builtin Builtin.append, args := #[s, x], argTypes := #[27, 27] })
    (hs : a.eval s = .slice (some ⟨w0.heap.size, 0, none⟩) 0 0) (b m : Nat) (hm : m ≤ 1000000) (A : List (Bool × Nat)) (hx : a.eval x = .slice (some ⟨b, 0, none⟩) m m) (hA : A.length = m) (hb : w0.heap[b]? = some (.cells (nV A).toArray 74 (0, 0)))
    (h : ∀ g cap w', w'.ownsRow w0.heap.size 74 2 (.slice (some ⟨g, 0, none⟩) m cap) m (nV A) → Below w0.heap.size w0 w' → wpList Try.prog ops Q rest (a.put o.dst (.slice (some ⟨g, 0, none⟩) m cap)) w') :
    wpList Try.prog ops Q (o :: rest) a (w0.alloc (.cells #[] 74)) := by
  obtain ⟨i0, hi, hz0, hz1, hz2⟩ := info_parts info_mv
  have hrow := newRow w0 w0.heap.size 74 2 (Nat.le_refl _)
  by_cases hm0 : m = 0
  · subst hm0
    obtain rfl : A = [] := List.eq_nil_of_length_eq_zero hA
    refine wpList_append_zero hg s x _ hop 74 i0 Try.underlying27 hi w0.heap.size 0 0 hs _ _ hx ?_
    exact h _ _ _ hrow (aset _ _)
  · refine wpList_append_lies (w := w0.alloc (.cells #[] 74)) hg s x _ hop w0.heap.size 74 i0 _ 2 16 Try.underlying27 hi hz0 hz1 hz2 rfl (by omega) _ 0 [] hs hrow ⟨b, 0, none⟩ m m (nV A) hx (by rw [nV_len, hA]) (fun j u hu => ?_) (nV_one A) (by omega) (by unfold maxLen; omega) (by omega) (by simp) (w0.heap.size + 1) (by simp) (fun g cap w' h1 h2 h3 h4 => ?_)
    · rw [Addr.add_mid, Nat.zero_add]
      refine cBel (w := w0) ?_ (aset _ _)
      rw [cOf hb]; simpa using hu
    · rw [Nat.zero_add, List.nil_append] at h1
      rw [Nat.zero_add]
      exact h g cap w' h1 ((aset _ _).grown h2 (by simp) (fun k hk => (rowLt hrow k hk).1))
/-- where a row lies, with what is behind it -/
theorem rowHeap {w : World} {B g n cap : Nat} {A : List (Bool × Nat)} (h : w.ownsRow B 74 2 (.slice (some ⟨g, 0, none⟩) n cap) n (nV A)) : ∃ T : List Value, w.heap[g]? = some (.cells (nV A ++ T).toArray 74 (0, 0)) ∧ B ≤ g := by
  rcases h.2 with ⟨hv, _⟩ | ⟨g', cap', cur, hv, hB, hh, _, _, hs, ht⟩
  · cases hv
  · obtain ⟨e1, _, _⟩ := Value.slice.inj hv
    obtain rfl : g = g' := by injection e1 with e1; injection e1
    refine ⟨cur.toList.drop (n * 2), ?_, hB⟩
    have hl : (nV A).length = n * 2 := h.1
    rw [hh]
    have e : cur.toList = nV A ++ cur.toList.drop (n * 2) := by
      conv => lhs; rw [← List.take_append_drop (n * 2) cur.toList]
      congr 1
    rw [← e]
theorem nVT_set (L : List (Bool × Nat)) (T : List Value) (k : Nat) (v : Value) (j : Nat) (hk : k < L.length) (hj : j < 2) : (nV L ++ T).toArray.setIfInBounds (k * 2 + j) v = ((nV L).set (k * 2 + j) v ++ T).toArray := by
  have hl := nV_len L
  simp only [List.setIfInBounds_toArray]
  rw [List.set_append_left _ _ (by omega)]
theorem nVT_set2 (L : List (Bool × Nat)) (T : List Value) (k : Nat) (p : Bool × Nat) (hk : k < L.length) : ((nV L ++ T).toArray.setIfInBounds (k * 2) (.bool p.1)).setIfInBounds (k * 2 + 1) (.int .u64 (p.2 : Int)) = (nV (L.set k p) ++ T).toArray := by
  have hl := nV_len L
  rw [← nV_set_list L k p]
  simp only [List.setIfInBounds_toArray]
  rw [List.set_append_left _ _ (by omega), List.set_append_left _ _ (by simp; omega)]
/-- what is known of all -/
def mv (A : List (Bool × Nat)) (M : List Nat) (i : Nat) : Bool × Nat := if (A.getD i (false, 0)).1 then A.getD i (false, 0) else (true, if i < M.length then M.getD i 0 else (A.getD i (false, 0)).2)
def pL (n : Nat) (A : List (Bool × Nat)) (M : List Nat) (j : Nat) : List (Bool × Nat) := (List.range n).map fun i => if i < j then mv A M i else A.getD i (false, 0)
theorem pL_len (n : Nat) (A : List (Bool × Nat)) (M : List Nat) (j : Nat) : (pL n A M j).length = n := by simp [pL]
theorem pL_zero (n : Nat) (A : List (Bool × Nat)) (M : List Nat) (h : A.length = n) : pL n A M 0 = A := by
  apply List.ext_getElem?
  intro i
  unfold pL
  by_cases hi : i < n
  · rw [List.getElem?_map, List.getElem?_range hi]
    simp [List.getD_eq_getElem?_getD, List.getElem?_eq_getElem (show i < A.length by omega)]
  · rw [List.getElem?_eq_none (by simp; omega), List.getElem?_eq_none (by omega)]
theorem pL_set (n : Nat) (A : List (Bool × Nat)) (M : List Nat) (j : Nat) : (pL n A M j).set j (mv A M j) = pL n A M (j + 1) := by
  apply List.ext_getElem?
  intro i
  unfold pL
  rw [List.getElem?_set]
  by_cases hi : i < n
  · simp only [List.getElem?_map, List.getElem?_range hi, Option.map_some, List.length_map, List.length_range]
    by_cases hij : j = i
    · subst hij; simp [hi]
    · rw [if_neg hij]
      by_cases h1 : i < j
      · rw [if_pos h1, if_pos (by omega)]
      · rw [if_neg h1, if_neg (by omega)]
  · have e : ∀ g : Nat → Bool × Nat, ((List.range n).map g)[i]? = none := fun g => List.getElem?_eq_none (by simp; omega)
    rw [e, e]
    split
    · rw [if_neg (by simp; omega)]
    · rfl
theorem pL_at (n : Nat) (A : List (Bool × Nat)) (M : List Nat) (j : Nat) (h : j < n) : (pL n A M j)[j]? = some (A.getD j (false, 0)) := by
  unfold pL
  rw [List.getElem?_map, List.getElem?_range h]; simp
theorem pL_stay (n : Nat) (A : List (Bool × Nat)) (M : List Nat) (j : Nat) (h : j < n) (hk : (A.getD j (false, 0)).1 = true) : pL n A M (j + 1) = pL n A M j := by
  rw [← pL_set]
  refine set_same ?_
  rw [pL_at n A M j h]
  unfold mv
  rw [if_pos hk]
theorem pL_get (n : Nat) (A : List (Bool × Nat)) (M : List Nat) (k : Nat) : (pL n A M n).getD k (false, 0) = if k < n then mv A M k else (false, 0) := by
  unfold pL
  rw [List.getD_eq_getElem?_getD]
  by_cases h : k < n
  · rw [List.getElem?_map, List.getElem?_range h, if_pos h]; simp [h]
  · rw [List.getElem?_eq_none (by simp; omega), if_neg h]; rfl
theorem more_le (n : Nat) (A : List (Bool × Nat)) (B : List Bool) (M : List Nat) (hA : A.length = n) : CtxLe ⟨A, B⟩ ⟨pL n A M n, B⟩ := by
  refine ⟨fun k => rfl, fun k h => ?_⟩
  unfold readM at h ⊢
  dsimp only at h ⊢
  rw [pL_get]
  by_cases hk : (A.getD k (false, 0)).1 = true
  · have hkn : k < n := by
      rcases Nat.lt_or_ge k n with h | h
      · exact h
      · rw [List.getD_eq_getElem?_getD, List.getElem?_eq_none (by omega)] at hk; cases hk
    rw [if_pos hkn, if_pos hk]
    have : mv A M k = A.getD k (false, 0) := by unfold mv; rw [if_pos hk]
    rw [this, if_pos hk]
  · rw [if_neg hk] at h; cases h
theorem more_all (n : Nat) (A : List (Bool × Nat)) (B : List Bool) (M : List Nat) (k : Nat) (hk : k < n) : (readM ⟨pL n A M n, B⟩ k).1 = true := by
  unfold readM
  dsimp only
  rw [pL_get, if_pos hk]
  have : (mv A M k).1 = true := by
    unfold mv
    split
    · assumption
    · rfl
  rw [if_pos this, this]
theorem gv_ok {R : List (Bool × Nat)} (h : ∀ x ∈ R, x.2 < 18446744073709551616) (i : Nat) : (gv R i).2 < 18446744073709551616 := by
  unfold gv
  split
  · rw [List.getD_eq_getElem?_getD]
    cases hc : R[i]? with
    | none => simp
    | some p => exact h p (List.mem_of_getElem? hc)
  · simp
theorem pA_ok {R : List (Bool × Nat)} (h : ∀ x ∈ R, x.2 < 18446744073709551616) (n j : Nat) : ∀ x ∈ pA n R j, x.2 < 18446744073709551616 := by
  intro x hx
  unfold pA at hx
  obtain ⟨i, _, rfl⟩ := List.mem_map.1 hx
  split
  · exact gv_ok h i
  · simp
theorem pL_ok {A : List (Bool × Nat)} {M : List Nat} (h : ∀ x ∈ A, x.2 < 18446744073709551616) (hM : ∀ x ∈ M, x < 18446744073709551616) (n j : Nat) : ∀ x ∈ pL n A M j, x.2 < 18446744073709551616 := by
  have ha : ∀ i, (A.getD i (false, 0)).2 < 18446744073709551616 := fun i => by
    rw [List.getD_eq_getElem?_getD]
    cases hc : A[i]? with
    | none => simp
    | some p => exact h p (List.mem_of_getElem? hc)
  intro x hx
  unfold pL at hx
  obtain ⟨i, _, rfl⟩ := List.mem_map.1 hx
  split
  · unfold mv
    split
    · exact ha i
    · dsimp only
      split
      · rename_i hi
        rw [List.getD_eq_getElem?_getD, List.getElem?_eq_getElem hi]
        exact hM _ (List.getElem_mem hi)
      · exact ha i
  · exact ha i
theorem slHeap {w : World} {b z n : Nat} {C : List Value} {T : TypeId} {X : List Value} (h : w.heap[b]? = some (.cells (C ++ X).toArray T (0, 0))) (hl : C.length = n * z) (c : Nat) : SlIn w (.slice (some ⟨b, 0, none⟩) n c) z n C :=
  ⟨hl, .inr ⟨_, _, _, rfl, ltOf h, fun i u hu => by
    rw [Nat.zero_add, cOf h]
    have hi := (List.getElem?_eq_some_iff.1 hu).1
    rw [List.getElem?_toArray, List.getElem?_append_left hi]; exact hu⟩⟩
theorem few_okF (t : TestM) : TestOk (fewM t) ∧ (∀ l ∈ (fewM t).locs, l.1.length ≤ 1000000000) := by
  refine ⟨⟨?_, ?_, ?_, ?_⟩, ?_⟩
  · show ((t.locs.take 12).map cutL).length ≤ _
    rw [List.length_map, List.length_take]; omega
  · show ((t.thr.take 6).map (·.take 12)).length ≤ _
    rw [List.length_map, List.length_take]; omega
  · intro l hl
    obtain ⟨x, _, rfl⟩ := List.mem_map.1 hl
    rw [List.length_take]; omega
  · show (t.asks.take 50).length ≤ _
    rw [List.length_take]; omega
  · intro l hl
    obtain ⟨x, _, rfl⟩ := List.mem_map.1 hl
    show (x.1.take 20).length ≤ _
    rw [List.length_take]; omega
theorem few_num {t : TestM} (h : ∀ l ∈ t.thr, ∀ x ∈ l, (0 ≤ x.an ∧ x.an < 18446744073709551616) ∧ (0 ≤ x.bn ∧ x.bn < 18446744073709551616)) : NumOk (fewM t) := by
  intro l hl x hx
  have hl' : l ∈ (t.thr.take 6).map (·.take 12) := hl
  obtain ⟨k, hk, rfl⟩ := List.mem_map.1 hl'
  exact h k (List.mem_of_mem_take hk) x (List.mem_of_mem_take hx)
theorem nV_set1 : ∀ (l : List (Bool × Nat)) (k : Nat) (b pk : Bool) (pv : Nat), l[k]? = some (pk, pv) → (nV l).set (k * 2) (.bool b) = nV (l.set k (b, pv))
  | [], k, b, pk, pv, h => by simp at h
  | a :: l, 0, b, pk, pv, h => by simp at h; subst h; simp [nV, vC]
  | a :: l, k + 1, b, pk, pv, h => by
    have ih := nV_set1 l k b pk pv (by simpa using h)
    have e : nV (a :: l) = .bool a.1 :: .int .u64 (a.2 : Int) :: nV l := by simp [nV, vC]
    rw [e, show (k + 1) * 2 = k * 2 + 1 + 1 by omega]
    simp only [List.set_cons_succ]
    rw [ih]
    simp [nV, vC]
theorem nVT_set1 (L : List (Bool × Nat)) (T : List Value) (k : Nat) (b pk : Bool) (pv : Nat) (h : L[k]? = some (pk, pv)) : (nV L ++ T).toArray.setIfInBounds (k * 2) (.bool b) = (nV (L.set k (b, pv)) ++ T).toArray := by
  have hl := nV_len L
  have hk := (List.getElem?_eq_some_iff.1 h).1
  rw [← nV_set1 L k b pk pv h]
  simp only [List.setIfInBounds_toArray]
  rw [List.set_append_left _ _ (by omega)]
theorem nVT_get {W : World} {g : Nat} {L : List (Bool × Nat)} {T : List Value} {k : Nat} {p : Bool × Nat} (hh : W.heap[g]? = some (.cells (nV L ++ T).toArray 74 (0, 0))) (h : L[k]? = some p) : W.cell? ⟨g, k * 2, none⟩ = some (.bool p.1) ∧ W.cell? ⟨g, k * 2 + 1, none⟩ = some (.int .u64 (p.2 : Int)) := by
  have hl := nV_len L
  have hk := (List.getElem?_eq_some_iff.1 h).1
  have h0 := nV_get h 0 (by decide)
  have h1 := nV_get h 1 (by decide)
  refine ⟨?_, ?_⟩
  · rw [cOf hh, List.getElem?_toArray, List.getElem?_append_left (by omega)]; simpa [vC] using h0
  · rw [cOf hh, List.getElem?_toArray, List.getElem?_append_left (by omega)]; simpa [vC] using h1
end Go.Proofs.Ytccjekgbhablpaa
