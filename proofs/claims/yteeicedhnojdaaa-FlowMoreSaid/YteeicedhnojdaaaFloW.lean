/- Contracts of the flow rows: Given. -/
import Derived.Test.YteeicedhnojdaaaFloS
namespace Go.Proofs.Yteeicedhnojdaaa
set_option maxRecDepth 100000
open Go.RowKit

def gv (R : List (Bool × Nat)) (i : Nat) : Bool × Nat := if (R.getD i (false, 0)).1 then R.getD i (false, 0) else (false, 0)
def pA (n : Nat) (R : List (Bool × Nat)) (j : Nat) : List (Bool × Nat) := (List.range n).map fun i => if i < j then gv R i else (false, 0)
def pB (n : Nat) (S : List Bool) (j : Nat) : List Bool := (List.range n).map fun i => if i < j then S.getD i false else false
theorem pA_len (n : Nat) (R : List (Bool × Nat)) (j : Nat) : (pA n R j).length = n := by simp [pA]
theorem pB_len (n : Nat) (S : List Bool) (j : Nat) : (pB n S j).length = n := by simp [pB]
theorem pA_set (n : Nat) (R : List (Bool × Nat)) (j : Nat) : (pA n R j).set j (gv R j) = pA n R (j + 1) := by
  apply List.ext_getElem?
  intro i
  unfold pA
  rw [List.getElem?_set]
  by_cases hi : i < n
  · simp only [List.getElem?_map, List.getElem?_range hi, Option.map_some, List.length_map, List.length_range]
    by_cases hij : j = i
    · subst hij; simp [hi]
    · rw [if_neg hij]
      by_cases h1 : i < j
      · rw [if_pos h1, if_pos (by omega)]
      · rw [if_neg h1, if_neg (by omega)]
  · have e : ∀ g : Nat → Bool × Nat, ((List.range n).map g)[i]? = none := fun g => List.getElem?_eq_none (by simp; omega)
    rw [e, e]
    split
    · rw [if_neg (by simp; omega)]
    · rfl
theorem pB_set (n : Nat) (S : List Bool) (j : Nat) : (pB n S j).set j (S.getD j false) = pB n S (j + 1) := by
  apply List.ext_getElem?
  intro i
  unfold pB
  rw [List.getElem?_set]
  by_cases hi : i < n
  · simp only [List.getElem?_map, List.getElem?_range hi, Option.map_some, List.length_map, List.length_range]
    by_cases hij : j = i
    · subst hij; simp [hi]
    · rw [if_neg hij]
      by_cases h1 : i < j
      · rw [if_pos h1, if_pos (by omega)]
      · rw [if_neg h1, if_neg (by omega)]
  · have e : ∀ g : Nat → Bool, ((List.range n).map g)[i]? = none := fun g => List.getElem?_eq_none (by simp; omega)
    rw [e, e]
    split
    · rw [if_neg (by simp; omega)]
    · rfl
theorem pA_at (n : Nat) (R : List (Bool × Nat)) (j : Nat) (h : j < n) : (pA n R j)[j]? = some (false, 0) := by
  unfold pA
  rw [List.getElem?_map, List.getElem?_range h]; simp
theorem pA_at1 (n : Nat) (R : List (Bool × Nat)) (j : Nat) (h : j < n) : (pA n R (j + 1))[j]? = some (gv R j) := by
  unfold pA
  rw [List.getElem?_map, List.getElem?_range h]; simp
theorem set_same {α : Type} {l : List α} {j : Nat} {v : α} (h : l[j]? = some v) : l.set j v = l := by
  apply List.ext_getElem?
  intro i
  rw [List.getElem?_set]
  by_cases e : j = i
  · subst e; rw [if_pos rfl, if_pos (List.getElem?_eq_some_iff.1 h).1, h]
  · rw [if_neg e]
theorem pA_stay (n : Nat) (R : List (Bool × Nat)) (j : Nat) (h : j < n) (hg : gv R j = (false, 0)) : pA n R (j + 1) = pA n R j := by
  rw [← pA_set, hg, set_same (pA_at n R j h)]
theorem pB_at (n : Nat) (S : List Bool) (j : Nat) (h : j < n) : (pB n S j)[j]? = some false := by
  unfold pB
  rw [List.getElem?_map, List.getElem?_range h]; simp
theorem pB_stay (n : Nat) (S : List Bool) (j : Nat) (h : j < n) (hg : S.getD j false = false) : pB n S (j + 1) = pB n S j := by
  rw [← pB_set, hg, set_same (pB_at n S j h)]
/-- the reference's numbers -/
def rvC (p : Bool × Nat) : List Value := [.bool p.1, .int .u64 (p.2 : Int), .slice none 0 0]
def rV (l : List (Bool × Nat)) : List Value := l.flatMap rvC
theorem rV_set_list : ∀ (l : List (Bool × Nat)) (k : Nat) (p : Bool × Nat), (((rV l).set (k * 3) (.bool p.1)).set (k * 3 + 1) (.int .u64 (p.2 : Int))).set (k * 3 + 2) (.slice none 0 0) = rV (l.set k p)
  | [], k, p => by simp [rV]
  | a :: l, 0, p => by simp [rV, rvC]
  | a :: l, k + 1, p => by
    have ih := rV_set_list l k p
    have e : rV (a :: l) = .bool a.1 :: .int .u64 (a.2 : Int) :: .slice none 0 0 :: rV l := by simp [rV, rvC]
    rw [e, show (k + 1) * 3 = k * 3 + 1 + 1 + 1 by omega]
    have e2 : k * 3 + 1 + 1 + 1 + 2 = (k * 3 + 2) + 1 + 1 + 1 := by omega
    rw [e2]
    simp only [List.set_cons_succ]
    rw [ih]
    simp [rV, rvC]
theorem rV_set (l : List (Bool × Nat)) (k : Nat) (p : Bool × Nat) : (((rV l).toArray.setIfInBounds (k * 3) (.bool p.1)).setIfInBounds (k * 3 + 1) (.int .u64 (p.2 : Int))).setIfInBounds (k * 3 + 2) (.slice none 0 0) = (rV (l.set k p)).toArray := by
  rw [← rV_set_list l k p]; simp
theorem made_rv (n : Nat) : madeCells (Value.agg #[.bool false, .int .u64 0, .slice none 0 0]).cells (n * 3) = (rV (List.replicate n (false, 0))).toArray := by
  apply Array.ext_getElem?
  intro j
  have hlen : (rV (List.replicate n (false, 0))).length = n * 3 := by
    have : ∀ l : List (Bool × Nat), (rV l).length = l.length * 3 := fun l => by
      unfold rV
      induction l with
      | nil => rfl
      | cons a l ih => rw [List.flatMap_cons, List.length_append, ih, List.length_cons]; simp [rvC]; omega
    rw [this]; simp
  by_cases hj : j < n * 3
  · have h1 : (rV (List.replicate n (false, 0)))[j / 3 * 3 + j % 3]? = (rvC (false, 0))[j % 3]? := flatAt rvC 3 (fun _ => rfl) (List.replicate n (false, 0)) (j / 3) (j % 3) (false, 0) (by rw [List.getElem?_replicate, if_pos (by omega)]) (Nat.mod_lt _ (by decide))
    rw [show j / 3 * 3 + j % 3 = j by omega] at h1
    have h3 : (rV (List.replicate n (false, 0))).toArray[j]? = (rV (List.replicate n (false, 0)))[j]? := by simp
    rw [h3, h1]
    have h2 : j % 3 = 0 ∨ j % 3 = 1 ∨ j % 3 = 2 := by omega
    rcases h2 with h2 | h2 | h2
    · simp [madeCells, hj, Value.cells, h2, rvC]
    · simp [madeCells, hj, Value.cells, h2, rvC]
    · simp [madeCells, hj, Value.cells, h2, rvC]
  · rw [Array.getElem?_eq_none (by simp [madeCells]; omega), Array.getElem?_eq_none (by simp [hlen]; omega)]
theorem info_rv : (Try.prog.info? 70).map (fun i => (i.zero, i.size, i.bytes)) = some (some (.agg #[.bool false, .int .u64 0, .slice none 0 0]), 3, 40) := by kernel_rfl
/-- the three rows that are made -/
structure GivS (z : World) (W : World) (A : List (Bool × Nat)) (B : List Bool) (C : List (Bool × Nat)) : Prop where
  a : W.heap[z.heap.size]? = some (.cells (nV A).toArray 74 (0, 0))
  b : W.heap[z.heap.size + 1]? = some (.cells (B.map Value.bool).toArray 4 (0, 0))
  c : W.heap[z.heap.size + 1 + 1]? = some (.cells (rV C).toArray 70 (0, 0))
  bel : Below z.heap.size z W
theorem GivS.setA {z W : World} {A C : List (Bool × Nat)} {B : List Bool} (h : GivS z W A B C) (k : Nat) (p : Bool × Nat) : GivS z ((W.setCell ⟨z.heap.size, k * 2, none⟩ (.bool p.1)).setCell ⟨z.heap.size, k * 2 + 1, none⟩ (.int .u64 (p.2 : Int))) (A.set k p) B C :=
  ⟨by rw [heapSet' (heapSet' h.a _ _) _ _, nV_set], (hset (by omega)).trans ((hset (by omega)).trans h.b), (hset (by omega)).trans ((hset (by omega)).trans h.c), belSet (belSet h.bel _ _ _ (Nat.le_refl _)) _ _ _ (Nat.le_refl _)⟩
theorem GivS.setB {z W : World} {A C : List (Bool × Nat)} {B : List Bool} (h : GivS z W A B C) (k : Nat) (p : Bool) : GivS z (W.setCell ⟨z.heap.size + 1, k, none⟩ (.bool p)) A (B.set k p) C :=
  ⟨(hset (by omega)).trans h.a, by rw [heapSet' h.b]; simp [List.map_set], (hset (by omega)).trans h.c, belSet h.bel _ _ _ (by omega)⟩
theorem GivS.setC {z W : World} {A C : List (Bool × Nat)} {B : List Bool} (h : GivS z W A B C) (k : Nat) (p : Bool × Nat) : GivS z (((W.setCell ⟨z.heap.size + 1 + 1, k * 3, none⟩ (.bool p.1)).setCell ⟨z.heap.size + 1 + 1, k * 3 + 1, none⟩ (.int .u64 (p.2 : Int))).setCell ⟨z.heap.size + 1 + 1, k * 3 + 2, none⟩ (.slice none 0 0)) A B (C.set k p) :=
  ⟨(hset (by omega)).trans ((hset (by omega)).trans ((hset (by omega)).trans h.a)), (hset (by omega)).trans ((hset (by omega)).trans ((hset (by omega)).trans h.b)), by rw [heapSet' (heapSet' (heapSet' h.c _ _) _ _) _ _, rV_set], belSet (belSet (belSet h.bel _ _ _ (by omega)) _ _ _ (by omega)) _ _ _ (by omega)⟩
theorem GivS.drew {z W : World} {A C : List (Bool × Nat)} {B : List Bool} (h : GivS z W A B C) : GivS z W.drew A B C := ⟨h.a, h.b, h.c, ⟨h.bel.os, h.bel.tape, h.bel.output, h.bel.size, h.bel.block⟩⟩
theorem testNew {w : World} {lv tv av : Value} {t : TestM} (h : TestIn w lv tv av t) (T : TypeId) : TestAt (w.alloc (.cells #[lv, tv, av] T)) w.heap.size t :=
  ⟨_, _, _, by rw [cOf (heap_alloc_new _ _)]; rfl, by rw [cOf (heap_alloc_new _ _)]; rfl, by rw [cOf (heap_alloc_new _ _)]; rfl, h.below (aset _ _)⟩
theorem pA_zero (n : Nat) (R : List (Bool × Nat)) : pA n R 0 = List.replicate n (false, 0) := by
  apply List.ext_getElem?
  intro i
  unfold pA
  rw [List.getElem?_replicate]
  by_cases hi : i < n
  · rw [List.getElem?_map, List.getElem?_range hi, if_pos hi]; rfl
  · rw [List.getElem?_eq_none (by simp; omega), if_neg hi]
theorem pB_zero (n : Nat) (S : List Bool) : pB n S 0 = List.replicate n false := by
  apply List.ext_getElem?
  intro i
  unfold pB
  rw [List.getElem?_replicate]
  by_cases hi : i < n
  · rw [List.getElem?_map, List.getElem?_range hi, if_pos hi]; rfl
  · rw [List.getElem?_eq_none (by simp; omega), if_neg hi]
theorem testValsF {w : World} {lv tv av : Value} {t : TestM} (h : TestIn w lv tv av t) : ∃ lp lc tp tc ap ac, lv = .slice lp t.locs.length lc ∧ tv = .slice tp t.thr.length tc ∧ av = .slice ap t.asks.length ac := by
  obtain ⟨a, ⟨vs, _, b, _⟩, c⟩ := h
  obtain ⟨lp, lc, h1⟩ := a.slice
  obtain ⟨tp, tc, h2⟩ := b.slice
  obtain ⟨ap, ac, h3⟩ := c.slice
  exact ⟨lp, lc, tp, tc, ap, ac, h1, h2, h3⟩

theorem res_tmp3 {fn : Func} {t u v : Tmp} (h : fn.results = #[.tmp t, .tmp u, .tmp v]) (tmps : Array Value) (P : Program) (w : World) :
    (results fn tmps).run P w = .ok (.tuple #[tmps.getD t undef, tmps.getD u undef, tmps.getD v undef]) w := by
  simp [results, h]
set_option maxHeartbeats 12800000 in
theorem given_any (lv tv av rv wv : Value) (t : TestM) (hk : TestOk t) (n : Nat) (hn : memT t.thr = n) (hn1 : n ≤ 1000000) (R : List (Bool × Nat)) (S : List Bool) (hR1 : R.length ≤ maxLen) (hS1 : S.length ≤ maxLen) (w : World) (h : TestIn w lv tv av t) (hR : SlIn w rv 2 R.length (nV R)) (hS : SlIn w wv 1 S.length (S.map Value.bool)) :
    Calls Try.prog 13 #[.agg #[lv, tv, av], rv, wv] w fun e w' => ∃ z : World, Below w.heap.size w z ∧ e = .returned (.tuple #[.slice (some ⟨z.heap.size, 0, none⟩) n n, .slice (some ⟨z.heap.size + 1, 0, none⟩) n n, .slice (some ⟨z.heap.size + 1 + 1, 0, none⟩) n n]) ∧ GivS z w' (pA n R n) (pB n S n) (pA n R n) := by
  unfold maxLen at hR1 hS1
  have k1 : ∀ W : World, (Instr.makeSlice 27 (.int .i64 (n : Int)) (.int .i64 (n : Int))).run Try.prog W = .ok (.slice (some ⟨W.heap.size, 0, none⟩) n n) (W.alloc (.cells (nV (List.replicate n (false, 0))).toArray 74)) := fun W => by
    have := mk_row (T := 27) Try.underlying27 info_mv (by decide) n hn1 W
    rw [made_val] at this; exact this
  have k2 : ∀ W : World, (Instr.makeSlice 28 (.int .i64 (n : Int)) (.int .i64 (n : Int))).run Try.prog W = .ok (.slice (some ⟨W.heap.size, 0, none⟩) n n) (W.alloc (.cells (Array.replicate n (Value.bool false)) 4)) := fun W => by
    have := mk_row (T := 28) Try.underlying28 info_mb (by decide) n hn1 W
    rw [made_bool] at this; simpa using this
  have k3 : ∀ W : World, (Instr.makeSlice 53 (.int .i64 (n : Int)) (.int .i64 (n : Int))).run Try.prog W = .ok (.slice (some ⟨W.heap.size, 0, none⟩) n n) (W.alloc (.cells (rV (List.replicate n (false, 0))).toArray 70)) := fun W => by
    have := mk_row (T := 53) Try.underlying53 info_rv (by decide) n hn1 W
    rw [made_rv] at this; exact this
  have hT := testNew h 26
  obtain ⟨lp, lc, tp, tc, ap, ac, rfl, rfl, rfl⟩ := testValsF h
  obtain ⟨rp, rc, rfl⟩ := hR.slice
  obtain ⟨wp, wc, rfl⟩ := hS.slice
  have co := ops_any w.heap.size t hk _ hT
  unfold OpsP at co
  rw [opsM_len, hn] at co
  have CO := Bx.mk co; have HR := Bx.mk hR; have HS := Bx.mk hS
  have B0 := Bx.mk (aset w (.cells #[.slice lp t.locs.length lc, .slice tp t.thr.length tc, .slice ap t.asks.length ac] 26))
  clear co hT h hR hS hn hk
  go_enter Try.func13, Try.ntmps13
  go_upto_region 5 with (go_at_call 11; ((with_reducible refine (CO.out).mono ?_); rintro e z ⟨u, rfl, hrow, hbz⟩; obtain ⟨up, uc, rfl⟩ := rowSlice hrow; have BZ := Bx.mk (bel B0.out hbz); clear hrow hbz))
  have G0 : GivS z (((z.alloc (.cells (nV (List.replicate n (false, 0))).toArray 74)).alloc (.cells (Array.replicate n (Value.bool false)) 4)).alloc (.cells (rV (List.replicate n (false, 0))).toArray 70)) (pA n R 0) (pB n S 0) (pA n R 0) := by
    rw [pA_zero, pB_zero]
    have a1 := heap_alloc_new z (.cells (nV (List.replicate n (false, 0))).toArray 74)
    have b1 := aset z (.cells (nV (List.replicate n (false, 0))).toArray 74)
    have s1 : (z.alloc (.cells (nV (List.replicate n (false, 0))).toArray 74)).heap.size = z.heap.size + 1 := by simp
    generalize z.alloc (.cells (nV (List.replicate n (false, 0))).toArray 74) = z1 at *
    have a2 := heap_alloc_new z1 (.cells (Array.replicate n (Value.bool false)) 4)
    have b2 := aset z1 (.cells (Array.replicate n (Value.bool false)) 4)
    have s2 : (z1.alloc (.cells (Array.replicate n (Value.bool false)) 4)).heap.size = z1.heap.size + 1 := by simp
    generalize z1.alloc (.cells (Array.replicate n (Value.bool false)) 4) = z2 at *
    have a3 := heap_alloc_new z2 (.cells (rV (List.replicate n (false, 0))).toArray 70)
    have b3 := aset z2 (.cells (rV (List.replicate n (false, 0))).toArray 70)
    rw [s2, s1] at a3
    rw [s1] at a2
    exact ⟨(b3.block _ (by omega)).trans ((b2.block _ (by omega)).trans a1), (b3.block _ (by omega)).trans (by rw [a2]; simp), a3, bel (bel b1 b2) b3⟩
  have GG := Bx.mk G0
  clear G0 k1 k2 k3
  generalize ((z.alloc (.cells (nV (List.replicate n (false, 0))).toArray 74)).alloc (.cells (Array.replicate n (Value.bool false)) 4)).alloc (.cells (rV (List.replicate n (false, 0))).toArray 70) = w3 at *
  go_wp2_with fail
  go_loopw [13] (fun q wx => ∃ j : Nat, q = .int .i64 (j : Int) ∧ j ≤ n ∧ Bx (GivS z wx (pA n R j) (pB n S j) (pA n R j))) (fun q _ => n - (intOf q).toNat)
  case atStart => exact ⟨0, rfl, by omega, GG⟩
  case round =>
    obtain ⟨j, rfl, hj, hG⟩ := hrel
    by_cases hlt : j < n
    · have hji : (j : Int) < (n : Int) := by omega
      have hj0 : (0 : Int) ≤ (j : Int) := by omega
      have ap := pA_at n R j hlt
      have bp := pB_at n S j hlt
      have a0 : wr.cell? ⟨z.heap.size, j * 2, none⟩ = some (.bool false) := by rw [cOf hG.out.a]; have := nV_get ap 0 (by decide); simpa [vC] using this
      have a1 : wr.cell? ⟨z.heap.size, j * 2 + 1, none⟩ = some (.int .u64 0) := by rw [cOf hG.out.a]; have := nV_get ap 1 (by decide); simpa [vC] using this
      have af0 := tOf hG.out.a (j * 2); have af1 := tOf hG.out.a (j * 2 + 1)
      have AP1 := Bx.mk (pA_at1 n R j hlt)
      have PS := Bx.mk (pA_set n R j); have PST := Bx.mk (pA_stay n R j hlt); have BS := Bx.mk (pB_set n S j); have BST := Bx.mk (pB_stay n S j hlt)
      have AP := Bx.mk ap; have BP := Bx.mk bp
      clear ap bp
      by_cases hjr : R.length ≤ j
      · have hd1 : ¬ ((j : Int) < (R.length : Int)) := by omega
        have GA : Bx (GivS z wr (pA n R (j + 1)) (pB n S j) (pA n R j)) := ⟨by rw [PST.out (by unfold gv; rw [List.getD_eq_getElem?_getD, List.getElem?_eq_none hjr]; rfl)]; exact hG.out⟩
        clear hjr hG
        go_upto_region 10 with fail
        obtain ⟨WA, hWA⟩ : ∃ WA, WA = wr := ⟨_, rfl⟩
        rw [← hWA] at GA ⊢
        clear hWA a0 a1 af0 af1
        by_cases hjs : S.length ≤ j
        · have hd : ¬ ((j : Int) < (S.length : Int)) := by omega
          have GB : Bx (GivS z WA (pA n R (j + 1)) (pB n S (j + 1)) (pA n R j)) := ⟨by rw [BST.out (by rw [List.getD_eq_getElem?_getD, List.getElem?_eq_none hjs]; rfl)]; exact GA.out⟩
          clear hjs GA
          go_upto_region 12 with fail
          obtain ⟨WB, hWB⟩ : ∃ WB, WB = WA := ⟨_, rfl⟩
          rw [← hWB] at GB ⊢
          clear hWB
          obtain ⟨p, hp⟩ : ∃ p, p = gv R j := ⟨_, rfl⟩
          have q0 : WB.cell? ⟨z.heap.size, j * 2, none⟩ = some (.bool p.1) := by rw [hp, cOf GB.out.a]; have := nV_get AP1.out 0 (by decide); simpa [vC] using this
          have q1 : WB.cell? ⟨z.heap.size, j * 2 + 1, none⟩ = some (.int .u64 (p.2 : Int)) := by rw [hp, cOf GB.out.a]; have := nV_get AP1.out 1 (by decide); simpa [vC] using this
          have c0 : WB.cell? ⟨z.heap.size + 1 + 1, j * 3, none⟩ = some (.bool false) := by rw [cOf GB.out.c]; have := flatAt rvC 3 (fun _ => rfl) _ j 0 _ AP.out (by decide); simpa [rvC, rV] using this
          have c1 : WB.cell? ⟨z.heap.size + 1 + 1, j * 3 + 1, none⟩ = some (.int .u64 0) := by rw [cOf GB.out.c]; have := flatAt rvC 3 (fun _ => rfl) _ j 1 _ AP.out (by decide); simpa [rvC, rV] using this
          have c2 : WB.cell? ⟨z.heap.size + 1 + 1, j * 3 + 2, none⟩ = some (.slice none 0 0) := by rw [cOf GB.out.c]; have := flatAt rvC 3 (fun _ => rfl) _ j 2 _ AP.out (by decide); simpa [rvC, rV] using this
          have cf0 := tOf GB.out.c (j * 3); have cf1 := tOf GB.out.c (j * 3 + 1); have cf2 := tOf GB.out.c (j * 3 + 2)
          have GC : Bx (GivS z (((WB.drew.setCell ⟨z.heap.size + 1 + 1, j * 3, none⟩ (.bool p.1)).setCell ⟨z.heap.size + 1 + 1, j * 3 + 1, none⟩ (.int .u64 (p.2 : Int))).setCell ⟨z.heap.size + 1 + 1, j * 3 + 2, none⟩ (.slice none 0 0)) (pA n R (j + 1)) (pB n S (j + 1)) (pA n R (j + 1))) := ⟨by
            rw [← PS.out, ← hp]
            have := GB.out.drew.setC j p
            rw [← PS.out, ← hp] at this
            exact this⟩
          clear hp GB
          go_still_tail 14, (by kernel_rfl)
          change wpList _ _ _ _ _ WB.drew
          go_wp2_with fail
          go_roundw
          case rel => exact ⟨j + 1, by go_num, by omega, GC⟩
          case measure => simp [intOf] <;> omega
        · have hd : (j : Int) < (S.length : Int) := by omega
          obtain ⟨sb, so, sc, hsv, hsl, hsc⟩ := HS.out.at (by omega)
          obtain ⟨rfl, _, rfl⟩ := Value.slice.inj hsv
          obtain ⟨v, hv⟩ : ∃ v, S[j]? = some v := ⟨_, List.getElem?_eq_getElem (by omega)⟩
          have s0 : WA.cell? ⟨sb, so + j, none⟩ = some (.bool v) := ((bel BZ.out GA.out.bel).cell hsl).trans (hsc j _ (by rw [List.getElem?_map, hv]; rfl))
          have b0 : WA.cell? ⟨z.heap.size + 1, j, none⟩ = some (.bool false) := by rw [cOf GA.out.b]; simp only [List.getElem?_toArray, List.getElem?_map, BP.out]; rfl
          have bf0 := tOf GA.out.b j
          have GB : Bx (GivS z (WA.setCell ⟨z.heap.size + 1, j, none⟩ (.bool v)) (pA n R (j + 1)) (pB n S (j + 1)) (pA n R j)) := ⟨by
            have e : S.getD j false = v := by rw [List.getD_eq_getElem?_getD, hv]; rfl
            rw [← BS.out, e]
            exact GA.out.setB j v⟩
          clear hjs GA hsv hsc hv
          go_upto_region 12 with fail
          generalize WA.setCell ⟨z.heap.size + 1, j, none⟩ (.bool v) = WB at *
          clear s0 b0 bf0
          obtain ⟨p, hp⟩ : ∃ p, p = gv R j := ⟨_, rfl⟩
          have q0 : WB.cell? ⟨z.heap.size, j * 2, none⟩ = some (.bool p.1) := by rw [hp, cOf GB.out.a]; have := nV_get AP1.out 0 (by decide); simpa [vC] using this
          have q1 : WB.cell? ⟨z.heap.size, j * 2 + 1, none⟩ = some (.int .u64 (p.2 : Int)) := by rw [hp, cOf GB.out.a]; have := nV_get AP1.out 1 (by decide); simpa [vC] using this
          have c0 : WB.cell? ⟨z.heap.size + 1 + 1, j * 3, none⟩ = some (.bool false) := by rw [cOf GB.out.c]; have := flatAt rvC 3 (fun _ => rfl) _ j 0 _ AP.out (by decide); simpa [rvC, rV] using this
          have c1 : WB.cell? ⟨z.heap.size + 1 + 1, j * 3 + 1, none⟩ = some (.int .u64 0) := by rw [cOf GB.out.c]; have := flatAt rvC 3 (fun _ => rfl) _ j 1 _ AP.out (by decide); simpa [rvC, rV] using this
          have c2 : WB.cell? ⟨z.heap.size + 1 + 1, j * 3 + 2, none⟩ = some (.slice none 0 0) := by rw [cOf GB.out.c]; have := flatAt rvC 3 (fun _ => rfl) _ j 2 _ AP.out (by decide); simpa [rvC, rV] using this
          have cf0 := tOf GB.out.c (j * 3); have cf1 := tOf GB.out.c (j * 3 + 1); have cf2 := tOf GB.out.c (j * 3 + 2)
          have GC : Bx (GivS z (((WB.drew.setCell ⟨z.heap.size + 1 + 1, j * 3, none⟩ (.bool p.1)).setCell ⟨z.heap.size + 1 + 1, j * 3 + 1, none⟩ (.int .u64 (p.2 : Int))).setCell ⟨z.heap.size + 1 + 1, j * 3 + 2, none⟩ (.slice none 0 0)) (pA n R (j + 1)) (pB n S (j + 1)) (pA n R (j + 1))) := ⟨by
            rw [← PS.out, ← hp]
            have := GB.out.drew.setC j p
            rw [← PS.out, ← hp] at this
            exact this⟩
          clear hp GB
          go_still_tail 14, (by kernel_rfl)
          change wpList _ _ _ _ _ WB.drew
          go_wp2_with fail
          go_roundw
          case rel => exact ⟨j + 1, by go_num, by omega, GC⟩
          case measure => simp [intOf] <;> omega
      · have hd1 : (j : Int) < (R.length : Int) := by omega
        obtain ⟨rb, ro, rc2, hrv, hrl, hrc⟩ := HR.out.at (by omega)
        obtain ⟨rfl, _, rfl⟩ := Value.slice.inj hrv
        obtain ⟨⟨pk, pv⟩, hx⟩ : ∃ x, R[j]? = some x := ⟨_, List.getElem?_eq_getElem (by omega)⟩
        have e0 : R.getD j (false, 0) = (pk, pv) := by rw [List.getD_eq_getElem?_getD, hx]; rfl
        have r0 : wr.cell? ⟨rb, ro + j * 2, none⟩ = some (.bool pk) := ((bel BZ.out hG.out.bel).cell hrl).trans (hrc _ _ (by have := nV_get hx 0 (by decide); simpa [vC] using this))
        have r1 : wr.cell? ⟨rb, ro + j * 2 + 1, none⟩ = some (.int .u64 (pv : Int)) := ((bel BZ.out hG.out.bel).cell hrl).trans (hrc (j * 2 + 1) _ (by have := nV_get hx 1 (by decide); simpa [vC] using this))
        cases pk
        · have GA : Bx (GivS z wr (pA n R (j + 1)) (pB n S j) (pA n R j)) := ⟨by rw [PST.out (by unfold gv; rw [e0]; rfl)]; exact hG.out⟩
          clear hjr hG hrv hrc hx e0
          go_upto_region 10 with fail
          obtain ⟨WA, hWA⟩ : ∃ WA, WA = wr := ⟨_, rfl⟩
          rw [← hWA] at GA ⊢
          clear hWA a0 a1 af0 af1 r0 r1
          by_cases hjs : S.length ≤ j
          · have hd : ¬ ((j : Int) < (S.length : Int)) := by omega
            have GB : Bx (GivS z WA (pA n R (j + 1)) (pB n S (j + 1)) (pA n R j)) := ⟨by rw [BST.out (by rw [List.getD_eq_getElem?_getD, List.getElem?_eq_none hjs]; rfl)]; exact GA.out⟩
            clear hjs GA
            go_upto_region 12 with fail
            obtain ⟨WB, hWB⟩ : ∃ WB, WB = WA := ⟨_, rfl⟩
            rw [← hWB] at GB ⊢
            clear hWB
            obtain ⟨p, hp⟩ : ∃ p, p = gv R j := ⟨_, rfl⟩
            have q0 : WB.cell? ⟨z.heap.size, j * 2, none⟩ = some (.bool p.1) := by rw [hp, cOf GB.out.a]; have := nV_get AP1.out 0 (by decide); simpa [vC] using this
            have q1 : WB.cell? ⟨z.heap.size, j * 2 + 1, none⟩ = some (.int .u64 (p.2 : Int)) := by rw [hp, cOf GB.out.a]; have := nV_get AP1.out 1 (by decide); simpa [vC] using this
            have c0 : WB.cell? ⟨z.heap.size + 1 + 1, j * 3, none⟩ = some (.bool false) := by rw [cOf GB.out.c]; have := flatAt rvC 3 (fun _ => rfl) _ j 0 _ AP.out (by decide); simpa [rvC, rV] using this
            have c1 : WB.cell? ⟨z.heap.size + 1 + 1, j * 3 + 1, none⟩ = some (.int .u64 0) := by rw [cOf GB.out.c]; have := flatAt rvC 3 (fun _ => rfl) _ j 1 _ AP.out (by decide); simpa [rvC, rV] using this
            have c2 : WB.cell? ⟨z.heap.size + 1 + 1, j * 3 + 2, none⟩ = some (.slice none 0 0) := by rw [cOf GB.out.c]; have := flatAt rvC 3 (fun _ => rfl) _ j 2 _ AP.out (by decide); simpa [rvC, rV] using this
            have cf0 := tOf GB.out.c (j * 3); have cf1 := tOf GB.out.c (j * 3 + 1); have cf2 := tOf GB.out.c (j * 3 + 2)
            have GC : Bx (GivS z (((WB.drew.setCell ⟨z.heap.size + 1 + 1, j * 3, none⟩ (.bool p.1)).setCell ⟨z.heap.size + 1 + 1, j * 3 + 1, none⟩ (.int .u64 (p.2 : Int))).setCell ⟨z.heap.size + 1 + 1, j * 3 + 2, none⟩ (.slice none 0 0)) (pA n R (j + 1)) (pB n S (j + 1)) (pA n R (j + 1))) := ⟨by
              rw [← PS.out, ← hp]
              have := GB.out.drew.setC j p
              rw [← PS.out, ← hp] at this
              exact this⟩
            clear hp GB
            go_still_tail 14, (by kernel_rfl)
            change wpList _ _ _ _ _ WB.drew
            go_wp2_with fail
            go_roundw
            case rel => exact ⟨j + 1, by go_num, by omega, GC⟩
            case measure => simp [intOf] <;> omega
          · have hd : (j : Int) < (S.length : Int) := by omega
            obtain ⟨sb, so, sc, hsv, hsl, hsc⟩ := HS.out.at (by omega)
            obtain ⟨rfl, _, rfl⟩ := Value.slice.inj hsv
            obtain ⟨v, hv⟩ : ∃ v, S[j]? = some v := ⟨_, List.getElem?_eq_getElem (by omega)⟩
            have s0 : WA.cell? ⟨sb, so + j, none⟩ = some (.bool v) := ((bel BZ.out GA.out.bel).cell hsl).trans (hsc j _ (by rw [List.getElem?_map, hv]; rfl))
            have b0 : WA.cell? ⟨z.heap.size + 1, j, none⟩ = some (.bool false) := by rw [cOf GA.out.b]; simp only [List.getElem?_toArray, List.getElem?_map, BP.out]; rfl
            have bf0 := tOf GA.out.b j
            have GB : Bx (GivS z (WA.setCell ⟨z.heap.size + 1, j, none⟩ (.bool v)) (pA n R (j + 1)) (pB n S (j + 1)) (pA n R j)) := ⟨by
              have e : S.getD j false = v := by rw [List.getD_eq_getElem?_getD, hv]; rfl
              rw [← BS.out, e]
              exact GA.out.setB j v⟩
            clear hjs GA hsv hsc hv
            go_upto_region 12 with fail
            generalize WA.setCell ⟨z.heap.size + 1, j, none⟩ (.bool v) = WB at *
            clear s0 b0 bf0
            obtain ⟨p, hp⟩ : ∃ p, p = gv R j := ⟨_, rfl⟩
            have q0 : WB.cell? ⟨z.heap.size, j * 2, none⟩ = some (.bool p.1) := by rw [hp, cOf GB.out.a]; have := nV_get AP1.out 0 (by decide); simpa [vC] using this
            have q1 : WB.cell? ⟨z.heap.size, j * 2 + 1, none⟩ = some (.int .u64 (p.2 : Int)) := by rw [hp, cOf GB.out.a]; have := nV_get AP1.out 1 (by decide); simpa [vC] using this
            have c0 : WB.cell? ⟨z.heap.size + 1 + 1, j * 3, none⟩ = some (.bool false) := by rw [cOf GB.out.c]; have := flatAt rvC 3 (fun _ => rfl) _ j 0 _ AP.out (by decide); simpa [rvC, rV] using this
            have c1 : WB.cell? ⟨z.heap.size + 1 + 1, j * 3 + 1, none⟩ = some (.int .u64 0) := by rw [cOf GB.out.c]; have := flatAt rvC 3 (fun _ => rfl) _ j 1 _ AP.out (by decide); simpa [rvC, rV] using this
            have c2 : WB.cell? ⟨z.heap.size + 1 + 1, j * 3 + 2, none⟩ = some (.slice none 0 0) := by rw [cOf GB.out.c]; have := flatAt rvC 3 (fun _ => rfl) _ j 2 _ AP.out (by decide); simpa [rvC, rV] using this
            have cf0 := tOf GB.out.c (j * 3); have cf1 := tOf GB.out.c (j * 3 + 1); have cf2 := tOf GB.out.c (j * 3 + 2)
            have GC : Bx (GivS z (((WB.drew.setCell ⟨z.heap.size + 1 + 1, j * 3, none⟩ (.bool p.1)).setCell ⟨z.heap.size + 1 + 1, j * 3 + 1, none⟩ (.int .u64 (p.2 : Int))).setCell ⟨z.heap.size + 1 + 1, j * 3 + 2, none⟩ (.slice none 0 0)) (pA n R (j + 1)) (pB n S (j + 1)) (pA n R (j + 1))) := ⟨by
              rw [← PS.out, ← hp]
              have := GB.out.drew.setC j p
              rw [← PS.out, ← hp] at this
              exact this⟩
            clear hp GB
            go_still_tail 14, (by kernel_rfl)
            change wpList _ _ _ _ _ WB.drew
            go_wp2_with fail
            go_roundw
            case rel => exact ⟨j + 1, by go_num, by omega, GC⟩
            case measure => simp [intOf] <;> omega
        · have GA : Bx (GivS z ((wr.setCell ⟨z.heap.size, j * 2, none⟩ (.bool true)).setCell ⟨z.heap.size, j * 2 + 1, none⟩ (.int .u64 (pv : Int))) (pA n R (j + 1)) (pB n S j) (pA n R j)) := ⟨by
            have e : gv R j = (true, pv) := by unfold gv; rw [e0]; rfl
            rw [← PS.out, e]
            exact hG.out.setA j (true, pv)⟩
          clear hjr hG hrv hrc hx e0
          go_upto_region 10 with fail
          generalize (wr.setCell ⟨z.heap.size, j * 2, none⟩ (.bool true)).setCell ⟨z.heap.size, j * 2 + 1, none⟩ (.int .u64 (pv : Int)) = WA at *
          clear a0 a1 af0 af1 r0 r1
          by_cases hjs : S.length ≤ j
          · have hd : ¬ ((j : Int) < (S.length : Int)) := by omega
            have GB : Bx (GivS z WA (pA n R (j + 1)) (pB n S (j + 1)) (pA n R j)) := ⟨by rw [BST.out (by rw [List.getD_eq_getElem?_getD, List.getElem?_eq_none hjs]; rfl)]; exact GA.out⟩
            clear hjs GA
            go_upto_region 12 with fail
            obtain ⟨WB, hWB⟩ : ∃ WB, WB = WA := ⟨_, rfl⟩
            rw [← hWB] at GB ⊢
            clear hWB
            obtain ⟨p, hp⟩ : ∃ p, p = gv R j := ⟨_, rfl⟩
            have q0 : WB.cell? ⟨z.heap.size, j * 2, none⟩ = some (.bool p.1) := by rw [hp, cOf GB.out.a]; have := nV_get AP1.out 0 (by decide); simpa [vC] using this
            have q1 : WB.cell? ⟨z.heap.size, j * 2 + 1, none⟩ = some (.int .u64 (p.2 : Int)) := by rw [hp, cOf GB.out.a]; have := nV_get AP1.out 1 (by decide); simpa [vC] using this
            have c0 : WB.cell? ⟨z.heap.size + 1 + 1, j * 3, none⟩ = some (.bool false) := by rw [cOf GB.out.c]; have := flatAt rvC 3 (fun _ => rfl) _ j 0 _ AP.out (by decide); simpa [rvC, rV] using this
            have c1 : WB.cell? ⟨z.heap.size + 1 + 1, j * 3 + 1, none⟩ = some (.int .u64 0) := by rw [cOf GB.out.c]; have := flatAt rvC 3 (fun _ => rfl) _ j 1 _ AP.out (by decide); simpa [rvC, rV] using this
            have c2 : WB.cell? ⟨z.heap.size + 1 + 1, j * 3 + 2, none⟩ = some (.slice none 0 0) := by rw [cOf GB.out.c]; have := flatAt rvC 3 (fun _ => rfl) _ j 2 _ AP.out (by decide); simpa [rvC, rV] using this
            have cf0 := tOf GB.out.c (j * 3); have cf1 := tOf GB.out.c (j * 3 + 1); have cf2 := tOf GB.out.c (j * 3 + 2)
            have GC : Bx (GivS z (((WB.drew.setCell ⟨z.heap.size + 1 + 1, j * 3, none⟩ (.bool p.1)).setCell ⟨z.heap.size + 1 + 1, j * 3 + 1, none⟩ (.int .u64 (p.2 : Int))).setCell ⟨z.heap.size + 1 + 1, j * 3 + 2, none⟩ (.slice none 0 0)) (pA n R (j + 1)) (pB n S (j + 1)) (pA n R (j + 1))) := ⟨by
              rw [← PS.out, ← hp]
              have := GB.out.drew.setC j p
              rw [← PS.out, ← hp] at this
              exact this⟩
            clear hp GB
            go_still_tail 14, (by kernel_rfl)
            change wpList _ _ _ _ _ WB.drew
            go_wp2_with fail
            go_roundw
            case rel => exact ⟨j + 1, by go_num, by omega, GC⟩
            case measure => simp [intOf] <;> omega
          · have hd : (j : Int) < (S.length : Int) := by omega
            obtain ⟨sb, so, sc, hsv, hsl, hsc⟩ := HS.out.at (by omega)
            obtain ⟨rfl, _, rfl⟩ := Value.slice.inj hsv
            obtain ⟨v, hv⟩ : ∃ v, S[j]? = some v := ⟨_, List.getElem?_eq_getElem (by omega)⟩
            have s0 : WA.cell? ⟨sb, so + j, none⟩ = some (.bool v) := ((bel BZ.out GA.out.bel).cell hsl).trans (hsc j _ (by rw [List.getElem?_map, hv]; rfl))
            have b0 : WA.cell? ⟨z.heap.size + 1, j, none⟩ = some (.bool false) := by rw [cOf GA.out.b]; simp only [List.getElem?_toArray, List.getElem?_map, BP.out]; rfl
            have bf0 := tOf GA.out.b j
            have GB : Bx (GivS z (WA.setCell ⟨z.heap.size + 1, j, none⟩ (.bool v)) (pA n R (j + 1)) (pB n S (j + 1)) (pA n R j)) := ⟨by
              have e : S.getD j false = v := by rw [List.getD_eq_getElem?_getD, hv]; rfl
              rw [← BS.out, e]
              exact GA.out.setB j v⟩
            clear hjs GA hsv hsc hv
            go_upto_region 12 with fail
            generalize WA.setCell ⟨z.heap.size + 1, j, none⟩ (.bool v) = WB at *
            clear s0 b0 bf0
            obtain ⟨p, hp⟩ : ∃ p, p = gv R j := ⟨_, rfl⟩
            have q0 : WB.cell? ⟨z.heap.size, j * 2, none⟩ = some (.bool p.1) := by rw [hp, cOf GB.out.a]; have := nV_get AP1.out 0 (by decide); simpa [vC] using this
            have q1 : WB.cell? ⟨z.heap.size, j * 2 + 1, none⟩ = some (.int .u64 (p.2 : Int)) := by rw [hp, cOf GB.out.a]; have := nV_get AP1.out 1 (by decide); simpa [vC] using this
            have c0 : WB.cell? ⟨z.heap.size + 1 + 1, j * 3, none⟩ = some (.bool false) := by rw [cOf GB.out.c]; have := flatAt rvC 3 (fun _ => rfl) _ j 0 _ AP.out (by decide); simpa [rvC, rV] using this
            have c1 : WB.cell? ⟨z.heap.size + 1 + 1, j * 3 + 1, none⟩ = some (.int .u64 0) := by rw [cOf GB.out.c]; have := flatAt rvC 3 (fun _ => rfl) _ j 1 _ AP.out (by decide); simpa [rvC, rV] using this
            have c2 : WB.cell? ⟨z.heap.size + 1 + 1, j * 3 + 2, none⟩ = some (.slice none 0 0) := by rw [cOf GB.out.c]; have := flatAt rvC 3 (fun _ => rfl) _ j 2 _ AP.out (by decide); simpa [rvC, rV] using this
            have cf0 := tOf GB.out.c (j * 3); have cf1 := tOf GB.out.c (j * 3 + 1); have cf2 := tOf GB.out.c (j * 3 + 2)
            have GC : Bx (GivS z (((WB.drew.setCell ⟨z.heap.size + 1 + 1, j * 3, none⟩ (.bool p.1)).setCell ⟨z.heap.size + 1 + 1, j * 3 + 1, none⟩ (.int .u64 (p.2 : Int))).setCell ⟨z.heap.size + 1 + 1, j * 3 + 2, none⟩ (.slice none 0 0)) (pA n R (j + 1)) (pB n S (j + 1)) (pA n R (j + 1))) := ⟨by
              rw [← PS.out, ← hp]
              have := GB.out.drew.setC j p
              rw [← PS.out, ← hp] at this
              exact this⟩
            clear hp GB
            go_still_tail 14, (by kernel_rfl)
            change wpList _ _ _ _ _ WB.drew
            go_wp2_with fail
            go_roundw
            case rel => exact ⟨j + 1, by go_num, by omega, GC⟩
            case measure => simp [intOf] <;> omega
    · obtain rfl : j = n := by omega
      go_wp2_with fail
      (try simp only [Exit.inBlock, Exit.then])
      refine bodyPost_ret (res_tmp3 rfl _ _ _) rfl ?_
      exact ⟨z, BZ.out, rfl, hG.out⟩
end Go.Proofs.Yteeicedhnojdaaa
