/- FloA, FloB, FloC, FloD, in one text. -/
import Derived.Test.YtccjekgbhablpaaFloM
import Derived.Test.YtccjekgbhablpaaGb
import Derived.Test.YtccjekgbhablpaaGa
import Derived.BigQuiet
import Derived.Deep.QuietTactic
import Derived.StillTailTactics
namespace Go.Proofs.Ytccjekgbhablpaa
set_option maxRecDepth 100000
open Go.RowKit

theorem heapSet' {w : World} {b : Nat} {C : Array Value} {T : TypeId} {fr : Nat × Nat} (h : w.heap[b]? = some (.cells C T fr)) (o : Nat) (v : Value) : (w.setCell ⟨b, o, none⟩ v).heap[b]? = some (.cells (C.setIfInBounds o v) T fr) := by
  simp [World.setCell, Array.getElem?_modify, h]
def nI (l : List Nat) : List Value := l.map fun v : Nat => .int .i64 (v : Int)
def nU (l : List Nat) : List Value := l.map fun v : Nat => .int .u64 (v : Int)
def vC (p : Bool × Nat) : List Value := [.bool p.1, .int .u64 (p.2 : Int)]
def nV (l : List (Bool × Nat)) : List Value := l.flatMap vC
theorem nI_set (l : List Nat) (k v : Nat) : (nI l).toArray.setIfInBounds k (.int .i64 (v : Int)) = (nI (l.set k v)).toArray := by simp [nI, List.map_set]
theorem nU_set (l : List Nat) (k v : Nat) : (nU l).toArray.setIfInBounds k (.int .u64 (v : Int)) = (nU (l.set k v)).toArray := by simp [nU, List.map_set]
theorem nI_get {l : List Nat} {k : Nat} (h : k < l.length) : (nI l).toArray[k]? = some (.int .i64 ((l.getD k 0 : Nat) : Int)) := by simp [nI, h, List.getD_eq_getElem?_getD]
theorem nU_get {l : List Nat} {k : Nat} (h : k < l.length) : (nU l).toArray[k]? = some (.int .u64 ((l.getD k 0 : Nat) : Int)) := by simp [nU, h, List.getD_eq_getElem?_getD]
theorem nV_set_list : ∀ (l : List (Bool × Nat)) (k : Nat) (p : Bool × Nat), ((nV l).set (k * 2) (.bool p.1)).set (k * 2 + 1) (.int .u64 (p.2 : Int)) = nV (l.set k p)
  | [], k, p => by simp [nV]
  | a :: l, 0, p => by simp [nV, vC]
  | a :: l, k + 1, p => by
    have ih := nV_set_list l k p
    have e : nV (a :: l) = .bool a.1 :: .int .u64 (a.2 : Int) :: nV l := by simp [nV, vC]
    rw [e, show (k + 1) * 2 = k * 2 + 1 + 1 by omega]
    simp only [List.set_cons_succ]
    rw [ih]
    simp [nV, vC]
theorem nV_set (l : List (Bool × Nat)) (k : Nat) (b : Bool) (v : Nat) : ((nV l).toArray.setIfInBounds (k * 2) (.bool b)).setIfInBounds (k * 2 + 1) (.int .u64 (v : Int)) = (nV (l.set k (b, v))).toArray := by
  rw [← nV_set_list l k (b, v)]; simp
def cC (l : List Cn) : List Value := l.flatMap cnC
theorem cC_len (l : List Cn) : (cC l).length = l.length * 3 := by
  unfold cC
  induction l with
  | nil => rfl
  | cons a l ih => rw [List.flatMap_cons, List.length_append, ih]; simp [cnC]; omega
theorem cC_set_list : ∀ (l : List Cn) (k : Nat) (c : Cn), (((cC l).set (k * 3) (.bool c.k)).set (k * 3 + 1) (.int .u64 (c.v : Int))).set (k * 3 + 2) (.int .u64 (c.f : Int)) = cC (l.set k c)
  | [], k, c => by simp [cC]
  | a :: l, 0, c => by simp [cC, cnC]
  | a :: l, k + 1, c => by
    have ih := cC_set_list l k c
    have e : cC (a :: l) = .bool a.k :: .int .u64 (a.v : Int) :: .int .u64 (a.f : Int) :: cC l := by simp [cC, cnC]
    rw [e, show (k + 1) * 3 = k * 3 + 1 + 1 + 1 by omega]
    have e2 : k * 3 + 1 + 1 + 1 + 2 = (k * 3 + 2) + 1 + 1 + 1 := by omega
    rw [e2]
    simp only [List.set_cons_succ]
    rw [ih]
    simp [cC, cnC]
theorem cC_get {l : List Cn} {k : Nat} {c : Cn} (h : l[k]? = some c) (j : Nat) (hj : j < 3) : (cC l)[k * 3 + j]? = (cnC c)[j]? := flatAt cnC 3 (fun _ => rfl) l k j c h hj

/-- where all of it lies: the walker, the flow, its rows; and what is given -/
structure WkB where
  kb : Nat
  fb : Nat
  st : Nat
  wr : Nat
  pr : Nat
  pl : Nat
  va : Nat
  fp : Nat
  lf : Nat
  rg : Nat
  ops : Value
  reads : Value
  works : Value
  thr : Nat
  wh : Bool
def WkB.blk (K : WkB) : Nat → Nat
  | 0 => K.kb
  | 1 => K.fb
  | 2 => K.st
  | 3 => K.wr
  | 4 => K.pr
  | 5 => K.pl
  | 6 => K.va
  | 7 => K.fp
  | 8 => K.lf
  | 9 => K.rg
  | _ => 0
/-- all blocks are others, from B on -/
structure KOk (B : Nat) (K : WkB) : Prop where
  ge : ∀ i, i < 10 → B ≤ K.blk i
  nd : ∀ i j, i < 10 → j < 10 → i ≠ j → K.blk i ≠ K.blk j
def wkC (K : WkB) (s : WkM) : List Value :=
  [.pointer (some ⟨K.fb, 0, none⟩), K.ops, K.reads, K.works, .int .i64 (K.thr : Int)] ++ cC s.regs ++ [.int .u64 (s.path : Int), .int .i64 (s.lrOp : Int), .int .i64 s.lrLoc]
def flC (K : WkB) (n m : Nat) : List Value :=
  [.slice (some ⟨K.st, 0, none⟩) n n, .slice (some ⟨K.wr, 0, none⟩) n n, .slice (some ⟨K.pr, 0, none⟩) n n, .slice (some ⟨K.pl, 0, none⟩) n n, .slice (some ⟨K.va, 0, none⟩) n n, .slice (some ⟨K.fp, 0, none⟩) n n, .slice (some ⟨K.lf, 0, none⟩) m m, .slice (some ⟨K.rg, 0, none⟩) m m, .bool K.wh]
structure WkIn (W : World) (K : WkB) (n m : Nat) (s : WkM) : Prop where
  kb : W.heap[K.kb]? = some (.cells (wkC K s).toArray 100 (0, 0))
  fb : W.heap[K.fb]? = some (.cells (flC K n m).toArray 68 (0, 0))
  st : W.heap[K.st]? = some (.cells (nI s.state).toArray 3 (0, 0))
  wr : W.heap[K.wr]? = some (.cells (nV s.wr).toArray 74 (0, 0))
  pr : W.heap[K.pr]? = some (.cells (nI s.pair).toArray 3 (0, 0))
  pl : W.heap[K.pl]? = some (.cells (nU s.place).toArray 46 (0, 0))
  va : W.heap[K.va]? = some (.cells (nU s.value).toArray 46 (0, 0))
  fp : W.heap[K.fp]? = some (.cells (nU s.fpath).toArray 46 (0, 0))
  lf : W.heap[K.lf]? = some (.cells (nU s.left).toArray 46 (0, 0))
theorem ltOf {W : World} {b : Nat} {o : Obj} (h : W.heap[b]? = some o) : b < W.heap.size := by
  rcases Nat.lt_or_ge b W.heap.size with e | e
  · exact e
  · rw [Array.getElem?_eq_none e] at h; cases h
theorem WkIn.keep {W W' : World} {K : WkB} {n m : Nat} {s : WkM} (h : WkIn W K n m s) (hk : ∀ b, b < W.heap.size → W'.heap[b]? = W.heap[b]?) : WkIn W' K n m s :=
  ⟨(hk _ (ltOf h.kb)).trans h.kb, (hk _ (ltOf h.fb)).trans h.fb, (hk _ (ltOf h.st)).trans h.st, (hk _ (ltOf h.wr)).trans h.wr, (hk _ (ltOf h.pr)).trans h.pr, (hk _ (ltOf h.pl)).trans h.pl, (hk _ (ltOf h.va)).trans h.va, (hk _ (ltOf h.fp)).trans h.fp, (hk _ (ltOf h.lf)).trans h.lf⟩
theorem WkIn.bel {W W' : World} {K : WkB} {n m : Nat} {s : WkM} (h : WkIn W K n m s) (hb : Below W.heap.size W W') : WkIn W' K n m s := h.keep fun b hl => hb.block b hl
theorem WkIn.drew {W : World} {K : WkB} {n m : Nat} {s : WkM} (h : WkIn W K n m s) : WkIn W.drew K n m s := h.keep fun _ _ => rfl
/-- a store into a block that is none of these -/
theorem hset {W : World} {a b o : Nat} {v : Value} (h : b ≠ a) : (W.setCell ⟨a, o, none⟩ v).heap[b]? = W.heap[b]? := Below.heap_setCell _ _ _ _ h
theorem WkIn.setSt {W : World} {K : WkB} {B n m : Nat} {s : WkM} (ok : KOk B K) (h : WkIn W K n m s) (k v : Nat) : WkIn (W.setCell ⟨K.st, k, none⟩ (.int .i64 (v : Int))) K n m { s with state := s.state.set k v } :=
  ⟨(hset (show K.kb ≠ K.st from ok.nd 0 2 (by decide) (by decide) (by decide))).trans h.kb, (hset (show K.fb ≠ K.st from ok.nd 1 2 (by decide) (by decide) (by decide))).trans h.fb, by rw [heapSet' h.st, nI_set], (hset (show K.wr ≠ K.st from ok.nd 3 2 (by decide) (by decide) (by decide))).trans h.wr, (hset (show K.pr ≠ K.st from ok.nd 4 2 (by decide) (by decide) (by decide))).trans h.pr, (hset (show K.pl ≠ K.st from ok.nd 5 2 (by decide) (by decide) (by decide))).trans h.pl, (hset (show K.va ≠ K.st from ok.nd 6 2 (by decide) (by decide) (by decide))).trans h.va, (hset (show K.fp ≠ K.st from ok.nd 7 2 (by decide) (by decide) (by decide))).trans h.fp, (hset (show K.lf ≠ K.st from ok.nd 8 2 (by decide) (by decide) (by decide))).trans h.lf⟩
theorem WkIn.setPr {W : World} {K : WkB} {B n m : Nat} {s : WkM} (ok : KOk B K) (h : WkIn W K n m s) (k v : Nat) : WkIn (W.setCell ⟨K.pr, k, none⟩ (.int .i64 (v : Int))) K n m { s with pair := s.pair.set k v } :=
  ⟨(hset (show K.kb ≠ K.pr from ok.nd 0 4 (by decide) (by decide) (by decide))).trans h.kb, (hset (show K.fb ≠ K.pr from ok.nd 1 4 (by decide) (by decide) (by decide))).trans h.fb, (hset (show K.st ≠ K.pr from ok.nd 2 4 (by decide) (by decide) (by decide))).trans h.st, (hset (show K.wr ≠ K.pr from ok.nd 3 4 (by decide) (by decide) (by decide))).trans h.wr, by rw [heapSet' h.pr, nI_set], (hset (show K.pl ≠ K.pr from ok.nd 5 4 (by decide) (by decide) (by decide))).trans h.pl, (hset (show K.va ≠ K.pr from ok.nd 6 4 (by decide) (by decide) (by decide))).trans h.va, (hset (show K.fp ≠ K.pr from ok.nd 7 4 (by decide) (by decide) (by decide))).trans h.fp, (hset (show K.lf ≠ K.pr from ok.nd 8 4 (by decide) (by decide) (by decide))).trans h.lf⟩
theorem WkIn.setPl {W : World} {K : WkB} {B n m : Nat} {s : WkM} (ok : KOk B K) (h : WkIn W K n m s) (k v : Nat) : WkIn (W.setCell ⟨K.pl, k, none⟩ (.int .u64 (v : Int))) K n m { s with place := s.place.set k v } :=
  ⟨(hset (show K.kb ≠ K.pl from ok.nd 0 5 (by decide) (by decide) (by decide))).trans h.kb, (hset (show K.fb ≠ K.pl from ok.nd 1 5 (by decide) (by decide) (by decide))).trans h.fb, (hset (show K.st ≠ K.pl from ok.nd 2 5 (by decide) (by decide) (by decide))).trans h.st, (hset (show K.wr ≠ K.pl from ok.nd 3 5 (by decide) (by decide) (by decide))).trans h.wr, (hset (show K.pr ≠ K.pl from ok.nd 4 5 (by decide) (by decide) (by decide))).trans h.pr, by rw [heapSet' h.pl, nU_set], (hset (show K.va ≠ K.pl from ok.nd 6 5 (by decide) (by decide) (by decide))).trans h.va, (hset (show K.fp ≠ K.pl from ok.nd 7 5 (by decide) (by decide) (by decide))).trans h.fp, (hset (show K.lf ≠ K.pl from ok.nd 8 5 (by decide) (by decide) (by decide))).trans h.lf⟩
theorem WkIn.setVa {W : World} {K : WkB} {B n m : Nat} {s : WkM} (ok : KOk B K) (h : WkIn W K n m s) (k v : Nat) : WkIn (W.setCell ⟨K.va, k, none⟩ (.int .u64 (v : Int))) K n m { s with value := s.value.set k v } :=
  ⟨(hset (show K.kb ≠ K.va from ok.nd 0 6 (by decide) (by decide) (by decide))).trans h.kb, (hset (show K.fb ≠ K.va from ok.nd 1 6 (by decide) (by decide) (by decide))).trans h.fb, (hset (show K.st ≠ K.va from ok.nd 2 6 (by decide) (by decide) (by decide))).trans h.st, (hset (show K.wr ≠ K.va from ok.nd 3 6 (by decide) (by decide) (by decide))).trans h.wr, (hset (show K.pr ≠ K.va from ok.nd 4 6 (by decide) (by decide) (by decide))).trans h.pr, (hset (show K.pl ≠ K.va from ok.nd 5 6 (by decide) (by decide) (by decide))).trans h.pl, by rw [heapSet' h.va, nU_set], (hset (show K.fp ≠ K.va from ok.nd 7 6 (by decide) (by decide) (by decide))).trans h.fp, (hset (show K.lf ≠ K.va from ok.nd 8 6 (by decide) (by decide) (by decide))).trans h.lf⟩
theorem WkIn.setFp {W : World} {K : WkB} {B n m : Nat} {s : WkM} (ok : KOk B K) (h : WkIn W K n m s) (k v : Nat) : WkIn (W.setCell ⟨K.fp, k, none⟩ (.int .u64 (v : Int))) K n m { s with fpath := s.fpath.set k v } :=
  ⟨(hset (show K.kb ≠ K.fp from ok.nd 0 7 (by decide) (by decide) (by decide))).trans h.kb, (hset (show K.fb ≠ K.fp from ok.nd 1 7 (by decide) (by decide) (by decide))).trans h.fb, (hset (show K.st ≠ K.fp from ok.nd 2 7 (by decide) (by decide) (by decide))).trans h.st, (hset (show K.wr ≠ K.fp from ok.nd 3 7 (by decide) (by decide) (by decide))).trans h.wr, (hset (show K.pr ≠ K.fp from ok.nd 4 7 (by decide) (by decide) (by decide))).trans h.pr, (hset (show K.pl ≠ K.fp from ok.nd 5 7 (by decide) (by decide) (by decide))).trans h.pl, (hset (show K.va ≠ K.fp from ok.nd 6 7 (by decide) (by decide) (by decide))).trans h.va, by rw [heapSet' h.fp, nU_set], (hset (show K.lf ≠ K.fp from ok.nd 8 7 (by decide) (by decide) (by decide))).trans h.lf⟩
theorem WkIn.setLf {W : World} {K : WkB} {B n m : Nat} {s : WkM} (ok : KOk B K) (h : WkIn W K n m s) (k v : Nat) : WkIn (W.setCell ⟨K.lf, k, none⟩ (.int .u64 (v : Int))) K n m { s with left := s.left.set k v } :=
  ⟨(hset (show K.kb ≠ K.lf from ok.nd 0 8 (by decide) (by decide) (by decide))).trans h.kb, (hset (show K.fb ≠ K.lf from ok.nd 1 8 (by decide) (by decide) (by decide))).trans h.fb, (hset (show K.st ≠ K.lf from ok.nd 2 8 (by decide) (by decide) (by decide))).trans h.st, (hset (show K.wr ≠ K.lf from ok.nd 3 8 (by decide) (by decide) (by decide))).trans h.wr, (hset (show K.pr ≠ K.lf from ok.nd 4 8 (by decide) (by decide) (by decide))).trans h.pr, (hset (show K.pl ≠ K.lf from ok.nd 5 8 (by decide) (by decide) (by decide))).trans h.pl, (hset (show K.va ≠ K.lf from ok.nd 6 8 (by decide) (by decide) (by decide))).trans h.va, (hset (show K.fp ≠ K.lf from ok.nd 7 8 (by decide) (by decide) (by decide))).trans h.fp, by rw [heapSet' h.lf, nU_set]⟩
theorem WkIn.setWr {W : World} {K : WkB} {B n m : Nat} {s : WkM} (ok : KOk B K) (h : WkIn W K n m s) (k : Nat) (b : Bool) (v : Nat) : WkIn ((W.setCell ⟨K.wr, k * 2, none⟩ (.bool b)).setCell ⟨K.wr, k * 2 + 1, none⟩ (.int .u64 (v : Int))) K n m { s with wr := s.wr.set k (b, v) } :=
  ⟨((hset (show K.kb ≠ K.wr from ok.nd 0 3 (by decide) (by decide) (by decide))).trans (hset (show K.kb ≠ K.wr from ok.nd 0 3 (by decide) (by decide) (by decide)))).trans h.kb, ((hset (show K.fb ≠ K.wr from ok.nd 1 3 (by decide) (by decide) (by decide))).trans (hset (show K.fb ≠ K.wr from ok.nd 1 3 (by decide) (by decide) (by decide)))).trans h.fb, ((hset (show K.st ≠ K.wr from ok.nd 2 3 (by decide) (by decide) (by decide))).trans (hset (show K.st ≠ K.wr from ok.nd 2 3 (by decide) (by decide) (by decide)))).trans h.st, by rw [heapSet' (heapSet' h.wr _ _), nV_set], ((hset (show K.pr ≠ K.wr from ok.nd 4 3 (by decide) (by decide) (by decide))).trans (hset (show K.pr ≠ K.wr from ok.nd 4 3 (by decide) (by decide) (by decide)))).trans h.pr, ((hset (show K.pl ≠ K.wr from ok.nd 5 3 (by decide) (by decide) (by decide))).trans (hset (show K.pl ≠ K.wr from ok.nd 5 3 (by decide) (by decide) (by decide)))).trans h.pl, ((hset (show K.va ≠ K.wr from ok.nd 6 3 (by decide) (by decide) (by decide))).trans (hset (show K.va ≠ K.wr from ok.nd 6 3 (by decide) (by decide) (by decide)))).trans h.va, ((hset (show K.fp ≠ K.wr from ok.nd 7 3 (by decide) (by decide) (by decide))).trans (hset (show K.fp ≠ K.wr from ok.nd 7 3 (by decide) (by decide) (by decide)))).trans h.fp, ((hset (show K.lf ≠ K.wr from ok.nd 8 3 (by decide) (by decide) (by decide))).trans (hset (show K.lf ≠ K.wr from ok.nd 8 3 (by decide) (by decide) (by decide)))).trans h.lf⟩
/-- the walker's own cells -/
theorem WkIn.setK {W W' : World} {K : WkB} {B n m : Nat} {s : WkM} (ok : KOk B K) (h : WkIn W K n m s) {s' : WkM} (hk : ∀ b, b ≠ K.kb → W'.heap[b]? = W.heap[b]?) (hb : W'.heap[K.kb]? = some (.cells (wkC K s').toArray 100 (0, 0)))
    (e : s'.state = s.state ∧ s'.wr = s.wr ∧ s'.pair = s.pair ∧ s'.place = s.place ∧ s'.value = s.value ∧ s'.fpath = s.fpath ∧ s'.left = s.left) : WkIn W' K n m s' := by
  obtain ⟨e1, e2, e3, e4, e5, e6, e7⟩ := e
  exact ⟨hb, (hk _ (show K.fb ≠ K.kb from ok.nd 1 0 (by decide) (by decide) (by decide))).trans h.fb, by rw [e1]; exact (hk _ (show K.st ≠ K.kb from ok.nd 2 0 (by decide) (by decide) (by decide))).trans h.st, by rw [e2]; exact (hk _ (show K.wr ≠ K.kb from ok.nd 3 0 (by decide) (by decide) (by decide))).trans h.wr, by rw [e3]; exact (hk _ (show K.pr ≠ K.kb from ok.nd 4 0 (by decide) (by decide) (by decide))).trans h.pr, by rw [e4]; exact (hk _ (show K.pl ≠ K.kb from ok.nd 5 0 (by decide) (by decide) (by decide))).trans h.pl, by rw [e5]; exact (hk _ (show K.va ≠ K.kb from ok.nd 6 0 (by decide) (by decide) (by decide))).trans h.va, by rw [e6]; exact (hk _ (show K.fp ≠ K.kb from ok.nd 7 0 (by decide) (by decide) (by decide))).trans h.fp, by rw [e7]; exact (hk _ (show K.lf ≠ K.kb from ok.nd 8 0 (by decide) (by decide) (by decide))).trans h.lf⟩
theorem wk_setReg_list (K : WkB) (s : WkM) (r : Nat) (c : Cn) (hr : r < s.regs.length) :
    (((wkC K s).set (5 + r * 3) (.bool c.k)).set (5 + r * 3 + 1) (.int .u64 (c.v : Int))).set (5 + r * 3 + 2) (.int .u64 (c.f : Int)) = wkC K (setM s r c) := by
  unfold wkC setM
  dsimp only
  rw [← cC_set_list s.regs r c]
  have hl := cC_len s.regs
  have key : ∀ (X : List Value) (j : Nat) (v : Value) (P Q : List Value), P.length = 5 → j < X.length → (P ++ X ++ Q).set (5 + j) v = P ++ X.set j v ++ Q := fun X j v P Q hP hj => by
    rw [List.set_append_left _ _ (by simp; omega), List.set_append_right _ _ (by omega), hP, Nat.add_sub_cancel_left]
  rw [key _ _ _ _ _ rfl (by omega), show 5 + r * 3 + 1 = 5 + (r * 3 + 1) by omega, key _ _ _ _ _ rfl (by simp; omega), show 5 + r * 3 + 2 = 5 + (r * 3 + 2) by omega, key _ _ _ _ _ rfl (by simp; omega)]
theorem wk_setReg (K : WkB) (s : WkM) (r : Nat) (c : Cn) (hr : r < s.regs.length) :
    (((wkC K s).toArray.setIfInBounds (5 + r * 3) (.bool c.k)).setIfInBounds (5 + r * 3 + 1) (.int .u64 (c.v : Int))).setIfInBounds (5 + r * 3 + 2) (.int .u64 (c.f : Int)) = (wkC K (setM s r c)).toArray := by
  rw [← wk_setReg_list K s r c hr]; simp
theorem WkIn.setReg {W : World} {K : WkB} {B n m : Nat} {s : WkM} (ok : KOk B K) (h : WkIn W K n m s) (r : Nat) (c : Cn) (hr : r < s.regs.length) :
    WkIn (((W.setCell ⟨K.kb, 5 + r * 3, none⟩ (.bool c.k)).setCell ⟨K.kb, 5 + r * 3 + 1, none⟩ (.int .u64 (c.v : Int))).setCell ⟨K.kb, 5 + r * 3 + 2, none⟩ (.int .u64 (c.f : Int))) K n m (setM s r c) :=
  h.setK ok (fun b hb => (hset hb).trans ((hset hb).trans (hset hb))) (by rw [heapSet' (heapSet' (heapSet' h.kb _ _) _ _), wk_setReg K s r c hr]) ⟨rfl, rfl, rfl, rfl, rfl, rfl, rfl⟩
theorem wk_len (K : WkB) (s : WkM) (hr : s.regs.length = 8) : (wkC K s).length = 32 := by
  unfold wkC; simp [cC_len, hr]
theorem WkIn.reg {W : World} {K : WkB} {n m : Nat} {s : WkM} (h : WkIn W K n m s) {r : Nat} {c : Cn} (hc : s.regs[r]? = some c) (j : Nat) (hj : j < 3) : W.cell? ⟨K.kb, 5 + r * 3 + j, none⟩ = (cnC c)[j]? := by
  have hl := cC_len s.regs
  have hlt := (List.getElem?_eq_some_iff.1 hc).1
  rw [cOf h.kb]
  rw [← cC_get hc j hj]
  simp only [List.getElem?_toArray]
  unfold wkC
  rw [List.getElem?_append_left (by simp; omega), List.getElem?_append_right (by simp; omega)]
  congr 1
  simp; omega
/-- the first five cells, and the last three -/
theorem WkIn.head {W : World} {K : WkB} {n m : Nat} {s : WkM} (h : WkIn W K n m s) : W.cell? ⟨K.kb, 0, none⟩ = some (.pointer (some ⟨K.fb, 0, none⟩)) ∧ W.cell? ⟨K.kb, 1, none⟩ = some K.ops ∧ W.cell? ⟨K.kb, 2, none⟩ = some K.reads ∧ W.cell? ⟨K.kb, 3, none⟩ = some K.works ∧ W.cell? ⟨K.kb, 4, none⟩ = some (.int .i64 (K.thr : Int)) := by
  simp only [cOf h.kb, List.getElem?_toArray]
  exact ⟨rfl, rfl, rfl, rfl, rfl⟩
theorem WkIn.tail {W : World} {K : WkB} {n m : Nat} {s : WkM} (h : WkIn W K n m s) (hr : s.regs.length = 8) : W.cell? ⟨K.kb, 29, none⟩ = some (.int .u64 (s.path : Int)) ∧ W.cell? ⟨K.kb, 30, none⟩ = some (.int .i64 (s.lrOp : Int)) ∧ W.cell? ⟨K.kb, 31, none⟩ = some (.int .i64 s.lrLoc) := by
  have hl := cC_len s.regs
  have key : ∀ j, 29 ≤ j → (wkC K s)[j]? = [Value.int .u64 (s.path : Int), .int .i64 (s.lrOp : Int), .int .i64 s.lrLoc][j - 29]? := fun j hj => by
    unfold wkC
    rw [List.getElem?_append_right (by simp; omega)]
    congr 1
    simp; omega
  simp only [cOf h.kb, List.getElem?_toArray]
  rw [key 29 (by omega), key 30 (by omega), key 31 (by omega)]
  exact ⟨rfl, rfl, rfl⟩
theorem WkIn.rows {W : World} {K : WkB} {n m : Nat} {s : WkM} (h : WkIn W K n m s) : W.cell? ⟨K.fb, 0, none⟩ = some (.slice (some ⟨K.st, 0, none⟩) n n) ∧ W.cell? ⟨K.fb, 1, none⟩ = some (.slice (some ⟨K.wr, 0, none⟩) n n) ∧ W.cell? ⟨K.fb, 2, none⟩ = some (.slice (some ⟨K.pr, 0, none⟩) n n) ∧ W.cell? ⟨K.fb, 3, none⟩ = some (.slice (some ⟨K.pl, 0, none⟩) n n) ∧ W.cell? ⟨K.fb, 4, none⟩ = some (.slice (some ⟨K.va, 0, none⟩) n n) ∧ W.cell? ⟨K.fb, 5, none⟩ = some (.slice (some ⟨K.fp, 0, none⟩) n n) ∧ W.cell? ⟨K.fb, 6, none⟩ = some (.slice (some ⟨K.lf, 0, none⟩) m m) := by
  simp only [cOf h.fb, List.getElem?_toArray]
  exact ⟨rfl, rfl, rfl, rfl, rfl, rfl, rfl⟩
theorem WkIn.lt {W : World} {K : WkB} {n m : Nat} {s : WkM} (h : WkIn W K n m s) : ∀ i, i < 9 → K.blk i < W.heap.size
  | 0, _ => ltOf h.kb
  | 1, _ => ltOf h.fb
  | 2, _ => ltOf h.st
  | 3, _ => ltOf h.wr
  | 4, _ => ltOf h.pr
  | 5, _ => ltOf h.pl
  | 6, _ => ltOf h.va
  | 7, _ => ltOf h.fp
  | 8, _ => ltOf h.lf
  | _ + 9, hi => by omega
theorem WkIn.far {W : World} {K : WkB} {n m : Nat} {s : WkM} (h : WkIn W K n m s) {b : Nat} (hb : ∀ i, i < 9 → K.blk i < b) (o : Nat) (v : Value) : WkIn (W.setCell ⟨b, o, none⟩ v) K n m s :=
  ⟨(hset (Nat.ne_of_lt (hb 0 (by decide)))).trans h.kb, (hset (Nat.ne_of_lt (hb 1 (by decide)))).trans h.fb, (hset (Nat.ne_of_lt (hb 2 (by decide)))).trans h.st, (hset (Nat.ne_of_lt (hb 3 (by decide)))).trans h.wr, (hset (Nat.ne_of_lt (hb 4 (by decide)))).trans h.pr, (hset (Nat.ne_of_lt (hb 5 (by decide)))).trans h.pl, (hset (Nat.ne_of_lt (hb 6 (by decide)))).trans h.va, (hset (Nat.ne_of_lt (hb 7 (by decide)))).trans h.fp, (hset (Nat.ne_of_lt (hb 8 (by decide)))).trans h.lf⟩
/-- behind a store into one of the blocks from B on -/
theorem belSet {B : Nat} {W W' : World} (h : Below B W W') (a o : Nat) (v : Value) (ha : B ≤ a) : Below B W (W'.setCell ⟨a, o, none⟩ v) := h.setCell (p := ⟨a, o, none⟩) ha _
theorem KOk.all {B : Nat} {K : WkB} (h : KOk B K) : B ≤ K.kb ∧ B ≤ K.fb ∧ B ≤ K.st ∧ B ≤ K.wr ∧ B ≤ K.pr ∧ B ≤ K.pl ∧ B ≤ K.va ∧ B ≤ K.fp ∧ B ≤ K.lf ∧ B ≤ K.rg :=
  ⟨h.ge 0 (by decide), h.ge 1 (by decide), h.ge 2 (by decide), h.ge 3 (by decide), h.ge 4 (by decide), h.ge 5 (by decide), h.ge 6 (by decide), h.ge 7 (by decide), h.ge 8 (by decide), h.ge 9 (by decide)⟩
/-- what a walker's call leaves alone: all but its own blocks, and what is new -/
structure Fp (K : WkB) (w w' : World) : Prop where
  os : w'.os = w.os
  tape : w'.tape = w.tape
  output : w'.output = w.output
  size : w.heap.size ≤ w'.heap.size
  kept : ∀ b, b < w.heap.size → (∀ i, i < 9 → b ≠ K.blk i) → w'.heap[b]? = w.heap[b]?
theorem Fp.ofBel {K : WkB} {w w' : World} (h : Below w.heap.size w w') : Fp K w w' := ⟨h.os, h.tape, h.output, h.size, fun b hb _ => h.block b hb⟩
theorem Fp.trans {K : WkB} {w a b : World} (h : Fp K w a) (k : Fp K a b) : Fp K w b :=
  ⟨k.os.trans h.os, k.tape.trans h.tape, k.output.trans h.output, Nat.le_trans h.size k.size, fun c hc hn => (k.kept c (Nat.lt_of_lt_of_le hc h.size) hn).trans (h.kept c hc hn)⟩
theorem Fp.bel {K : WkB} {w a b : World} (h : Fp K w a) (k : Below a.heap.size a b) : Fp K w b := h.trans (Fp.ofBel k)
theorem Fp.drew {K : WkB} {w a : World} (h : Fp K w a) : Fp K w a.drew := ⟨h.os, h.tape, h.output, h.size, h.kept⟩
theorem Fp.set {K : WkB} {w a : World} (h : Fp K w a) (i : Nat) (hi : i < 9) (o : Nat) (v : Value) : Fp K w (a.setCell ⟨K.blk i, o, none⟩ v) := by
  have hb := (Below.refl 0 a).setCell (p := ⟨K.blk i, o, none⟩) (Nat.zero_le _) v
  exact ⟨hb.os.trans h.os, hb.tape.trans h.tape, hb.output.trans h.output, Nat.le_trans h.size hb.size, fun b hlt hn => (hset (hn i hi)).trans (h.kept b hlt hn)⟩
theorem Fp.new {K : WkB} {w a : World} (h : Fp K w a) (b : Nat) (hb : w.heap.size ≤ b) (o : Nat) (v : Value) : Fp K w (a.setCell ⟨b, o, none⟩ v) := by
  have hb2 := (Below.refl 0 a).setCell (p := ⟨b, o, none⟩) (Nat.zero_le _) v
  exact ⟨hb2.os.trans h.os, hb2.tape.trans h.tape, hb2.output.trans h.output, Nat.le_trans h.size hb2.size, fun c hlt hn => (hset (by omega)).trans (h.kept c hlt hn)⟩
theorem Fp.below {K : WkB} {w0 w w' : World} (h : Fp K w w') (ok : KOk w0.heap.size K) (h0 : Below w0.heap.size w0 w) : Below w0.heap.size w0 w' :=
  ⟨h.os.trans h0.os, h.tape.trans h0.tape, h.output.trans h0.output, Nat.le_trans h0.size h.size, fun b hb => (h.kept b (Nat.lt_of_lt_of_le hb h0.size) (fun i hi e => by have := ok.ge i (by omega); omega)).trans (h0.block b hb)⟩
end Go.Proofs.Ytccjekgbhablpaa
namespace Go.Proofs.Ytccjekgbhablpaa
set_option maxRecDepth 100000
open Go.RowKit

theorem u64sub {a b : Nat} (hb : b < 18446744073709551616) : IntKind.u64.wrap ((a : Int) - (b : Int)) = ((a + (18446744073709551616 - b)) % 18446744073709551616 : Nat) := by
  rw [IntKind.wrap_u64]; omega
theorem u64add {a b : Nat} : IntKind.u64.wrap ((a : Int) + (b : Int)) = ((a + b) % 18446744073709551616 : Nat) := by
  rw [IntKind.wrap_u64]; omega
theorem bitsXor {a b : Nat} (ha : a < 18446744073709551616) (hb : b < 18446744073709551616) : bits .xor .u64 (a : Int) (b : Int) = ((a ^^^ b : Nat) : Int) := by
  show IntKind.u64.wrap ((BitVec.ofInt 64 (a : Int) ^^^ BitVec.ofInt 64 (b : Int)).toNat : Int) = _
  rw [BitVec.toNat_xor, ofInt_u64 a ha, ofInt_u64 b hb, IntKind.wrap_u64]
  have := Nat.xor_lt_two_pow (n := 64) (x := a) (y := b) (by simpa using ha) (by simpa using hb)
  have e : (2 : Nat) ^ 64 = 18446744073709551616 := by decide
  omega
theorem bitsAnd {a b : Nat} (ha : a < 18446744073709551616) (hb : b < 18446744073709551616) : bits .and .u64 (a : Int) (b : Int) = ((a &&& b : Nat) : Int) := by
  show IntKind.u64.wrap ((BitVec.ofInt 64 (a : Int) &&& BitVec.ofInt 64 (b : Int)).toNat : Int) = _
  rw [BitVec.toNat_and, ofInt_u64 a ha, ofInt_u64 b hb, IntKind.wrap_u64]
  have := Nat.and_le_left (n := a) (m := b)
  omega
theorem bitsOr {a b : Nat} (ha : a < 18446744073709551616) (hb : b < 18446744073709551616) : bits .or .u64 (a : Int) (b : Int) = ((a ||| b : Nat) : Int) := by
  show IntKind.u64.wrap ((BitVec.ofInt 64 (a : Int) ||| BitVec.ofInt 64 (b : Int)).toNat : Int) = _
  rw [BitVec.toNat_or, ofInt_u64 a ha, ofInt_u64 b hb, IntKind.wrap_u64]
  have := Nat.or_lt_two_pow (n := 64) (x := a) (y := b) (by simpa using ha) (by simpa using hb)
  have e : (2 : Nat) ^ 64 = 18446744073709551616 := by decide
  omega
set_option maxHeartbeats 3200000 in
theorem reckon_any (op : Int) (a b : Nat) (ha : a < 18446744073709551616) (hb : b < 18446744073709551616) (w : World) :
    Calls Try.prog 75 #[.int .i64 op, .int .u64 (a : Int), .int .u64 (b : Int)] w fun e w' => e = .returned (.int .u64 ((reckM op a b : Nat) : Int)) ∧ w = w' := by
  have h : op = 2 ∨ op = 3 ∨ op = 4 ∨ op = 5 ∨ op = 6 ∨ op = 7 ∨ op = 8 ∨ (op ≠ 2 ∧ op ≠ 3 ∧ op ≠ 4 ∧ op ≠ 5 ∧ op ≠ 6 ∧ op ≠ 7 ∧ op ≠ 8) := by omega
  have e2 := Bx.mk (u64add (a := a) (b := b)); have e3 := Bx.mk (u64sub (a := a) hb); have e4 := Bx.mk (bitsXor ha hb); have e5 := Bx.mk (bitsAnd ha hb); have e6 := Bx.mk (bitsOr ha hb)
  have c7 := Bx.mk (fun W => wordLeft_any a b W); have c8 := Bx.mk (fun W => wordRight_any a b W)
  rcases h with rfl | rfl | rfl | rfl | rfl | rfl | rfl | ⟨h1, h2, h3, h4, h5, h6, h7⟩
  all_goals
    go_enter Try.func75, Try.ntmps75
    go_wp2_with (first
      | (go_at_call 85; ((with_reducible refine (c7.out _).mono ?_); rintro e w1 ⟨rfl, rfl⟩))
      | (go_at_call 86; ((with_reducible refine (c8.out _).mono ?_); rintro e w1 ⟨rfl, rfl⟩)))
    go_ret
  · exact ⟨by rw [e2.out]; rfl, rfl⟩
  · exact ⟨by rw [e3.out]; rfl, rfl⟩
  · exact ⟨by rw [e4.out]; rfl, rfl⟩
  · exact ⟨by rw [e5.out]; rfl, rfl⟩
  · exact ⟨by rw [e6.out]; rfl, rfl⟩
  · exact ⟨rfl, rfl⟩
  · exact ⟨rfl, rfl⟩
  · exact ⟨by unfold reckM; simp [h1, h2, h3, h4, h5, h6, h7], rfl⟩

theorem known_any (v : Nat) (w : World) :
    Calls Try.prog 64 #[.int .u64 (v : Int)] w fun e w' => e = .returned (.agg #[.bool true, .int .u64 (v : Int)]) ∧ Below w.heap.size w w' := by
  go_enter Try.func64, Try.ntmps64
  go_wp2
  exact bodyPost_ret (v := .agg #[.bool true, .int .u64 (v : Int)]) (by simp [results, go_sem]) rfl ⟨rfl, (Below.refl _ _).alloc (Nat.le_refl _) _⟩
theorem number_any (v : Nat) (w : World) :
    Calls Try.prog 37 #[.int .u64 (v : Int)] w fun e w' => e = .returned (.agg #[.bool true, .int .u64 (v : Int), .int .u64 0]) ∧ Below w.heap.size w w' := by
  have c1 := Bx.mk (fun W => known_any v W)
  go_enter Try.func37, Try.ntmps37
  go_wp2_with (go_at_call 64; ((with_reducible refine (c1.out _).mono ?_); rintro e w1 ⟨rfl, b1⟩; have X := nBlock b1; have x0 := cOf X 0; have x1 := cOf X 1; have x2 := cOf X 2; have xf := tOf X 0; have xf1 := tOf X 1; have xf2 := tOf X 2; simp at x0 x1 x2; have B1 := Bx.mk (bel (aset _ _) b1); have HZ : w.heap.size < w1.heap.size := ltOf X; clear b1))
  exact bodyPost_ret (v := .agg #[.bool true, .int .u64 (v : Int), .int .u64 0]) (by simp [results, go_sem, x0, x1, x2]) rfl ⟨rfl, ((B1.out.setCell (p := ⟨w.heap.size, 0, none⟩) (Nat.le_refl _) _).setCell (p := ⟨w.heap.size, 1, none⟩) (Nat.le_refl _) _).setCell (p := ⟨w.heap.size, 2, none⟩) (Nat.le_refl _) _⟩

/-- what a register of a walker has, or a number -/
theorem arg_any (K : WkB) (n m : Nat) (s : WkM) (hr : s.regs.length = 8) (r : Bool) (x : Nat) (hx : r = true → x < 8) (w : World) (hw : WkIn w K n m s) :
    Calls Try.prog 71 #[.pointer (some ⟨K.kb, 0, none⟩), .agg #[.bool r, .int .u64 (x : Int)]] w fun e w' => e = .returned (.agg #[.bool (argM s r x).k, .int .u64 ((argM s r x).v : Int), .int .u64 ((argM s r x).f : Int)]) ∧ Below w.heap.size w w' := by
  have hkl := ltOf hw.kb
  cases r
  · have c1 := Bx.mk (fun W => number_any x W)
    clear hw
    go_enter Try.func71, Try.ntmps71
    go_wp2_with (go_at_call 37; ((with_reducible refine (c1.out _).mono ?_); rintro e w1 ⟨rfl, b1⟩; have X := nBlock b1; have x0 := cOf X 0; have x1 := cOf X 1; have x2 := cOf X 2; have xf := tOf X 0; have xf1 := tOf X 1; have xf2 := tOf X 2; simp at x0 x1 x2 xf xf1 xf2; have B1 := Bx.mk (bel ((aset _ _).alloc (by simp) _) b1); clear b1))
    exact bodyPost_ret (v := .agg #[.bool true, .int .u64 (x : Int), .int .u64 0]) (by simp [results, go_sem, x0, x1, x2]) rfl ⟨rfl, ((B1.out.setCell (p := ⟨w.heap.size + 1, 0, none⟩) (by simp) _).setCell (p := ⟨w.heap.size + 1, 1, none⟩) (by simp) _).setCell (p := ⟨w.heap.size + 1, 2, none⟩) (by simp) _⟩
  · have hx8 := hx rfl
    obtain ⟨c, hc⟩ : ∃ c, s.regs[x]? = some c := ⟨_, List.getElem?_eq_getElem (by omega)⟩
    have q0 := hw.reg hc 0 (by decide)
    have q1 := hw.reg hc 1 (by decide)
    have q2 := hw.reg hc 2 (by decide)
    simp [cnC] at q0 q1 q2
    have e : argM s true x = c := by unfold argM cnAt; simp [List.getD_eq_getElem?_getD, hc]
    rw [e]
    have hxi : (x : Int) < 8 := by omega
    have hx0 : (0 : Int) ≤ x := by omega
    clear hw hc e hr hx
    go_enter Try.func71, Try.ntmps71
    go_wp2
    obtain ⟨W, hW⟩ : ∃ W, W = ((w.alloc (.cells #[.bool true, .int .u64 (x : Int)] 82)).alloc (.cells #[.bool false, .int .u64 0, .int .u64 0] 95)) := ⟨_, rfl⟩
    have b0 : Below w.heap.size w W := by rw [hW]; exact (aset _ _).alloc (by simp) _
    have X : W.heap[w.heap.size + 1]? = some (.cells #[.bool false, .int .u64 0, .int .u64 0] 95 (0, 0)) := by
      have := heap_alloc_new (w.alloc (.cells #[.bool true, .int .u64 (x : Int)] 82)) (.cells #[.bool false, .int .u64 0, .int .u64 0] 95)
      rw [hW]; simpa using this
    have y1 : W.cell? ⟨w.heap.size, 1, none⟩ = some (.int .u64 (x : Int)) := by
      have := cOf (heap_alloc_new w (.cells #[.bool true, .int .u64 (x : Int)] 82)) 1
      rw [hW]; exact cBel this (aset _ _)
    have x0 := cOf X 0; have x1 := cOf X 1; have x2 := cOf X 2; have xf := tOf X 0; have xf1 := tOf X 1; have xf2 := tOf X 2
    simp at x0 x1 x2 xf xf1 xf2
    have q0 := cBel q0 b0; have q1 := cBel q1 b0; have q2 := cBel q2 b0
    rw [← hW]
    have B1 := Bx.mk b0
    clear hW b0 X
    go_still_tail 7, (by kernel_rfl)
    change wpList _ _ _ _ _ W.drew
    go_wp2
    exact bodyPost_ret (v := .agg #[.bool c.k, .int .u64 (c.v : Int), .int .u64 (c.f : Int)]) (by simp [results, go_sem, x0, x1, x2]) rfl ⟨rfl, ((B1.out.drew.setCell (p := ⟨w.heap.size + 1, 0, none⟩) (by simp) _).setCell (p := ⟨w.heap.size + 1, 1, none⟩) (by simp) _).setCell (p := ⟨w.heap.size + 1, 2, none⟩) (by simp) _⟩

end Go.Proofs.Ytccjekgbhablpaa
namespace Go.Proofs.Ytccjekgbhablpaa
set_option maxRecDepth 100000
open Go.RowKit

/-- what is given lies so -/
structure CtxIn (w : World) (K : WkB) (c : CtxM) : Prop where
  reads : SlIn w K.reads 2 c.reads.length (nV c.reads)
  works : SlIn w K.works 1 c.works.length (c.works.map Value.bool)
theorem CtxIn.bel {w w' : World} {K : WkB} {c : CtxM} (h : CtxIn w K c) (hb : Below w.heap.size w w') : CtxIn w' K c := ⟨h.reads.below hb, h.works.below hb⟩
theorem nV_get {l : List (Bool × Nat)} {k : Nat} {p : Bool × Nat} (h : l[k]? = some p) (j : Nat) (hj : j < 2) : (nV l)[k * 2 + j]? = (vC p)[j]? := flatAt vC 2 (fun _ => rfl) l k j p h hj

set_option maxHeartbeats 1600000 in
theorem read_any (K : WkB) (n m : Nat) (s : WkM) (c : CtxM) (hl : c.reads.length ≤ 1000000) (k : Nat) (hk : k ≤ 1000000) (w : World) (hw : WkIn w K n m s) (hc : CtxIn w K c) :
    Calls Try.prog 69 #[.pointer (some ⟨K.kb, 0, none⟩), .int .i64 (k : Int)] w fun e w' => e = .returned (.agg #[.bool (readM c k).1, .int .u64 ((readM c k).2 : Int)]) ∧ Below w.heap.size w w' := by
  have hkl := ltOf hw.kb
  obtain ⟨_, _, q2, _, _⟩ := hw.head
  obtain ⟨p, cc, hp⟩ := hc.reads.slice
  rw [hp] at q2
  by_cases hlt : k < c.reads.length
  · obtain ⟨b, off, c2, hv, hbl, hcl⟩ := hc.reads.at (by omega)
    rw [hp] at hv
    obtain ⟨rfl, _, rfl⟩ := Value.slice.inj hv
    obtain ⟨r, hr⟩ : ∃ r, c.reads[k]? = some r := ⟨_, List.getElem?_eq_getElem hlt⟩
    have g0 := nV_get hr 0 (by decide)
    have g1 := nV_get hr 1 (by decide)
    have r0 : w.cell? ⟨b, off + k * 2, none⟩ = some (.bool r.1) := hcl (k * 2 + 0) _ g0
    have r1 : w.cell? ⟨b, off + k * 2 + 1, none⟩ = some (.int .u64 (r.2 : Int)) := by rw [Nat.add_assoc]; exact hcl (k * 2 + 1) _ g1
    have e : readM c k = if r.1 then r else (false, 0) := by unfold readM; simp [List.getD_eq_getElem?_getD, hr]
    rw [e]
    have d1 : decide (c.reads.length ≤ k) = false := by simp; omega
    generalize c.reads.length = N at *
    obtain ⟨rb, rv⟩ := r
    clear hw hc hp e hr g0 g1 hcl
    cases rb
    · go_enter Try.func69, Try.ntmps69
      go_wp2
      exact bodyPost_ret (v := .agg #[.bool false, .int .u64 0]) (by simp [results, go_sem]) rfl ⟨rfl, (Below.refl _ _).alloc (Nat.le_refl _) _⟩
    · go_enter Try.func69, Try.ntmps69
      go_wp2
      exact bodyPost_ret (v := .agg #[.bool true, .int .u64 (rv : Int)]) (by simp [results, go_sem]) rfl ⟨rfl, (Below.refl _ _).alloc (Nat.le_refl _) _⟩
  · have e : readM c k = (false, 0) := by unfold readM; simp [List.getD_eq_getElem?_getD, List.getElem?_eq_none (Nat.le_of_not_lt hlt)]
    rw [e]
    have d1 : decide (c.reads.length ≤ k) = true := by simp; omega
    generalize c.reads.length = N at *
    clear hw hc hp e
    go_enter Try.func69, Try.ntmps69
    go_wp2
    exact bodyPost_ret (v := .agg #[.bool false, .int .u64 0]) (by simp [results, go_sem]) rfl ⟨rfl, (Below.refl _ _).alloc (Nat.le_refl _) _⟩
set_option maxHeartbeats 1600000 in
theorem succeeds_any (K : WkB) (n m : Nat) (s : WkM) (c : CtxM) (hl : c.works.length ≤ 1000000) (k : Nat) (hk : k ≤ 1000000) (w : World) (hw : WkIn w K n m s) (hc : CtxIn w K c) :
    Calls Try.prog 67 #[.pointer (some ⟨K.kb, 0, none⟩), .int .i64 (k : Int)] w fun e w' => e = .returned (.bool (worksM c k)) ∧ w = w' := by
  have hkl := ltOf hw.kb
  obtain ⟨_, _, _, q3, _⟩ := hw.head
  obtain ⟨p, cc, hp⟩ := hc.works.slice
  rw [hp] at q3
  by_cases hlt : k < c.works.length
  · obtain ⟨b, off, c2, hv, hbl, hcl⟩ := hc.works.at (by omega)
    rw [hp] at hv
    obtain ⟨rfl, _, rfl⟩ := Value.slice.inj hv
    obtain ⟨r, hr⟩ : ∃ r, c.works[k]? = some r := ⟨_, List.getElem?_eq_getElem hlt⟩
    have r0 : w.cell? ⟨b, off + k, none⟩ = some (.bool r) := hcl k _ (by rw [List.getElem?_map, hr]; rfl)
    have e : worksM c k = r := by unfold worksM; simp [List.getD_eq_getElem?_getD, hr]
    rw [e]
    have d1 : decide (k < c.works.length) = true := by simp; omega
    generalize c.works.length = N at *
    clear hw hc hp e hr hcl
    go_enter Try.func67, Try.ntmps67
    go_wp2
    go_ret
    exact ⟨rfl, rfl⟩
  · have e : worksM c k = false := by unfold worksM; simp [List.getD_eq_getElem?_getD, List.getElem?_eq_none (Nat.le_of_not_lt hlt)]
    rw [e]
    have d1 : decide (k < c.works.length) = false := by simp; omega
    generalize c.works.length = N at *
    clear hw hc hp e
    go_enter Try.func67, Try.ntmps67
    go_wp2
    go_ret
    exact ⟨rfl, rfl⟩

/-- the functions that are handed in -/
theorem eqlF_any (xb : Nat) (op : Int) (a b : Nat) (w : World) (hx : w.cell? ⟨xb, 0, none⟩ = some (.int .i64 op)) :
    Calls Try.prog 73 #[.int .u64 (a : Int), .int .u64 (b : Int), .pointer (some ⟨xb, 0, none⟩)] w fun e w' => e = .returned (.int .u64 ((eqlM op a b : Nat) : Int)) ∧ Below w.heap.size w w' := by
  have fin : eqlM op a b = (if decide (a = b) == decide (op = 16) then 1 else 0) := rfl
  have h1 : ((a : Int) == (b : Int)) = decide (a = b) := by
    rw [Bool.eq_iff_iff]; simp only [beq_iff_eq, decide_eq_true_eq]; omega
  have h2 : (op == 16) = decide (op = 16) := by
    rw [Bool.eq_iff_iff]; simp
  generalize decide (a = b) = u at *
  generalize decide (op = 16) = v at *
  generalize eqlM op a b = r at *
  have F := Bx.mk fin
  clear fin
  cases u <;> cases v
  all_goals
    go_enter Try.func73, Try.ntmps73
    go_wp2
    go_ret
    exact ⟨by rw [F.out]; rfl, Below.refl _ _⟩
theorem reckF_any (xb : Nat) (op : Int) (a b : Nat) (ha : a < 18446744073709551616) (hb : b < 18446744073709551616) (w : World) (hx : w.cell? ⟨xb, 0, none⟩ = some (.int .i64 op)) :
    Calls Try.prog 74 #[.int .u64 (a : Int), .int .u64 (b : Int), .pointer (some ⟨xb, 0, none⟩)] w fun e w' => e = .returned (.int .u64 ((reckM op a b : Nat) : Int)) ∧ Below w.heap.size w w' := by
  have c1 := Bx.mk (fun W => reckon_any op a b ha hb W)
  clear ha hb
  go_enter Try.func74, Try.ntmps74
  go_wp2_with (go_at_call 75; ((with_reducible refine (c1.out _).mono ?_); rintro e w1 ⟨rfl, rfl⟩))
  go_ret
  exact ⟨rfl, Below.refl _ _⟩
theorem addF_any (a b : Nat) (w : World) :
    Calls Try.prog 84 #[.int .u64 (a : Int), .int .u64 (b : Int)] w fun e w' => e = .returned (.int .u64 ((addM a b : Nat) : Int)) ∧ Below w.heap.size w w' := by
  have e2 := Bx.mk (u64add (a := a) (b := b))
  go_enter Try.func84, Try.ntmps84
  go_wp2
  go_ret
  exact ⟨by rw [e2.out]; rfl, Below.refl _ _⟩
set_option maxHeartbeats 1600000 in
theorem comb_reck (xb : Nat) (op : Int) (p q : Bool × Nat) (hp : p.2 < 18446744073709551616) (hq : q.2 < 18446744073709551616) (w : World) (hx : w.cell? ⟨xb, 0, none⟩ = some (.int .i64 op)) :
    Calls Try.prog 72 #[.agg #[.bool p.1, .int .u64 (p.2 : Int)], .agg #[.bool q.1, .int .u64 (q.2 : Int)], .func (.func 74) #[] #[.pointer (some ⟨xb, 0, none⟩)]] w fun e w' => e = .returned (.agg #[.bool (combM p q (reckM op)).1, .int .u64 ((combM p q (reckM op)).2 : Int)]) ∧ Below w.heap.size w w' := by
  obtain ⟨pk, a⟩ := p
  obtain ⟨qk, b⟩ := q
  have cf := Bx.mk (fun W hx => reckF_any xb op a b hp hq W hx)
  have B0 : ∀ u v x : Obj, Below w.heap.size w (((w.alloc u).alloc v).alloc x) := fun u v x => ((aset _ _).alloc (by simp) _).alloc (by simp; omega) _
  have BB := Bx.mk B0
  clear B0 hp hq
  cases pk <;> cases qk
  rotate_right
  · have ck := Bx.mk (fun v W => known_any v W)
    have HX := Bx.mk hx
    go_enter Try.func72, Try.ntmps72
    go_wp2_with (first
      | (go_at_call 74; ((with_reducible refine (cf.out _ (cBel HX.out (BB.out _ _ _))).mono ?_); rintro e w1 ⟨rfl, b1⟩; have X := nBlock b1; have B1 := Bx.mk (bel (BB.out _ _ _) b1); clear b1))
      | (go_at_call 64; ((with_reducible refine (ck.out _ _).mono ?_); rintro e w2 ⟨rfl, b2⟩; have X := (b2.block _ (ltOf X)).trans X; have x0 := cOf X 0; have x1 := cOf X 1; have xf := tOf X 0; have xf1 := tOf X 1; simp at x0 x1 xf xf1; have B2 := Bx.mk (bel B1.out b2); clear b2)))
    exact bodyPost_ret (v := .agg #[.bool true, .int .u64 ((reckM op) a b : Nat)]) (by simp [results, go_sem, x0, x1]) rfl ⟨rfl, (B2.out.setCell (p := ⟨w.heap.size + 1 + 1, 0, none⟩) (by simp; omega) _).setCell (p := ⟨w.heap.size + 1 + 1, 1, none⟩) (by simp; omega) _⟩
  all_goals
    clear cf
    go_enter Try.func72, Try.ntmps72
    go_wp2
    exact bodyPost_ret (v := .agg #[.bool false, .int .u64 0]) (by simp [results, go_sem]) rfl ⟨rfl, BB.out _ _ _⟩
set_option maxHeartbeats 1600000 in
theorem comb_eql (xb : Nat) (op : Int) (p q : Bool × Nat) (w : World) (hx : w.cell? ⟨xb, 0, none⟩ = some (.int .i64 op)) :
    Calls Try.prog 72 #[.agg #[.bool p.1, .int .u64 (p.2 : Int)], .agg #[.bool q.1, .int .u64 (q.2 : Int)], .func (.func 73) #[] #[.pointer (some ⟨xb, 0, none⟩)]] w fun e w' => e = .returned (.agg #[.bool (combM p q (eqlM op)).1, .int .u64 ((combM p q (eqlM op)).2 : Int)]) ∧ Below w.heap.size w w' := by
  obtain ⟨pk, a⟩ := p
  obtain ⟨qk, b⟩ := q
  have cf := Bx.mk (fun W hx => eqlF_any xb op a b W hx)
  have B0 : ∀ u v x : Obj, Below w.heap.size w (((w.alloc u).alloc v).alloc x) := fun u v x => ((aset _ _).alloc (by simp) _).alloc (by simp; omega) _
  have BB := Bx.mk B0
  clear B0
  cases pk <;> cases qk
  rotate_right
  · have ck := Bx.mk (fun v W => known_any v W)
    have HX := Bx.mk hx
    go_enter Try.func72, Try.ntmps72
    go_wp2_with (first
      | (go_at_call 73; ((with_reducible refine (cf.out _ (cBel HX.out (BB.out _ _ _))).mono ?_); rintro e w1 ⟨rfl, b1⟩; have X := nBlock b1; have B1 := Bx.mk (bel (BB.out _ _ _) b1); clear b1))
      | (go_at_call 64; ((with_reducible refine (ck.out _ _).mono ?_); rintro e w2 ⟨rfl, b2⟩; have X := (b2.block _ (ltOf X)).trans X; have x0 := cOf X 0; have x1 := cOf X 1; have xf := tOf X 0; have xf1 := tOf X 1; simp at x0 x1 xf xf1; have B2 := Bx.mk (bel B1.out b2); clear b2)))
    exact bodyPost_ret (v := .agg #[.bool true, .int .u64 ((eqlM op) a b : Nat)]) (by simp [results, go_sem, x0, x1]) rfl ⟨rfl, (B2.out.setCell (p := ⟨w.heap.size + 1 + 1, 0, none⟩) (by simp; omega) _).setCell (p := ⟨w.heap.size + 1 + 1, 1, none⟩) (by simp; omega) _⟩
  all_goals
    clear cf
    go_enter Try.func72, Try.ntmps72
    go_wp2
    exact bodyPost_ret (v := .agg #[.bool false, .int .u64 0]) (by simp [results, go_sem]) rfl ⟨rfl, BB.out _ _ _⟩
set_option maxHeartbeats 1600000 in
theorem comb_add (p q : Bool × Nat) (w : World) :
    Calls Try.prog 72 #[.agg #[.bool p.1, .int .u64 (p.2 : Int)], .agg #[.bool q.1, .int .u64 (q.2 : Int)], .func (.func 84) #[] #[]] w fun e w' => e = .returned (.agg #[.bool (combM p q addM).1, .int .u64 ((combM p q addM).2 : Int)]) ∧ Below w.heap.size w w' := by
  obtain ⟨pk, a⟩ := p
  obtain ⟨qk, b⟩ := q
  have cf := Bx.mk (fun W => addF_any a b W)
  have B0 : ∀ u v x : Obj, Below w.heap.size w (((w.alloc u).alloc v).alloc x) := fun u v x => ((aset _ _).alloc (by simp) _).alloc (by simp; omega) _
  have BB := Bx.mk B0
  clear B0
  cases pk <;> cases qk
  rotate_right
  · have ck := Bx.mk (fun v W => known_any v W)

    go_enter Try.func72, Try.ntmps72
    go_wp2_with (first
      | (go_at_call 84; ((with_reducible refine (cf.out _).mono ?_); rintro e w1 ⟨rfl, b1⟩; have X := nBlock b1; have B1 := Bx.mk (bel (BB.out _ _ _) b1); clear b1))
      | (go_at_call 64; ((with_reducible refine (ck.out _ _).mono ?_); rintro e w2 ⟨rfl, b2⟩; have X := (b2.block _ (ltOf X)).trans X; have x0 := cOf X 0; have x1 := cOf X 1; have xf := tOf X 0; have xf1 := tOf X 1; simp at x0 x1 xf xf1; have B2 := Bx.mk (bel B1.out b2); clear b2)))
    exact bodyPost_ret (v := .agg #[.bool true, .int .u64 (addM a b : Nat)]) (by simp [results, go_sem, x0, x1]) rfl ⟨rfl, (B2.out.setCell (p := ⟨w.heap.size + 1 + 1, 0, none⟩) (by simp; omega) _).setCell (p := ⟨w.heap.size + 1 + 1, 1, none⟩) (by simp; omega) _⟩
  all_goals
    clear cf
    go_enter Try.func72, Try.ntmps72
    go_wp2
    exact bodyPost_ret (v := .agg #[.bool false, .int .u64 0]) (by simp [results, go_sem]) rfl ⟨rfl, BB.out _ _ _⟩
end Go.Proofs.Ytccjekgbhablpaa
namespace Go.Proofs.Ytccjekgbhablpaa
set_option maxRecDepth 100000
open Go.RowKit

def opC (o : Nat × Nat) : List Value := [.int .i64 (o.1 : Int), .int .i64 (o.2 : Int)]
theorem op_same (a b : Nat) (W : World) : (binOp .eql 45 (.agg #[.int .i64 (a : Int), .int .i64 (b : Int)]) (.agg #[.int .i64 (a : Int), .int .i64 (b : Int)])).run Try.prog W = .ok (.bool true) W := by
  simp [Op.eqFields, go_sem]
theorem op_other (a b c d : Nat) (h : ¬ (c = a ∧ d = b)) (W : World) : (binOp .eql 45 (.agg #[.int .i64 (a : Int), .int .i64 (b : Int)]) (.agg #[.int .i64 (c : Int), .int .i64 (d : Int)])).run Try.prog W = .ok (.bool false) W := by
  by_cases h1 : a = c
  · subst h1
    have h2 : ¬ (b : Int) = (d : Int) := by omega
    simp [Op.eqFields, go_sem, h2]
  · have h2 : ¬ (a : Int) = (c : Int) := by omega
    simp [Op.eqFields, go_sem, h2]
theorem belN (w : World) (B k : Nat) : Below B w (w.drewN k) := ⟨rfl, rfl, rfl, Nat.le_refl _, fun _ _ => rfl⟩
set_option maxHeartbeats 3200000 in
theorem index_any (v : Value) (os : List (Nat × Nat)) (hn : os.length ≤ 1000000) (i a k : Nat) (hk : os[k]? = some (i, a)) (hf : ∀ j, j < k → os[j]? ≠ some (i, a)) (w : World) (hv : SlIn w v 2 os.length (os.flatMap opC)) :
    Calls Try.prog 70 #[v, .agg #[.int .i64 (i : Int), .int .i64 (a : Int)]] w fun e w' => e = .returned (.int .i64 (k : Int)) ∧ Below w.heap.size w w' := by
  have hkl := (List.getElem?_eq_some_iff.1 hk).1
  obtain ⟨b, off, c, rfl, hbl, hcl⟩ := hv.at (by omega)
  have HK := Bx.mk hk; have HF := Bx.mk hf; have HC := Bx.mk hcl
  have hs := Bx.mk (fun W => op_same i a W)
  have ho := Bx.mk (fun c d h W => op_other i a c d h W)
  clear hk hf hcl hv
  generalize os.length = N at *
  have HN := Bx.mk hkl
  go_enter Try.func70, Try.ntmps70
  go_wp2_with fail
  go_loopw [8] (fun q wr => ∃ j : Nat, q = .int .i64 (j : Int) ∧ j ≤ k ∧ Bx (Below w.heap.size w wr) ∧ Bx (wr.heap[w.heap.size]? = some (.cells #[.int .i64 (i : Int), .int .i64 (a : Int)] 45 (0, 0)))) (fun q _ => k + 1 - (intOf q).toNat)
  case atStart => exact ⟨0, rfl, by omega, ⟨aset _ _⟩, ⟨heap_alloc_new _ _⟩⟩
  case round =>
    obtain ⟨j, rfl, hj, hb, hX⟩ := hrel
    have y0 := cOf hX.out 0
    have y1 := cOf hX.out 1
    simp at y0 y1
    have hlt : j < N := by omega
    have hji : (j : Int) < (N : Int) := by omega
    have hj0 : (0 : Int) ≤ (j : Int) := by omega
    by_cases he : j = k
    · subst he
      have g := fun m hm => flatAt opC 2 (fun _ => rfl) os j m (i, a) HK.out hm
      have r0 : wr.cell? ⟨b, off + j * 2, none⟩ = some (.int .i64 (i : Int)) := by rw [hb.out.cell hbl]; exact HC.out _ _ (g 0 (by decide))
      have r1 : wr.cell? ⟨b, off + j * 2 + 1, none⟩ = some (.int .i64 (a : Int)) := by rw [hb.out.cell hbl, Nat.add_assoc]; exact HC.out _ _ (g 1 (by decide))
      have hs := hs.out
      clear g
      go_wp2_with fail
      go_quiet (fail)
      go_wp2
      go_ret
      exact ⟨rfl, hb.out.trans (belN _ _ _)⟩
    · obtain ⟨o, hoj⟩ : ∃ o, os[j]? = some o := by
        have : k < os.length := (List.getElem?_eq_some_iff.1 HK.out).1
        exact ⟨_, List.getElem?_eq_getElem (by omega)⟩
      have hne : ¬ (o.1 = i ∧ o.2 = a) := fun hh => HF.out j (by omega) (by rw [hoj, ← hh.1, ← hh.2])
      have g := fun m hm => flatAt opC 2 (fun _ => rfl) os j m o hoj hm
      have r0 : wr.cell? ⟨b, off + j * 2, none⟩ = some (.int .i64 (o.1 : Int)) := by rw [hb.out.cell hbl]; exact HC.out _ _ (g 0 (by decide))
      have r1 : wr.cell? ⟨b, off + j * 2 + 1, none⟩ = some (.int .i64 (o.2 : Int)) := by rw [hb.out.cell hbl, Nat.add_assoc]; exact HC.out _ _ (g 1 (by decide))
      have ho := ho.out o.1 o.2 hne
      clear g hoj hne
      obtain ⟨o1, o2⟩ := o
      go_wp2_with fail
      go_quiet (fail)
      go_wp2
      go_roundw
      case rel => exact ⟨j + 1, by go_num, by omega, ⟨hb.out.trans (belN _ _ _)⟩, ⟨hX.out⟩⟩
      case measure => simp [intOf]; omega

/-- the Ops lie so -/
structure OpsIn (w : World) (K : WkB) (os : List (Nat × Nat)) : Prop where
  ops : SlIn w K.ops 2 os.length (os.flatMap opC)
  len : os.length ≤ 1000000
theorem OpsIn.bel {w w' : World} {K : WkB} {os : List (Nat × Nat)} (h : OpsIn w K os) (hb : Below w.heap.size w w') : OpsIn w' K os := ⟨h.ops.below hb, h.len⟩
/-- Op k stands at this place of the thread -/
def OpIs (os : List (Nat × Nat)) (i a k : Nat) : Prop := os[k]? = some (i, a) ∧ ∀ j, j < k → os[j]? ≠ some (i, a)
set_option maxHeartbeats 1600000 in
theorem opIdx_any (K : WkB) (n m : Nat) (s : WkM) (os : List (Nat × Nat)) (a k : Nat) (hk : OpIs os K.thr a k) (w : World) (hw : WkIn w K n m s) (ho : OpsIn w K os) :
    Calls Try.prog 40 #[.pointer (some ⟨K.kb, 0, none⟩), .int .i64 (a : Int)] w fun e w' => e = .returned (.int .i64 (k : Int)) ∧ Below w.heap.size w w' := by
  have hkl := ltOf hw.kb
  obtain ⟨_, q1, _, _, q4⟩ := hw.head
  obtain ⟨p, cc, hp⟩ := ho.ops.slice
  have ci := fun W (hb : Below w.heap.size w W) => index_any K.ops os ho.len K.thr a k hk.1 hk.2 W (ho.ops.below hb)
  rw [hp] at q1 ci
  have CI := Bx.mk ci
  clear ci hw ho hk hp
  go_enter Try.func40, Try.ntmps40
  go_wp2_with fail
  go_region_held3 (fun W => W.cell? ⟨K.kb, 1, none⟩ = some (.slice p os.length cc) ∧ W.cell? ⟨K.kb, 4, none⟩ = some (.int .i64 (K.thr : Int)) ∧ Below w.heap.size w W)
    (first
      | (exact ⟨q1, q4, (Below.refl _ _).drew⟩)
      | (go_split_ands; refine ⟨cBel (by assumption) (by first | assumption | exact Below.refl _ _), cBel (by assumption) (by first | assumption | exact Below.refl _ _), bel (by assumption) (by first | assumption | exact Below.refl _ _)⟩))
    (first | (go_at_call 70; ((with_reducible refine (CI.out _ (by first | assumption | exact (Below.refl _ _).drew)).mono ?_); rintro e w2 ⟨rfl, b2⟩)))
  go_wp2
  go_ret
  exact ⟨rfl, (show _ ∧ _ ∧ Below w.heap.size w _ by assumption).2.2⟩
end Go.Proofs.Ytccjekgbhablpaa
