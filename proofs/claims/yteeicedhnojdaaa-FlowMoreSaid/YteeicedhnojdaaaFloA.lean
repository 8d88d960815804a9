/- The flow of threads: where a walker lies. -/
import Derived.Test.YteeicedhnojdaaaFloM
import Derived.Test.YteeicedhnojdaaaLitG
namespace Go.Proofs.Yteeicedhnojdaaa
set_option maxRecDepth 100000
open Go.RowKit

theorem heapSet' {w : World} {b : Nat} {C : Array Value} {T : TypeId} {fr : Nat × Nat} (h : w.heap[b]? = some (.cells C T fr)) (o : Nat) (v : Value) : (w.setCell ⟨b, o, none⟩ v).heap[b]? = some (.cells (C.setIfInBounds o v) T fr) := by
  simp [World.setCell, Array.getElem?_modify, h]
def nI (l : List Nat) : List Value := l.map fun v : Nat => .int .i64 (v : Int)
def nU (l : List Nat) : List Value := l.map fun v : Nat => .int .u64 (v : Int)
def vC (p : Bool × Nat) : List Value := [.bool p.1, .int .u64 (p.2 : Int)]
def nV (l : List (Bool × Nat)) : List Value := l.flatMap vC
theorem nI_set (l : List Nat) (k v : Nat) : (nI l).toArray.setIfInBounds k (.int .i64 (v : Int)) = (nI (l.set k v)).toArray := by simp [nI, List.map_set]
theorem nU_set (l : List Nat) (k v : Nat) : (nU l).toArray.setIfInBounds k (.int .u64 (v : Int)) = (nU (l.set k v)).toArray := by simp [nU, List.map_set]
theorem nI_get {l : List Nat} {k : Nat} (h : k < l.length) : (nI l).toArray[k]? = some (.int .i64 ((l.getD k 0 : Nat) : Int)) := by simp [nI, h, List.getD_eq_getElem?_getD]
theorem nU_get {l : List Nat} {k : Nat} (h : k < l.length) : (nU l).toArray[k]? = some (.int .u64 ((l.getD k 0 : Nat) : Int)) := by simp [nU, h, List.getD_eq_getElem?_getD]
theorem nV_set_list : ∀ (l : List (Bool × Nat)) (k : Nat) (p : Bool × Nat), ((nV l).set (k * 2) (.bool p.1)).set (k * 2 + 1) (.int .u64 (p.2 : Int)) = nV (l.set k p)
  | [], k, p => by simp [nV]
  | a :: l, 0, p => by simp [nV, vC]
  | a :: l, k + 1, p => by
    have ih := nV_set_list l k p
    have e : nV (a :: l) = .bool a.1 :: .int .u64 (a.2 : Int) :: nV l := by simp [nV, vC]
    rw [e, show (k + 1) * 2 = k * 2 + 1 + 1 by omega]
    simp only [List.set_cons_succ]
    rw [ih]
    simp [nV, vC]
theorem nV_set (l : List (Bool × Nat)) (k : Nat) (b : Bool) (v : Nat) : ((nV l).toArray.setIfInBounds (k * 2) (.bool b)).setIfInBounds (k * 2 + 1) (.int .u64 (v : Int)) = (nV (l.set k (b, v))).toArray := by
  rw [← nV_set_list l k (b, v)]; simp
def cC (l : List Cn) : List Value := l.flatMap cnC
theorem cC_len (l : List Cn) : (cC l).length = l.length * 3 := by
  unfold cC
  induction l with
  | nil => rfl
  | cons a l ih => rw [List.flatMap_cons, List.length_append, ih]; simp [cnC]; omega
theorem cC_set_list : ∀ (l : List Cn) (k : Nat) (c : Cn), (((cC l).set (k * 3) (.bool c.k)).set (k * 3 + 1) (.int .u64 (c.v : Int))).set (k * 3 + 2) (.int .u64 (c.f : Int)) = cC (l.set k c)
  | [], k, c => by simp [cC]
  | a :: l, 0, c => by simp [cC, cnC]
  | a :: l, k + 1, c => by
    have ih := cC_set_list l k c
    have e : cC (a :: l) = .bool a.k :: .int .u64 (a.v : Int) :: .int .u64 (a.f : Int) :: cC l := by simp [cC, cnC]
    rw [e, show (k + 1) * 3 = k * 3 + 1 + 1 + 1 by omega]
    have e2 : k * 3 + 1 + 1 + 1 + 2 = (k * 3 + 2) + 1 + 1 + 1 := by omega
    rw [e2]
    simp only [List.set_cons_succ]
    rw [ih]
    simp [cC, cnC]
theorem cC_get {l : List Cn} {k : Nat} {c : Cn} (h : l[k]? = some c) (j : Nat) (hj : j < 3) : (cC l)[k * 3 + j]? = (cnC c)[j]? := flatAt cnC 3 (fun _ => rfl) l k j c h hj

/-- where all of it lies: the walker, the flow, its rows; and what is given -/
structure WkB where
  kb : Nat
  fb : Nat
  st : Nat
  wr : Nat
  pr : Nat
  pl : Nat
  va : Nat
  fp : Nat
  lf : Nat
  rg : Nat
  ops : Value
  reads : Value
  works : Value
  thr : Nat
  wh : Bool
def WkB.blk (K : WkB) : Nat → Nat
  | 0 => K.kb
  | 1 => K.fb
  | 2 => K.st
  | 3 => K.wr
  | 4 => K.pr
  | 5 => K.pl
  | 6 => K.va
  | 7 => K.fp
  | 8 => K.lf
  | 9 => K.rg
  | _ => 0
/-- all blocks are others, from B on -/
structure KOk (B : Nat) (K : WkB) : Prop where
  ge : ∀ i, i < 10 → B ≤ K.blk i
  nd : ∀ i j, i < 10 → j < 10 → i ≠ j → K.blk i ≠ K.blk j
def wkC (K : WkB) (s : WkM) : List Value :=
  [.pointer (some ⟨K.fb, 0, none⟩), K.ops, K.reads, K.works, .int .i64 (K.thr : Int)] ++ cC s.regs ++ [.int .u64 (s.path : Int), .int .i64 (s.lrOp : Int), .int .i64 s.lrLoc]
def flC (K : WkB) (n m : Nat) : List Value :=
  [.slice (some ⟨K.st, 0, none⟩) n n, .slice (some ⟨K.wr, 0, none⟩) n n, .slice (some ⟨K.pr, 0, none⟩) n n, .slice (some ⟨K.pl, 0, none⟩) n n, .slice (some ⟨K.va, 0, none⟩) n n, .slice (some ⟨K.fp, 0, none⟩) n n, .slice (some ⟨K.lf, 0, none⟩) m m, .slice (some ⟨K.rg, 0, none⟩) m m, .bool K.wh]
structure WkIn (W : World) (K : WkB) (n m : Nat) (s : WkM) : Prop where
  kb : W.heap[K.kb]? = some (.cells (wkC K s).toArray 104 (0, 0))
  fb : W.heap[K.fb]? = some (.cells (flC K n m).toArray 68 (0, 0))
  st : W.heap[K.st]? = some (.cells (nI s.state).toArray 3 (0, 0))
  wr : W.heap[K.wr]? = some (.cells (nV s.wr).toArray 74 (0, 0))
  pr : W.heap[K.pr]? = some (.cells (nI s.pair).toArray 3 (0, 0))
  pl : W.heap[K.pl]? = some (.cells (nU s.place).toArray 46 (0, 0))
  va : W.heap[K.va]? = some (.cells (nU s.value).toArray 46 (0, 0))
  fp : W.heap[K.fp]? = some (.cells (nU s.fpath).toArray 46 (0, 0))
  lf : W.heap[K.lf]? = some (.cells (nU s.left).toArray 46 (0, 0))
theorem ltOf {W : World} {b : Nat} {o : Obj} (h : W.heap[b]? = some o) : b < W.heap.size := by
  rcases Nat.lt_or_ge b W.heap.size with e | e
  · exact e
  · rw [Array.getElem?_eq_none e] at h; cases h
theorem WkIn.keep {W W' : World} {K : WkB} {n m : Nat} {s : WkM} (h : WkIn W K n m s) (hk : ∀ b, b < W.heap.size → W'.heap[b]? = W.heap[b]?) : WkIn W' K n m s :=
  ⟨(hk _ (ltOf h.kb)).trans h.kb, (hk _ (ltOf h.fb)).trans h.fb, (hk _ (ltOf h.st)).trans h.st, (hk _ (ltOf h.wr)).trans h.wr, (hk _ (ltOf h.pr)).trans h.pr, (hk _ (ltOf h.pl)).trans h.pl, (hk _ (ltOf h.va)).trans h.va, (hk _ (ltOf h.fp)).trans h.fp, (hk _ (ltOf h.lf)).trans h.lf⟩
theorem WkIn.bel {W W' : World} {K : WkB} {n m : Nat} {s : WkM} (h : WkIn W K n m s) (hb : Below W.heap.size W W') : WkIn W' K n m s := h.keep fun b hl => hb.block b hl
theorem WkIn.drew {W : World} {K : WkB} {n m : Nat} {s : WkM} (h : WkIn W K n m s) : WkIn W.drew K n m s := h.keep fun _ _ => rfl
/-- a store into a block that is none of these -/
theorem hset {W : World} {a b o : Nat} {v : Value} (h : b ≠ a) : (W.setCell ⟨a, o, none⟩ v).heap[b]? = W.heap[b]? := Below.heap_setCell _ _ _ _ h
theorem WkIn.setSt {W : World} {K : WkB} {B n m : Nat} {s : WkM} (ok : KOk B K) (h : WkIn W K n m s) (k v : Nat) : WkIn (W.setCell ⟨K.st, k, none⟩ (.int .i64 (v : Int))) K n m { s with state := s.state.set k v } :=
  ⟨(hset (show K.kb ≠ K.st from ok.nd 0 2 (by decide) (by decide) (by decide))).trans h.kb, (hset (show K.fb ≠ K.st from ok.nd 1 2 (by decide) (by decide) (by decide))).trans h.fb, by rw [heapSet' h.st, nI_set], (hset (show K.wr ≠ K.st from ok.nd 3 2 (by decide) (by decide) (by decide))).trans h.wr, (hset (show K.pr ≠ K.st from ok.nd 4 2 (by decide) (by decide) (by decide))).trans h.pr, (hset (show K.pl ≠ K.st from ok.nd 5 2 (by decide) (by decide) (by decide))).trans h.pl, (hset (show K.va ≠ K.st from ok.nd 6 2 (by decide) (by decide) (by decide))).trans h.va, (hset (show K.fp ≠ K.st from ok.nd 7 2 (by decide) (by decide) (by decide))).trans h.fp, (hset (show K.lf ≠ K.st from ok.nd 8 2 (by decide) (by decide) (by decide))).trans h.lf⟩
theorem WkIn.setPr {W : World} {K : WkB} {B n m : Nat} {s : WkM} (ok : KOk B K) (h : WkIn W K n m s) (k v : Nat) : WkIn (W.setCell ⟨K.pr, k, none⟩ (.int .i64 (v : Int))) K n m { s with pair := s.pair.set k v } :=
  ⟨(hset (show K.kb ≠ K.pr from ok.nd 0 4 (by decide) (by decide) (by decide))).trans h.kb, (hset (show K.fb ≠ K.pr from ok.nd 1 4 (by decide) (by decide) (by decide))).trans h.fb, (hset (show K.st ≠ K.pr from ok.nd 2 4 (by decide) (by decide) (by decide))).trans h.st, (hset (show K.wr ≠ K.pr from ok.nd 3 4 (by decide) (by decide) (by decide))).trans h.wr, by rw [heapSet' h.pr, nI_set], (hset (show K.pl ≠ K.pr from ok.nd 5 4 (by decide) (by decide) (by decide))).trans h.pl, (hset (show K.va ≠ K.pr from ok.nd 6 4 (by decide) (by decide) (by decide))).trans h.va, (hset (show K.fp ≠ K.pr from ok.nd 7 4 (by decide) (by decide) (by decide))).trans h.fp, (hset (show K.lf ≠ K.pr from ok.nd 8 4 (by decide) (by decide) (by decide))).trans h.lf⟩
theorem WkIn.setPl {W : World} {K : WkB} {B n m : Nat} {s : WkM} (ok : KOk B K) (h : WkIn W K n m s) (k v : Nat) : WkIn (W.setCell ⟨K.pl, k, none⟩ (.int .u64 (v : Int))) K n m { s with place := s.place.set k v } :=
  ⟨(hset (show K.kb ≠ K.pl from ok.nd 0 5 (by decide) (by decide) (by decide))).trans h.kb, (hset (show K.fb ≠ K.pl from ok.nd 1 5 (by decide) (by decide) (by decide))).trans h.fb, (hset (show K.st ≠ K.pl from ok.nd 2 5 (by decide) (by decide) (by decide))).trans h.st, (hset (show K.wr ≠ K.pl from ok.nd 3 5 (by decide) (by decide) (by decide))).trans h.wr, (hset (show K.pr ≠ K.pl from ok.nd 4 5 (by decide) (by decide) (by decide))).trans h.pr, by rw [heapSet' h.pl, nU_set], (hset (show K.va ≠ K.pl from ok.nd 6 5 (by decide) (by decide) (by decide))).trans h.va, (hset (show K.fp ≠ K.pl from ok.nd 7 5 (by decide) (by decide) (by decide))).trans h.fp, (hset (show K.lf ≠ K.pl from ok.nd 8 5 (by decide) (by decide) (by decide))).trans h.lf⟩
theorem WkIn.setVa {W : World} {K : WkB} {B n m : Nat} {s : WkM} (ok : KOk B K) (h : WkIn W K n m s) (k v : Nat) : WkIn (W.setCell ⟨K.va, k, none⟩ (.int .u64 (v : Int))) K n m { s with value := s.value.set k v } :=
  ⟨(hset (show K.kb ≠ K.va from ok.nd 0 6 (by decide) (by decide) (by decide))).trans h.kb, (hset (show K.fb ≠ K.va from ok.nd 1 6 (by decide) (by decide) (by decide))).trans h.fb, (hset (show K.st ≠ K.va from ok.nd 2 6 (by decide) (by decide) (by decide))).trans h.st, (hset (show K.wr ≠ K.va from ok.nd 3 6 (by decide) (by decide) (by decide))).trans h.wr, (hset (show K.pr ≠ K.va from ok.nd 4 6 (by decide) (by decide) (by decide))).trans h.pr, (hset (show K.pl ≠ K.va from ok.nd 5 6 (by decide) (by decide) (by decide))).trans h.pl, by rw [heapSet' h.va, nU_set], (hset (show K.fp ≠ K.va from ok.nd 7 6 (by decide) (by decide) (by decide))).trans h.fp, (hset (show K.lf ≠ K.va from ok.nd 8 6 (by decide) (by decide) (by decide))).trans h.lf⟩
theorem WkIn.setFp {W : World} {K : WkB} {B n m : Nat} {s : WkM} (ok : KOk B K) (h : WkIn W K n m s) (k v : Nat) : WkIn (W.setCell ⟨K.fp, k, none⟩ (.int .u64 (v : Int))) K n m { s with fpath := s.fpath.set k v } :=
  ⟨(hset (show K.kb ≠ K.fp from ok.nd 0 7 (by decide) (by decide) (by decide))).trans h.kb, (hset (show K.fb ≠ K.fp from ok.nd 1 7 (by decide) (by decide) (by decide))).trans h.fb, (hset (show K.st ≠ K.fp from ok.nd 2 7 (by decide) (by decide) (by decide))).trans h.st, (hset (show K.wr ≠ K.fp from ok.nd 3 7 (by decide) (by decide) (by decide))).trans h.wr, (hset (show K.pr ≠ K.fp from ok.nd 4 7 (by decide) (by decide) (by decide))).trans h.pr, (hset (show K.pl ≠ K.fp from ok.nd 5 7 (by decide) (by decide) (by decide))).trans h.pl, (hset (show K.va ≠ K.fp from ok.nd 6 7 (by decide) (by decide) (by decide))).trans h.va, by rw [heapSet' h.fp, nU_set], (hset (show K.lf ≠ K.fp from ok.nd 8 7 (by decide) (by decide) (by decide))).trans h.lf⟩
theorem WkIn.setLf {W : World} {K : WkB} {B n m : Nat} {s : WkM} (ok : KOk B K) (h : WkIn W K n m s) (k v : Nat) : WkIn (W.setCell ⟨K.lf, k, none⟩ (.int .u64 (v : Int))) K n m { s with left := s.left.set k v } :=
  ⟨(hset (show K.kb ≠ K.lf from ok.nd 0 8 (by decide) (by decide) (by decide))).trans h.kb, (hset (show K.fb ≠ K.lf from ok.nd 1 8 (by decide) (by decide) (by decide))).trans h.fb, (hset (show K.st ≠ K.lf from ok.nd 2 8 (by decide) (by decide) (by decide))).trans h.st, (hset (show K.wr ≠ K.lf from ok.nd 3 8 (by decide) (by decide) (by decide))).trans h.wr, (hset (show K.pr ≠ K.lf from ok.nd 4 8 (by decide) (by decide) (by decide))).trans h.pr, (hset (show K.pl ≠ K.lf from ok.nd 5 8 (by decide) (by decide) (by decide))).trans h.pl, (hset (show K.va ≠ K.lf from ok.nd 6 8 (by decide) (by decide) (by decide))).trans h.va, (hset (show K.fp ≠ K.lf from ok.nd 7 8 (by decide) (by decide) (by decide))).trans h.fp, by rw [heapSet' h.lf, nU_set]⟩
theorem WkIn.setWr {W : World} {K : WkB} {B n m : Nat} {s : WkM} (ok : KOk B K) (h : WkIn W K n m s) (k : Nat) (b : Bool) (v : Nat) : WkIn ((W.setCell ⟨K.wr, k * 2, none⟩ (.bool b)).setCell ⟨K.wr, k * 2 + 1, none⟩ (.int .u64 (v : Int))) K n m { s with wr := s.wr.set k (b, v) } :=
  ⟨((hset (show K.kb ≠ K.wr from ok.nd 0 3 (by decide) (by decide) (by decide))).trans (hset (show K.kb ≠ K.wr from ok.nd 0 3 (by decide) (by decide) (by decide)))).trans h.kb, ((hset (show K.fb ≠ K.wr from ok.nd 1 3 (by decide) (by decide) (by decide))).trans (hset (show K.fb ≠ K.wr from ok.nd 1 3 (by decide) (by decide) (by decide)))).trans h.fb, ((hset (show K.st ≠ K.wr from ok.nd 2 3 (by decide) (by decide) (by decide))).trans (hset (show K.st ≠ K.wr from ok.nd 2 3 (by decide) (by decide) (by decide)))).trans h.st, by rw [heapSet' (heapSet' h.wr _ _), nV_set], ((hset (show K.pr ≠ K.wr from ok.nd 4 3 (by decide) (by decide) (by decide))).trans (hset (show K.pr ≠ K.wr from ok.nd 4 3 (by decide) (by decide) (by decide)))).trans h.pr, ((hset (show K.pl ≠ K.wr from ok.nd 5 3 (by decide) (by decide) (by decide))).trans (hset (show K.pl ≠ K.wr from ok.nd 5 3 (by decide) (by decide) (by decide)))).trans h.pl, ((hset (show K.va ≠ K.wr from ok.nd 6 3 (by decide) (by decide) (by decide))).trans (hset (show K.va ≠ K.wr from ok.nd 6 3 (by decide) (by decide) (by decide)))).trans h.va, ((hset (show K.fp ≠ K.wr from ok.nd 7 3 (by decide) (by decide) (by decide))).trans (hset (show K.fp ≠ K.wr from ok.nd 7 3 (by decide) (by decide) (by decide)))).trans h.fp, ((hset (show K.lf ≠ K.wr from ok.nd 8 3 (by decide) (by decide) (by decide))).trans (hset (show K.lf ≠ K.wr from ok.nd 8 3 (by decide) (by decide) (by decide)))).trans h.lf⟩
/-- the walker's own cells -/
theorem WkIn.setK {W W' : World} {K : WkB} {B n m : Nat} {s : WkM} (ok : KOk B K) (h : WkIn W K n m s) {s' : WkM} (hk : ∀ b, b ≠ K.kb → W'.heap[b]? = W.heap[b]?) (hb : W'.heap[K.kb]? = some (.cells (wkC K s').toArray 104 (0, 0)))
    (e : s'.state = s.state ∧ s'.wr = s.wr ∧ s'.pair = s.pair ∧ s'.place = s.place ∧ s'.value = s.value ∧ s'.fpath = s.fpath ∧ s'.left = s.left) : WkIn W' K n m s' := by
  obtain ⟨e1, e2, e3, e4, e5, e6, e7⟩ := e
  exact ⟨hb, (hk _ (show K.fb ≠ K.kb from ok.nd 1 0 (by decide) (by decide) (by decide))).trans h.fb, by rw [e1]; exact (hk _ (show K.st ≠ K.kb from ok.nd 2 0 (by decide) (by decide) (by decide))).trans h.st, by rw [e2]; exact (hk _ (show K.wr ≠ K.kb from ok.nd 3 0 (by decide) (by decide) (by decide))).trans h.wr, by rw [e3]; exact (hk _ (show K.pr ≠ K.kb from ok.nd 4 0 (by decide) (by decide) (by decide))).trans h.pr, by rw [e4]; exact (hk _ (show K.pl ≠ K.kb from ok.nd 5 0 (by decide) (by decide) (by decide))).trans h.pl, by rw [e5]; exact (hk _ (show K.va ≠ K.kb from ok.nd 6 0 (by decide) (by decide) (by decide))).trans h.va, by rw [e6]; exact (hk _ (show K.fp ≠ K.kb from ok.nd 7 0 (by decide) (by decide) (by decide))).trans h.fp, by rw [e7]; exact (hk _ (show K.lf ≠ K.kb from ok.nd 8 0 (by decide) (by decide) (by decide))).trans h.lf⟩
theorem wk_setReg_list (K : WkB) (s : WkM) (r : Nat) (c : Cn) (hr : r < s.regs.length) :
    (((wkC K s).set (5 + r * 3) (.bool c.k)).set (5 + r * 3 + 1) (.int .u64 (c.v : Int))).set (5 + r * 3 + 2) (.int .u64 (c.f : Int)) = wkC K (setM s r c) := by
  unfold wkC setM
  dsimp only
  rw [← cC_set_list s.regs r c]
  have hl := cC_len s.regs
  have key : ∀ (X : List Value) (j : Nat) (v : Value) (P Q : List Value), P.length = 5 → j < X.length → (P ++ X ++ Q).set (5 + j) v = P ++ X.set j v ++ Q := fun X j v P Q hP hj => by
    rw [List.set_append_left _ _ (by simp; omega), List.set_append_right _ _ (by omega), hP, Nat.add_sub_cancel_left]
  rw [key _ _ _ _ _ rfl (by omega), show 5 + r * 3 + 1 = 5 + (r * 3 + 1) by omega, key _ _ _ _ _ rfl (by simp; omega), show 5 + r * 3 + 2 = 5 + (r * 3 + 2) by omega, key _ _ _ _ _ rfl (by simp; omega)]
theorem wk_setReg (K : WkB) (s : WkM) (r : Nat) (c : Cn) (hr : r < s.regs.length) :
    (((wkC K s).toArray.setIfInBounds (5 + r * 3) (.bool c.k)).setIfInBounds (5 + r * 3 + 1) (.int .u64 (c.v : Int))).setIfInBounds (5 + r * 3 + 2) (.int .u64 (c.f : Int)) = (wkC K (setM s r c)).toArray := by
  rw [← wk_setReg_list K s r c hr]; simp
theorem WkIn.setReg {W : World} {K : WkB} {B n m : Nat} {s : WkM} (ok : KOk B K) (h : WkIn W K n m s) (r : Nat) (c : Cn) (hr : r < s.regs.length) :
    WkIn (((W.setCell ⟨K.kb, 5 + r * 3, none⟩ (.bool c.k)).setCell ⟨K.kb, 5 + r * 3 + 1, none⟩ (.int .u64 (c.v : Int))).setCell ⟨K.kb, 5 + r * 3 + 2, none⟩ (.int .u64 (c.f : Int))) K n m (setM s r c) :=
  h.setK ok (fun b hb => (hset hb).trans ((hset hb).trans (hset hb))) (by rw [heapSet' (heapSet' (heapSet' h.kb _ _) _ _), wk_setReg K s r c hr]) ⟨rfl, rfl, rfl, rfl, rfl, rfl, rfl⟩
theorem wk_len (K : WkB) (s : WkM) (hr : s.regs.length = 8) : (wkC K s).length = 32 := by
  unfold wkC; simp [cC_len, hr]
theorem WkIn.reg {W : World} {K : WkB} {n m : Nat} {s : WkM} (h : WkIn W K n m s) {r : Nat} {c : Cn} (hc : s.regs[r]? = some c) (j : Nat) (hj : j < 3) : W.cell? ⟨K.kb, 5 + r * 3 + j, none⟩ = (cnC c)[j]? := by
  have hl := cC_len s.regs
  have hlt := (List.getElem?_eq_some_iff.1 hc).1
  rw [cOf h.kb]
  rw [← cC_get hc j hj]
  simp only [List.getElem?_toArray]
  unfold wkC
  rw [List.getElem?_append_left (by simp; omega), List.getElem?_append_right (by simp; omega)]
  congr 1
  simp; omega
/-- the first five cells, and the last three -/
theorem WkIn.head {W : World} {K : WkB} {n m : Nat} {s : WkM} (h : WkIn W K n m s) : W.cell? ⟨K.kb, 0, none⟩ = some (.pointer (some ⟨K.fb, 0, none⟩)) ∧ W.cell? ⟨K.kb, 1, none⟩ = some K.ops ∧ W.cell? ⟨K.kb, 2, none⟩ = some K.reads ∧ W.cell? ⟨K.kb, 3, none⟩ = some K.works ∧ W.cell? ⟨K.kb, 4, none⟩ = some (.int .i64 (K.thr : Int)) := by
  simp only [cOf h.kb, List.getElem?_toArray]
  exact ⟨rfl, rfl, rfl, rfl, rfl⟩
theorem WkIn.tail {W : World} {K : WkB} {n m : Nat} {s : WkM} (h : WkIn W K n m s) (hr : s.regs.length = 8) : W.cell? ⟨K.kb, 29, none⟩ = some (.int .u64 (s.path : Int)) ∧ W.cell? ⟨K.kb, 30, none⟩ = some (.int .i64 (s.lrOp : Int)) ∧ W.cell? ⟨K.kb, 31, none⟩ = some (.int .i64 s.lrLoc) := by
  have hl := cC_len s.regs
  have key : ∀ j, 29 ≤ j → (wkC K s)[j]? = [Value.int .u64 (s.path : Int), .int .i64 (s.lrOp : Int), .int .i64 s.lrLoc][j - 29]? := fun j hj => by
    unfold wkC
    rw [List.getElem?_append_right (by simp; omega)]
    congr 1
    simp; omega
  simp only [cOf h.kb, List.getElem?_toArray]
  rw [key 29 (by omega), key 30 (by omega), key 31 (by omega)]
  exact ⟨rfl, rfl, rfl⟩
theorem WkIn.rows {W : World} {K : WkB} {n m : Nat} {s : WkM} (h : WkIn W K n m s) : W.cell? ⟨K.fb, 0, none⟩ = some (.slice (some ⟨K.st, 0, none⟩) n n) ∧ W.cell? ⟨K.fb, 1, none⟩ = some (.slice (some ⟨K.wr, 0, none⟩) n n) ∧ W.cell? ⟨K.fb, 2, none⟩ = some (.slice (some ⟨K.pr, 0, none⟩) n n) ∧ W.cell? ⟨K.fb, 3, none⟩ = some (.slice (some ⟨K.pl, 0, none⟩) n n) ∧ W.cell? ⟨K.fb, 4, none⟩ = some (.slice (some ⟨K.va, 0, none⟩) n n) ∧ W.cell? ⟨K.fb, 5, none⟩ = some (.slice (some ⟨K.fp, 0, none⟩) n n) ∧ W.cell? ⟨K.fb, 6, none⟩ = some (.slice (some ⟨K.lf, 0, none⟩) m m) := by
  simp only [cOf h.fb, List.getElem?_toArray]
  exact ⟨rfl, rfl, rfl, rfl, rfl, rfl, rfl⟩
theorem WkIn.lt {W : World} {K : WkB} {n m : Nat} {s : WkM} (h : WkIn W K n m s) : ∀ i, i < 9 → K.blk i < W.heap.size
  | 0, _ => ltOf h.kb
  | 1, _ => ltOf h.fb
  | 2, _ => ltOf h.st
  | 3, _ => ltOf h.wr
  | 4, _ => ltOf h.pr
  | 5, _ => ltOf h.pl
  | 6, _ => ltOf h.va
  | 7, _ => ltOf h.fp
  | 8, _ => ltOf h.lf
  | _ + 9, hi => by omega
theorem WkIn.far {W : World} {K : WkB} {n m : Nat} {s : WkM} (h : WkIn W K n m s) {b : Nat} (hb : ∀ i, i < 9 → K.blk i < b) (o : Nat) (v : Value) : WkIn (W.setCell ⟨b, o, none⟩ v) K n m s :=
  ⟨(hset (Nat.ne_of_lt (hb 0 (by decide)))).trans h.kb, (hset (Nat.ne_of_lt (hb 1 (by decide)))).trans h.fb, (hset (Nat.ne_of_lt (hb 2 (by decide)))).trans h.st, (hset (Nat.ne_of_lt (hb 3 (by decide)))).trans h.wr, (hset (Nat.ne_of_lt (hb 4 (by decide)))).trans h.pr, (hset (Nat.ne_of_lt (hb 5 (by decide)))).trans h.pl, (hset (Nat.ne_of_lt (hb 6 (by decide)))).trans h.va, (hset (Nat.ne_of_lt (hb 7 (by decide)))).trans h.fp, (hset (Nat.ne_of_lt (hb 8 (by decide)))).trans h.lf⟩
/-- behind a store into one of the blocks from B on -/
theorem belSet {B : Nat} {W W' : World} (h : Below B W W') (a o : Nat) (v : Value) (ha : B ≤ a) : Below B W (W'.setCell ⟨a, o, none⟩ v) := h.setCell (p := ⟨a, o, none⟩) ha _
theorem KOk.all {B : Nat} {K : WkB} (h : KOk B K) : B ≤ K.kb ∧ B ≤ K.fb ∧ B ≤ K.st ∧ B ≤ K.wr ∧ B ≤ K.pr ∧ B ≤ K.pl ∧ B ≤ K.va ∧ B ≤ K.fp ∧ B ≤ K.lf ∧ B ≤ K.rg :=
  ⟨h.ge 0 (by decide), h.ge 1 (by decide), h.ge 2 (by decide), h.ge 3 (by decide), h.ge 4 (by decide), h.ge 5 (by decide), h.ge 6 (by decide), h.ge 7 (by decide), h.ge 8 (by decide), h.ge 9 (by decide)⟩
/-- what a walker's call leaves alone: all but its own blocks, and what is new -/
structure Fp (K : WkB) (w w' : World) : Prop where
  os : w'.os = w.os
  tape : w'.tape = w.tape
  output : w'.output = w.output
  size : w.heap.size ≤ w'.heap.size
  kept : ∀ b, b < w.heap.size → (∀ i, i < 9 → b ≠ K.blk i) → w'.heap[b]? = w.heap[b]?
theorem Fp.ofBel {K : WkB} {w w' : World} (h : Below w.heap.size w w') : Fp K w w' := ⟨h.os, h.tape, h.output, h.size, fun b hb _ => h.block b hb⟩
theorem Fp.trans {K : WkB} {w a b : World} (h : Fp K w a) (k : Fp K a b) : Fp K w b :=
  ⟨k.os.trans h.os, k.tape.trans h.tape, k.output.trans h.output, Nat.le_trans h.size k.size, fun c hc hn => (k.kept c (Nat.lt_of_lt_of_le hc h.size) hn).trans (h.kept c hc hn)⟩
theorem Fp.bel {K : WkB} {w a b : World} (h : Fp K w a) (k : Below a.heap.size a b) : Fp K w b := h.trans (Fp.ofBel k)
theorem Fp.drew {K : WkB} {w a : World} (h : Fp K w a) : Fp K w a.drew := ⟨h.os, h.tape, h.output, h.size, h.kept⟩
theorem Fp.set {K : WkB} {w a : World} (h : Fp K w a) (i : Nat) (hi : i < 9) (o : Nat) (v : Value) : Fp K w (a.setCell ⟨K.blk i, o, none⟩ v) := by
  have hb := (Below.refl 0 a).setCell (p := ⟨K.blk i, o, none⟩) (Nat.zero_le _) v
  exact ⟨hb.os.trans h.os, hb.tape.trans h.tape, hb.output.trans h.output, Nat.le_trans h.size hb.size, fun b hlt hn => (hset (hn i hi)).trans (h.kept b hlt hn)⟩
theorem Fp.new {K : WkB} {w a : World} (h : Fp K w a) (b : Nat) (hb : w.heap.size ≤ b) (o : Nat) (v : Value) : Fp K w (a.setCell ⟨b, o, none⟩ v) := by
  have hb2 := (Below.refl 0 a).setCell (p := ⟨b, o, none⟩) (Nat.zero_le _) v
  exact ⟨hb2.os.trans h.os, hb2.tape.trans h.tape, hb2.output.trans h.output, Nat.le_trans h.size hb2.size, fun c hlt hn => (hset (by omega)).trans (h.kept c hlt hn)⟩
theorem Fp.below {K : WkB} {w0 w w' : World} (h : Fp K w w') (ok : KOk w0.heap.size K) (h0 : Below w0.heap.size w0 w) : Below w0.heap.size w0 w' :=
  ⟨h.os.trans h0.os, h.tape.trans h0.tape, h.output.trans h0.output, Nat.le_trans h0.size h.size, fun b hb => (h.kept b (Nat.lt_of_lt_of_le hb h0.size) (fun i hi e => by have := ok.ge i (by omega); omega)).trans (h0.block b hb)⟩
end Go.Proofs.Yteeicedhnojdaaa
