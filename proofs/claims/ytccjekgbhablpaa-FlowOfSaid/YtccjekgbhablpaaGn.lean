/- FloQ, FloR, FloS, in one text. -/
import Derived.Test.YtccjekgbhablpaaFloP
import Derived.Test.YtccjekgbhablpaaFloL
import Derived.Test.YtccjekgbhablpaaGl
import Derived.Test.YtccjekgbhablpaaGe
namespace Go.Proofs.Ytccjekgbhablpaa
set_option maxRecDepth 100000
open Go.RowKit

/-- numbers that an uint64 holds -/
def NumOk (t : TestM) : Prop := ∀ l ∈ t.thr, ∀ x ∈ l, (0 ≤ x.an ∧ x.an < 18446744073709551616) ∧ (0 ≤ x.bn ∧ x.bn < 18446744073709551616)
theorem good_len {u : TestM} (h : chkTest u = 0) : u.thr.length ≤ 4 ∧ ∀ l ∈ u.thr, l.length ≤ 8 := by
  obtain ⟨hs, _, _, _⟩ := (chk0 u).1 h
  obtain ⟨_, h2, _, _, h5, _⟩ := (sizes0 u).1 hs
  exact ⟨h2, h5⟩
theorem good_insN {u : TestM} (h : chkTest u = 0) (hn : NumOk u) : ∀ l ∈ u.thr, ∀ x ∈ l, InsN x := by
  obtain ⟨_, _, ht, _⟩ := (chk0 u).1 h
  intro l hl x hx
  have h1 := (line0 _ l).1 ((thr0 _ _).1 ht l hl)
  obtain ⟨i, hi⟩ := List.mem_iff_getElem?.1 hx
  have h2 := h1 i x hi
  have hsk := chkM_skip _ _ _ h2
  have hll := (good_len h).2 l hl
  have hil := (List.getElem?_eq_some_iff.1 hi).1
  have hnn : namesM x (u.locs.length : Int) = true := by
    unfold chkM at h2
    split at h2
    · omega
    · split at h2
      · omega
      · rename_i hn
        cases hc : namesM x (u.locs.length : Int) with
        | true => rfl
        | false => exact absurd hc hn
  unfold namesM at hnn
  simp only [Bool.and_eq_true] at hnn
  obtain ⟨_, ⟨⟨h3, h4⟩, h5⟩, h6⟩ := hnn
  unfold idx at h3 h6
  unfold argOk at h4 h5
  simp only [Bool.and_eq_true, decide_eq_true_eq, Bool.or_eq_true, Bool.not_eq_true'] at h3 h4 h5 h6
  refine ⟨(hn l hl x hx).1, (hn l hl x hx).2, fun e => ?_, fun e => ?_, h3, ⟨h6.1, by omega⟩, ⟨hsk.1, by omega⟩⟩
  · rcases h4 with h4 | h4
    · rw [h4] at e; cases e
    · exact h4
  · rcases h5 with h5 | h5
    · rw [h5] at e; cases e
    · exact h5
theorem walk_ok {n m : Nat} {c : CtxM} (hc : CtxOk c) (i : Nat) : ∀ (l : List Ins) (at' k skip : Nat) (s : WkM), (∀ x ∈ l, InsN x) → k + memL l ≤ n → WkOk n m s → WkOk n m (walkM c i l at' k skip s)
  | [], _, _, _, _, _, _, hs => hs
  | x :: l, at', k, skip, s, hx, hk, hs => by
    have hm : memL (x :: l) = (if isMem x.op then 1 else 0) + memL l := by
      unfold memL
      rw [List.filter_cons]
      split <;> simp <;> omega
    rw [hm] at hk
    have hx0 := hx x (by simp)
    have hx1 : ∀ y ∈ l, InsN y := fun y hy => hx y (by simp [hy])
    rw [walkM]
    split
    · refine walk_ok hc i l _ _ _ _ hx1 ?_ (ok_leave hs _ _ _ _)
      cases h : isMem x.op <;> simp [h] at hk ⊢ <;> omega
    · split
      · rename_i h
        rw [h] at hk
        simp at hk
        exact walk_ok hc i l _ _ _ _ hx1 (by omega) (ok_acc hs hc (by omega) x)
      · have hk2 : k + memL l ≤ n := by omega
        split
        · split
          · exact walk_ok hc i l _ _ _ _ hx1 hk2 (ok_br hs hx0)
          · exact ok_br hs hx0
        · split
          · exact walk_ok hc i l _ _ _ _ hx1 hk2 (ok_comp hs hx0)
          · exact walk_ok hc i l _ _ _ _ hx1 hk2 hs
/-- sizes and bounds of a flow -/
structure FlOk (n m : Nat) (f : FlM) : Prop where
  wk : WkOk n m (startM f)
  rl : f.regs.length = m
  r8 : ∀ l ∈ f.regs, l.length = 8
theorem vals_len {l : List Cn} (h : l.length = 8) : (valsM l).length = 8 := by simp [valsM, h]
theorem thr_ok {n m : Nat} {c : CtxM} (hc : CtxOk c) (i k : Nat) (l : List Ins) (f : FlM) (hx : ∀ x ∈ l, InsN x) (hk : k + memL l ≤ n) (h : FlOk n m f) : FlOk n m (thrM c i k l f) := by
  have h1 := walk_ok (m := m) hc i l 0 k 0 (startM f) hx hk h.wk
  refine ⟨⟨rfl, regs0_ok, show (0 : Nat) < 18446744073709551616 by decide, Nat.zero_le _, h1.state, h1.wr, h1.pair, h1.place, h1.value, h1.fpath, h1.left, h1.lok⟩, ?_, ?_⟩
  · show (f.regs.set i _).length = m
    rw [List.length_set]; exact h.rl
  · intro x hx2
    rcases List.mem_or_eq_of_mem_set hx2 with h2 | rfl
    · exact h.r8 x h2
    · exact vals_len h1.regs
theorem blank_ok (n m : Nat) (b : Bool) : FlOk n m (blankM n m b) := by
  refine ⟨⟨rfl, regs0_ok, show (0 : Nat) < 18446744073709551616 by decide, Nat.zero_le _, by simp [startM, blankM], by simp [startM, blankM], by simp [startM, blankM], by simp [startM, blankM], by simp [startM, blankM], by simp [startM, blankM], by simp [startM, blankM], ?_⟩, by simp [blankM], ?_⟩
  · intro x hx
    have : x ∈ List.replicate m 0 := hx
    rw [List.eq_of_mem_replicate this]; decide
  · intro l hl
    have : l ∈ List.replicate m (List.replicate 8 (false, 0)) := hl
    rw [List.eq_of_mem_replicate this]; rfl

/-- where a flow lies -/
structure FlIn (W : World) (K : WkB) (n m : Nat) (f : FlM) : Prop where
  fb : W.heap[K.fb]? = some (.cells (flC { K with wh := f.whole } n m).toArray 68 (0, 0))
  st : W.heap[K.st]? = some (.cells (nI f.state).toArray 3 (0, 0))
  wr : W.heap[K.wr]? = some (.cells (nV f.wr).toArray 74 (0, 0))
  pr : W.heap[K.pr]? = some (.cells (nI f.pair).toArray 3 (0, 0))
  pl : W.heap[K.pl]? = some (.cells (nU f.place).toArray 46 (0, 0))
  va : W.heap[K.va]? = some (.cells (nU f.value).toArray 46 (0, 0))
  fp : W.heap[K.fp]? = some (.cells (nU f.fpath).toArray 46 (0, 0))
  lf : W.heap[K.lf]? = some (.cells (nU f.left).toArray 46 (0, 0))
  rg : W.heap[K.rg]? = some (.cells (rgC f.regs).toArray 76 (0, 0))
theorem FlIn.keep {W W' : World} {K : WkB} {n m : Nat} {f : FlM} (h : FlIn W K n m f) (hk : ∀ b, b < W.heap.size → W'.heap[b]? = W.heap[b]?) : FlIn W' K n m f :=
  ⟨(hk _ (ltOf h.fb)).trans h.fb, (hk _ (ltOf h.st)).trans h.st, (hk _ (ltOf h.wr)).trans h.wr, (hk _ (ltOf h.pr)).trans h.pr, (hk _ (ltOf h.pl)).trans h.pl, (hk _ (ltOf h.va)).trans h.va, (hk _ (ltOf h.fp)).trans h.fp, (hk _ (ltOf h.lf)).trans h.lf, (hk _ (ltOf h.rg)).trans h.rg⟩
theorem FlIn.bel {W W' : World} {K : WkB} {n m : Nat} {f : FlM} (h : FlIn W K n m f) (hb : Below W.heap.size W W') : FlIn W' K n m f := h.keep fun b hl => hb.block b hl
theorem FlIn.drew {W : World} {K : WkB} {n m : Nat} {f : FlM} (h : FlIn W K n m f) : FlIn W.drew K n m f := h.keep fun _ _ => rfl
/-- its blocks are others -/
structure KD (B : Nat) (K : WkB) : Prop where
  ge : ∀ i, 1 ≤ i → i < 10 → B ≤ K.blk i
  nd : ∀ i j, 1 ≤ i → i < 10 → 1 ≤ j → j < 10 → i ≠ j → K.blk i ≠ K.blk j
theorem FlIn.lt {W : World} {K : WkB} {n m : Nat} {f : FlM} (h : FlIn W K n m f) : ∀ i, 1 ≤ i → i < 10 → K.blk i < W.heap.size
  | 0, h0, _ => by omega
  | 1, _, _ => ltOf h.fb
  | 2, _, _ => ltOf h.st
  | 3, _, _ => ltOf h.wr
  | 4, _, _ => ltOf h.pr
  | 5, _, _ => ltOf h.pl
  | 6, _, _ => ltOf h.va
  | 7, _, _ => ltOf h.fp
  | 8, _, _ => ltOf h.lf
  | 9, _, _ => ltOf h.rg
  | _ + 10, _, hi => by omega
/-- a walker's blocks -/
def WkB.at (K : WkB) (kb thr : Nat) (wh : Bool) : WkB := { K with kb := kb, thr := thr, wh := wh }
theorem at_blk (K : WkB) (kb thr : Nat) (wh : Bool) : ∀ i, 1 ≤ i → (K.at kb thr wh).blk i = K.blk i
  | 0, h => by omega
  | 1, _ => rfl
  | 2, _ => rfl
  | 3, _ => rfl
  | 4, _ => rfl
  | 5, _ => rfl
  | 6, _ => rfl
  | 7, _ => rfl
  | 8, _ => rfl
  | 9, _ => rfl
  | _ + 10, _ => rfl
theorem at_ok {B : Nat} {K : WkB} (h : KD B K) (kb thr : Nat) (wh : Bool) (hB : B ≤ kb) (hkb : ∀ i, 1 ≤ i → i < 10 → K.blk i < kb) : KOk B (K.at kb thr wh) := by
  refine ⟨fun i hi => ?_, fun i j hi hj hne => ?_⟩
  · by_cases h0 : i = 0
    · subst h0; exact hB
    · rw [at_blk K kb thr wh i (by omega)]; exact h.ge i (by omega) hi
  · by_cases h0 : i = 0
    · subst h0
      rw [at_blk K kb thr wh j (by omega)]
      have := hkb j (by omega) hj
      show kb ≠ _
      omega
    · rw [at_blk K kb thr wh i (by omega)]
      by_cases h1 : j = 0
      · subst h1
        have := hkb i (by omega) hi
        show _ ≠ kb
        omega
      · rw [at_blk K kb thr wh j (by omega)]
        exact h.nd i j (by omega) hi (by omega) hj hne
theorem flC_set (K : WkB) (n m : Nat) (a b : Bool) : (flC { K with wh := a } n m).toArray.setIfInBounds 8 (.bool b) = (flC { K with wh := b } n m).toArray := rfl
theorem FlIn.setWh {W : World} {K : WkB} {B n m : Nat} {f : FlM} (kd : KD B K) (h : FlIn W K n m f) (b : Bool) : FlIn (W.setCell ⟨K.fb, 8, none⟩ (.bool b)) K n m { f with whole := b } := by
  have q : ∀ i, 2 ≤ i → i < 10 → K.blk i ≠ K.fb := fun i h1 h2 => kd.nd i 1 (by omega) h2 (by omega) (by omega) (by omega)
  exact ⟨by rw [heapSet' h.fb, flC_set], (hset (q 2 (by omega) (by omega))).trans h.st, (hset (q 3 (by omega) (by omega))).trans h.wr, (hset (q 4 (by omega) (by omega))).trans h.pr, (hset (q 5 (by omega) (by omega))).trans h.pl, (hset (q 6 (by omega) (by omega))).trans h.va, (hset (q 7 (by omega) (by omega))).trans h.fp, (hset (q 8 (by omega) (by omega))).trans h.lf, (hset (q 9 (by omega) (by omega))).trans h.rg⟩
theorem rgC_len {l : List (List (Bool × Nat))} (h : ∀ x ∈ l, x.length = 8) : (rgC l).length = l.length * 16 := by
  unfold rgC
  induction l with
  | nil => rfl
  | cons a l ih =>
    rw [List.flatMap_cons, List.length_append, ih (fun x hx => h x (by simp [hx])), nV_len, h a (by simp), List.length_cons]; omega
theorem rgC_split {l : List (List (Bool × Nat))} {k : Nat} {v : List (Bool × Nat)} (h : l[k]? = some v) : rgC l = rgC (l.take k) ++ nV v ++ rgC (l.drop (k + 1)) := by
  have hk := (List.getElem?_eq_some_iff.1 h).1
  have e : l = l.take k ++ v :: l.drop (k + 1) := by
    conv => lhs; rw [← List.take_append_drop k l]
    rw [List.drop_eq_getElem_cons hk]
    rw [List.getElem?_eq_getElem hk] at h
    rw [Option.some.inj h]
  conv => lhs; rw [e]
  unfold rgC
  rw [List.flatMap_append, List.flatMap_cons, List.append_assoc]
theorem rgC_set {l : List (List (Bool × Nat))} {k : Nat} (v : List (Bool × Nat)) (hk : k < l.length) : rgC (l.set k v) = rgC (l.take k) ++ nV v ++ rgC (l.drop (k + 1)) := by
  have h : (l.set k v)[k]? = some v := by rw [List.getElem?_set_self hk]
  rw [rgC_split h]
  congr 2
  · rw [List.take_set_of_le (Nat.le_refl k)]
  · rw [List.drop_set_of_lt (by omega)]
theorem FlIn.setRg {W : World} {K : WkB} {B n m : Nat} {f : FlM} (kd : KD B K) (h : FlIn W K n m f) (r8 : ∀ x ∈ f.regs, x.length = 8) (k : Nat) (hk : k < f.regs.length) (v : List (Bool × Nat)) (hv : v.length = 8) : FlIn (W.setCells K.rg (k * 16) (nV v)) K n m { f with regs := f.regs.set k v } := by
  have q : ∀ i, 1 ≤ i → i < 9 → K.blk i ≠ K.rg := fun i h1 h2 => kd.nd i 9 (by omega) (by omega) (by omega) (by omega) (by omega)
  have e : (W.setCells K.rg (k * 16) (nV v)).heap[K.rg]? = some (.cells (rgC (f.regs.set k v)).toArray 76 (0, 0)) := by
    obtain ⟨z, hz⟩ : ∃ z, f.regs[k]? = some z := ⟨_, List.getElem?_eq_getElem hk⟩
    have hzl := r8 z (List.mem_of_getElem? hz)
    have h1 := h.rg
    rw [rgC_split hz] at h1
    have h2 := heapSets (nV v) W (rgC (f.regs.take k)) (nV z) (rgC (f.regs.drop (k + 1))) (by rw [nV_len, nV_len, hv, hzl]) h1
    rw [rgC_len (fun x hx => r8 x (List.mem_of_mem_take hx)), List.length_take, Nat.min_eq_left (by omega)] at h2
    rw [h2, rgC_set v hk]
  exact ⟨(heapSets' (q 1 (by omega) (by omega)) _ _ _).trans h.fb, (heapSets' (q 2 (by omega) (by omega)) _ _ _).trans h.st, (heapSets' (q 3 (by omega) (by omega)) _ _ _).trans h.wr, (heapSets' (q 4 (by omega) (by omega)) _ _ _).trans h.pr, (heapSets' (q 5 (by omega) (by omega)) _ _ _).trans h.pl, (heapSets' (q 6 (by omega) (by omega)) _ _ _).trans h.va, (heapSets' (q 7 (by omega) (by omega)) _ _ _).trans h.fp, (heapSets' (q 8 (by omega) (by omega)) _ _ _).trans h.lf, e⟩
theorem rng_rg {W : World} {K : WkB} {n m : Nat} {f : FlM} (h : FlIn W K n m f) (r8 : ∀ x ∈ f.regs, x.length = 8) {k : Nat} {v : List (Bool × Nat)} (hv : f.regs[k]? = some v) : W.rangeAt K.rg (k * 16) (nV v) := fun j u hu => by
  have hk := (List.getElem?_eq_some_iff.1 hv).1
  have hj := (List.getElem?_eq_some_iff.1 hu).1
  rw [cOf h.rg, rgC_split hv, List.getElem?_toArray]
  have hl : (rgC (f.regs.take k)).length = k * 16 := by rw [rgC_len (fun x hx => r8 x (List.mem_of_mem_take hx)), List.length_take, Nat.min_eq_left (by omega)]
  rw [List.append_assoc, List.getElem?_append_right (by omega), hl, Nat.add_sub_cancel_left, List.getElem?_append_left hj]
  exact hu
theorem thr_rg {W : World} {K : WkB} {n m : Nat} {f : FlM} (h : FlIn W K n m f) (r8 : ∀ x ∈ f.regs, x.length = 8) {k : Nat} (hk : k < f.regs.length) : W.there K.rg (k * 16) 16 :=
  thrOf h.rg (by simp [rgC_len r8]; omega)
/-- a walker that begins -/
theorem FlIn.walker {W : World} {K : WkB} {n m : Nat} {f : FlM} (h : FlIn W K n m f) (k : Nat) {o : Obj} (ho : o = .cells (wkC (K.at W.heap.size k f.whole) { startM f with regs := regsJ 0 }).toArray 100) :
    WkIn (W.alloc o) (K.at W.heap.size k f.whole) n m { startM f with regs := regsJ 0 } := by
  have b := aset W o
  refine ⟨?_, ?_, (b.block _ (ltOf h.st)).trans h.st, (b.block _ (ltOf h.wr)).trans h.wr, (b.block _ (ltOf h.pr)).trans h.pr, (b.block _ (ltOf h.pl)).trans h.pl, (b.block _ (ltOf h.va)).trans h.va, (b.block _ (ltOf h.fp)).trans h.fp, (b.block _ (ltOf h.lf)).trans h.lf⟩
  · rw [ho]; exact heap_alloc_new _ _
  · exact (b.block _ (ltOf h.fb)).trans h.fb
/-- what a walker leaves is a flow -/
theorem WkIn.flow {W : World} {K : WkB} {n m : Nat} {s : WkM} {kb k : Nat} {f : FlM} (h : WkIn W (K.at kb k f.whole) n m s) (hr : W.heap[K.rg]? = some (.cells (rgC f.regs).toArray 76 (0, 0))) :
    FlIn W K n m ⟨s.state, s.wr, s.pair, s.place, s.value, s.fpath, s.left, f.regs, f.whole⟩ :=
  ⟨h.fb, h.st, h.wr, h.pr, h.pl, h.va, h.fp, h.lf, hr⟩
end Go.Proofs.Ytccjekgbhablpaa
namespace Go.Proofs.Ytccjekgbhablpaa
set_option maxRecDepth 100000
open Go.RowKit

theorem walker_cells (K : WkB) (kb k : Nat) (f : FlM) : (wkC (K.at kb k f.whole) { startM f with regs := regsJ 0 }).toArray = #[.pointer (some ⟨K.fb, 0, none⟩), K.ops, K.reads, K.works, .int .i64 (k : Int), .bool false, .int .u64 0, .int .u64 0, .bool false, .int .u64 0, .int .u64 0, .bool false, .int .u64 0, .int .u64 0, .bool false, .int .u64 0, .int .u64 0, .bool false, .int .u64 0, .int .u64 0, .bool false, .int .u64 0, .int .u64 0, .bool false, .int .u64 0, .int .u64 0, .bool false, .int .u64 0, .int .u64 0, .int .u64 0, .int .i64 0, .int .i64 0] := rfl
/-- the blocks of a flow that is new -/
def newK (b : Nat → Nat) (fb : Nat) (ops reads works : Value) : WkB := ⟨0, fb, b 1, b 3, b 5, b 7, b 9, b 11, b 13, b 15, ops, reads, works, 0, false⟩
theorem newK_blk (b : Nat → Nat) (fb : Nat) (ops reads works : Value) : ∀ i, 2 ≤ i → i < 10 → (newK b fb ops reads works).blk i = b (2 * i - 3) ∧ (2 * i - 3) ∈ ([1, 3, 5, 7, 9, 11, 13, 15] : List Nat) := by
  intro i h1 h2
  have : i = 2 ∨ i = 3 ∨ i = 4 ∨ i = 5 ∨ i = 6 ∨ i = 7 ∨ i = 8 ∨ i = 9 := by omega
  rcases this with rfl | rfl | rfl | rfl | rfl | rfl | rfl | rfl <;> exact ⟨rfl, by decide⟩
theorem newK_kd {B : Nat} (b : Nat → Nat) (fb : Nat) (ops reads works : Value) (hf : B ≤ fb) (h : ∀ i ∈ ([1, 3, 5, 7, 9, 11, 13, 15] : List Nat), B ≤ b i ∧ b i ≠ fb) (hn : ∀ i ∈ ([1, 3, 5, 7, 9, 11, 13, 15] : List Nat), ∀ j ∈ ([1, 3, 5, 7, 9, 11, 13, 15] : List Nat), i ≠ j → b i ≠ b j) : KD B (newK b fb ops reads works) := by
  refine ⟨fun i h1 h2 => ?_, fun i j h1 h2 h3 h4 hne => ?_⟩
  · by_cases e : i = 1
    · subst e; exact hf
    · obtain ⟨x, y⟩ := newK_blk b fb ops reads works i (by omega) h2
      rw [x]; exact (h _ y).1
  · by_cases e : i = 1
    · subst e
      obtain ⟨x, y⟩ := newK_blk b fb ops reads works j (by omega) h4
      rw [x]; exact fun e => (h _ y).2 e.symm
    · obtain ⟨x, y⟩ := newK_blk b fb ops reads works i (by omega) h2
      rw [x]
      by_cases e2 : j = 1
      · subst e2; exact (h _ y).2
      · obtain ⟨x2, y2⟩ := newK_blk b fb ops reads works j (by omega) h4
        rw [x2]
        exact hn _ y _ y2 (by omega)
theorem atDropF {α : Type} {l : List α} {j : Nat} {a : α} (h : l[j]? = some a) : l.drop j = a :: l.drop (j + 1) := by
  have hlt := (List.getElem?_eq_some_iff.1 h).1
  rw [List.drop_eq_getElem_cons hlt]
  rw [List.getElem?_eq_getElem hlt] at h
  rw [Option.some.inj h]

theorem info_w : (Try.prog.info? 100).map (·.size) = some 32 := by kernel_rfl
set_option maxHeartbeats 25600000 in
theorem flowOf_any (b : Nat) (t : TestM) (hk : TestOk t) (hs : ∀ l ∈ t.locs, l.1.length ≤ 1000000000) (hg : chkTest t = 0) (hn : NumOk t) (c : CtxM) (hco : CtxOk c) (rv wv : Value) (w : World) (h : TestAt w b t) (hrv : SlIn w rv 2 c.reads.length (nV c.reads)) (hwv : SlIn w wv 1 c.works.length (c.works.map Value.bool)) :
    Calls Try.prog 11 #[.pointer (some ⟨b, 0, none⟩), rv, wv] w fun e w' => ∃ K : WkB, e = .returned (.pointer (some ⟨K.fb, 0, none⟩)) ∧ FlIn w' K (memT t.thr) t.thr.length (flowM c t.thr) ∧ KD w.heap.size K ∧ Below w.heap.size w w' := by
  obtain ⟨hl4, hl8⟩ := good_len hg
  have hnn : memT t.thr ≤ 32 := by have := memT_le 8 t.thr hl8; omega
  have hins := good_insN hg hn
  have ck := fun W hW => check_test b t hk hs W hW
  rw [hg] at ck
  have co := fun W hW => ops_any b t hk W hW
  have cb := fun W => blank_any (memT t.thr) t.thr.length (by omega) (by omega) W
  have hol := opsM_len t.thr 0
  obtain ⟨lv, tv, av, h0, h1, h2, ⟨hx1, ⟨vs, hvl, hth, hvi⟩, hx2⟩⟩ := h
  obtain ⟨tp, tc, rfl⟩ := hth.slice
  obtain ⟨rp, rc, rfl⟩ := hrv.slice
  obtain ⟨wp, wc, rfl⟩ := hwv.slice
  have HT : Bx (TestAt w b t) := ⟨⟨lv, _, av, h0, h1, h2, ⟨hx1, ⟨vs, hvl, hth, hvi⟩, hx2⟩⟩⟩
  obtain ⟨R, hR⟩ : ∃ R, R = flowM c t.thr := ⟨_, rfl⟩
  rw [← hR]
  have CK := Bx.mk ck; have CO := Bx.mk co; have CB := Bx.mk cb; have HL8 := Bx.mk hl8; have HIN := Bx.mk hins; have HTH := Bx.mk hth; have HVL := Bx.mk hvl; have HVI := Bx.mk hvi; have HRV := Bx.mk hrv; have HWV := Bx.mk hwv; have HCO := Bx.mk hco; have HR := Bx.mk hR; have HOL := Bx.mk hol; have H1 := Bx.mk h1
  clear ck co cb hl8 hins hth hvl hvi hrv hwv hco hR hol h0 h1 h2 hx1 hx2 hk hs hg hn
  obtain ⟨n, hnd⟩ : ∃ n, n = memT t.thr := ⟨_, rfl⟩
  obtain ⟨m, hmd⟩ : ∃ m, m = t.thr.length := ⟨_, rfl⟩
  rw [← hnd, ← hmd] at CB
  rw [← hmd] at H1 HTH HVL hl4
  rw [← hnd] at HOL hnn
  rw [← hnd, ← hmd]
  have HND := Bx.mk hnd; have HMD := Bx.mk hmd
  clear hnd hmd
  go_enter Try.func11, Try.ntmps11
  go_upto_region 5 with (first
    | (go_at_call 6; ((with_reducible refine (CK.out _ HT.out).mono ?_); rintro e w1 ⟨rfl, hb1⟩; have B1 := Bx.mk hb1; clear hb1))
    | (go_at_call 8; ((with_reducible refine (CO.out _ (HT.out.below B1.out)).mono ?_); rintro e w2 ⟨u, rfl, hrow, hb2⟩; rw [HOL.out] at hrow; obtain ⟨up, uc, rfl⟩ := rowSlice hrow; have ROW := Bx.mk hrow; have B2 := Bx.mk (bel B1.out hb2); have q1 := cBel H1.out (bel B1.out hb2); clear hrow hb2))
    | (go_at_call 23; ((with_reducible refine (CB.out _).mono ?_); rintro e w3 ⟨bf, fb, rfl, hb3, hfb, hbf, hbn, hfo⟩; have q1 := cBel q1 hb3; have g8 := cOf hfo 8; have gf8 := tOf hfo 8; simp only [List.getElem?_toArray, List.getElem?_cons_zero, List.getElem?_cons_succ] at g8; have B3 := Bx.mk hb3; have HBF := Bx.mk hbf; have HBN := Bx.mk hbn; have HFO := Bx.mk hfo; have HFB := Bx.mk hfb; clear hb3 hbf hbn hfo hfb)))
  obtain ⟨K, hK⟩ : ∃ K, K = newK bf fb (.slice up n uc) (.slice rp c.reads.length rc) (.slice wp c.works.length wc) := ⟨_, rfl⟩
  have kd : KD w2.heap.size K := by rw [hK]; exact newK_kd _ _ _ _ _ HFB.out (fun i hi => ⟨(HBF.out i hi).1, (HBF.out i hi).2.1⟩) HBN.out
  have F3 : FlIn w3 K n m (blankM n m false) := by
    rw [hK]
    exact ⟨HFO.out, (HBF.out 1 (by decide)).2.2, (HBF.out 3 (by decide)).2.2, (HBF.out 5 (by decide)).2.2, (HBF.out 7 (by decide)).2.2, (HBF.out 9 (by decide)).2.2, (HBF.out 11 (by decide)).2.2, (HBF.out 13 (by decide)).2.2, (HBF.out 15 (by decide)).2.2⟩
  have hKe : K.fb = fb ∧ K.ops = .slice up n uc ∧ K.reads = .slice rp c.reads.length rc ∧ K.works = .slice wp c.works.length wc := by rw [hK]; exact ⟨rfl, rfl, rfl, rfl⟩
  obtain ⟨kf, ko, kr, kw⟩ := hKe
  subst kf
  have OPS : Bx (SlIn w2 K.ops 2 n ((opsM 0 t.thr).flatMap opC)) := ⟨by rw [ko]; exact (rowSlIn ROW.out).1⟩
  have RDS : Bx (SlIn w2 K.reads 2 c.reads.length (nV c.reads)) := ⟨by rw [kr]; exact HRV.out.below B2.out⟩
  have WKS : Bx (SlIn w2 K.works 1 c.works.length (c.works.map Value.bool)) := ⟨by rw [kw]; exact HWV.out.below B2.out⟩
  have KO := Bx.mk ko; have KR := Bx.mk kr; have KW := Bx.mk kw; have KDD := Bx.mk kd; have FF3 := Bx.mk F3
  clear hK kd F3 ko kr kw HFB HBF HBN HFO
  go_upto_region 6 with fail
  obtain ⟨G, hG⟩ : ∃ G, G = w3.setCell ⟨K.fb, 8, none⟩ (.bool true) := ⟨_, rfl⟩
  have FG : Bx (FlIn G K n m (blankM n m true)) := ⟨by rw [hG]; exact FF3.out.setWh KDD.out true⟩
  have BG : Bx (Below w2.heap.size w2 G) := ⟨by rw [hG]; exact belSet B3.out _ _ _ (KDD.out.ge 1 (by decide) (by decide))⟩
  rw [← hG]
  have q1 := cBel H1.out (bel B2.out BG.out)
  clear hG g8 gf8 FF3 B3 CB CO CK
  go_wp2_with fail
  go_loopw [35] (fun q wx => ∃ (k : Nat) (f : FlM), q = .int .i64 (k : Int) ∧ k ≤ m ∧ Bx (FlIn wx K n m f) ∧ Bx (FlOk n m f) ∧ Bx (Below w2.heap.size w2 wx) ∧ Bx (thrsM c (t.thr.drop k) k (memT (t.thr.take k)) f = R)) (fun q _ => m - (intOf q).toNat)
  case atStart => exact ⟨0, _, rfl, by omega, FG, ⟨blank_ok n m true⟩, BG, ⟨by rw [HR.out, HND.out, HMD.out]; simp [memT, flowM]⟩⟩
  case round =>
    obtain ⟨k, f, rfl, hkm, hF, hok, hbw, hrr⟩ := hrel
    by_cases hlt : k < m
    · obtain ⟨bb, off, c', hv, hbl, hcl⟩ := HTH.out.at (by omega)
      obtain ⟨rfl, _, rfl⟩ := Value.slice.inj hv
      obtain ⟨u, hvk⟩ : ∃ u, vs[k]? = some u := ⟨_, List.getElem?_eq_getElem (by rw [HVL.out]; exact hlt)⟩
      obtain ⟨l, hlk, hsl⟩ := HVI.out k u hvk
      obtain ⟨ip, ic, rfl⟩ := hsl.slice
      have hll := HL8.out l (List.mem_of_getElem? hlk)
      have bw0 := bel B2.out hbw.out
      have r0 : wr.cell? ⟨bb, off + k, none⟩ = some (.slice ip l.length ic) := (bw0.cell hbl).trans (hcl k _ hvk)
      have hmt := memT_take hlk
      have hmle := memT_take_le hlk
      rw [← HND.out] at hmle
      have e := hrr.out
      rw [atDropF hlk, thrsM, ← hmt] at e
      obtain ⟨E, hE⟩ : ∃ E, E = wr.alloc (.cells #[.pointer (some ⟨K.fb, 0, none⟩), .slice up n uc, .slice rp c.reads.length rc, .slice wp c.works.length wc, .int .i64 (k : Int), .bool false, .int .u64 0, .int .u64 0, .bool false, .int .u64 0, .int .u64 0, .bool false, .int .u64 0, .int .u64 0, .bool false, .int .u64 0, .int .u64 0, .bool false, .int .u64 0, .int .u64 0, .bool false, .int .u64 0, .int .u64 0, .bool false, .int .u64 0, .int .u64 0, .bool false, .int .u64 0, .int .u64 0, .int .u64 0, .int .i64 0, .int .i64 0] 100) := ⟨_, rfl⟩
      have WK : WkIn E (K.at wr.heap.size k f.whole) n m { startM f with regs := regsJ 0 } := by rw [hE]; exact hF.out.walker k (by rw [walker_cells, KO.out, KR.out, KW.out])
      have bE : Below wr.heap.size wr E := by rw [hE]; exact aset _ _
      have okk : KOk w2.heap.size (K.at wr.heap.size k f.whole) := at_ok KDD.out _ _ _ hbw.out.size (hF.out.lt)
      have cw := walk_any w2 (K.at wr.heap.size k f.whole) okk n m { startM f with regs := regsJ 0 } hok.out.wk rfl (opsM 0 t.thr) c HCO.out hlt l (.slice ip l.length ic) (by omega) (HIN.out l (List.mem_of_getElem? hlk)) (memT (t.thr.take k)) (fun j x hx hm => opIs_of hlk hx hm) hmle (by omega) E (bel hbw.out bE) WK ⟨RDS.out, WKS.out⟩ ⟨by rw [HOL.out]; exact OPS.out, by rw [HOL.out]; omega⟩ (hsl.below B2.out)
      have hsf : ({ ({ startM f with regs := regsJ 0 } : WkM) with regs := regs0 } : WkM) = startM f := rfl
      rw [hsf] at cw
      obtain ⟨k0, hk0⟩ : ∃ k0, k0 = memT (t.thr.take k) := ⟨_, rfl⟩
      rw [← hk0] at cw e hmle
      obtain ⟨S, hS⟩ : ∃ S, S = walkM c k l 0 k0 0 (startM f) := ⟨_, rfl⟩
      have hSok : WkOk n m S := by rw [hS]; exact walk_ok HCO.out k l 0 k0 0 (startM f) (HIN.out l (List.mem_of_getElem? hlk)) hmle hok.out.wk
      have hth2 : thrM c k k0 l f = ⟨S.state, S.wr, S.pair, S.place, S.value, S.fpath, S.left, f.regs.set k (valsM S.regs), f.whole && allK (valsM S.regs)⟩ := by rw [hS]; rfl
      have hfo : FlOk n m (thrM c k k0 l f) := thr_ok HCO.out k k0 l f (HIN.out l (List.mem_of_getElem? hlk)) hmle hok.out
      have cw2 : Calls Try.prog 24 #[.pointer (some ⟨wr.heap.size, 0, none⟩), .slice ip l.length ic] E fun e w' => e = .returned (.tuple #[]) ∧ WkIn w' (K.at wr.heap.size k f.whole) n m S ∧ Fp (K.at wr.heap.size k f.whole) E w' := by rw [hS]; exact cw
      have RGE : E.heap[K.rg]? = some (.cells (rgC f.regs).toArray 76 (0, 0)) := (bE.block _ (ltOf hF.out.rg)).trans hF.out.rg
      have CW := Bx.mk cw2; have OKK := Bx.mk okk; have BE := Bx.mk (bel hbw.out bE); have E2 := Bx.mk e; have SOK := Bx.mk hSok; have TH2 := Bx.mk hth2; have HFO := Bx.mk hfo; have RGE2 := Bx.mk RGE
      have hkb : ∀ i, 1 ≤ i → i < 10 → K.blk i < wr.heap.size := hF.out.lt
      have HKB := Bx.mk hkb
      have hs8 : S.regs.length = 8 := hSok.regs
      have hfl : f.regs.length = m := hok.out.rl
      have R8 := Bx.mk hok.out.r8
      clear hcl hv hvk hlk hsl bw0 e cw cw2 okk bE hsf hS hSok hth2 hfo WK RGE hF hok hbw hrr hmt hk0 hkb
      have TH : Bx ((wr.alloc (.cells #[.pointer none, .slice none 0 0, .slice none 0 0, .slice none 0 0, .int .i64 0, .bool false, .int .u64 0, .int .u64 0, .bool false, .int .u64 0, .int .u64 0, .bool false, .int .u64 0, .int .u64 0, .bool false, .int .u64 0, .int .u64 0, .bool false, .int .u64 0, .int .u64 0, .bool false, .int .u64 0, .int .u64 0, .bool false, .int .u64 0, .int .u64 0, .bool false, .int .u64 0, .int .u64 0, .int .u64 0, .int .i64 0, .int .i64 0] 100)).there wr.heap.size 0 32) := ⟨thrNew wr #[.pointer none, .slice none 0 0, .slice none 0 0, .slice none 0 0, .int .i64 0, .bool false, .int .u64 0, .int .u64 0, .bool false, .int .u64 0, .int .u64 0, .bool false, .int .u64 0, .int .u64 0, .bool false, .int .u64 0, .int .u64 0, .bool false, .int .u64 0, .int .u64 0, .bool false, .int .u64 0, .int .u64 0, .bool false, .int .u64 0, .int .u64 0, .bool false, .int .u64 0, .int .u64 0, .int .u64 0, .int .i64 0, .int .i64 0] 100⟩
      have FN : Bx ((wr.alloc (.cells #[.pointer none, .slice none 0 0, .slice none 0 0, .slice none 0 0, .int .i64 0, .bool false, .int .u64 0, .int .u64 0, .bool false, .int .u64 0, .int .u64 0, .bool false, .int .u64 0, .int .u64 0, .bool false, .int .u64 0, .int .u64 0, .bool false, .int .u64 0, .int .u64 0, .bool false, .int .u64 0, .int .u64 0, .bool false, .int .u64 0, .int .u64 0, .bool false, .int .u64 0, .int .u64 0, .int .u64 0, .int .i64 0, .int .i64 0] 100)).setCells wr.heap.size 0 (#[.pointer (some ⟨K.fb, 0, none⟩), .slice up n uc, .slice rp c.reads.length rc, .slice wp c.works.length wc, .int .i64 (k : Int), .bool false, .int .u64 0, .int .u64 0, .bool false, .int .u64 0, .int .u64 0, .bool false, .int .u64 0, .int .u64 0, .bool false, .int .u64 0, .int .u64 0, .bool false, .int .u64 0, .int .u64 0, .bool false, .int .u64 0, .int .u64 0, .bool false, .int .u64 0, .int .u64 0, .bool false, .int .u64 0, .int .u64 0, .int .u64 0, .int .i64 0, .int .i64 0] : Array Value).toList = E) := ⟨by rw [hE]; exact fillNew wr 100 _ _ rfl⟩
      have ON : Bx ((#[.pointer (some ⟨K.fb, 0, none⟩), .slice up n uc, .slice rp c.reads.length rc, .slice wp c.works.length wc, .int .i64 (k : Int), .bool false, .int .u64 0, .int .u64 0, .bool false, .int .u64 0, .int .u64 0, .bool false, .int .u64 0, .int .u64 0, .bool false, .int .u64 0, .int .u64 0, .bool false, .int .u64 0, .int .u64 0, .bool false, .int .u64 0, .int .u64 0, .bool false, .int .u64 0, .int .u64 0, .bool false, .int .u64 0, .int .u64 0, .int .u64 0, .int .i64 0, .int .i64 0] : Array Value).all (·.oneCell') = true) := ⟨by simp [Value.oneCell']⟩
      clear hE
      go_upto_region 10 with (first
        | ((with_reducible refine st_at 100 (.tmp 11) (.tmp 45) ?_); refine wpList_store_mid rfl 100 (.tmp 11) (.tmp 45) (by rfl) wr.heap.size 0 #[.pointer (some ⟨K.fb, 0, none⟩), .slice up n uc, .slice rp c.reads.length rc, .slice wp c.works.length wc, .int .i64 (k : Int), .bool false, .int .u64 0, .int .u64 0, .bool false, .int .u64 0, .int .u64 0, .bool false, .int .u64 0, .int .u64 0, .bool false, .int .u64 0, .int .u64 0, .bool false, .int .u64 0, .int .u64 0, .bool false, .int .u64 0, .int .u64 0, .bool false, .int .u64 0, .int .u64 0, .bool false, .int .u64 0, .int .u64 0, .int .u64 0, .int .i64 0, .int .i64 0] (by rfl) (by rfl) TH.out info_w ON.out ?_; rw [FN.out]))
      go_upto_region 11 with (go_at_call 24; ((with_reducible refine (CW.out).mono ?_); rintro e w6 ⟨rfl, wk6, f6⟩; have W6 := Bx.mk wk6; have F6 := Bx.mk f6; clear wk6 f6))
      have rg6 : w6.heap[K.rg]? = some (.cells (rgC f.regs).toArray 76 (0, 0)) := (F6.out.kept K.rg (ltOf RGE2.out) (fun i hi => OKK.out.nd 9 i (by omega) (by omega) (by omega))).trans RGE2.out
      have fl6 : FlIn w6 K n m ⟨S.state, S.wr, S.pair, S.place, S.value, S.fpath, S.left, f.regs, f.whole⟩ := W6.out.flow rg6
      have b6 := F6.out.below OKK.out BE.out
      have cv := fun W (hW : WkIn W (K.at wr.heap.size k f.whole) n m S) => values_any (K.at wr.heap.size k f.whole) n m S hs8 W hW
      obtain ⟨V, hV⟩ : ∃ V, V = valsM S.regs := ⟨_, rfl⟩
      rw [← hV] at cv
      have hVl : V.length = 8 := by rw [hV]; exact vals_len hs8
      have hvl : (nV V).length = 16 := by rw [nV_len, hVl]
      have IV : (Try.prog.info? 76).map (·.size) = some (nV V).length := by rw [hvl]; exact info_v8
      have IV2 : (Try.prog.info? 76).map (·.size) = some (nV V).toArray.size := by rw [IV]; simp
      have ON2 := Bx.mk (all_oneCell_toArray (nV_one V))
      have q7 : w6.cell? ⟨K.fb, 7, none⟩ = some (.slice (some ⟨K.rg, 0, none⟩) m m) := by rw [cOf fl6.fb]; rfl
      have CV : Bx (∀ W, WkIn W (K.at wr.heap.size k f.whole) n m S → Calls Try.prog 25 #[.pointer (some ⟨wr.heap.size, 0, none⟩)] W fun e w' => e = .returned (.agg (nV V).toArray) ∧ Below W.heap.size W w') := ⟨cv⟩
      have FL6 := Bx.mk fl6.drew; have B6 : Bx (Below w2.heap.size w2 w6.drew) := ⟨⟨b6.os, b6.tape, b6.output, b6.size, b6.block⟩⟩; have W6D := Bx.mk W6.out.drew; have HV := Bx.mk hV
      have hki : (k : Int) < (m : Int) := by omega
      have hki0 : (0 : Int) ≤ (k : Int) := by omega
      clear cv hV fl6 b6 rg6 W6 F6 CW
      refine wp_region_held_drew (S := fun W => W.cell? ⟨K.fb, 7, none⟩ = some (.slice (some ⟨K.rg, 0, none⟩) m m)) (by kernel_rfl) q7 (fun hHeld => ?_)
      generalize w6.drew = wd at *
      clear q7
      refine wpAnyH_take (i := 0) (v := .pointer (some ⟨K.fb, 0, none⟩)) rfl (by kernel_rfl) (by kernel_rfl) (by kernel_rfl) (fun _ _ _ h => h) (Or.inl ⟨by rfl, fun w' hw' => by go_simp; try rfl⟩) hHeld ?_
      (try simp only [Act.put, List.getElem_toArray, List.getElem_cons_zero, List.setIfInBounds_toArray, List.set_cons_zero, List.set_cons_succ])
      refine wpAnyH_take (i := 1) (v := .pointer (some ⟨K.fb, 0, none⟩)) rfl (by kernel_rfl) (by kernel_rfl) (by kernel_rfl) (fun _ _ _ h => h) (Or.inl ⟨by rfl, fun w' hw' => by go_simp; try rfl⟩) hHeld ?_
      (try simp only [Act.put, List.getElem_toArray, List.getElem_cons_succ, List.getElem_cons_zero, List.setIfInBounds_toArray, List.set_cons_zero, List.set_cons_succ])
      refine wpAnyH_take (i := 2) (v := .pointer (some ⟨K.fb, 7, none⟩)) rfl (by kernel_rfl) (by kernel_rfl) (by kernel_rfl) (fun _ _ _ h => h) (Or.inl ⟨by rfl, fun w' hw' => by go_simp; try rfl⟩) hHeld ?_
      (try simp only [Act.put, List.getElem_toArray, List.getElem_cons_succ, List.getElem_cons_zero, List.setIfInBounds_toArray, List.set_cons_zero, List.set_cons_succ])
      refine wpAnyH_take (i := 3) (v := .slice (some ⟨K.rg, 0, none⟩) m m) rfl (by kernel_rfl) (by kernel_rfl) (by kernel_rfl) (fun _ _ _ h => h) (Or.inl ⟨by rfl, fun w' hw' => by dsimp only at hw'; go_simp; try rfl⟩) hHeld ?_
      (try simp only [Act.put, List.getElem_toArray, List.getElem_cons_succ, List.getElem_cons_zero, List.setIfInBounds_toArray, List.set_cons_zero, List.set_cons_succ])
      refine wpAnyH_take (i := 4) (v := .int .i64 (k : Int)) rfl (by kernel_rfl) (by kernel_rfl) (by kernel_rfl) (fun _ _ _ h => h) (Or.inl ⟨by rfl, fun w' hw' => by go_simp; try rfl⟩) hHeld ?_
      (try simp only [Act.put, List.getElem_toArray, List.getElem_cons_succ, List.getElem_cons_zero, List.setIfInBounds_toArray, List.set_cons_zero, List.set_cons_succ])
      refine wpAnyH_ready (rs := [5]) (by kernel_rfl) (by simp) ?_
      refine AllReadyH.cons rfl (fun K' hK => ?_) AllReadyH.nil
      go_simp
      go_at_call 25
      refine (CV.out wd W6D.out).mono ?_
      rintro e w7 ⟨rfl, b7⟩
      have fl7 := FL6.out.bel b7
      have q7 : w7.cell? ⟨K.fb, 7, none⟩ = some (.slice (some ⟨K.rg, 0, none⟩) m m) := by rw [cOf fl7.fb]; rfl
      have TH7 : Bx (w7.there K.rg (k * 16) (nV V).toArray.size) := ⟨by simp only [List.size_toArray, hvl]; exact thr_rg fl7 R8.out (by show k < f.regs.length; omega)⟩
      have FL7 := Bx.mk fl7; have B7 := Bx.mk (bel B6.out b7)
      clear fl7 b7
      refine hK.out _ _ q7 (fun hHeld2 => ?_)
      clear hK K' hHeld
      (try simp only [Act.put, List.getElem_toArray, List.getElem_cons_succ, List.getElem_cons_zero, List.setIfInBounds_toArray, List.set_cons_zero, List.set_cons_succ])
      refine wpAnyH_take (i := 6) (v := .pointer (some ⟨K.rg, k * 16, none⟩)) rfl (by kernel_rfl) (by kernel_rfl) (by kernel_rfl) (fun _ _ _ h => h) (Or.inl ⟨by rfl, fun w' hw' => by go_simp; try rfl⟩) hHeld2 ?_
      (try simp only [Act.put, List.getElem_toArray, List.getElem_cons_succ, List.getElem_cons_zero, List.setIfInBounds_toArray, List.set_cons_zero, List.set_cons_succ])
      refine wpAnyH_ready (rs := [7]) (by kernel_rfl) (by simp) ?_
      refine AllReadyH.cons rfl (fun K' hK => ?_) AllReadyH.nil
      rw [if_pos (by rfl)]
      refine wp_store_mid 76 (.tmp 54) (.tmp 53) rfl K.rg (k * 16) (nV V).toArray (by rfl) (by rfl) TH7.out IV2 ON2.out ?_
      have FL8 : Bx (FlIn (w7.setCells K.rg (k * 16) (nV V).toArray.toList) K n m ⟨S.state, S.wr, S.pair, S.place, S.value, S.fpath, S.left, f.regs.set k V, f.whole⟩) := ⟨FL7.out.setRg KDD.out R8.out k (by show k < f.regs.length; omega) V hVl⟩
      have B8 : Bx (Below w2.heap.size w2 (w7.setCells K.rg (k * 16) (nV V).toArray.toList)) := ⟨belSets (KDD.out.ge 9 (by decide) (by decide)) _ _ _ B7.out⟩
      generalize w7.setCells K.rg (k * 16) (nV V).toArray.toList = w8 at *
      refine hK.out _ _ (by rw [cOf FL8.out.fb]; rfl) (fun hHeld3 => ?_)
      clear hK K' hHeld2 TH7 FL7 B7 ON2 IV2 q7
      refine wpAnyH_done (by kernel_rfl) ?_ _
      (try simp only [Act.put, List.getElem_toArray, List.getElem_cons_succ, List.getElem_cons_zero])
      have q7 : w8.cell? ⟨K.fb, 7, none⟩ = some (.slice (some ⟨K.rg, 0, none⟩) m m) := by rw [cOf FL8.out.fb]; rfl
      have q8 : w8.cell? ⟨K.fb, 8, none⟩ = some (.bool f.whole) := by rw [cOf FL8.out.fb]; rfl
      have qf8 := tOf FL8.out.fb 8
      have RNG : Bx (w8.rangeAt K.rg (k * 16) (nV V)) := ⟨rng_rg FL8.out (fun x hx => by
        rcases List.mem_or_eq_of_mem_set hx with h | rfl
        · exact R8.out x h
        · exact hVl) (by rw [List.getElem?_set_self (by omega)])⟩
      have hu2 := Try.underlying76
      have ca := Bx.mk (fun W => allKnown_any V hVl W)
      clear hHeld3
      have FIN : Bx (thrM c k k0 l f = ⟨S.state, S.wr, S.pair, S.place, S.value, S.fpath, S.left, f.regs.set k V, f.whole && allK V⟩) := ⟨by rw [TH2.out, HV.out]⟩
      have HQ7 := Bx.mk (KDD.out.ge 1 (by decide) (by decide))
      cases hwh : f.whole
      · rw [hwh] at q8 FIN
        go_wp2_with fail
        go_roundw
        case rel => exact ⟨k + 1, thrM c k k0 l f, by go_num, by omega, ⟨by rw [FIN.out]; exact FL8.out.setWh KDD.out false⟩, HFO, ⟨belSet B8.out _ _ _ HQ7.out⟩, E2⟩
        case measure => simp [intOf] <;> omega
      · rw [hwh] at q8 FIN
        obtain ⟨r, hr⟩ : ∃ r, r = allK V := ⟨_, rfl⟩
        rw [← hr] at ca FIN
        clear hr
        go_wp2_with (first
          | ((with_reducible refine ld_at 76 (.tmp 66) ?_); refine ld_wanted (by rfl) 76 (.tmp 66) (by rfl) K.rg (k * 16) (by rfl) (nV V) _ RNG.out hu2 rfl IV ?_)
          | (go_at_call 26; ((with_reducible refine (ca.out _).mono ?_); rintro e w9 ⟨rfl, b9⟩; have FL9 := Bx.mk (FL8.out.bel b9); have B9 := Bx.mk (bel B8.out b9); have qf9 := tOf FL9.out.fb 8; have q9 : w9.cell? ⟨K.fb, 8, none⟩ = some (.bool f.whole) := (by rw [cOf FL9.out.fb]; rfl); clear b9)))
        go_roundw
        case rel => exact ⟨k + 1, thrM c k k0 l f, by go_num, by omega, ⟨by rw [FIN.out]; exact FL9.out.setWh KDD.out r⟩, HFO, ⟨belSet B9.out _ _ _ HQ7.out⟩, E2⟩
        case measure => simp [intOf] <;> omega
    · have hkm2 : k = m := by omega
      have e : f = R := by
        have e := hrr.out
        rw [hkm2, HMD.out, List.drop_length] at e
        exact e
      have EE := Bx.mk e
      clear e hrr
      go_wp2_with fail
      go_ret
      exact ⟨K, rfl, by rw [← EE.out]; exact hF.out, ⟨fun i h1 h2 => Nat.le_trans B2.out.size (KDD.out.ge i h1 h2), KDD.out.nd⟩, bel B2.out hbw.out⟩
end Go.Proofs.Ytccjekgbhablpaa
namespace Go.Proofs.Ytccjekgbhablpaa
set_option maxRecDepth 100000
open Go.RowKit

theorem slNewF (w : World) (C : Array Value) (ty : TypeId) (z n : Nat) (h : C.size = n * z) : SlIn (w.alloc (.cells C ty)) (.slice (some ⟨w.heap.size, 0, none⟩) n n) z n C.toList :=
  ⟨by simpa using h, .inr ⟨_, _, _, rfl, by simp, fun i u hu => by rw [Nat.zero_add, cOf (heap_alloc_new _ _)]; simpa using hu⟩⟩
/-- a test of one thread that is made -/
theorem test1 (w : World) (n : Nat) (hn : w.heap.size = n) (L I : Array Value) (m k : Nat) (locs : List (List UInt8 × Int)) (l : List Ins) (T1 T2 T3 T4 : TypeId) (hL : L.toList = locs.flatMap locC) (hI : I.toList = l.flatMap insC) (hm : locs.length = m) (hk : l.length = k) :
    TestAt ((((w.alloc (.cells L T1)).alloc (.cells I T2)).alloc (.cells #[.slice (some ⟨n + 1, 0, none⟩) k k] T3)).alloc (.cells #[.slice (some ⟨n, 0, none⟩) m m, .slice (some ⟨n + 1 + 1, 0, none⟩) 1 1, .slice none 0 0] T4)) (n + 1 + 1 + 1) ⟨locs, [l], []⟩ := by
  subst hn hm hk
  have lenL : ∀ X : List (List UInt8 × Int), (X.flatMap locC).length = X.length * 2 := fun X => by induction X with
    | nil => rfl
    | cons x X ih => rw [List.flatMap_cons, List.length_append, ih]; simp [locC]; omega
  have lenI : ∀ X : List Ins, (X.flatMap insC).length = X.length * 13 := fun X => by induction X with
    | nil => rfl
    | cons x X ih => rw [List.flatMap_cons, List.length_append, ih]; simp [insC]; omega
  have a := slNewF w L T1 2 locs.length (by rw [← Array.length_toList, hL, lenL])
  have e1 : (w.alloc (.cells L T1)).heap.size = w.heap.size + 1 := by simp
  generalize w.alloc (.cells L T1) = w1 at *
  have b := slNewF w1 I T2 13 l.length (by rw [← Array.length_toList, hI, lenI])
  have s2 := aset w1 (.cells I T2)
  have e2 : (w1.alloc (.cells I T2)).heap.size = w1.heap.size + 1 := by simp
  generalize w1.alloc (.cells I T2) = w2 at *
  have c := slNewF w2 #[.slice (some ⟨w.heap.size + 1, 0, none⟩) l.length l.length] T3 1 1 rfl
  have s3 := aset w2 (.cells #[.slice (some ⟨w.heap.size + 1, 0, none⟩) l.length l.length] T3)
  have e3 : (w2.alloc (.cells #[.slice (some ⟨w.heap.size + 1, 0, none⟩) l.length l.length] T3)).heap.size = w2.heap.size + 1 := by simp
  generalize w2.alloc (.cells #[.slice (some ⟨w.heap.size + 1, 0, none⟩) l.length l.length] T3) = w3 at *
  have X := heap_alloc_new w3 (.cells #[.slice (some ⟨w.heap.size, 0, none⟩) locs.length locs.length, .slice (some ⟨w.heap.size + 1 + 1, 0, none⟩) 1 1, .slice none 0 0] T4)
  have s4 := aset w3 (.cells #[.slice (some ⟨w.heap.size, 0, none⟩) locs.length locs.length, .slice (some ⟨w.heap.size + 1 + 1, 0, none⟩) 1 1, .slice none 0 0] T4)
  have e4 : w3.heap.size = w.heap.size + 1 + 1 + 1 := by omega
  generalize w3.alloc (.cells #[.slice (some ⟨w.heap.size, 0, none⟩) locs.length locs.length, .slice (some ⟨w.heap.size + 1 + 1, 0, none⟩) 1 1, .slice none 0 0] T4) = w4 at *
  rw [e4] at X
  rw [hL] at a
  rw [hI, e1] at b
  rw [show w2.heap.size = w.heap.size + 1 + 1 by omega] at c
  refine ⟨_, _, _, by rw [cOf X]; rfl, by rw [cOf X]; rfl, by rw [cOf X]; rfl, a.below (bel (bel s2 s3) s4), ⟨_, rfl, c.below s4, fun i v hv => ?_⟩, ⟨rfl, .inl ⟨rfl, _, _, rfl⟩⟩⟩
  match i, hv with
  | 0, hv => simp at hv; subst hv; exact ⟨_, rfl, b.below (bel s3 s4)⟩
  | i + 1, hv => simp at hv
theorem chkMF {x : Ins} {locs foll : Int} (h1 : known x.op = true) (h2 : x = needM x) (h3 : namesM x locs = true) (h4 : fitsM x = true) (h5 : 0 ≤ x.skip) (h6 : x.skip ≤ foll) : chkM x locs foll = 0 := by
  unfold chkM
  rw [if_neg (by rintro (h | h); exact absurd (h1.symm.trans h) (by decide); exact h h2), if_neg (by rw [h3]; decide), if_neg (by rw [h4]; decide), if_neg (by omega)]
theorem chkLineC {x : Ins} {r : List Ins} {locs : Int} (h1 : chkM x locs r.length = 0) (h2 : chkLine locs r = 0) : chkLine locs (x :: r) = 0 := by
  rw [chkLine, if_pos h1]; exact h2

/-- the test of awake -/
def awkI : List Ins := [⟨9, 0, 0, false, 0, false, 0, false, false, 0, 0, 0, 0⟩, ⟨16, 0, 0, true, 0, false, 1, false, false, 0, 0, 0, 1⟩, ⟨10, 0, 1, true, 0, false, 0, false, false, 0, 0, 0, 0⟩]
def awkT : TestM := ⟨[([120], 0), ([121], 0)], [awkI], []⟩
theorem awk_good : chkTest awkT = 0 := by
  rw [chk0]
  refine ⟨by decide, by kernel_rfl, ?_, by kernel_rfl⟩
  rw [thr0]
  intro l hl
  simp only [awkT, List.mem_cons, List.not_mem_nil, or_false] at hl
  subst hl
  exact chkLineC (chkMF (by decide) rfl (by decide) (by decide) (by decide) (by decide)) (chkLineC (chkMF (by decide) rfl (by decide) (by decide) (by decide) (by decide)) (chkLineC (chkMF (by decide) rfl (by decide) (by decide) (by decide) (by decide)) rfl))
theorem awk_ok : TestOk awkT := ⟨by decide, by decide, by decide, by decide⟩
theorem awk_name : ∀ l ∈ awkT.locs, l.1.length ≤ 1000000000 := by decide
theorem awk_num : NumOk awkT := by
  intro l hl x hx
  simp only [awkT, List.mem_cons, List.not_mem_nil, or_false] at hl
  subst hl
  simp only [awkI, List.mem_cons, List.not_mem_nil, or_false] at hx
  rcases hx with rfl | rfl | rfl <;> decide
def awkC1 : CtxM := ⟨[(true, 2), (false, 0)], [false, false]⟩
def awkC2 : CtxM := ⟨[(false, 0), (false, 0)], [false, false]⟩
theorem awk_ctx1 : CtxOk awkC1 := ⟨by decide, by decide, by decide⟩
theorem awk_ctx2 : CtxOk awkC2 := ⟨by decide, by decide, by decide⟩
theorem awk_n : memT awkT.thr = 2 := rfl
theorem awk_f1 : (flowM awkC1 awkT.thr).state = [1, 1] ∧ (flowM awkC1 awkT.thr).wr = [(false, 0), (true, 2)] ∧ (flowM awkC1 awkT.thr).value = [0, 1] ∧ (flowM awkC1 awkT.thr).fpath = [0, 1] ∧ (flowM awkC1 awkT.thr).whole = true := ⟨by rfl, by rfl, by rfl, by rfl, by rfl⟩
theorem awk_f2 : (flowM awkC2 awkT.thr).state = [1, 0] ∧ (flowM awkC2 awkT.thr).whole = false := ⟨by rfl, by rfl⟩
theorem awk_cells1 {W : World} {K : WkB} (h : FlIn W K 2 1 (flowM awkC1 awkT.thr)) : W.cell? ⟨K.fb, 0, none⟩ = some (.slice (some ⟨K.st, 0, none⟩) 2 2) ∧ W.cell? ⟨K.fb, 1, none⟩ = some (.slice (some ⟨K.wr, 0, none⟩) 2 2) ∧ W.cell? ⟨K.fb, 4, none⟩ = some (.slice (some ⟨K.va, 0, none⟩) 2 2) ∧ W.cell? ⟨K.fb, 5, none⟩ = some (.slice (some ⟨K.fp, 0, none⟩) 2 2) ∧ W.cell? ⟨K.fb, 8, none⟩ = some (.bool true)
    ∧ W.cell? ⟨K.st, 1, none⟩ = some (.int .i64 1) ∧ W.cell? ⟨K.wr, 2, none⟩ = some (.bool true) ∧ W.cell? ⟨K.wr, 3, none⟩ = some (.int .u64 2) ∧ W.cell? ⟨K.va, 1, none⟩ = some (.int .u64 1) ∧ W.cell? ⟨K.fp, 1, none⟩ = some (.int .u64 1) := by
  obtain ⟨f1, f2, f3, f4, f5⟩ := awk_f1
  obtain ⟨a, b, c, _, _, d, e, _, _⟩ := h
  rw [f1] at b; rw [f2] at c; rw [f3] at d; rw [f4] at e; rw [f5] at a
  refine ⟨?_, ?_, ?_, ?_, ?_, ?_, ?_, ?_, ?_, ?_⟩
  all_goals first | rw [cOf a] | rw [cOf b] | rw [cOf c] | rw [cOf d] | rw [cOf e]
  all_goals rfl
theorem awk_cells2 {W : World} {K : WkB} (h : FlIn W K 2 1 (flowM awkC2 awkT.thr)) : W.cell? ⟨K.fb, 0, none⟩ = some (.slice (some ⟨K.st, 0, none⟩) 2 2) ∧ W.cell? ⟨K.fb, 8, none⟩ = some (.bool false) ∧ W.cell? ⟨K.st, 1, none⟩ = some (.int .i64 0) := by
  obtain ⟨f1, f2⟩ := awk_f2
  obtain ⟨a, b, _⟩ := h
  rw [f1] at b; rw [f2] at a
  refine ⟨?_, ?_, ?_⟩
  all_goals first | rw [cOf a] | rw [cOf b]
  all_goals rfl
theorem made_bool (n : Nat) : madeCells (Value.bool false).cells (n * 1) = ((List.replicate n false).map Value.bool).toArray := by
  apply Array.ext_getElem?
  intro j
  by_cases hj : j < n
  · simp [madeCells, hj, Value.cells, Nat.mod_one]
  · simp [madeCells, hj]
theorem info_mb : (Try.prog.info? 4).map (fun i => (i.zero, i.size, i.bytes)) = some (some (.bool false), 1, 1) := by kernel_rfl
set_option maxHeartbeats 12800000 in
theorem awake13_any (w : World) :
    Calls Try.prog 5 #[] w fun e w' => e = .returned (.bool true) ∧ Below w.heap.size w w' := by
  have k3 : ∀ W : World, (Instr.makeSlice 27 (.int .i64 2) (.int .i64 2)).run Try.prog W = .ok (.slice (some ⟨W.heap.size, 0, none⟩) 2 2) (W.alloc (.cells #[.bool false, .int .u64 0, .bool false, .int .u64 0] 74)) := fun W => by
    have := mk_row (T := 27) Try.underlying27 info_mv (by decide) 2 (by decide) W
    rw [made_val] at this
    exact this
  have k4 : ∀ W : World, (Instr.makeSlice 28 (.int .i64 2) (.int .i64 2)).run Try.prog W = .ok (.slice (some ⟨W.heap.size, 0, none⟩) 2 2) (W.alloc (.cells #[.bool false, .bool false] 4)) := fun W => by
    have := mk_row (T := 28) Try.underlying28 info_mb (by decide) 2 (by decide) W
    rw [made_bool] at this
    exact this
  have C1 := Bx.mk (fun b rv wv W (h : TestAt W b awkT) hr hw => flowOf_any b awkT awk_ok awk_name awk_good awk_num awkC1 awk_ctx1 rv wv W h hr hw)
  have C2 := Bx.mk (fun b rv wv W (h : TestAt W b awkT) hr hw => flowOf_any b awkT awk_ok awk_name awk_good awk_num awkC2 awk_ctx2 rv wv W h hr hw)
  obtain ⟨E, hE⟩ : ∃ E, E = (((w.alloc (.cells #[.string ⟨#[120]⟩, .int .u64 0, .string ⟨#[121]⟩, .int .u64 0] 80)).alloc (.cells #[.int .i64 9, .int .i64 0, .int .i64 0, .bool false, .int .u64 0, .bool false, .int .u64 0, .bool false, .bool false, .int .i64 0, .int .i64 0, .int .i64 0, .int .i64 0, .int .i64 16, .int .i64 0, .int .i64 0, .bool true, .int .u64 0, .bool false, .int .u64 1, .bool false, .bool false, .int .i64 0, .int .i64 0, .int .i64 0, .int .i64 1, .int .i64 10, .int .i64 0, .int .i64 1, .bool true, .int .u64 0, .bool false, .int .u64 0, .bool false, .bool false, .int .i64 0, .int .i64 0, .int .i64 0, .int .i64 0] 84)).alloc (.cells #[.slice (some ⟨w.heap.size + 1, 0, none⟩) 3 3] 81)).alloc (.cells #[.slice (some ⟨w.heap.size, 0, none⟩) 2 2, .slice (some ⟨w.heap.size + 1 + 1, 0, none⟩) 1 1, .slice none 0 0] 26) := ⟨_, rfl⟩
  have T0 : TestAt E (w.heap.size + 1 + 1 + 1) awkT := by rw [hE]; exact test1 w _ rfl _ _ 2 3 _ awkI _ _ _ _ rfl rfl rfl rfl
  have B0 : Below w.heap.size w E := by rw [hE]; exact bel (bel (bel (aset _ _) (aset _ _)) (aset _ _)) (aset _ _)
  have S1 : SlIn ((E.alloc (.cells #[.bool true, .int .u64 2, .bool false, .int .u64 0] 74)).alloc (.cells #[.bool false, .bool false] 4)) (.slice (some ⟨E.heap.size, 0, none⟩) 2 2) 2 2 (nV awkC1.reads) := (slNewF E #[.bool true, .int .u64 2, .bool false, .int .u64 0] 74 2 2 rfl).below (aset _ _)
  have S2 : SlIn ((E.alloc (.cells #[.bool true, .int .u64 2, .bool false, .int .u64 0] 74)).alloc (.cells #[.bool false, .bool false] 4)) (.slice (some ⟨E.heap.size + 1, 0, none⟩) 2 2) 1 2 (awkC1.works.map Value.bool) := by
    have := slNewF (E.alloc (.cells #[.bool true, .int .u64 2, .bool false, .int .u64 0] 74)) #[.bool false, .bool false] 4 1 2 rfl
    simpa [awkC1] using this
  have B1 : Below E.heap.size E ((E.alloc (.cells #[.bool true, .int .u64 2, .bool false, .int .u64 0] 74)).alloc (.cells #[.bool false, .bool false] 4)) := bel (aset _ _) (aset _ _)
  have HT := Bx.mk T0; have HB0 := Bx.mk B0; have HS1 := Bx.mk S1; have HS2 := Bx.mk S2; have HB1 := Bx.mk B1
  clear T0 B0 S1 S2 B1
  go_enter Try.func5, Try.ntmps5
  go_upto_region 2 with fail
  rw [← hE]
  clear hE
  go_upto_region 3 with (go_at_call 11; ((with_reducible refine (C1.out _ _ _ _ (HT.out.below HB1.out) HS1.out HS2.out).mono ?_); rintro e w5 ⟨K1, rfl, f1, _, b5⟩; have F1 := Bx.mk f1; have HB5 := Bx.mk (bel HB1.out b5); clear f1 b5))
  have hb5 := ltOf F1.out.fb
  obtain ⟨TF, hTF⟩ : ∃ TF, TF = flowM awkC1 awkT.thr := ⟨_, rfl⟩
  have BE5 := Bx.mk (bel HB0.out HB5.out)
  have HT5 := Bx.mk (HT.out.below HB5.out)
  have A1 : ∀ W : World, SlIn ((W.alloc (.cells #[.bool false, .int .u64 0, .bool false, .int .u64 0] 74)).alloc (.cells #[.bool false, .bool false] 4)) (.slice (some ⟨W.heap.size, 0, none⟩) 2 2) 2 2 (nV awkC2.reads) := fun W => (slNewF W #[.bool false, .int .u64 0, .bool false, .int .u64 0] 74 2 2 rfl).below (aset _ _)
  have A2 : ∀ W : World, SlIn ((W.alloc (.cells #[.bool false, .int .u64 0, .bool false, .int .u64 0] 74)).alloc (.cells #[.bool false, .bool false] 4)) (.slice (some ⟨W.heap.size + 1, 0, none⟩) 2 2) 1 2 (awkC2.works.map Value.bool) := fun W => by
    have := slNewF (W.alloc (.cells #[.bool false, .int .u64 0, .bool false, .int .u64 0] 74)) #[.bool false, .bool false] 4 1 2 rfl
    simpa [awkC2] using this
  have A3 : ∀ W : World, SlIn ((W.alloc (.cells #[.bool false, .bool false] 4)).alloc (.cells #[.bool false, .int .u64 0, .bool false, .int .u64 0] 74)) (.slice (some ⟨W.heap.size + 1, 0, none⟩) 2 2) 2 2 (nV awkC2.reads) := fun W => by
    have := slNewF (W.alloc (.cells #[.bool false, .bool false] 4)) #[.bool false, .int .u64 0, .bool false, .int .u64 0] 74 2 2 rfl
    simpa [awkC2, nV, vC] using this
  have A4 : ∀ W : World, SlIn ((W.alloc (.cells #[.bool false, .bool false] 4)).alloc (.cells #[.bool false, .int .u64 0, .bool false, .int .u64 0] 74)) (.slice (some ⟨W.heap.size, 0, none⟩) 2 2) 1 2 (awkC2.works.map Value.bool) := fun W => (slNewF W #[.bool false, .bool false] 4 1 2 rfl).below (aset _ _)
  have AA := Bx.mk A1; have AB := Bx.mk A2; have AC := Bx.mk A3; have AD := Bx.mk A4
  clear A1 A2 A3 A4 hTF
  have L2 : Bx (∀ (W : World) (u v : Obj), Below W.heap.size W ((W.alloc u).alloc v)) := ⟨fun W u v => bel (aset _ _) (aset _ _)⟩
  have D5 : Bx (∀ W : World, Below W.heap.size W W.drew) := ⟨fun W => ⟨rfl, rfl, rfl, Nat.le_refl _, fun _ _ => rfl⟩⟩
  go_region_held3 (fun _ => True) (trivial)
    (first
      | (go_at_call 11; ((with_reducible refine (C2.out _ _ _ _ ((HT5.out.below (L2.out _ _ _)).below (D5.out _)) ((AA.out _).below (D5.out _)) ((AB.out _).below (D5.out _))).mono ?_); rintro e w6 ⟨K2, rfl, f2, _, b6⟩; have b56 := bel (bel (L2.out w5 _ _) (D5.out _)) b6; have F1' := F1.out.bel b56; have BE6 := Bx.mk (bel BE5.out b56); obtain ⟨c0, c1, c2, c3, c4, c5, c6, c7, c8, c9⟩ := awk_cells1 F1'; obtain ⟨d0, d1, d2⟩ := awk_cells2 f2; clear b6 b56 f2 F1'))
      | (go_at_call 11; ((with_reducible refine (C2.out _ _ _ _ ((HT5.out.below (L2.out _ _ _)).below (D5.out _)) ((AC.out _).below (D5.out _)) ((AD.out _).below (D5.out _))).mono ?_); rintro e w6 ⟨K2, rfl, f2, _, b6⟩; have b56 := bel (bel (L2.out w5 _ _) (D5.out _)) b6; have F1' := F1.out.bel b56; have BE6 := Bx.mk (bel BE5.out b56); obtain ⟨c0, c1, c2, c3, c4, c5, c6, c7, c8, c9⟩ := awk_cells1 F1'; obtain ⟨d0, d1, d2⟩ := awk_cells2 f2; clear b6 b56 f2 F1')))
  all_goals
    go_wp2_with fail
    go_ret
    exact ⟨rfl, BE6.out⟩
end Go.Proofs.Ytccjekgbhablpaa
