/- The flow of a good test: bounds; where a flow lies. -/
import Derived.Test.YteeicedhnojdaaaFloP
import Derived.Test.YteeicedhnojdaaaFloL
import Derived.Test.YteeicedhnojdaaaLitX
namespace Go.Proofs.Yteeicedhnojdaaa
set_option maxRecDepth 100000
open Go.RowKit

/-- numbers that an uint64 holds -/
def NumOk (t : TestM) : Prop := ∀ l ∈ t.thr, ∀ x ∈ l, (0 ≤ x.an ∧ x.an < 18446744073709551616) ∧ (0 ≤ x.bn ∧ x.bn < 18446744073709551616)
theorem good_len {u : TestM} (h : chkTest u = 0) : u.thr.length ≤ 4 ∧ ∀ l ∈ u.thr, l.length ≤ 8 := by
  obtain ⟨hs, _, _, _⟩ := (chk0 u).1 h
  obtain ⟨_, h2, _, _, h5, _⟩ := (sizes0 u).1 hs
  exact ⟨h2, h5⟩
theorem good_insN {u : TestM} (h : chkTest u = 0) (hn : NumOk u) : ∀ l ∈ u.thr, ∀ x ∈ l, InsN x := by
  obtain ⟨_, _, ht, _⟩ := (chk0 u).1 h
  intro l hl x hx
  have h1 := (line0 _ l).1 ((thr0 _ _).1 ht l hl)
  obtain ⟨i, hi⟩ := List.mem_iff_getElem?.1 hx
  have h2 := h1 i x hi
  have hsk := chkM_skip _ _ _ h2
  have hll := (good_len h).2 l hl
  have hil := (List.getElem?_eq_some_iff.1 hi).1
  have hnn : namesM x (u.locs.length : Int) = true := by
    unfold chkM at h2
    split at h2
    · omega
    · split at h2
      · omega
      · rename_i hn
        cases hc : namesM x (u.locs.length : Int) with
        | true => rfl
        | false => exact absurd hc hn
  unfold namesM at hnn
  simp only [Bool.and_eq_true] at hnn
  obtain ⟨_, ⟨⟨h3, h4⟩, h5⟩, h6⟩ := hnn
  unfold idx at h3 h6
  unfold argOk at h4 h5
  simp only [Bool.and_eq_true, decide_eq_true_eq, Bool.or_eq_true, Bool.not_eq_true'] at h3 h4 h5 h6
  refine ⟨(hn l hl x hx).1, (hn l hl x hx).2, fun e => ?_, fun e => ?_, h3, ⟨h6.1, by omega⟩, ⟨hsk.1, by omega⟩⟩
  · rcases h4 with h4 | h4
    · rw [h4] at e; cases e
    · exact h4
  · rcases h5 with h5 | h5
    · rw [h5] at e; cases e
    · exact h5
theorem walk_ok {n m : Nat} {c : CtxM} (hc : CtxOk c) (i : Nat) : ∀ (l : List Ins) (at' k skip : Nat) (s : WkM), (∀ x ∈ l, InsN x) → k + memL l ≤ n → WkOk n m s → WkOk n m (walkM c i l at' k skip s)
  | [], _, _, _, _, _, _, hs => hs
  | x :: l, at', k, skip, s, hx, hk, hs => by
    have hm : memL (x :: l) = (if isMem x.op then 1 else 0) + memL l := by
      unfold memL
      rw [List.filter_cons]
      split <;> simp <;> omega
    rw [hm] at hk
    have hx0 := hx x (by simp)
    have hx1 : ∀ y ∈ l, InsN y := fun y hy => hx y (by simp [hy])
    rw [walkM]
    split
    · refine walk_ok hc i l _ _ _ _ hx1 ?_ (ok_leave hs _ _ _ _)
      cases h : isMem x.op <;> simp [h] at hk ⊢ <;> omega
    · split
      · rename_i h
        rw [h] at hk
        simp at hk
        exact walk_ok hc i l _ _ _ _ hx1 (by omega) (ok_acc hs hc (by omega) x)
      · have hk2 : k + memL l ≤ n := by omega
        split
        · split
          · exact walk_ok hc i l _ _ _ _ hx1 hk2 (ok_br hs hx0)
          · exact ok_br hs hx0
        · split
          · exact walk_ok hc i l _ _ _ _ hx1 hk2 (ok_comp hs hx0)
          · exact walk_ok hc i l _ _ _ _ hx1 hk2 hs
/-- sizes and bounds of a flow -/
structure FlOk (n m : Nat) (f : FlM) : Prop where
  wk : WkOk n m (startM f)
  rl : f.regs.length = m
  r8 : ∀ l ∈ f.regs, l.length = 8
theorem vals_len {l : List Cn} (h : l.length = 8) : (valsM l).length = 8 := by simp [valsM, h]
theorem thr_ok {n m : Nat} {c : CtxM} (hc : CtxOk c) (i k : Nat) (l : List Ins) (f : FlM) (hx : ∀ x ∈ l, InsN x) (hk : k + memL l ≤ n) (h : FlOk n m f) : FlOk n m (thrM c i k l f) := by
  have h1 := walk_ok (m := m) hc i l 0 k 0 (startM f) hx hk h.wk
  refine ⟨⟨rfl, regs0_ok, show (0 : Nat) < 18446744073709551616 by decide, Nat.zero_le _, h1.state, h1.wr, h1.pair, h1.place, h1.value, h1.fpath, h1.left, h1.lok⟩, ?_, ?_⟩
  · show (f.regs.set i _).length = m
    rw [List.length_set]; exact h.rl
  · intro x hx2
    rcases List.mem_or_eq_of_mem_set hx2 with h2 | rfl
    · exact h.r8 x h2
    · exact vals_len h1.regs
theorem blank_ok (n m : Nat) (b : Bool) : FlOk n m (blankM n m b) := by
  refine ⟨⟨rfl, regs0_ok, show (0 : Nat) < 18446744073709551616 by decide, Nat.zero_le _, by simp [startM, blankM], by simp [startM, blankM], by simp [startM, blankM], by simp [startM, blankM], by simp [startM, blankM], by simp [startM, blankM], by simp [startM, blankM], ?_⟩, by simp [blankM], ?_⟩
  · intro x hx
    have : x ∈ List.replicate m 0 := hx
    rw [List.eq_of_mem_replicate this]; decide
  · intro l hl
    have : l ∈ List.replicate m (List.replicate 8 (false, 0)) := hl
    rw [List.eq_of_mem_replicate this]; rfl

/-- where a flow lies -/
structure FlIn (W : World) (K : WkB) (n m : Nat) (f : FlM) : Prop where
  fb : W.heap[K.fb]? = some (.cells (flC { K with wh := f.whole } n m).toArray 68 (0, 0))
  st : W.heap[K.st]? = some (.cells (nI f.state).toArray 3 (0, 0))
  wr : W.heap[K.wr]? = some (.cells (nV f.wr).toArray 74 (0, 0))
  pr : W.heap[K.pr]? = some (.cells (nI f.pair).toArray 3 (0, 0))
  pl : W.heap[K.pl]? = some (.cells (nU f.place).toArray 46 (0, 0))
  va : W.heap[K.va]? = some (.cells (nU f.value).toArray 46 (0, 0))
  fp : W.heap[K.fp]? = some (.cells (nU f.fpath).toArray 46 (0, 0))
  lf : W.heap[K.lf]? = some (.cells (nU f.left).toArray 46 (0, 0))
  rg : W.heap[K.rg]? = some (.cells (rgC f.regs).toArray 76 (0, 0))
theorem FlIn.keep {W W' : World} {K : WkB} {n m : Nat} {f : FlM} (h : FlIn W K n m f) (hk : ∀ b, b < W.heap.size → W'.heap[b]? = W.heap[b]?) : FlIn W' K n m f :=
  ⟨(hk _ (ltOf h.fb)).trans h.fb, (hk _ (ltOf h.st)).trans h.st, (hk _ (ltOf h.wr)).trans h.wr, (hk _ (ltOf h.pr)).trans h.pr, (hk _ (ltOf h.pl)).trans h.pl, (hk _ (ltOf h.va)).trans h.va, (hk _ (ltOf h.fp)).trans h.fp, (hk _ (ltOf h.lf)).trans h.lf, (hk _ (ltOf h.rg)).trans h.rg⟩
theorem FlIn.bel {W W' : World} {K : WkB} {n m : Nat} {f : FlM} (h : FlIn W K n m f) (hb : Below W.heap.size W W') : FlIn W' K n m f := h.keep fun b hl => hb.block b hl
theorem FlIn.drew {W : World} {K : WkB} {n m : Nat} {f : FlM} (h : FlIn W K n m f) : FlIn W.drew K n m f := h.keep fun _ _ => rfl
/-- its blocks are others -/
structure KD (B : Nat) (K : WkB) : Prop where
  ge : ∀ i, 1 ≤ i → i < 10 → B ≤ K.blk i
  nd : ∀ i j, 1 ≤ i → i < 10 → 1 ≤ j → j < 10 → i ≠ j → K.blk i ≠ K.blk j
theorem FlIn.lt {W : World} {K : WkB} {n m : Nat} {f : FlM} (h : FlIn W K n m f) : ∀ i, 1 ≤ i → i < 10 → K.blk i < W.heap.size
  | 0, h0, _ => by omega
  | 1, _, _ => ltOf h.fb
  | 2, _, _ => ltOf h.st
  | 3, _, _ => ltOf h.wr
  | 4, _, _ => ltOf h.pr
  | 5, _, _ => ltOf h.pl
  | 6, _, _ => ltOf h.va
  | 7, _, _ => ltOf h.fp
  | 8, _, _ => ltOf h.lf
  | 9, _, _ => ltOf h.rg
  | _ + 10, _, hi => by omega
/-- a walker's blocks -/
def WkB.at (K : WkB) (kb thr : Nat) (wh : Bool) : WkB := { K with kb := kb, thr := thr, wh := wh }
theorem at_blk (K : WkB) (kb thr : Nat) (wh : Bool) : ∀ i, 1 ≤ i → (K.at kb thr wh).blk i = K.blk i
  | 0, h => by omega
  | 1, _ => rfl
  | 2, _ => rfl
  | 3, _ => rfl
  | 4, _ => rfl
  | 5, _ => rfl
  | 6, _ => rfl
  | 7, _ => rfl
  | 8, _ => rfl
  | 9, _ => rfl
  | _ + 10, _ => rfl
theorem at_ok {B : Nat} {K : WkB} (h : KD B K) (kb thr : Nat) (wh : Bool) (hB : B ≤ kb) (hkb : ∀ i, 1 ≤ i → i < 10 → K.blk i < kb) : KOk B (K.at kb thr wh) := by
  refine ⟨fun i hi => ?_, fun i j hi hj hne => ?_⟩
  · by_cases h0 : i = 0
    · subst h0; exact hB
    · rw [at_blk K kb thr wh i (by omega)]; exact h.ge i (by omega) hi
  · by_cases h0 : i = 0
    · subst h0
      rw [at_blk K kb thr wh j (by omega)]
      have := hkb j (by omega) hj
      show kb ≠ _
      omega
    · rw [at_blk K kb thr wh i (by omega)]
      by_cases h1 : j = 0
      · subst h1
        have := hkb i (by omega) hi
        show _ ≠ kb
        omega
      · rw [at_blk K kb thr wh j (by omega)]
        exact h.nd i j (by omega) hi (by omega) hj hne
theorem flC_set (K : WkB) (n m : Nat) (a b : Bool) : (flC { K with wh := a } n m).toArray.setIfInBounds 8 (.bool b) = (flC { K with wh := b } n m).toArray := rfl
theorem FlIn.setWh {W : World} {K : WkB} {B n m : Nat} {f : FlM} (kd : KD B K) (h : FlIn W K n m f) (b : Bool) : FlIn (W.setCell ⟨K.fb, 8, none⟩ (.bool b)) K n m { f with whole := b } := by
  have q : ∀ i, 2 ≤ i → i < 10 → K.blk i ≠ K.fb := fun i h1 h2 => kd.nd i 1 (by omega) h2 (by omega) (by omega) (by omega)
  exact ⟨by rw [heapSet' h.fb, flC_set], (hset (q 2 (by omega) (by omega))).trans h.st, (hset (q 3 (by omega) (by omega))).trans h.wr, (hset (q 4 (by omega) (by omega))).trans h.pr, (hset (q 5 (by omega) (by omega))).trans h.pl, (hset (q 6 (by omega) (by omega))).trans h.va, (hset (q 7 (by omega) (by omega))).trans h.fp, (hset (q 8 (by omega) (by omega))).trans h.lf, (hset (q 9 (by omega) (by omega))).trans h.rg⟩
theorem rgC_len {l : List (List (Bool × Nat))} (h : ∀ x ∈ l, x.length = 8) : (rgC l).length = l.length * 16 := by
  unfold rgC
  induction l with
  | nil => rfl
  | cons a l ih =>
    rw [List.flatMap_cons, List.length_append, ih (fun x hx => h x (by simp [hx])), nV_len, h a (by simp), List.length_cons]; omega
theorem rgC_split {l : List (List (Bool × Nat))} {k : Nat} {v : List (Bool × Nat)} (h : l[k]? = some v) : rgC l = rgC (l.take k) ++ nV v ++ rgC (l.drop (k + 1)) := by
  have hk := (List.getElem?_eq_some_iff.1 h).1
  have e : l = l.take k ++ v :: l.drop (k + 1) := by
    conv => lhs; rw [← List.take_append_drop k l]
    rw [List.drop_eq_getElem_cons hk]
    rw [List.getElem?_eq_getElem hk] at h
    rw [Option.some.inj h]
  conv => lhs; rw [e]
  unfold rgC
  rw [List.flatMap_append, List.flatMap_cons, List.append_assoc]
theorem rgC_set {l : List (List (Bool × Nat))} {k : Nat} (v : List (Bool × Nat)) (hk : k < l.length) : rgC (l.set k v) = rgC (l.take k) ++ nV v ++ rgC (l.drop (k + 1)) := by
  have h : (l.set k v)[k]? = some v := by rw [List.getElem?_set_self hk]
  rw [rgC_split h]
  congr 2
  · rw [List.take_set_of_le (Nat.le_refl k)]
  · rw [List.drop_set_of_lt (by omega)]
theorem FlIn.setRg {W : World} {K : WkB} {B n m : Nat} {f : FlM} (kd : KD B K) (h : FlIn W K n m f) (r8 : ∀ x ∈ f.regs, x.length = 8) (k : Nat) (hk : k < f.regs.length) (v : List (Bool × Nat)) (hv : v.length = 8) : FlIn (W.setCells K.rg (k * 16) (nV v)) K n m { f with regs := f.regs.set k v } := by
  have q : ∀ i, 1 ≤ i → i < 9 → K.blk i ≠ K.rg := fun i h1 h2 => kd.nd i 9 (by omega) (by omega) (by omega) (by omega) (by omega)
  have e : (W.setCells K.rg (k * 16) (nV v)).heap[K.rg]? = some (.cells (rgC (f.regs.set k v)).toArray 76 (0, 0)) := by
    obtain ⟨z, hz⟩ : ∃ z, f.regs[k]? = some z := ⟨_, List.getElem?_eq_getElem hk⟩
    have hzl := r8 z (List.mem_of_getElem? hz)
    have h1 := h.rg
    rw [rgC_split hz] at h1
    have h2 := heapSets (nV v) W (rgC (f.regs.take k)) (nV z) (rgC (f.regs.drop (k + 1))) (by rw [nV_len, nV_len, hv, hzl]) h1
    rw [rgC_len (fun x hx => r8 x (List.mem_of_mem_take hx)), List.length_take, Nat.min_eq_left (by omega)] at h2
    rw [h2, rgC_set v hk]
  exact ⟨(heapSets' (q 1 (by omega) (by omega)) _ _ _).trans h.fb, (heapSets' (q 2 (by omega) (by omega)) _ _ _).trans h.st, (heapSets' (q 3 (by omega) (by omega)) _ _ _).trans h.wr, (heapSets' (q 4 (by omega) (by omega)) _ _ _).trans h.pr, (heapSets' (q 5 (by omega) (by omega)) _ _ _).trans h.pl, (heapSets' (q 6 (by omega) (by omega)) _ _ _).trans h.va, (heapSets' (q 7 (by omega) (by omega)) _ _ _).trans h.fp, (heapSets' (q 8 (by omega) (by omega)) _ _ _).trans h.lf, e⟩
theorem rng_rg {W : World} {K : WkB} {n m : Nat} {f : FlM} (h : FlIn W K n m f) (r8 : ∀ x ∈ f.regs, x.length = 8) {k : Nat} {v : List (Bool × Nat)} (hv : f.regs[k]? = some v) : W.rangeAt K.rg (k * 16) (nV v) := fun j u hu => by
  have hk := (List.getElem?_eq_some_iff.1 hv).1
  have hj := (List.getElem?_eq_some_iff.1 hu).1
  rw [cOf h.rg, rgC_split hv, List.getElem?_toArray]
  have hl : (rgC (f.regs.take k)).length = k * 16 := by rw [rgC_len (fun x hx => r8 x (List.mem_of_mem_take hx)), List.length_take, Nat.min_eq_left (by omega)]
  rw [List.append_assoc, List.getElem?_append_right (by omega), hl, Nat.add_sub_cancel_left, List.getElem?_append_left hj]
  exact hu
theorem thr_rg {W : World} {K : WkB} {n m : Nat} {f : FlM} (h : FlIn W K n m f) (r8 : ∀ x ∈ f.regs, x.length = 8) {k : Nat} (hk : k < f.regs.length) : W.there K.rg (k * 16) 16 :=
  thrOf h.rg (by simp [rgC_len r8]; omega)
/-- a walker that begins -/
theorem FlIn.walker {W : World} {K : WkB} {n m : Nat} {f : FlM} (h : FlIn W K n m f) (k : Nat) {o : Obj} (ho : o = .cells (wkC (K.at W.heap.size k f.whole) { startM f with regs := regsJ 0 }).toArray 104) :
    WkIn (W.alloc o) (K.at W.heap.size k f.whole) n m { startM f with regs := regsJ 0 } := by
  have b := aset W o
  refine ⟨?_, ?_, (b.block _ (ltOf h.st)).trans h.st, (b.block _ (ltOf h.wr)).trans h.wr, (b.block _ (ltOf h.pr)).trans h.pr, (b.block _ (ltOf h.pl)).trans h.pl, (b.block _ (ltOf h.va)).trans h.va, (b.block _ (ltOf h.fp)).trans h.fp, (b.block _ (ltOf h.lf)).trans h.lf⟩
  · rw [ho]; exact heap_alloc_new _ _
  · exact (b.block _ (ltOf h.fb)).trans h.fb
/-- what a walker leaves is a flow -/
theorem WkIn.flow {W : World} {K : WkB} {n m : Nat} {s : WkM} {kb k : Nat} {f : FlM} (h : WkIn W (K.at kb k f.whole) n m s) (hr : W.heap[K.rg]? = some (.cells (rgC f.regs).toArray 76 (0, 0))) :
    FlIn W K n m ⟨s.state, s.wr, s.pair, s.place, s.value, s.fpath, s.left, f.regs, f.whole⟩ :=
  ⟨h.fb, h.st, h.wr, h.pr, h.pl, h.va, h.fp, h.lf, hr⟩
end Go.Proofs.Yteeicedhnojdaaa
