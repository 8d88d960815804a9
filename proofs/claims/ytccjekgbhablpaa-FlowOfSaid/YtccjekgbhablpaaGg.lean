/- ReH, ReG, ReI, ReJ, ReK, in one text. -/
import Derived.Test.YtccjekgbhablpaaGf
import Derived.Test.YtccjekgbhablpaaGe
namespace Go.Proofs.Ytccjekgbhablpaa
set_option maxRecDepth 100000
open Go.RowKit

/-- what the program knows of Op j -/
def factAt (w : WkM) (j : Nat) : Fx := ⟨w.state.getD j 0, w.pair.getD j 0, (w.wr.getD j (false, 0)).1, (w.wr.getD j (false, 0)).2, w.place.getD j 0, w.value.getD j 0, w.fpath.getD j 0⟩
def fx0 : Fx := ⟨0, 0, false, 0, 0, 0, 0⟩
/-- the last Lr or Sc -/
def LastR (os : List (Nat × Nat × Ins)) (lrOp : Nat) (lrLoc : Int) (last : Nat) : Prop :=
  (lrOp = 0 ∧ lrLoc = 0 ∧ ∀ loc, lastIs os last loc = false) ∨ (0 < lrOp ∧ last = lrOp ∧ ∀ loc, lastIs os last loc = decide (lrLoc = loc))
structure Cor (os : List (Nat × Nat × Ins)) (i n m k : Nat) (w : WkM) (s : RefSt) : Prop where
  regs : s.regs = w.regs
  path : s.path = w.path
  left : s.left = w.left.getD i 0
  facts : s.facts = (List.range n).map (factAt w)
  fut : ∀ j, k ≤ j → factAt w j = fx0
  zero : ∀ c ∈ w.regs, c.k = false → c.v = 0
  last : LastR os w.lrOp w.lrLoc s.last
  lens : w.state.length = n ∧ w.wr.length = n ∧ w.pair.length = n ∧ w.place.length = n ∧ w.value.length = n ∧ w.fpath.length = n
  llen : w.left.length = m
  r8 : w.regs.length = 8
theorem getD_set {α : Type} (l : List α) (k j : Nat) (v d : α) (hk : k < l.length) : (l.set k v).getD j d = if j = k then v else l.getD j d := by
  rw [List.getD_eq_getElem?_getD, List.getD_eq_getElem?_getD, List.getElem?_set]
  by_cases e : k = j
  · subst e; simp [hk]
  · have e' : ¬ j = k := Ne.symm e
    simp [e, e']
theorem facts_set {f g : Nat → Fx} {n k : Nat} (h : ∀ j, j ≠ k → g j = f j) (F : Fx) (hF : k < n → g k = F) : (List.range n).map g = ((List.range n).map f).set k F := by
  apply List.ext_getElem?
  intro j
  rw [List.getElem?_set]
  by_cases e : k = j
  · subst e
    by_cases hn : k < n
    · simp [hn, hF hn]
    · simp [hn]
  · rw [if_neg e]
    simp only [List.getElem?_map]
    by_cases hn : j < n
    · simp [List.getElem?_range hn, h j (Ne.symm e)]
    · simp [hn]
theorem cnAt_zero {l : List Cn} (h : ∀ c ∈ l, c.k = false → c.v = 0) (i : Nat) (hk : (cnAt l i).k = false) : (cnAt l i).v = 0 := by
  unfold cnAt at *
  rw [List.getD_eq_getElem?_getD] at *
  cases e : l[i]? with
  | none => rw [e] at hk; simp at hk
  | some c => rw [e] at hk; simp at hk ⊢; exact h c (List.mem_of_getElem? e) hk
theorem arg_zero {w : WkM} (h : ∀ c ∈ w.regs, c.k = false → c.v = 0) (r : Bool) (n : Nat) (hk : (argM w r n).k = false) : (argM w r n).v = 0 := by
  unfold argM at *
  cases r
  · simp [numC0] at hk
  · exact cnAt_zero h n hk
theorem zero_set {l : List Cn} (h : ∀ c ∈ l, c.k = false → c.v = 0) {j : Nat} {c : Cn} (hc : c.k = false → c.v = 0) : ∀ d ∈ l.set j c, d.k = false → d.v = 0 := by
  intro d hd
  rcases List.mem_or_eq_of_mem_set hd with hd | rfl
  · exact h d hd
  · exact hc
/-- what is given, as the reference has it: a number that isn't known is 0 for the program -/
def rdK (c : CtxM) (k : Nat) : Bool := (c.reads.getD k (false, 0)).1
def rdV (c : CtxM) (k : Nat) : Nat := (c.reads.getD k (false, 0)).2
theorem readM_eq (c : CtxM) (k : Nat) : readM c k = (rdK c k, if rdK c k then rdV c k else 0) := by
  unfold readM rdK rdV
  cases h : (c.reads.getD k (false, 0)).1
  · rfl
  · rw [if_pos rfl, if_pos rfl, ← h]
theorem argL_eq {w : WkM} {s : RefSt} (h : s.regs = w.regs) (r : Bool) (n : Nat) : argL s.regs r n = argM w r n := by
  unfold argL argM wkOf; rw [h]
theorem fut_at {os : List (Nat × Nat × Ins)} {i n m k : Nat} {w : WkM} {s : RefSt} (h : Cor os i n m k w s) : w.state.getD k 0 = 0 ∧ w.pair.getD k 0 = 0 ∧ w.wr.getD k (false, 0) = (false, 0) ∧ w.place.getD k 0 = 0 ∧ w.value.getD k 0 = 0 ∧ w.fpath.getD k 0 = 0 := by
  have hf := h.fut k (Nat.le_refl _)
  unfold factAt fx0 at hf
  injection hf with h1 h2 h3 h4 h5 h6 h7
  exact ⟨h1, h2, Prod.ext h3 h4, h5, h6, h7⟩
/-- Op k is carried out by both -/
theorem cor_step {os : List (Nat × Nat × Ins)} {i n m k : Nat} {w w' : WkM} {s s' : RefSt} (h : Cor os i n m k w s) (_hk : k < n) (F : Fx)
    (hr : s'.regs = w'.regs) (hp : w'.path = w.path) (hp2 : s'.path = s.path) (hl : w'.left = w.left) (hl2 : s'.left = s.left) (hf : s'.facts = s.facts.set k F) (hj : ∀ j, j ≠ k → factAt w' j = factAt w j) (hF : factAt w' k = F)
    (hz : ∀ c ∈ w'.regs, c.k = false → c.v = 0) (hlast : LastR os w'.lrOp w'.lrLoc s'.last)
    (hlen : w'.state.length = n ∧ w'.wr.length = n ∧ w'.pair.length = n ∧ w'.place.length = n ∧ w'.value.length = n ∧ w'.fpath.length = n) (h8 : w'.regs.length = 8) : Cor os i n m (k + 1) w' s' :=
  ⟨hr, by rw [hp, hp2]; exact h.path, by rw [hl, hl2]; exact h.left, by rw [hf, h.facts]; exact (facts_set hj F fun _ => hF).symm, fun j hj' => by rw [hj j (by omega)]; exact h.fut j (by omega), hz, hlast, hlen, by rw [hl]; exact h.llen, h8⟩
theorem last_lr {os : List (Nat × Nat × Ins)} {k a b : Nat} {x : Ins} (ho : os[k]? = some (a, b, x)) (hx : x.op = 13) : LastR os (k + 1) x.loc (k + 1) :=
  .inr ⟨by omega, rfl, fun loc => by unfold lastIs; simp [ho, hx]⟩
theorem last_sc {os : List (Nat × Nat × Ins)} {k a b : Nat} {x : Ins} (ho : os[k]? = some (a, b, x)) (hx : x.op = 14) : LastR os 0 0 (k + 1) :=
  .inl ⟨rfl, rfl, fun loc => by unfold lastIs; simp [ho, hx]⟩
set_option maxHeartbeats 4000000 in
theorem cor_mem {os : List (Nat × Nat × Ins)} {i n m k : Nat} {w : WkM} {s : RefSt} {c : CtxM} {a0 b0 : Nat} {x : Ins} (h : Cor os i n m k w s) (hk : k < n) (ho : os[k]? = some (a0, b0, x)) (hm : isMem x.op = true) :
    Cor os i n m (k + 1) (accM c w k x) (memR os s x k (rdK c k) (rdV c k) (worksM c k)) := by
  obtain ⟨f1, f2, f3, f4, f5, f6⟩ := fut_at h
  obtain ⟨n1, n2, n3, n4, n5, n6⟩ := h.lens
  have hz := h.zero
  have hA : mA s x = argM w x.ar x.an.toNat := argL_eq h.regs _ _
  have hpl : s.regs = w.regs := h.regs
  have hpa := h.path
  have haz := arg_zero hz x.ar x.an.toNat
  have hop : 9 ≤ x.op ∧ x.op ≤ 14 := by rw [isMem_eq] at hm; exact of_decide_eq_true hm
  have hcase : x.op = 9 ∨ x.op = 10 ∨ x.op = 11 ∨ x.op = 12 ∨ x.op = 13 ∨ x.op = 14 := by omega
  have hlst := h.last
  have hrun : ∀ v : WkM, argM (runM v k x) x.ar x.an.toNat = argM v x.ar x.an.toNat := fun v => rfl
  have hj : ∀ j, j ≠ k → factAt (accM c w k x) j = factAt w j := by
    intro j hj
    have hkj : ¬ k = j := Ne.symm hj
    by_cases hd : 0 < x.dep <;> by_cases hq : w.lrLoc = x.loc <;> cases hW : worksM c k <;> rcases hcase with e | e | e | e | e | e <;>
      simp [accM, goM, runM, writeM, writeV, endM, lrM, setM, pairM', krd, kwr, factAt, e, hd, hq, hW, hkj]
  have hlen : (accM c w k x).state.length = n ∧ (accM c w k x).wr.length = n ∧ (accM c w k x).pair.length = n ∧ (accM c w k x).place.length = n ∧ (accM c w k x).value.length = n ∧ (accM c w k x).fpath.length = n := by
    by_cases hd : 0 < x.dep <;> by_cases hq : w.lrLoc = x.loc <;> cases hW : worksM c k <;> rcases hcase with e | e | e | e | e | e <;>
      simp [accM, goM, runM, writeM, writeV, endM, lrM, setM, pairM', krd, kwr, e, hd, hq, hW, n1, n2, n3, n4, n5, n6]
  have h8 : (accM c w k x).regs.length = 8 := by
    cases hW : worksM c k <;> rcases hcase with e | e | e | e | e | e <;>
      simp [accM, goM, runM, writeM, writeV, endM, lrM, setM, pairM', krd, kwr, e, hW, h.r8]
  have hzz : ∀ d ∈ (accM c w k x).regs, d.k = false → d.v = 0 := by
    have z1 : ∀ d ∈ w.regs.set x.rd.toNat ⟨(readM c k).1, (readM c k).2, bit1 k⟩, d.k = false → d.v = 0 := zero_set hz (by rw [readM_eq]; intro hh; simp at hh; simp [hh])
    have z2 : ∀ d ∈ w.regs.set x.rd.toNat ⟨true, 0, bit1 k⟩, d.k = false → d.v = 0 := zero_set hz (fun hh => by cases hh)
    have z3 : ∀ d ∈ w.regs.set x.rd.toNat (numC0 1), d.k = false → d.v = 0 := zero_set hz (fun hh => by cases hh)
    cases hW : worksM c k <;> rcases hcase with e | e | e | e | e | e <;>
      simp only [accM, goM, runM, writeM, writeV, endM, lrM, setM, pairM', krd, kwr, e, hW] <;> first | exact z1 | exact z2 | exact z3 | exact hz
  have hlast : LastR os (accM c w k x).lrOp (accM c w k x).lrLoc (memR os s x k (rdK c k) (rdV c k) (worksM c k)).last := by
    rcases hcase with e | e | e | e | e | e
    · simpa [accM, goM, runM, writeM, writeV, endM, lrM, setM, pairM', memR, mS1, mS2, mS3, krd, kwr, e] using h.last
    · simpa [accM, goM, runM, writeM, writeV, endM, lrM, setM, pairM', memR, mS1, mS2, mS3, krd, kwr, e] using h.last
    · simpa [accM, goM, runM, writeM, writeV, endM, lrM, setM, pairM', memR, mS1, mS2, mS3, krd, kwr, e] using h.last
    · simpa [accM, goM, runM, writeM, writeV, endM, lrM, setM, pairM', memR, mS1, mS2, mS3, krd, kwr, e] using h.last
    · simpa [accM, goM, runM, writeM, writeV, endM, lrM, setM, pairM', memR, mS1, mS2, mS3, krd, kwr, e] using last_lr ho e
    · cases hW : worksM c k <;> simpa [accM, goM, runM, writeM, writeV, endM, lrM, setM, pairM', memR, mS1, mS2, mS3, krd, kwr, e, hW] using last_sc ho e
  have hF : factAt (accM c w k x) k = mF5 os s x (rdK c k) (rdV c k) (worksM c k) := by
    have hcn : ∀ q, cnAt s.regs q = cnAt w.regs q := fun q => by rw [hpl]
    obtain ⟨A, hAd⟩ : ∃ A, A = argM w x.ar x.an.toNat := ⟨_, rfl⟩
    rw [← hAd] at hA haz
    have hif : (if x.ar = true then cnAt w.regs x.an.toNat else numC0 x.an.toNat) = A := by rw [hAd]; rfl
    have gD : ∀ {α : Type} (l : List α) (d v : α), l.getD k d = v → ∀ (hh : k < l.length), l[k] = v := fun l d v e hh => by
      rw [List.getD_eq_getElem?_getD, List.getElem?_eq_getElem hh] at e
      exact e
    have g2 := gD _ _ _ f2; have g3 := gD _ _ _ f3; have g4 := gD _ _ _ f4; have g5 := gD _ _ _ f5; have g6 := gD _ _ _ f6
    have hp1 : ∀ (b : Prop) [Decidable b], (if b then w.pair.set k 0 else w.pair)[k]?.getD 0 = 0 := fun b _ => by
      rw [← List.getD_eq_getElem?_getD]
      by_cases hb : b
      · rw [if_pos hb, getD_set _ _ _ _ _ (by omega), if_pos rfl]
      · rw [if_neg hb, f2]
    clear f1 f2 f3 f4 f5 f6 gD h hz
    have hl := hlst
    by_cases hd : 0 < x.dep <;> cases hW : worksM c k <;> cases hka : A.k <;> cases hrk : rdK c k <;> rcases hcase with e | e | e | e | e | e <;>
      (try rcases hl with ⟨l1, l2, l3⟩ | ⟨l1, l2, l3⟩) <;> (try rw [l2] at l3) <;> by_cases hq : w.lrLoc = x.loc <;>
      simp [accM, goM, runM, writeM, writeV, endM, lrM, setM, pairM', krd, kwr, factAt, e, hd, hW, hk, n1, n2, n3, n4, n5, n6, mF0, mF1, mF2, mF3, mF4, mF5, hA, hcn, hpa, hka, hrk, readM_eq, combM, argM, hif, g2, g3, g4, g5, g6, hp1, l1, l2, l3, hq, haz]
  cases hW : worksM c k <;> rcases hcase with e | e | e | e | e | e
  all_goals
    rw [hW] at hF hlast
    refine cor_step h hk _ ?_ ?_ ?_ ?_ ?_ rfl hj hF hzz hlast hlen h8
  all_goals simp [accM, goM, runM, writeM, writeV, endM, lrM, setM, pairM', memR, mS1, mS2, mS3, krd, kwr, e, readM_eq, hpl, numC0, hW]
end Go.Proofs.Ytccjekgbhablpaa
namespace Go.Proofs.Ytccjekgbhablpaa
set_option maxRecDepth 100000
open Go.RowKit

def opsXL (i : Nat) : Nat → List Ins → List (Nat × Nat × Ins)
  | _, [] => []
  | a, x :: l => (if isMem x.op then [(i, a, x)] else []) ++ opsXL i (a + 1) l
def opsX : Nat → List (List Ins) → List (Nat × Nat × Ins)
  | _, [] => []
  | i, l :: t => opsXL i 0 l ++ opsX (i + 1) t
theorem opsXL_app (i : Nat) : ∀ (l m : List Ins) (a : Nat), opsXL i a (l ++ m) = opsXL i a l ++ opsXL i (a + l.length) m
  | [], m, a => by simp [opsXL]
  | x :: l, m, a => by
    rw [List.cons_append, opsXL, opsXL, opsXL_app i l m (a + 1), List.append_assoc, List.length_cons, show a + 1 + l.length = a + (l.length + 1) by omega]
theorem opsX_app : ∀ (t u : List (List Ins)) (i : Nat), opsX i (t ++ u) = opsX i t ++ opsX (i + t.length) u
  | [], u, i => by simp [opsX]
  | l :: t, u, i => by
    rw [List.cons_append, opsX, opsX, opsX_app t u (i + 1), List.append_assoc, List.length_cons, show i + 1 + t.length = i + (t.length + 1) by omega]
theorem opsXL_take (i : Nat) {l : List Ins} {j : Nat} {x : Ins} (h : l[j]? = some x) : opsXL i 0 (l.take (j + 1)) = opsXL i 0 (l.take j) ++ (if isMem x.op then [(i, j, x)] else []) := by
  have hj := (List.getElem?_eq_some_iff.1 h).1
  rw [List.take_add_one, h, opsXL_app, List.length_take, Nat.min_eq_left (by omega), Nat.zero_add]
  simp [opsXL]
theorem opsX_take {t : List (List Ins)} {k : Nat} {l : List Ins} (h : t[k]? = some l) : opsX 0 (t.take (k + 1)) = opsX 0 (t.take k) ++ opsXL k 0 l := by
  have hk := (List.getElem?_eq_some_iff.1 h).1
  rw [List.take_add_one, h, opsX_app, List.length_take, Nat.min_eq_left (by omega), Nat.zero_add]
  simp [opsX]
/-- the program's Ops are the reference's, with their instructions struck -/
theorem opsXL_fst (i : Nat) : ∀ (l : List Ins) (a : Nat), (opsXL i a l).map (fun o => (o.1, o.2.1)) = opsL i a l
  | [], a => rfl
  | x :: l, a => by
    rw [opsXL, opsL, List.map_append, opsXL_fst i l (a + 1)]
    split <;> rfl
theorem opsX_fst : ∀ (t : List (List Ins)) (i : Nat), (opsX i t).map (fun o => (o.1, o.2.1)) = opsM i t
  | [], i => rfl
  | l :: t, i => by
    rw [opsX, opsM, List.map_append, opsXL_fst, opsX_fst t (i + 1)]
theorem opX_one (o : Nat × Nat × Ins) : ∀ u ∈ opX o, u.oneCell' = true := by
  intro u hu
  simp only [opX, insC, List.mem_cons, List.not_mem_nil, or_false] at hu
  rcases hu with rfl | rfl | rfl | rfl | rfl | rfl | rfl | rfl | rfl | rfl | rfl | rfl | rfl | rfl | rfl <;> rfl
theorem info_rop : (Try.prog.info? 52).map (fun i => (i.zero, i.size, i.bytes)) = some (some (.agg #[.int .i64 0, .int .i64 0, .int .i64 0, .int .i64 0, .int .i64 0, .bool false, .int .u64 0, .bool false, .int .u64 0, .bool false, .bool false, .int .i64 0, .int .i64 0, .int .i64 0, .int .i64 0]), 15, 112) := by kernel_rfl
theorem news_opX {w : World} {b : Nat} {o : Nat × Nat × Ins} (h : w.heap[b]? = some (.cells (opX o).toArray 52 (0, 0))) : SlIn w (.slice (some ⟨b, 0, none⟩) 1 1) 15 1 (opX o) :=
  ⟨rfl, .inr ⟨b, 0, 1, rfl, ltOf h, fun i u hu => by rw [cOf h, Nat.zero_add]; simpa using hu⟩⟩

set_option maxRecDepth 100000 in
set_option maxHeartbeats 6400000 in
theorem refOps_any (lv tv av : Value) (t : TestM) (h1 : t.thr.length ≤ 1000) (h2 : ∀ l ∈ t.thr, l.length ≤ 1000) (w : World) (h : TestIn w lv tv av t) :
    Calls Try.prog 9 #[.agg #[lv, tv, av]] w fun e w' => ∃ v, e = .returned v ∧ w'.ownsRow w.heap.size 52 15 v (opsX 0 t.thr).length ((opsX 0 t.thr).flatMap opX) ∧ Below w.heap.size w w' := by
  obtain ⟨hlo, ⟨vs, hvl, hth, hins⟩, hasks⟩ := h
  obtain ⟨lp, lc, rfl⟩ := hlo.slice
  obtain ⟨tp, tc, rfl⟩ := hth.slice
  obtain ⟨ap, ac, rfl⟩ := hasks.slice
  have HTH := Bx.mk hth; have HVL := Bx.mk hvl; have HIN := Bx.mk hins; have H2 := Bx.mk h2
  obtain ⟨ln, hln⟩ : ∃ ln, ln = t.locs.length := ⟨_, rfl⟩
  obtain ⟨an, han⟩ : ∃ an, an = t.asks.length := ⟨_, rfl⟩
  obtain ⟨tn, htn⟩ : ∃ tn, tn = t.thr.length := ⟨_, rfl⟩
  rw [← hln, ← han, ← htn]
  rw [← htn] at h1 HTH
  have TN := Bx.mk htn
  clear hth hvl hins hlo hasks h2 hln han htn
  have B0 := Bx.mk (bel (aset w (.cells #[.slice lp ln lc, .slice tp tn tc, .slice ap an ac] 37)) (aset _ (.cells #[] 52)))
  have R0 := Bx.mk (newRow0 (w.alloc (.cells #[.slice lp ln lc, .slice tp tn tc, .slice ap an ac] 37)) w.heap.size 52 15 (by simp))
  have T0 : Bx (∀ W, Below ((w.alloc (.cells #[.slice lp ln lc, .slice tp tn tc, .slice ap an ac] 37)).heap.size) (w.alloc (.cells #[.slice lp ln lc, .slice tp tn tc, .slice ap an ac] 37)) W → True) := ⟨fun _ _ => trivial⟩
  go_enter Try.func9, Try.ntmps9
  go_wp2_with fail
  generalize ((w.alloc (.cells #[.slice lp ln lc, .slice tp tn tc, .slice ap an ac] 37)).alloc (.cells #[] 52)) = W1 at *
  rw [World.size_alloc] at R0
  go_loopw [3, 12] (fun v i wr => ∃ (k g n cap : Nat) (D : List (Nat × Nat × Ins)), i = .int .i64 (k : Int) ∧ k ≤ tn ∧ v = .slice (some ⟨g, 0, none⟩) n cap ∧ D.length = n ∧ n ≤ k * 1000 ∧ Bx (D = opsX 0 (t.thr.take k)) ∧ Bx (wr.ownsRow w.heap.size 52 15 (.slice (some ⟨g, 0, none⟩) n cap) n (D.flatMap opX)) ∧ Bx (Below w.heap.size w wr)) (fun _ i _ => tn - (intOf i).toNat)
  case atStart => exact ⟨0, _, 0, 0, [], rfl, by omega, rfl, rfl, by omega, ⟨by simp [opsX]⟩, R0, B0⟩
  case round =>
    clear R0 B0
    obtain ⟨k, g, n, cap, D, rfl, hk, rfl, hD, hn, heq, hrow, hb⟩ := hrel
    obtain ⟨wo, rfl⟩ : ∃ wo : World, wo = wr := ⟨_, rfl⟩
    by_cases hlt : k < tn
    · obtain ⟨bb, off, c', hv, hbl, hcl⟩ := HTH.out.at (by omega)
      obtain ⟨rfl, _, rfl⟩ := Value.slice.inj hv
      have hkt : k < t.thr.length := by rw [← TN.out]; exact hlt
      obtain ⟨u, hvk⟩ : ∃ u, vs[k]? = some u := ⟨_, List.getElem?_eq_getElem (by rw [HVL.out]; exact hkt)⟩
      obtain ⟨l, hlk, hsl⟩ := HIN.out k u hvk
      obtain ⟨ip, ic, rfl⟩ := hsl.slice
      have hll := H2.out l (List.mem_of_getElem? hlk)
      have q0 : wo.cell? ⟨bb, off + k, none⟩ = some (.slice ip l.length ic) := (hb.out.cell hbl).trans (hcl k _ hvk)
      have HSL := Bx.mk hsl
      have HLK := Bx.mk hlk
      have hkm : k * 1000 + 1000 = (k + 1) * 1000 := by omega
      have hk6 : k * 1000 + 1000 ≤ 1000000 := by omega
      have HKM := Bx.mk hkm
      have hsz : w.heap.size ≤ wo.heap.size := hb.out.size
      have i9 : (k : Int) < (tn : Int) := by omega
      clear hcl hv hvk hsl hlk hkm hkt
      go_wp2_with fail
      go_loopw [3, 19] (fun v i wq => ∃ (j g n' cap : Nat) (E : List (Nat × Nat × Ins)), i = .int .i64 (j : Int) ∧ j ≤ l.length ∧ v = .slice (some ⟨g, 0, none⟩) n' cap ∧ E.length = n' ∧ n' ≤ n + j ∧ Bx (E = D ++ opsXL k 0 (l.take j)) ∧ Bx (wq.ownsRow w.heap.size 52 15 (.slice (some ⟨g, 0, none⟩) n' cap) n' (E.flatMap opX)) ∧ Bx (Below w.heap.size w wq)) (fun _ i _ => l.length - (intOf i).toNat)
      case atStart => exact ⟨0, g, n, cap, D, rfl, by omega, rfl, hD, by omega, ⟨by simp [opsXL]⟩, hrow, hb⟩
      case round =>
        obtain ⟨j, g2, n2, cap2, E, rfl, hjl, rfl, hE2, hEl, hE, hrow2, hb3⟩ := hrel
        by_cases hjlt : j < l.length
        · obtain ⟨ib, io, ic', hiv, hil, hicl⟩ := HSL.out.at (by omega)
          obtain ⟨rfl, _, rfl⟩ := Value.slice.inj hiv
          obtain ⟨x, hx⟩ : ∃ x, l[j]? = some x := ⟨_, List.getElem?_eq_getElem hjlt⟩
          obtain ⟨y0, y1, y2, y3, y4, y5, y6, y7, y8, y9, y10, y11, y12⟩ : InsAt wr ib (io + j * 13) x := (SlIn.ins hicl hx).below hb3.out
          have hsz3 := hb3.out.size
          have EX := Bx.mk (opsXL_take k hx)
          have CM := Bx.mk (fun W => refMemory_any x.op W)
          have HB1 := Bx.mk (bel hb3.out (aset wr (.cells #[.int .i64 x.op, .int .i64 x.rd, .int .i64 x.loc, .bool x.ar, .int .u64 x.an, .bool x.br, .int .u64 x.bn, .bool x.acq, .bool x.rel, .int .i64 x.dep, .int .i64 x.pred, .int .i64 x.succ, .int .i64 x.skip] 50)))
          have ROW1 := Bx.mk (rowBel hrow2.out (aset wr (.cells #[.int .i64 x.op, .int .i64 x.rd, .int .i64 x.loc, .bool x.ar, .int .u64 x.an, .bool x.br, .int .u64 x.bn, .bool x.acq, .bool x.rel, .int .i64 x.dep, .int .i64 x.pred, .int .i64 x.succ, .int .i64 x.skip] 50)))
          have HNB : Bx (∀ u, ((wr.alloc (.cells #[.int .i64 x.op, .int .i64 x.rd, .int .i64 x.loc, .bool x.ar, .int .u64 x.an, .bool x.br, .int .u64 x.bn, .bool x.acq, .bool x.rel, .int .i64 x.dep, .int .i64 x.pred, .int .i64 x.succ, .int .i64 x.skip] 50)).alloc u).heap[wr.heap.size + 1]? = some u) := ⟨fun u => by
            have := heap_alloc_new (wr.alloc (.cells #[.int .i64 x.op, .int .i64 x.rd, .int .i64 x.loc, .bool x.ar, .int .u64 x.an, .bool x.br, .int .u64 x.bn, .bool x.acq, .bool x.rel, .int .i64 x.dep, .int .i64 x.pred, .int .i64 x.succ, .int .i64 x.skip] 50)) u
            rwa [World.size_alloc] at this⟩
          have i8 : (j : Int) < (l.length : Int) := by omega
          clear hicl hiv hx
          cases hM : isMem x.op
          · rw [hM] at CM EX
            go_wp2_with (go_at_call 22; ((with_reducible refine (CM.out _).mono ?_); rintro e w5 ⟨rfl, rfl⟩))
            go_roundw
            case rel => exact ⟨j + 1, g2, n2, cap2, E, by go_num, by omega, rfl, hE2, by omega, ⟨by rw [EX.out, hE.out]; simp⟩, ROW1, HB1⟩
            case measure => simp [intOf] <;> omega
          · rw [hM] at CM EX
            go_wp2_with (first
              | (go_at_call 22; ((with_reducible refine (CM.out _).mono ?_); rintro e w5 ⟨rfl, rfl⟩))
              | (at_builtin; refine wpList_append_rows w.heap.size (by simp; omega) rfl (.tmp 27) (.tmp 32) 42 52 15 112 _ (by rfl) Try.underlying42 info_rop rfl (by decide) (by decide) g2 n2 cap2 (E.flatMap opX) (by rfl) (ROW1.out.alloc _) _ 1 (opX (k, j, x)) (by rfl) (news_opX (HNB.out _)) (opX_one _) (by omega) ?_; intro g' cap' w4 r4 b4 _; have ROW4 := Bx.mk r4; have B4 := Bx.mk b4; clear r4 b4))
            go_roundw
            case rel =>
              have e3 : D ++ opsXL k 0 (l.take (j + 1)) = E ++ [(k, j, x)] := by rw [EX.out, hE.out]; simp
              refine ⟨j + 1, g', n2 + 1, cap', E ++ [(k, j, x)], by go_num, by omega, rfl, by simp [hE2], by omega, ⟨e3.symm⟩, ⟨?_⟩, ⟨(bel' HB1.out HB1.out.size (aset _ _)).trans B4.out⟩⟩
              rw [List.flatMap_append]
              simpa using ROW4.out
            case measure => simp [intOf] <;> omega
        · obtain rfl : j = l.length := by omega
          have hE3 : E = opsX 0 (t.thr.take (k + 1)) := by rw [hE.out, heq.out, List.take_length, opsX_take HLK.out]
          have HE2 := Bx.mk hE3
          have i8 : ((l.length : Int) < (l.length : Int)) = False := by simp
          clear hE3 hE heq
          go_wp2_with fail
          go_roundw
          case rel => exact ⟨k + 1, g2, n2, cap2, E, by go_num, by omega, rfl, hE2, by have := HKM.out; omega, HE2, hrow2, hb3⟩
          case measure => simp [intOf] <;> omega
    · obtain rfl : k = tn := by omega
      have hD0 : D = opsX 0 t.thr := by rw [heq.out, TN.out, List.take_length]
      have HD0 := Bx.mk hD0
      have i9 : ((k : Int) < (k : Int)) = False := by simp
      clear hD0 heq
      go_wp2_with fail
      go_ret
      rw [← HD0.out]
      exact ⟨_, rfl, by rw [hD]; exact hrow.out, hb.out⟩
end Go.Proofs.Ytccjekgbhablpaa
namespace Go.Proofs.Ytccjekgbhablpaa
set_option maxRecDepth 100000
open Go.RowKit

def refSet (L : List Cn) (rd : Nat) (v : Cn) : List Cn := L.set rd ⟨v.k, if v.k then v.v else 0, v.f⟩
def leaveR (s : RefSt) (at' k : Nat) (mem : Bool) : RefSt := { s with left := s.left ||| bit1 at', facts := if mem then s.facts.set k ⟨2, 0, false, 0, 0, 0, 0⟩ else s.facts }
def brR (s : RefSt) (x : Ins) : RefSt := { s with path := s.path ||| ((argL s.regs x.ar x.an.toNat).f ||| (argL s.regs x.br x.bn.toNat).f) }
def compR (s : RefSt) (x : Ins) : RefSt :=
  if x.op = 1 then { s with regs := refSet s.regs x.rd.toNat (argL s.regs x.ar x.an.toNat) }
  else { s with regs := refSet s.regs x.rd.toNat ⟨(argL s.regs x.ar x.an.toNat).k && (argL s.regs x.br x.bn.toNat).k, reckM x.op (argL s.regs x.ar x.an.toNat).v (argL s.regs x.br x.bn.toNat).v, (argL s.regs x.ar x.an.toNat).f ||| (argL s.regs x.br x.bn.toNat).f⟩ }
/-- the reference's thread, from a place on -/
def thrR (c : CtxM) (os : List (Nat × Nat × Ins)) : List Ins → Nat → Nat → Nat → RefSt → RefSt
  | [], _, _, _, s => s
  | x :: l, at', k, skip, s =>
    if 0 < skip then thrR c os l (at' + 1) (if isMem x.op then k + 1 else k) (skip - 1) (leaveR s at' k (isMem x.op))
    else if isMem x.op then thrR c os l (at' + 1) (k + 1) 0 (memR os s x k (rdK c k) (rdV c k) (worksM c k))
    else if x.op = 15 then thrR c os l (at' + 1) k 0 s
    else if 15 < x.op then
      if (argL s.regs x.ar x.an.toNat).k && (argL s.regs x.br x.bn.toNat).k then
        thrR c os l (at' + 1) k (if decide ((argL s.regs x.ar x.an.toNat).v = (argL s.regs x.br x.bn.toNat).v) == decide (x.op = 16) then x.skip.toNat else 0) (brR s x)
      else { brR s x with known := false }
    else thrR c os l (at' + 1) k 0 (compR s x)
theorem Cor.mono {os : List (Nat × Nat × Ins)} {i n m k k' : Nat} {w : WkM} {s : RefSt} (h : Cor os i n m k w s) (hk : k ≤ k') : Cor os i n m k' w s :=
  ⟨h.regs, h.path, h.left, h.facts, fun j hj => h.fut j (by omega), h.zero, h.last, h.lens, h.llen, h.r8⟩
theorem cor_setM {os : List (Nat × Nat × Ins)} {i n m k : Nat} {w : WkM} {s : RefSt} (h : Cor os i n m k w s) (j : Nat) (c : Cn) (hc : c.k = false → c.v = 0) : Cor os i n m k (setM w j c) { s with regs := s.regs.set j c } :=
  ⟨by show s.regs.set j c = w.regs.set j c; rw [h.regs], h.path, h.left, h.facts, h.fut, zero_set h.zero hc, h.last, h.lens, h.llen, by show (w.regs.set j c).length = 8; rw [List.length_set]; exact h.r8⟩
theorem cor_known {os : List (Nat × Nat × Ins)} {i n m k : Nat} {w : WkM} {s : RefSt} (h : Cor os i n m k w s) (b : Bool) : Cor os i n m k w { s with known := b } :=
  ⟨h.regs, h.path, h.left, h.facts, h.fut, h.zero, h.last, h.lens, h.llen, h.r8⟩
theorem cor_br {os : List (Nat × Nat × Ins)} {i n m k : Nat} {w : WkM} {s : RefSt} (h : Cor os i n m k w s) (x : Ins) : Cor os i n m k (brPath w x) (brR s x) :=
  ⟨h.regs, by
    show s.path ||| ((argL s.regs x.ar x.an.toNat).f ||| (argL s.regs x.br x.bn.toNat).f) = w.path ||| ((argM w x.ar x.an.toNat).f ||| (argM w x.br x.bn.toNat).f)
    rw [argL_eq h.regs, argL_eq h.regs, h.path], h.left, h.facts, h.fut, h.zero, h.last, h.lens, h.llen, h.r8⟩
theorem cor_comp {os : List (Nat × Nat × Ins)} {i n m k : Nat} {w : WkM} {s : RefSt} (h : Cor os i n m k w s) (x : Ins) : Cor os i n m k (compM w x) (compR s x) := by
  unfold compM compR refSet
  rw [argL_eq h.regs, argL_eq h.regs]
  have z1 := arg_zero h.zero x.ar x.an.toNat
  by_cases e : x.op = 1
  · rw [if_pos e, if_pos e]
    have ea : (⟨(argM w x.ar x.an.toNat).k, if (argM w x.ar x.an.toNat).k then (argM w x.ar x.an.toNat).v else 0, (argM w x.ar x.an.toNat).f⟩ : Cn) = argM w x.ar x.an.toNat := by
      cases hk : (argM w x.ar x.an.toNat).k
      · have := z1 hk
        cases hA : argM w x.ar x.an.toNat
        rw [hA] at hk this
        simp at hk this ⊢
        rw [hk, this]
        exact ⟨rfl, rfl⟩
      · cases hA : argM w x.ar x.an.toNat
        rw [hA] at hk
        simp at hk ⊢
        exact hk
    rw [ea]
    exact cor_setM h _ _ z1
  · rw [if_neg e, if_neg e]
    have ec : combM ((argM w x.ar x.an.toNat).k, (argM w x.ar x.an.toNat).v) ((argM w x.br x.bn.toNat).k, (argM w x.br x.bn.toNat).v) (reckM x.op) = ((argM w x.ar x.an.toNat).k && (argM w x.br x.bn.toNat).k, if (argM w x.ar x.an.toNat).k && (argM w x.br x.bn.toNat).k then reckM x.op (argM w x.ar x.an.toNat).v (argM w x.br x.bn.toNat).v else 0) := by
      unfold combM
      cases (argM w x.ar x.an.toNat).k <;> cases (argM w x.br x.bn.toNat).k <;> rfl
    rw [ec]
    refine cor_setM h _ _ ?_
    intro hk
    show (if _ then _ else 0) = 0
    rw [show ((argM w x.ar x.an.toNat).k && (argM w x.br x.bn.toNat).k) = false from hk]
    rfl
theorem cor_leave {os : List (Nat × Nat × Ins)} {i n m k : Nat} {w : WkM} {s : RefSt} (h : Cor os i n m k w s) (hi : i < m) (at' : Nat) (mem : Bool) (hk : mem = true → k < n) : Cor os i n m (if mem then k + 1 else k) (leaveM w i at' k mem) (leaveR s at' k mem) := by
  have hl : s.left ||| bit1 at' = (w.left.set i (withN (w.left.getD i 0) (at' : Int))).getD i 0 := by
    rw [getD_set _ _ _ _ _ (by rw [h.llen]; exact hi), if_pos rfl, withN_or, ← h.left]; rfl
  have hll : (w.left.set i (withN (w.left.getD i 0) (at' : Int))).length = m := by rw [List.length_set]; exact h.llen
  cases mem with
  | false => exact ⟨h.regs, h.path, hl, h.facts, h.fut, h.zero, h.last, h.lens, hll, h.r8⟩
  | true =>
    have hkn := hk rfl
    obtain ⟨f1, f2, f3, f4, f5, f6⟩ := fut_at h
    obtain ⟨n1, n2, n3, n4, n5, n6⟩ := h.lens
    have hj : ∀ j, j ≠ k → factAt (leaveM w i at' k true) j = factAt w j := by
      intro j hj
      have hkj : ¬ k = j := Ne.symm hj
      simp [leaveM, factAt, hkj]
    have hF : factAt (leaveM w i at' k true) k = ⟨2, 0, false, 0, 0, 0, 0⟩ := by
      show (⟨(w.state.set k 2).getD k 0, w.pair.getD k 0, (w.wr.getD k (false, 0)).1, (w.wr.getD k (false, 0)).2, w.place.getD k 0, w.value.getD k 0, w.fpath.getD k 0⟩ : Fx) = _
      rw [getD_set _ _ _ _ _ (by omega), if_pos rfl, f2, f3, f4, f5, f6]
    exact ⟨h.regs, h.path, hl, by
      show s.facts.set k _ = _
      rw [h.facts]; exact (facts_set hj _ fun _ => hF).symm, fun j hj' => by
      have hj2 : k + 1 ≤ j := hj'
      rw [hj j (by omega)]; exact h.fut j (by omega), h.zero, h.last, ⟨by show (w.state.set k 2).length = n; rw [List.length_set]; exact n1, n2, n3, n4, n5, n6⟩, hll, h.r8⟩
theorem memR_known (os : List (Nat × Nat × Ins)) (s : RefSt) (x : Ins) (k : Nat) (rk : Bool) (rv : Nat) (wk : Bool) : (memR os s x k rk rv wk).known = s.known := by
  have e1 : (mS1 s x rk rv k).known = s.known := by unfold mS1; split <;> rfl
  have e2 : (mS2 s x rk rv k wk).known = s.known := by unfold mS2; split <;> exact e1
  show (mS3 s x rk rv k wk).known = s.known
  unfold mS3
  split <;> exact e2
theorem arg_unknown {w : WkM} {r : Bool} {n : Nat} (hk : (argM w r n).k = false) : ∃ d ∈ w.regs, d.k = false := by
  unfold argM at hk
  cases r
  · simp [numC0] at hk
  · unfold cnAt at hk
    rw [if_pos rfl, List.getD_eq_getElem?_getD] at hk
    cases e : w.regs[n]? with
    | none => rw [e] at hk; simp at hk
    | some d => rw [e] at hk; exact ⟨d, List.mem_of_getElem? e, hk⟩
theorem memL_cons (x : Ins) (l : List Ins) : memL (x :: l) = (if isMem x.op then 1 else 0) + memL l := by
  unfold memL
  rw [List.filter_cons]
  split <;> simp <;> omega
theorem compR_known (s : RefSt) (x : Ins) : (compR s x).known = s.known := by unfold compR; split <;> rfl
/-- a thread: the same for both -/
theorem cor_thr {os : List (Nat × Nat × Ins)} {i n m : Nat} (c : CtxM) (hi : i < m) : ∀ (l : List Ins) (at' k skip : Nat) (w : WkM) (s : RefSt), Cor os i n m k w s → (∀ j o, (opsXL i at' l)[j]? = some o → os[k + j]? = some o) → k + memL l ≤ n → (∀ x ∈ l, 1 ≤ x.op ∧ x.op ≤ 17) →
    Cor os i n m (k + memL l) (walkM c i l at' k skip w) (thrR c os l at' k skip s) ∧ ((thrR c os l at' k skip s).known = s.known ∨ ((thrR c os l at' k skip s).known = false ∧ ∃ d ∈ (walkM c i l at' k skip w).regs, d.k = false))
  | [], at', k, skip, w, s, h, _, _, _ => ⟨by
      show Cor os i n m (k + memL []) w s
      exact h.mono (by omega), .inl rfl⟩
  | x :: l, at', k, skip, w, s, h, ho, hk, hx => by
    rw [memL_cons] at hk ⊢
    have hx1 := hx x (by simp)
    have hxl : ∀ y ∈ l, 1 ≤ y.op ∧ y.op ≤ 17 := fun y hy => hx y (List.mem_cons_of_mem _ hy)
    have hseg : ∀ j o, (opsXL i (at' + 1) l)[j]? = some o → os[(if isMem x.op then k + 1 else k) + j]? = some o := fun j o hj => by
      cases hm : isMem x.op with
      | true =>
        have := ho (j + 1) o (by rw [opsXL, hm]; simpa using hj)
        rw [if_pos rfl, show k + 1 + j = k + (j + 1) by omega]
        exact this
      | false =>
        have := ho j o (by rw [opsXL, hm]; simpa using hj)
        simpa using this
    by_cases hs : 0 < skip
    · have e1 : walkM c i (x :: l) at' k skip w = walkM c i l (at' + 1) (if isMem x.op then k + 1 else k) (skip - 1) (leaveM w i at' k (isMem x.op)) := by rw [walkM, if_pos hs]
      have e2 : thrR c os (x :: l) at' k skip s = thrR c os l (at' + 1) (if isMem x.op then k + 1 else k) (skip - 1) (leaveR s at' k (isMem x.op)) := by rw [thrR, if_pos hs]
      have hc := cor_leave h hi at' (isMem x.op) (fun hm => by rw [hm] at hk; simp at hk; omega)
      have hkk : (if isMem x.op then k + 1 else k) + memL l = k + ((if isMem x.op then 1 else 0) + memL l) := by split <;> omega
      have ih := cor_thr c hi l (at' + 1) (if isMem x.op then k + 1 else k) (skip - 1) _ _ hc hseg (by omega) hxl
      rw [e1, e2, ← hkk]
      exact ih
    · by_cases hm : isMem x.op = true
      · have e1 : walkM c i (x :: l) at' k skip w = walkM c i l (at' + 1) (k + 1) 0 (accM c w k x) := by rw [walkM, if_neg hs, if_pos hm]
        have e2 : thrR c os (x :: l) at' k skip s = thrR c os l (at' + 1) (k + 1) 0 (memR os s x k (rdK c k) (rdV c k) (worksM c k)) := by rw [thrR, if_neg hs, if_pos hm]
        have hok : os[k]? = some (i, at', x) := by
          have := ho 0 (i, at', x) (by rw [opsXL, hm]; rfl)
          simpa using this
        rw [if_pos hm] at hk hseg
        have hc := cor_mem (c := c) h (by omega) hok hm
        have ih := cor_thr c hi l (at' + 1) (k + 1) 0 _ _ hc hseg (by omega) hxl
        rw [memR_known] at ih
        rw [e1, e2, if_pos hm, ← Nat.add_assoc]
        exact ih
      · rw [if_neg hm] at hk hseg
        rw [if_neg hm]
        have hk0 : k + (0 + memL l) = k + memL l := by omega
        rw [hk0] at hk ⊢
        by_cases h17 : x.op = 16 ∨ x.op = 17
        · have h15 : 15 < x.op := by omega
          have h15' : ¬ x.op = 15 := by omega
          have eA := argL_eq h.regs x.ar x.an.toNat
          have eB := argL_eq h.regs x.br x.bn.toNat
          have hc := cor_br h x
          cases hab : ((argM w x.ar x.an.toNat).k && (argM w x.br x.bn.toNat).k) with
          | true =>
            have hv : brVal w x = (true, eqlM x.op (argM w x.ar x.an.toNat).v (argM w x.br x.bn.toNat).v) := by
              unfold brVal combM; simp [hab]
            have e1 : walkM c i (x :: l) at' k skip w = walkM c i l (at' + 1) k (if decide ((argM w x.ar x.an.toNat).v = (argM w x.br x.bn.toNat).v) == decide (x.op = 16) then x.skip.toNat else 0) (brPath w x) := by
              rw [walkM, if_neg hs, if_neg hm, if_pos h17, hv, if_pos rfl]
              unfold eqlM
              split <;> rfl
            have e2 : thrR c os (x :: l) at' k skip s = thrR c os l (at' + 1) k (if decide ((argM w x.ar x.an.toNat).v = (argM w x.br x.bn.toNat).v) == decide (x.op = 16) then x.skip.toNat else 0) (brR s x) := by
              rw [thrR, if_neg hs, if_neg hm, if_neg h15', if_pos h15, eA, eB, if_pos hab]
            rw [e1, e2]
            exact cor_thr c hi l (at' + 1) k _ _ _ hc hseg hk hxl
          | false =>
            have hv : (brVal w x).1 = false := by
              unfold brVal combM; simp [hab]
            have e1 : walkM c i (x :: l) at' k skip w = brPath w x := by
              rw [walkM, if_neg hs, if_neg hm, if_pos h17, if_neg (by rw [hv]; simp)]
            have e2 : thrR c os (x :: l) at' k skip s = { brR s x with known := false } := by
              rw [thrR, if_neg hs, if_neg hm, if_neg h15', if_pos h15, eA, eB, if_neg (by rw [hab]; simp)]
            rw [e1, e2]
            refine ⟨(cor_known hc false).mono (by omega), .inr ⟨rfl, ?_⟩⟩
            show ∃ d ∈ w.regs, d.k = false
            rcases Bool.and_eq_false_iff.1 hab with hq | hq
            · exact arg_unknown hq
            · exact arg_unknown hq
        · have h15 : ¬ 15 < x.op := by omega
          by_cases he : x.op = 15
          · have e1 : walkM c i (x :: l) at' k skip w = walkM c i l (at' + 1) k 0 w := by rw [walkM, if_neg hs, if_neg hm, if_neg h17, if_neg (by simp [he])]
            have e2 : thrR c os (x :: l) at' k skip s = thrR c os l (at' + 1) k 0 s := by rw [thrR, if_neg hs, if_neg hm, if_pos he]
            rw [e1, e2]
            exact cor_thr c hi l (at' + 1) k 0 _ _ h hseg hk hxl
          · have e1 : walkM c i (x :: l) at' k skip w = walkM c i l (at' + 1) k 0 (compM w x) := by rw [walkM, if_neg hs, if_neg hm, if_neg h17, if_pos he]
            have e2 : thrR c os (x :: l) at' k skip s = thrR c os l (at' + 1) k 0 (compR s x) := by rw [thrR, if_neg hs, if_neg hm, if_neg he, if_neg h15]
            have ih := cor_thr c hi l (at' + 1) k 0 _ _ (cor_comp h x) hseg hk hxl
            rw [compR_known] at ih
            rw [e1, e2]
            exact ih
end Go.Proofs.Ytccjekgbhablpaa
namespace Go.Proofs.Ytccjekgbhablpaa
set_option maxRecDepth 100000
open Go.RowKit

structure RefFl where
  facts : List Fx
  regs : List (List Cn)
  left : List Nat
  whole : Bool
def startR (g : RefFl) : RefSt := ⟨regs0, 0, 0, 0, g.facts, true⟩
def endR (g : RefFl) (s : RefSt) : RefFl := ⟨s.facts, g.regs ++ [s.regs], g.left ++ [s.left], (g.whole && s.known) && s.regs.all (·.k)⟩
def thrsR (c : CtxM) (os : List (Nat × Nat × Ins)) : List (List Ins) → Nat → RefFl → RefFl
  | [], _, g => g
  | l :: r, k, g => thrsR c os r (k + memL l) (endR g (thrR c os l 0 k 0 (startR g)))
def ofR (c : CtxM) (t : List (List Ins)) : RefFl := thrsR c (opsX 0 t) t 0 ⟨List.replicate (memT t) fx0, [], [], true⟩
def factF (f : FlM) (j : Nat) : Fx := ⟨f.state.getD j 0, f.pair.getD j 0, (f.wr.getD j (false, 0)).1, (f.wr.getD j (false, 0)).2, f.place.getD j 0, f.value.getD j 0, f.fpath.getD j 0⟩
structure CorF (i n m k : Nat) (f : FlM) (g : RefFl) : Prop where
  facts : g.facts = (List.range n).map (factF f)
  fut : ∀ j, k ≤ j → factF f j = fx0
  lens : f.state.length = n ∧ f.wr.length = n ∧ f.pair.length = n ∧ f.place.length = n ∧ f.value.length = n ∧ f.fpath.length = n
  rlen : f.regs.length = m
  regs : f.regs.take i = g.regs.map valsM
  llen : f.left.length = m
  left : f.left.take i = g.left
  rest : ∀ j, i ≤ j → f.left.getD j 0 = 0
  whole : f.whole = g.whole
theorem acc_left (c : CtxM) (w : WkM) (k : Nat) (x : Ins) : (accM c w k x).left = w.left := by
  have e1 : ∀ v : WkM, (lrM v k x).left = v.left := fun v => by unfold lrM; split <;> rfl
  have e2 : ∀ v : WkM, (endM c v k x).left = v.left := fun v => by unfold endM; split <;> (try split) <;> rfl
  have e3 : ∀ v : WkM, (goM c v k x).left = v.left := fun v => by
    unfold goM
    simp only [e1, e2]
    split <;> rfl
  unfold accM
  split
  · dsimp only
    split
    · rw [e3]; rfl
    · rfl
  · exact e3 w
theorem walk_left (c : CtxM) (i : Nat) {j : Nat} (hj : j ≠ i) : ∀ (l : List Ins) (at' k skip : Nat) (w : WkM), (walkM c i l at' k skip w).left.getD j 0 = w.left.getD j 0
  | [], _, _, _, w => rfl
  | x :: l, at', k, skip, w => by
    have hset : ∀ (L : List Nat) (v : Nat), (L.set i v).getD j 0 = L.getD j 0 := fun L v => by
      rw [List.getD_eq_getElem?_getD, List.getD_eq_getElem?_getD, List.getElem?_set_ne (Ne.symm hj)]
    have hleave : ∀ b, (leaveM w i at' k b).left.getD j 0 = w.left.getD j 0 := fun b => by
      cases b
      · exact hset _ _
      · exact hset _ _
    have hcomp : (compM w x).left = w.left := by unfold compM; dsimp only; split <;> rfl
    rw [walkM]
    split
    · rw [walk_left c i hj l, hleave]
    · split
      · rw [walk_left c i hj l, acc_left]
      · split
        · split
          · rw [walk_left c i hj l]; rfl
          · rfl
        · split
          · rw [walk_left c i hj l, hcomp]
          · rw [walk_left c i hj l]
theorem cor_start {os : List (Nat × Nat × Ins)} {i n m k : Nat} {f : FlM} {g : RefFl} (h : CorF i n m k f g) : Cor os i n m k (startM f) (startR g) :=
  ⟨rfl, rfl, (h.rest i (Nat.le_refl _)).symm, h.facts, h.fut, fun c hc hk => (by
    have : c = numC0 0 := List.eq_of_mem_replicate hc
    rw [this] at hk; cases hk), .inl ⟨rfl, rfl, fun loc => rfl⟩, h.lens, h.llen, rfl⟩
theorem take_set {α : Type} (l : List α) (i : Nat) (v : α) (hi : i < l.length) : (l.set i v).take (i + 1) = l.take i ++ [v] := by
  rw [List.take_add_one, List.getElem?_set_self hi, List.take_set_of_le (Nat.le_refl _)]; rfl
theorem vals_all (L : List Cn) : allK (valsM L) = L.all (·.k) := by
  unfold allK valsM
  rw [List.all_map]; rfl
theorem corF_end {os : List (Nat × Nat × Ins)} {i n m k : Nat} (c : CtxM) {f : FlM} {g : RefFl} (h : CorF i n m k f g) (hi : i < m) (l : List Ins) (ho : ∀ j o, (opsXL i 0 l)[j]? = some o → os[k + j]? = some o) (hk : k + memL l ≤ n) (hx : ∀ x ∈ l, 1 ≤ x.op ∧ x.op ≤ 17) :
    CorF (i + 1) n m (k + memL l) (thrM c i k l f) (endR g (thrR c os l 0 k 0 (startR g))) := by
  obtain ⟨hc, hkn⟩ := cor_thr c hi l 0 k 0 (startM f) (startR g) (cor_start h) ho hk hx
  have hwl : ∀ j, j ≠ i → (walkM c i l 0 k 0 (startM f)).left.getD j 0 = f.left.getD j 0 := fun j hj => walk_left c i hj l 0 k 0 (startM f)
  unfold thrM endR
  generalize walkM c i l 0 k 0 (startM f) = w at *
  generalize thrR c os l 0 k 0 (startR g) = s at *
  refine ⟨hc.facts, hc.fut, hc.lens, by simp [h.rlen], ?_, hc.llen, ?_, ?_, ?_⟩
  · show (f.regs.set i (valsM w.regs)).take (i + 1) = (g.regs ++ [s.regs]).map valsM
    rw [take_set _ _ _ (by rw [h.rlen]; exact hi), h.regs, List.map_append, hc.regs]; rfl
  · show w.left.take (i + 1) = g.left ++ [s.left]
    rw [hc.left, ← h.left]
    have e1 : w.left.take i = f.left.take i := by
      apply List.ext_getElem?
      intro j
      by_cases hj : j < i
      · have h1 := hwl j (by omega)
        rw [List.getElem?_take_of_lt hj, List.getElem?_take_of_lt hj]
        have a1 : j < w.left.length := by rw [hc.llen]; omega
        have a2 : j < f.left.length := by rw [h.llen]; omega
        rw [List.getD_eq_getElem?_getD, List.getD_eq_getElem?_getD, List.getElem?_eq_getElem a1, List.getElem?_eq_getElem a2] at h1
        rw [List.getElem?_eq_getElem a1, List.getElem?_eq_getElem a2]
        exact congrArg some h1
      · rw [List.getElem?_eq_none (by rw [List.length_take]; omega), List.getElem?_eq_none (by rw [List.length_take]; omega)]
    have a1 : i < w.left.length := by rw [hc.llen]; exact hi
    rw [List.take_add_one, e1, List.getD_eq_getElem?_getD, List.getElem?_eq_getElem a1]; rfl
  · intro j hj
    have hj' : i + 1 ≤ j := hj
    show w.left.getD j 0 = 0
    rw [hwl j (by omega)]; exact h.rest j (by omega)
  · show (f.whole && allK (valsM w.regs)) = ((g.whole && s.known) && s.regs.all (·.k))
    rw [vals_all, hc.regs, h.whole]
    rcases hkn with e | ⟨e, d, hd, hdk⟩
    · rw [e]
      show (g.whole && _) = ((g.whole && true) && _)
      rw [Bool.and_true]
    · have : w.regs.all (·.k) = false := by
        rw [← Bool.not_eq_true, List.all_eq_true]
        intro ha
        rw [ha d hd] at hdk; cases hdk
      rw [e, this]; simp
theorem memT_cons (l : List Ins) (r : List (List Ins)) : memT (l :: r) = memL l + memT r := by simp [memT]
theorem opsXL_len (i : Nat) : ∀ (l : List Ins) (a : Nat), (opsXL i a l).length = memL l
  | [], a => rfl
  | x :: l, a => by
    rw [opsXL, List.length_append, opsXL_len i l (a + 1), memL_cons]
    split <;> simp
theorem opsX_len : ∀ (t : List (List Ins)) (i : Nat), (opsX i t).length = memT t
  | [], i => rfl
  | l :: t, i => by rw [opsX, List.length_append, opsXL_len, opsX_len t (i + 1), memT_cons]
theorem corF_all {os : List (Nat × Nat × Ins)} {n m : Nat} (c : CtxM) : ∀ (r : List (List Ins)) (i k : Nat) (f : FlM) (g : RefFl), CorF i n m k f g → i + r.length = m → (∀ j o, (opsX i r)[j]? = some o → os[k + j]? = some o) → k + memT r ≤ n → (∀ l ∈ r, ∀ x ∈ l, 1 ≤ x.op ∧ x.op ≤ 17) →
    CorF m n m (k + memT r) (thrsM c r i k f) (thrsR c os r k g)
  | [], i, k, f, g, h, hm, _, _, _ => by
    have : i = m := by simpa using hm
    subst this
    exact h
  | l :: r, i, k, f, g, h, hm, ho, hk, hx => by
    rw [memT_cons] at hk ⊢
    rw [List.length_cons] at hm
    have h1 := corF_end c h (by omega) l (fun j o hj => ho j o (by rw [opsX]; exact (List.getElem?_append_left (List.getElem?_eq_some_iff.1 hj).1).trans hj)) (by omega) (hx l (by simp))
    have h2 := corF_all c r (i + 1) (k + memL l) _ _ h1 (by omega) (fun j o hj => by
      have := ho (memL l + j) o (by
        rw [opsX, List.getElem?_append_right (by rw [opsXL_len]; omega), opsXL_len, show memL l + j - memL l = j by omega]
        exact hj)
      rw [Nat.add_assoc]; exact this) (by omega) (fun y hy => hx y (List.mem_cons_of_mem _ hy))
    rw [← Nat.add_assoc]
    exact h2
/-- the reference's answer is the program's -/
theorem flow_ref (c : CtxM) (t : List (List Ins)) (hx : ∀ l ∈ t, ∀ x ∈ l, 1 ≤ x.op ∧ x.op ≤ 17) : CorF t.length (memT t) t.length (memT t) (flowM c t) (ofR c t) := by
  have hfx : ∀ j, factF (blankM (memT t) t.length true) j = fx0 := fun j => by
    have e : ∀ {α : Type} (k : Nat) (d : α), (List.replicate k d).getD j d = d := fun k d => by
      rw [List.getD_eq_getElem?_getD, List.getElem?_replicate]; split <;> rfl
    show (⟨(List.replicate _ 0).getD j 0, (List.replicate _ 0).getD j 0, ((List.replicate _ (false, 0)).getD j (false, 0)).1, ((List.replicate _ (false, 0)).getD j (false, 0)).2, (List.replicate _ 0).getD j 0, (List.replicate _ 0).getD j 0, (List.replicate _ 0).getD j 0⟩ : Fx) = fx0
    rw [e, e]; rfl
  have h0 : CorF 0 (memT t) t.length 0 (blankM (memT t) t.length true) ⟨List.replicate (memT t) fx0, [], [], true⟩ := by
    refine ⟨?_, fun j _ => hfx j, by simp [blankM], by simp [blankM], by simp, by simp [blankM], by simp, fun j _ => ?_, rfl⟩
    · show List.replicate (memT t) fx0 = (List.range (memT t)).map _
      refine Eq.trans ?_ (List.map_congr_left (g := fun _ => fx0) (fun j _ => hfx j)).symm
      apply List.ext_getElem?
      intro j
      rw [List.getElem?_replicate, List.getElem?_map]
      by_cases hj : j < memT t
      · rw [if_pos hj, List.getElem?_range hj]; rfl
      · rw [if_neg hj, List.getElem?_eq_none (by simpa using hj)]; rfl
    · show (List.replicate _ 0).getD j 0 = 0
      rw [List.getD_eq_getElem?_getD, List.getElem?_replicate]; split <;> rfl
  have := corF_all (os := opsX 0 t) c t 0 0 _ _ h0 (by omega) (fun j o hj => by rw [Nat.zero_add]; exact hj) (by omega) hx
  rw [Nat.zero_add] at this
  exact this
end Go.Proofs.Ytccjekgbhablpaa
namespace Go.Proofs.Ytccjekgbhablpaa
set_option maxRecDepth 100000
open Go.RowKit

/-- blocks that are no variables of a thread -/
def FarT (n : Nat) (G : Nat → Prop) (k : Nat) : Prop := G k ∧ (k < n ∨ n + 1 < k)
structure ThrH (w W : World) (G : Nat → Prop) (b fb : Nat) (s : RefSt) (R P L F : Value) : Prop where
  b0 : W.heap[w.heap.size]? = some (.cells #[R, P, .int .i64 (s.last : Int), L, F, .bool s.known] 105 (0, 0))
  b1 : W.heap[w.heap.size + 1]? = some (.cells #[.slice none 0 0, .slice none 0 0, .int .i64 0, .slice none 0 0, .slice none 0 0, .bool false] 105 (0, 0))
  regs : RegM W G b R s.regs
  path : MaskIn W G b P s.path
  left : MaskIn W G b L s.left
  facts : FactM W G fb F s.facts
  bel : Below w.heap.size w W
theorem ThrH.below {w W W' : World} {G : Nat → Prop} {b fb : Nat} {s : RefSt} {R P L F : Value} (h : ThrH w W G b fb s R P L F) (hb : Below W.heap.size W W') : ThrH w W' G b fb s R P L F :=
  ⟨(hb.block _ (ltOf h.b0)).trans h.b0, (hb.block _ (ltOf h.b1)).trans h.b1, h.regs.below hb, h.path.below hb, h.left.below hb, h.facts.below hb, _root_.Go.Proofs.Ytccjekgbhablpaa.bel h.bel hb⟩
theorem ThrH.mono {w W : World} {G : Nat → Prop} {b b' fb : Nat} {s : RefSt} {R P L F : Value} (h : ThrH w W G b fb s R P L F) (hb : b ≤ b') : ThrH w W G b' fb s R P L F :=
  ⟨h.b0, h.b1, h.regs.mono hb, h.path.mono hb, h.left.mono hb, h.facts, h.bel⟩
/-- behind a store into the walk -/
theorem ThrH.setW {w W W' : World} {G : Nat → Prop} {b fb : Nat} {s s' : RefSt} {R P L F R' P' L' F' : Value} (h : ThrH w W (FarT w.heap.size G) b fb s R P L F)
    (hk : ∀ k, k ≠ w.heap.size → W'.heap[k]? = W.heap[k]?) (h0 : W'.heap[w.heap.size]? = some (.cells #[R', P', .int .i64 (s'.last : Int), L', F', .bool s'.known] 105 (0, 0)))
    (hr : RegM W (FarT w.heap.size G) b R' s'.regs) (hp : MaskIn W (FarT w.heap.size G) b P' s'.path) (hl : MaskIn W (FarT w.heap.size G) b L' s'.left) (hF : FactM W (FarT w.heap.size G) fb F' s'.facts) (hb : Below w.heap.size w W') : ThrH w W' (FarT w.heap.size G) b fb s' R' P' L' F' := by
  have kk : ∀ k, FarT w.heap.size G k → k < W.heap.size → W'.heap[k]? = W.heap[k]? := fun k hf _ => hk k (by unfold FarT at hf; omega)
  exact ⟨h0, (hk _ (by omega)).trans h.b1, hr.keep kk, hp.keep kk, hl.keep kk, hF.keep kk, hb⟩
theorem farT {w : World} {G : Nat → Prop} (hG : ∀ k, w.heap.size ≤ k → G k) {n : Nat} (hn : w.heap.size + 1 < n) : ∀ k, n ≤ k → FarT w.heap.size G k := fun k hk => ⟨hG k (by omega), .inr (by omega)⟩
/-- as it starts -/
theorem ThrH.start (w : World) (G : Nat → Prop) (b fb : Nat) (s : RefSt) (R P L F : Value) (hr : RegM w G b R s.regs) (hp : MaskIn w G b P s.path) (hl : MaskIn w G b L s.left) (hf : FactM w G fb F s.facts) :
    ThrH w ((w.alloc (.cells #[R, P, .int .i64 (s.last : Int), L, F, .bool s.known] 105)).alloc (.cells #[.slice none 0 0, .slice none 0 0, .int .i64 0, .slice none 0 0, .slice none 0 0, .bool false] 105)) (FarT w.heap.size G) b fb s R P L F := by
  have FI : ∀ q, G q → q < w.heap.size → FarT w.heap.size G q := fun q h hq => ⟨h, .inl hq⟩
  have bw := _root_.Go.Proofs.Ytccjekgbhablpaa.bel (aset w (.cells #[R, P, .int .i64 (s.last : Int), L, F, .bool s.known] 105)) (aset _ (.cells #[.slice none 0 0, .slice none 0 0, .int .i64 0, .slice none 0 0, .slice none 0 0, .bool false] 105))
  refine ⟨?_, ?_, (hr.imp FI).below bw, (hp.imp FI).below bw, (hl.imp FI).below bw, (hf.imp FI).below bw, bw⟩
  · exact ((aset _ _).block _ (by simp)).trans (heap_alloc_new _ _)
  · have q := heap_alloc_new (w.alloc (.cells #[R, P, .int .i64 (s.last : Int), L, F, .bool s.known] 105)) (.cells #[.slice none 0 0, .slice none 0 0, .int .i64 0, .slice none 0 0, .slice none 0 0, .bool false] 105)
    rwa [World.size_alloc] at q
end Go.Proofs.Ytccjekgbhablpaa
