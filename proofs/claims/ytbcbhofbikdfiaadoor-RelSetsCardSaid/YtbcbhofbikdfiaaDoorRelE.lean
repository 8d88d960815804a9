/- Contracts of rel: the iterator over the things of a set. -/
import Derived.Test.YtbcbhofbikdfiaaDoorRelD
namespace Go.Proofs.YtbcbhofbikdfiaaDoor
set_option maxRecDepth 100000
open Go.RowKit M
attribute [local go_sem] Oper.semAt_some

/-- what is left of a set lies in block b -/
def SB (w : World) (b : Nat) (s : Nat) : Prop := w.heap[b]? = some (.cells #[.int .u16 (s : Int)] 23 (0, 0))
theorem SB.cell {w : World} {b s : Nat} (h : SB w b s) : w.cell? ⟨b, 0, none⟩ = some (.int .u16 (s : Int)) := by unfold SB at h; simp [World.cell?, h]
theorem SB.fz {w : World} {b s : Nat} (h : SB w b s) : w.frozen? ⟨b, 0, none⟩ = false := by unfold SB at h; simp [World.frozen?, h]
theorem SB.set {w : World} {b s : Nat} (h : SB w b s) (v : Nat) : SB (w.setCell ⟨b, 0, none⟩ (.int .u16 (v : Int))) b v := by unfold SB; rw [setHeap h]; rfl
theorem SB.keep {w w' : World} {b s : Nat} (h : SB w b s) (k : w'.heap[b]? = w.heap[b]?) : SB w' b s := k.trans h
theorem SB.new (w : World) (s : Nat) : SB (w.alloc (.cells #[.int .u16 (s : Int)] 23)) w.heap.size s := heap_alloc_new w _
def setOf (w : World) (b : Nat) : Nat := match w.cell? ⟨b, 0, none⟩ with | some (.int _ n) => n.toNat | _ => 0
theorem SB.of {w : World} {b s : Nat} (h : SB w b s) : setOf w b = s := by unfold setOf; rw [h.cell]; simp

theorem u16_pred {s : Nat} (h0 : 0 < s) (hs : s < 65536) : IntKind.u16.wrap ((s : Int) - 1) = ((s - 1 : Nat) : Int) := by
  simp only [IntKind.wrap, IntKind.signed, IntKind.bits]
  simp
  omega
set_option maxRecDepth 100000 in
set_option maxHeartbeats 2000000 in
theorem els_it (n l Bn s : Nat) (hs : s < 65536) (J Jx : List Nat → World → Prop)
    (hJ : ∀ pre W v, J pre W → J pre (W.setCell ⟨Bn, 0, none⟩ v)) (hT : ∀ pre W, J pre W → Tab64 W)
    (hY : ∀ pre (x : Nat) W1, J pre W1 → x < 16 → (pre ++ [x]) <+: R.els s → YieldAt Fence.wide (n - 1) Tryd.prog l #[.int .i64 (x : Int)] W1 fun e W' =>
      (e = .returned (.bool true) ∧ J (pre ++ [x]) W' ∧ W'.heap[Bn]? = W1.heap[Bn]?) ∨ (e = .returned (.bool false) ∧ Jx (pre ++ [x]) W'))
    (W : World) (hc : SB W Bn s) (h0 : J [] W) :
    CallsIn Fence.wide n Tryd.prog 44 #[.func (.yield l) #[] #[], .pointer (some ⟨Bn, 0, none⟩)] W fun e W' => (∃ v, e = .returned v) ∧ (J (R.els s) W' ∨ ∃ pre, pre <+: R.els s ∧ Jx pre W') := by
  have HC := Box.mk hc
  clear hc
  refine callsIn_of_wp Tryd.func44 rfl trivial ?_ rfl
  simp only [Tryd.ntmps44, List.size_toArray, List.length_cons, List.length_nil, Nat.reduceAdd, Nat.reduceSub, Array.replicate_succ, Array.replicate_zero, List.push_toArray, List.append_toArray, List.nil_append, List.cons_append]
  gi_wp2
  gi_loopw [] (fun wr => ∃ (pre : List Nat) (t : Nat), t < 65536 ∧ Box (R.els s = pre ++ R.els t) ∧ Box (SB wr Bn t) ∧ Box (J pre wr)) (fun wr => (R.els (setOf wr Bn)).length)
  case atStart => exact ⟨[], s, hs, ⟨rfl⟩, HC, ⟨h0⟩⟩
  case round =>
    obtain ⟨pre, t, ht, hx, hb, hj⟩ := hrel
    have hbc := hb.out.cell
    have hbf := hb.out.fz
    by_cases h00 : t = 0
    · subst h00
      gi_wp2
      go_end0
      exact ⟨⟨_, rfl⟩, .inl (by rw [hx.out, R.els_zero, List.append_nil]; exact hj.out)⟩
    · obtain ⟨k, hk, hk16, hkb, hmin⟩ := low_bit ht h00
      have hcons := els_cons hk16 hkb hmin
      have hand := and_pred hkb hmin
      have hcf := wordFirst_any t (by omega) wr (fun _ => hT _ _ hj.out)
      rw [hk] at hcf
      have CF := Box.mk hcf
      have hpre : (pre ++ [k]) <+: R.els s := ⟨R.els (R.andN t (2 ^ k)), by rw [hx.out, hcons]; simp⟩
      obtain ⟨fn, tmps, assign, body, hy, hR⟩ := hY pre k wr hj.out hk16 hpre
      have HRR := Box.mk hR
      have hlen : (R.els t).length = (R.els (R.andN t (2 ^ k))).length + 1 := by rw [hcons]; rfl
      have HL := Box.mk hlen
      have HX2 : Box (R.els s = (pre ++ [k]) ++ R.els (R.andN t (2 ^ k))) := ⟨by rw [hx.out, hcons]; simp⟩
      have e1 := u16_pred (s := t) (by omega) ht
      have e2 := and16 (a := t) (b := t - 1) ht (by omega)
      rw [hand] at e2
      have l2 := R.andN_lt (b := 2 ^ k) ht
      have HP := Box.mk hpre
      have HO := Box.mk hb.out.of
      clear hk hkb hmin hcons hand hcf hR hpre hlen hx
      generalize R.andN t (2 ^ k) = t2 at *
      obtain ⟨t1, ht1⟩ : ∃ t1, t - 1 = t1 := ⟨_, rfl⟩
      rw [ht1] at e1 e2
      gi_wp2
      refine ⟨trivial, (fun h => by cases h), (callsIn_wide.2 CF.out).mono ?_⟩
      rintro e w' ⟨rfl, rfl⟩
      gi_wp2
      refine ⟨(fun h => by cases h), HRR.out.mono ?_⟩
      rintro e W3 (⟨rfl, hJ3, hk3⟩ | ⟨rfl, hJx3⟩)
      · have hb3 := hb.out.keep hk3
        have hc3 := hb3.cell
        have hf3 := hb3.fz
        have HB3 := Box.mk hb3; have HJ3 := Box.mk hJ3
        clear hb3 hJ3 hk3 hb hj hbc hbf
        gi_wp2
        go_roundw
        case rel => exact ⟨pre ++ [k], t2, l2, HX2, ⟨HB3.out.set t2⟩, ⟨hJ _ _ _ HJ3.out⟩⟩
        case measure => rw [(HB3.out.set t2).of, HO.out, HL.out]; omega
      · gi_wp2
        refine bodyPost_ret (results_none rfl _ _ _) rfl ?_
        exact ⟨⟨_, rfl⟩, .inr ⟨pre ++ [k], HP.out, hJx3⟩⟩

/-- unchanged but for block Bn, for what is no cells at or beyond B, and for what is new -/
structure Sm (B Bn : Nat) (W W' : World) : Prop where
  os : W'.os = W.os
  tape : W'.tape = W.tape
  output : W'.output = W.output
  size : W.heap.size ≤ W'.heap.size
  same : ∀ (k : Nat) (o : Obj), W.heap[k]? = some o → k ≠ Bn → (k < B ∨ o.isCells = true) → W'.heap[k]? = some o
theorem Sm.alloc {B Bn : Nat} (W : World) (o : Obj) : Sm B Bn W (W.alloc o) := ⟨rfl, rfl, rfl, by simp, fun k o' h _ _ => (Below.heap_alloc W o k (Array.getElem?_eq_some_iff.1 h).1).trans h⟩
theorem Sm.put {B Bn : Nat} (W : World) {l : Nat} {o : Obj} (o' : Obj) (hl : B ≤ l) (h : W.heap[l]? = some o) (ho : o.isCells = false) : Sm B Bn W (W.putObj l o') := ⟨rfl, rfl, rfl, by simp, fun k p h' _ hk => by
  have hne : k ≠ l := by
    intro e; subst e
    rw [h] at h'
    cases h'
    rcases hk with hk | hk
    · omega
    · rw [ho] at hk; cases hk
  exact (World.putObj_heap_other hne).trans h'⟩
theorem Sm.cell {B Bn : Nat} (W : World) (v : Value) : Sm B Bn W (W.setCell ⟨Bn, 0, none⟩ v) := ⟨rfl, rfl, rfl, by simp [World.setCell], fun k p h hk _ => (Below.heap_setCell W ⟨Bn, 0, none⟩ v k hk).trans h⟩
/-- what a round's body leaves alone -/
structure Kp (B Bn : Nat) (W W' : World) : Prop where
  bn : W'.heap[Bn]? = W.heap[Bn]?
  oth : ∀ (k : Nat) (o : Obj), B ≤ k → W.heap[k]? = some o → o.isCells = false → W'.heap[k]? = some o
theorem Kp.trans {B Bn : Nat} {A W W' : World} (h : Kp B Bn A W) (k : Kp B Bn W W') : Kp B Bn A W' := ⟨k.bn.trans h.bn, fun i o h1 h2 h3 => k.oth i o h1 (h.oth i o h1 h2 h3) h3⟩
/-- how a round's body may be left -/
def elPost (B Bn : Nat) (J : List Nat → World → Prop) (Jx : Code → List Nat → World → Prop) (xs : List Nat) (W : World) : Exit → Act → World → Prop
  | .normal, _, W' => Kp B Bn W W' ∧ J xs W'
  | .ret, _, W' => Kp B Bn W W' ∧ Jx .ret xs W'
  | _, _, _ => False

theorem mark_new (w : World) : (w.alloc (.deferred (some []))).heap[w.heap.size]? = some (.deferred (some [])) := World.alloc_heap_new w _

set_option maxHeartbeats 2000000 in
/-- a loop over the things of a set -/
theorem wp_els {g : Operand} {p : Tmp} {assign body : Code} {Q : Exit → Act → World → Prop} {a : Act} {w : World} {Bn s : Nat}
    (hg : a.eval g = .func (.func 44) #[] #[.pointer (some ⟨Bn, 0, none⟩)]) (hs : s < 65536) (hc : SB w Bn s)
    (J : List Nat → World → Prop) (Jx : Code → List Nat → World → Prop)
    (hJ : ∀ pre W W', J pre W → Sm w.heap.size Bn W W' → J pre W') (hJx : ∀ c pre W W', Jx c pre W → Sm w.heap.size Bn W W' → Jx c pre W')
    (hT : ∀ pre W, J pre W → Tab64 W) (h0 : J [] w) (a₁ : Nat → Act)
    (hassign : ∀ (l x : Nat) (W : World) (K : Act → World → Prop), K (a₁ x) W →
      assign.wpIn (Fence.wide.inRound l) (0 - 1 - 1) Tryd.prog (Exit.then K (fun _ _ _ => False)) { tmps := a.tmps.setIfInBounds p (.int .i64 (x : Int)), defers := [] } W)
    (hbody : ∀ (l : Nat) (pre : List Nat) (x : Nat) (W : World), J pre W → x < 16 → (pre ++ [x]) <+: R.els s → body.wpIn (Fence.wide.inRound l) (0 - 1 - 1) Tryd.prog (elPost w.heap.size Bn J Jx (pre ++ [x]) W) (a₁ x) W)
    (hdone : ∀ (D : Nat) (W : World), w.heap.size ≤ D → J (R.els s) W → W.heap[D]? = some (.deferred (some [])) → Q .normal { a with defers := { target := .collected D, args := #[] } :: a.defers } W)
    (hstop : ∀ (D : Nat) (pre : List Nat) (W : World), w.heap.size ≤ D → pre <+: R.els s → Jx .ret pre W → W.heap[D]? = some (.deferred (some [])) → Code.ret.wp Tryd.prog Q { a with defers := { target := .collected D, args := #[] } :: a.defers } W) :
    (Code.rangeFunc g #[p] assign body).wp Tryd.prog Q a w := by
  rw [← wpIn_wide (n := 0)]
  refine wpIn_rangeFunc ?_
  intro fn hfn
  -- the loop's record, in its states
  obtain ⟨rec, hrec⟩ : ∃ rec : LoopState → Option Code → Loop, rec = fun st pe => { state := st, pending := pe, fn := fn, tmps := a.tmps, params := #[p], assign := assign, body := body, defers := w.heap.size } := ⟨_, rfl⟩
  obtain ⟨W1, hW1⟩ : ∃ W1, (w.alloc (.deferred (some []))).alloc (.loop (rec .ready none)) = W1 := ⟨_, rfl⟩
  have hL1 : W1.heap[w.heap.size + 1]? = some (.loop (rec .ready none)) := by
    rw [← hW1]; have := World.alloc_heap_new (w.alloc (.deferred (some []))) (.loop (rec .ready none)); rwa [World.size_alloc] at this
  have hK1 : W1.heap[w.heap.size]? = some (.deferred (some [])) := by
    rw [← hW1]; exact (Below.heap_alloc _ _ _ (by simp)).trans (mark_new w)
  have hJ1 : J [] W1 := by rw [← hW1]; exact hJ _ _ _ (hJ _ _ _ h0 (Sm.alloc _ _)) (Sm.alloc _ _)
  have hBn : Bn < w.heap.size := (Array.getElem?_eq_some_iff.1 hc).1
  have hc1 : SB W1 Bn s := by
    rw [← hW1]; exact ((Below.heap_alloc _ _ Bn (by simp; omega)).trans (Below.heap_alloc _ _ Bn hBn)).trans hc
  have f1 : ∀ (W : World) (v : Value) (k : Nat) (o : Obj), w.heap.size ≤ k → W.heap[k]? = some o → (W.setCell ⟨Bn, 0, none⟩ v).heap[k]? = some o := fun W v k o hk h => (Below.heap_setCell W ⟨Bn, 0, none⟩ v k (by show k ≠ Bn; omega)).trans h
  refine ⟨w.heap.size + 1, [{ target := .collected w.heap.size, args := #[] }], W1, { target := .fn (.func 44) #[.pointer (some ⟨Bn, 0, none⟩)], args := #[.func (.yield (w.heap.size + 1)) #[] #[]] }, W1, 44,
    #[.func (.yield (w.heap.size + 1)) #[] #[], .pointer (some ⟨Bn, 0, none⟩)], W1, ?_, ?_, (fun _ _ => trivial), ?_, (fun h => by cases h), ?_⟩
  · rw [← hW1, hrec]; exact run_enterLoop_outer _ _ _ _ _
  · simp only [resolve, hg]
    simp [go_sem]
  · simp [invoke, go_sem]
  · refine (els_it (0 - 1) (w.heap.size + 1) Bn s hs
      (fun pre W => J pre W ∧ W.heap[w.heap.size + 1]? = some (.loop (rec .ready none)) ∧ W.heap[w.heap.size]? = some (.deferred (some [])))
      (fun pre W => Jx .ret pre W ∧ W.heap[w.heap.size + 1]? = some (.loop (rec .done (some .ret))) ∧ W.heap[w.heap.size]? = some (.deferred (some [])))
      (fun pre W v h => ⟨hJ _ _ _ h.1 (Sm.cell W v), f1 _ _ _ _ (by omega) h.2.1, f1 _ _ _ _ (Nat.le_refl _) h.2.2⟩)
      (fun pre W h => hT _ _ h.1) ?_ W1 hc1 ⟨hJ1, hL1, hK1⟩).mono ?_
    · rintro pre x W ⟨hj, hl, hk⟩ hx hpre
      have hy := run_yield (P := Tryd.prog) (args := #[.int .i64 (x : Int)]) hl (by rw [hrec]; rfl)
      rw [hrec] at hy
      dsimp only at hy
      have ef : Array.foldl (fun (tmps : Array Value) (y : Tmp × Value) => match y with | (t, a) => tmps.setIfInBounds t a) a.tmps ((#[p] : Array Tmp).zip #[Value.int .i64 (x : Int)]) = a.tmps.setIfInBounds p (.int .i64 (x : Int)) := by simp
      rw [ef] at hy
      refine ⟨fn, _, assign, body, hy, roundIn_of_wpIn hfn ?_⟩
      refine hassign _ x W _ ?_
      refine ⟨_, run_beginRound hl (by rw [hrec]), ?_⟩
      have hlt : w.heap.size + 1 < W.heap.size := (Array.getElem?_eq_some_iff.1 hl).1
      have hl2 : (W.putObj (w.heap.size + 1) (.loop { rec .ready none with state := .busy })).heap[w.heap.size + 1]? = some (.loop { rec .ready none with state := .busy }) := World.putObj_heap_same hlt
      have hk2 : (W.putObj (w.heap.size + 1) (.loop { rec .ready none with state := .busy })).heap[w.heap.size]? = some (.deferred (some [])) := (World.putObj_heap_other (by omega)).trans hk
      have hbn : (W.putObj (w.heap.size + 1) (.loop { rec .ready none with state := .busy })).heap[Bn]? = W.heap[Bn]? := World.putObj_heap_other (by omega)
      refine wpIn_mono (hbody _ pre x _ (hJ _ _ _ hj (Sm.put W _ (by omega) hl rfl)) hx hpre) ?_
      rintro e a3 W3 hp
      cases e with
      | normal =>
        obtain ⟨hk3, hj3⟩ := hp
        have hl3 := hk3.oth _ _ (by omega) hl2 rfl
        have := run_endRound (P := Tryd.prog) none hl3
        refine ⟨_, _, this, .inl ⟨rfl, ⟨hJ _ _ _ hj3 (Sm.put W3 _ (by omega) hl3 rfl), ?_, ?_⟩, ?_⟩⟩
        · rw [World.putObj_heap_same (Array.getElem?_eq_some_iff.1 hl3).1, hrec]; rfl
        · exact (World.putObj_heap_other (by omega)).trans (hk3.oth _ _ (Nat.le_refl _) hk2 rfl)
        · exact ((World.putObj_heap_other (by omega)).trans hk3.bn).trans hbn
      | ret =>
        obtain ⟨hk3, hj3⟩ := hp
        have hl3 := hk3.oth _ _ (by omega) hl2 rfl
        have := run_endRound (P := Tryd.prog) (some .ret) hl3
        refine ⟨_, _, this, .inr ⟨rfl, hJx _ _ _ _ hj3 (Sm.put W3 _ (by omega) hl3 rfl), ?_, ?_⟩⟩
        · rw [World.putObj_heap_same (Array.getElem?_eq_some_iff.1 hl3).1, hrec]; rfl
        · exact (World.putObj_heap_other (by omega)).trans (hk3.oth _ _ (Nat.le_refl _) hk2 rfl)
      | exit id => exact hp.elim
      | goto t => exact hp.elim
      | panic ch => exact hp.elim
      | outgrown => exact hp.elim
    · rintro e W2 ⟨⟨v, rfl⟩, (⟨hj, hl, hk⟩ | ⟨pre, hpre, hj, hl, hk⟩)⟩
      · refine ⟨none, _, by have := run_endLoop (P := Tryd.prog) hl (by rw [hrec]; simp); rw [hrec] at this; exact this, ?_⟩
        exact hdone _ _ (Nat.le_refl _) (hJ _ _ _ hj (Sm.put W2 _ (by omega) hl rfl)) ((World.putObj_heap_other (by omega)).trans hk)
      · refine ⟨some .ret, _, by have := run_endLoop (P := Tryd.prog) hl (by rw [hrec]; simp); rw [hrec] at this; exact this, ?_⟩
        show Code.ret.wpIn _ _ _ _ _ _
        rw [wpIn_wide]
        exact hstop _ pre _ (Nat.le_refl _) hpre (hJx _ _ _ _ hj (Sm.put W2 _ (by omega) hl rfl)) ((World.putObj_heap_other (by omega)).trans hk)
end Go.Proofs.YtbcbhofbikdfiaaDoor
