/- Contracts of rel: Turned. -/
import Derived.Test.YtbcbhofbikdfiaaDoorRelE
namespace Go.Proofs.YtbcbhofbikdfiaaDoor
set_option maxRecDepth 100000
open Go.RowKit M
attribute [local go_sem] Oper.semAt_some

theorem elements_any (s : Nat) (w : World) :
    Calls Tryd.prog 39 #[.int .u16 (s : Int)] w fun e w' => e = .returned (.func (.func 44) #[] #[.pointer (some ⟨w.heap.size, 0, none⟩)]) ∧ w' = w.alloc (.cells #[.int .u16 (s : Int)] 23) := by
  go_enter Tryd.func39, Tryd.ntmps39
  go_wp2
  go_ret
  exact ⟨rfl, rfl⟩

/-- the marks of loops that are over -/
structure Mk (B C : Nat) (ds : List Deferred) (W : World) : Prop where
  at' : ∀ d ∈ ds, ∃ D, (B ≤ D ∧ D < C) ∧ d = { target := .collected D, args := #[] } ∧ W.heap[D]? = some (.deferred (some []))
  nd : ds.Nodup
theorem Mk.nil (B C : Nat) (W : World) : Mk B C [] W := ⟨fun _ h => (by cases h), List.nodup_nil⟩
theorem Mk.keep {B C C' : Nat} {ds : List Deferred} {W W' : World} (h : Mk B C ds W) (hC : C ≤ C') (k : ∀ D : Nat, B ≤ D → D < C → W.heap[D]? = some (.deferred (some [])) → W'.heap[D]? = some (.deferred (some []))) : Mk B C' ds W' :=
  ⟨fun d hd => by obtain ⟨D, h1, h2, h3⟩ := h.at' d hd; exact ⟨D, ⟨h1.1, by omega⟩, h2, k D h1.1 h1.2 h3⟩, h.nd⟩
theorem Mk.cons {B C C' : Nat} {ds : List Deferred} {W : World} (h : Mk B C ds W) {D : Nat} (hB : B ≤ C) (hD : C ≤ D) (hC : D < C') (hk : W.heap[D]? = some (.deferred (some []))) : Mk B C' ({ target := .collected D, args := #[] } :: ds) W := by
  refine ⟨fun d hd => ?_, List.nodup_cons.2 ⟨fun hm => ?_, h.nd⟩⟩
  · rcases List.mem_cons.1 hd with rfl | hd
    · exact ⟨D, ⟨by omega, hC⟩, rfl, hk⟩
    · obtain ⟨D', h1, h2, h3⟩ := h.at' d hd
      exact ⟨D', ⟨h1.1, by omega⟩, h2, h3⟩
  · obtain ⟨D', h1, h2, h3⟩ := h.at' _ hm
    have e : D = D' := by
      injection h2 with e1 _
      injection e1
    omega
theorem Sm.rb {B Bn b : Nat} {r : List Nat} {W W' : World} (h : RB W b r) (k : Sm B Bn W W') (hne : b ≠ Bn) : RB W' b r := k.same b _ h hne (.inr rfl)
theorem Sm.below {B Bn : Nat} {w0 W W' : World} (h : Below w0.heap.size w0 W) (k : Sm B Bn W W') (h1 : w0.heap.size ≤ Bn) (h2 : w0.heap.size ≤ B) : Below w0.heap.size w0 W' :=
  ⟨k.os.trans h.os, k.tape.trans h.tape, k.output.trans h.output, Nat.le_trans h.size k.size, fun i hi => by
    obtain ⟨o, ho⟩ : ∃ o, w0.heap[i]? = some o := ⟨_, Array.getElem?_eq_getElem hi⟩
    have e1 := (h.block i hi).trans ho
    rw [k.same i o e1 (by omega) (.inl (by omega)), ho]⟩
theorem Sm.mk' {A B C Bn : Nat} {ds : List Deferred} {W W' : World} (h : Mk A C ds W) (k : Sm B Bn W W') (h1 : C ≤ B) (h2 : ∀ D, D < C → W.heap[D]? = some (.deferred (some [])) → D ≠ Bn) : Mk A C ds W' := h.keep (Nat.le_refl _) fun D _ hD hd => k.same D _ hd (h2 D hD hd) (.inl (by omega))
theorem Kp.set {B Bn b : Nat} {r : List Nat} {W : World} (h : RB W b r) (hne : Bn ≠ b) (x : Nat) (v : Value) : Kp B Bn W (W.setCell ⟨b, x, none⟩ v) :=
  ⟨Below.heap_setCell W ⟨b, x, none⟩ v Bn hne, fun k o _ hk ho => (Below.heap_setCell W ⟨b, x, none⟩ v k (fun e => by
    have e' : k = b := e
    subst e'
    have h' : W.heap[k]? = _ := h
    rw [h'] at hk; cases hk; cases ho)).trans hk⟩
theorem Mk.set {A C b : Nat} {ds : List Deferred} {r : List Nat} {W : World} (h : Mk A C ds W) (hr : RB W b r) (x : Nat) (v : Value) : Mk A C ds (W.setCell ⟨b, x, none⟩ v) := h.keep (Nat.le_refl _) fun D _ _ hd => (Below.heap_setCell W ⟨b, x, none⟩ v D (fun e => by
    have e' : D = b := e
    subst e'
    have h' : W.heap[D]? = _ := hr
    rw [h'] at hd; cases hd)).trans hd
theorem Mk.drew {A C : Nat} {ds : List Deferred} {W : World} (h : Mk A C ds W) : Mk A C ds W.drew := ⟨h.at', h.nd⟩
theorem heap_sets {b c : Nat} (hne : b ≠ c) : ∀ (vs : List Value) (o : Nat) (w : World), (w.setCells c o vs).heap[b]? = w.heap[b]?
  | [], _, _ => rfl
  | v :: vs, o, w => by rw [World.setCells, heap_sets hne vs (o + 1) _]; exact Below.heap_setCell w ⟨c, o, none⟩ v b hne
theorem Mk.sets {A C b : Nat} {ds : List Deferred} {r : List Nat} {W : World} (h : Mk A C ds W) (hr : RB W b r) (vs : List Value) (o : Nat) : Mk A C ds (W.setCells b o vs) := h.keep (Nat.le_refl _) fun D _ _ hd => (heap_sets (fun e => by
    subst e
    have h' : W.heap[D]? = _ := hr
    rw [h'] at hd; cases hd) vs o W).trans hd
theorem leave_marks {n : Nat} {P : Program} {fn : Func} {tmps : Array Value} {R : Ending → World → Prop} {B C : Nat} : ∀ (ds : List Deferred) (W : World), Mk B C ds W → B ≤ W.heap.size →
    (∀ W', (∀ (k : Nat) (o : Obj), W.heap[k]? = some o → o.isCells = true → W'.heap[k]? = some o) → Below B W W' → ∃ v, (results fn tmps).run P W' = .ok v W' ∧ R (.returned v) W') →
    LeavesInM Fence.wide n P fn tmps R ds .returning W
  | [], W, _, _, h => h W (fun _ _ h _ => h) (Below.refl _ _)
  | d :: ds, W, hm, hB, h => by
    obtain ⟨D, h1, rfl, h3⟩ := hm.at' d (by simp)
    refine ⟨by simp, .inl ⟨D, _, rfl, run_takeDeferred h3, ?_⟩⟩
    have hlt := (Array.getElem?_eq_some_iff.1 h3).1
    have hnd := List.nodup_cons.1 hm.nd
    refine leave_marks (C := C) ds (W.putObj D (.deferred none)) ⟨fun d hd => ?_, hnd.2⟩ (by simpa using hB) (fun W' hc hb => ?_)
    · obtain ⟨D', g1, g2, g3⟩ := hm.at' d (by simp [hd])
      refine ⟨D', g1, g2, (World.putObj_heap_other (fun e => ?_)).trans g3⟩
      subst e
      rw [← g2] at hnd
      exact hnd.1 hd
    · refine h W' (fun k o hk ho => hc k o ((World.putObj_heap_other (fun e => ?_)).trans hk) ho) (((Below.refl B W).grown (grownBy_putObj' W D _) hB (fun k e => by cases e; exact h1.1)).trans hb)
      subst e
      rw [h3] at hk; cases hk; cases ho
theorem turnTo_succ (r : List Nat) (k : Nat) : R.turnTo r (k + 1) = (R.els (R.g r k)).foldl (R.stepU k) (R.turnTo r k) := by unfold R.turnTo; rw [List.range_succ, List.foldl_append]; rfl
theorem tab_bel {w w' : World} (h : Tab64 w) (hb : Below w.heap.size w w') : Tab64 w' := fun t ht => by
  have hc := h t ht
  rw [hb.cell (World.block_lt_of_cell? w _ hc)]; exact hc
theorem pre_lt {pre : List Nat} {x s : Nat} (h : (pre ++ [x]) <+: R.els s) : ∀ b ∈ pre, b < 16 := fun b hb => (R.mem_els.1 (h.subset (by simp [hb]))).1
/-- an element of a relation by value -/
theorem index_rel {r : List Nat} (hr : R.Wf r) (w : World) {k : Nat} (hk : k < 16) : (Instr.index 25 (.agg (w16 r).toArray) (.int .i64 (k : Int))).run Tryd.prog w = .ok (.int .u16 ((R.g r k : Nat) : Int)) w := by
  have hz : ∀ w, (sizeOf 23).run Tryd.prog w = .ok 1 w := fun w => by
    have hE : (Tryd.prog.info? 23).map (fun i => i.size) = some 1 := by kernel_rfl
    cases hq : Tryd.prog.info? 23 with
    | none => simp [hq] at hE
    | some i =>
      have hs : i.size = 1 := by simpa [hq] using hE
      simp [sizeOf, typeInfo, hq, hs]
  have ha : ∀ w, (isAgg 23).run Tryd.prog w = .ok false w := fun w => by
    unfold isAgg
    rw [Sem.run_bind, run_underlying Tryd.underlying23 w]
    rfl
  simp [Instr.index, run_underlying Tryd.underlying25, asIntOf, go_sem, hk, hz, ha, w16_get hr hk]

set_option maxRecDepth 100000 in
set_option maxHeartbeats 2000000 in
theorem turned_any (r : List Nat) (hr : R.Wf r) (w : World) (hT : Tab64 w) :
    Calls Tryd.prog 22 #[.agg (w16 r).toArray] w fun e w' => e = .returned (.agg (w16 (R.turnM r)).toArray) ∧ Below w.heap.size w w' := by
  refine callsIn_wide.1 (callsIn_of_wp_marks (n := 0) Tryd.func22 rfl trivial ?_ rfl)
  rw [wpIn_wide]
  simp only [Tryd.ntmps22, List.size_toArray, List.length_cons, List.length_nil, Nat.reduceAdd, Nat.reduceSub, Array.replicate_succ, Array.replicate_zero, List.push_toArray, List.append_toArray, List.nil_append, List.cons_append]
  have HT := Box.mk hT
  clear hT
  have rb0 := ((RB.new w r).alloc (.cells (w16 R.zeroM).toArray 25)).alloc (.cells (w16 R.zeroM).toArray 25)
  rw [sum_zero] at rb0
  have RB0 := Box.mk rb0; have HR := Box.mk hr
  clear rb0
  go_wp2_with (first
    | ((with_reducible refine at_load 25 (.tmp 1) ?_); refine wpList_load_mid rfl 25 (.tmp 1) (by rfl) w.heap.size 0 (by rfl) (w16 r) _ RB0.out.range undR rfl (infoL HR.out) ?_))
  have b1 : Below w.heap.size w (((w.alloc (.cells (w16 r).toArray 25)).alloc (.cells (w16 R.zeroM).toArray 25)).alloc (.cells (w16 R.zeroM).toArray 25)) := (aset w _).trans (((aset _ _).trans ((aset _ _).mono (by simp))).mono (by simp))
  have rb1 := (RB.new (w.alloc (.cells (w16 r).toArray 25)) R.zeroM).alloc (.cells (w16 R.zeroM).toArray 25)
  have rb2 := RB.new ((w.alloc (.cells (w16 r).toArray 25)).alloc (.cells (w16 R.zeroM).toArray 25)) R.zeroM
  rw [sum_zero] at b1 rb1 rb2
  simp only [World.size_alloc] at rb1 rb2
  generalize (((w.alloc (.cells (w16 r).toArray 25)).alloc (.cells #[.int .u16 0, .int .u16 0, .int .u16 0, .int .u16 0, .int .u16 0, .int .u16 0, .int .u16 0, .int .u16 0, .int .u16 0, .int .u16 0, .int .u16 0, .int .u16 0, .int .u16 0, .int .u16 0, .int .u16 0, .int .u16 0] 25)).alloc (.cells #[.int .u16 0, .int .u16 0, .int .u16 0, .int .u16 0, .int .u16 0, .int .u16 0, .int .u16 0, .int .u16 0, .int .u16 0, .int .u16 0, .int .u16 0, .int .u16 0, .int .u16 0, .int .u16 0, .int .u16 0, .int .u16 0] 25)) = W at *
  have RB1 := Box.mk rb1; have RB2 := Box.mk rb2; have B1 := Box.mk b1
  clear rb1 rb2 b1 RB0 hr
  refine wp_loop (fun a' wr => ∃ (u4 u5 u9 u10 u11 u12 u13 u22 : Value) (k : Nat) (ds : List Deferred), k ≤ 16 ∧ Box (RB wr (w.heap.size + 1) R.zeroM) ∧ Box (RB wr (w.heap.size + 1 + 1) (R.turnTo r k)) ∧ Box (Below w.heap.size w wr) ∧ Box (Mk w.heap.size wr.heap.size ds wr) ∧
      a' = { tmps := #[.agg (w16 r).toArray, .pointer (some ⟨w.heap.size, 0, none⟩), .pointer (some ⟨w.heap.size + 1, 0, none⟩), .pointer (some ⟨w.heap.size + 1 + 1, 0, none⟩), u4, u5, undef, .agg (w16 r).toArray, .int .i64 (k : Int), u9, u10, u11, u12, u13, undef, undef, undef, undef, undef, undef, undef, undef, u22, undef], defers := ds })
    (fun a' _ => 16 - (intOf (a'.tmps.getD 8 undef)).toNat) ?_ ?_
  · exact ⟨_, _, _, _, _, _, _, _, 0, [], by omega, RB1, RB2, B1, ⟨Mk.nil _ _ _⟩, rfl⟩
  · rintro a' wr ⟨u4, u5, u9, u10, u11, u12, u13, u22, k, ds, hk, h1, h2, hb, hm, rfl⟩
    clear RB1 RB2 B1
    by_cases hlt : k < 16
    · have ix := fun w => index_rel HR.out w hlt
      have i1 : (0 : Int) ≤ (k : Int) := by omega
      have i2 : (k : Int) < 16 := by omega
      obtain ⟨s, hs⟩ : ∃ s, s = R.g r k := ⟨_, rfl⟩
      have hsl : s < 65536 := by rw [hs]; exact HR.out.lt k
      have HS := Box.mk hs
      rw [← hs] at ix
      clear hs
      go_wp2_with (go_at_call 39; refine (elements_any s _).mono ?_; rintro e w' ⟨rfl, rfl⟩)
      have hsb := SB.new (wr.alloc (.cells #[.int .i64 (k : Int)] 3)) s
      have hab : ((wr.alloc (.cells #[.int .i64 (k : Int)] 3)).alloc (.cells #[.int .u16 (s : Int)] 23)).heap[wr.heap.size]? = some (.cells #[.int .i64 (k : Int)] 3 (0, 0)) := (Below.heap_alloc _ _ _ (by simp)).trans (heap_alloc_new wr _)
      have h1' := (h1.out.alloc (.cells #[.int .i64 (k : Int)] 3)).alloc (.cells #[.int .u16 (s : Int)] 23)
      have h2' := (h2.out.alloc (.cells #[.int .i64 (k : Int)] 3)).alloc (.cells #[.int .u16 (s : Int)] 23)
      have hb' : Below w.heap.size w ((wr.alloc (.cells #[.int .i64 (k : Int)] 3)).alloc (.cells #[.int .u16 (s : Int)] 23)) := hb.out.trans (((aset _ _).trans ((aset _ _).mono (by simp))).mono hb.out.size)
      have hm' : Mk w.heap.size wr.heap.size ds ((wr.alloc (.cells #[.int .i64 (k : Int)] 3)).alloc (.cells #[.int .u16 (s : Int)] 23)) := hm.out.keep (Nat.le_refl _) fun D _ hD hd => ((Below.heap_alloc _ _ _ (by simp; omega)).trans (Below.heap_alloc _ _ _ hD)).trans hd
      rw [World.size_alloc] at hsb
      have hsz : ((wr.alloc (.cells #[.int .i64 (k : Int)] 3)).alloc (.cells #[.int .u16 (s : Int)] 23)).heap.size = wr.heap.size + 1 + 1 := by simp
      have l1 := h1.out.lt
      have l2 := h2.out.lt
      have l0 := hb.out.size
      generalize ((wr.alloc (.cells #[.int .i64 (k : Int)] 3)).alloc (.cells #[.int .u16 (s : Int)] 23)) = Wx at *
      generalize wr.heap.size = A at *
      have hT' : ∀ W, Below w.heap.size w W → Tab64 W := fun W h => tab_bel HT.out h
      refine wp_els (Bn := A + 1) (s := s) rfl hsl hsb
        (fun pre W => RB W (w.heap.size + 1) R.zeroM ∧ RB W (w.heap.size + 1 + 1) (pre.foldl (R.stepU k) (R.turnTo r k)) ∧ Below w.heap.size w W ∧ Mk w.heap.size A ds W ∧ W.heap[A]? = some (.cells #[.int .i64 (k : Int)] 3 (0, 0)))
        (fun _ _ _ => False)
        (fun pre W W' h hs => ⟨hs.rb h.1 (by omega), hs.rb h.2.1 (by omega), hs.below h.2.2.1 (by omega) (by omega), hs.mk' h.2.2.2.1 (by omega) (fun D hD _ => by omega), hs.same _ _ h.2.2.2.2 (by omega) (.inr rfl)⟩)
        (fun _ _ _ _ h _ => h)
        (fun pre W h => hT' W h.2.2.1)
        ⟨h1', h2', hb', hm', hab⟩
        (fun x => { tmps := #[.agg (w16 r).toArray, .pointer (some ⟨w.heap.size, 0, none⟩), .pointer (some ⟨w.heap.size + 1, 0, none⟩), .pointer (some ⟨w.heap.size + 1 + 1, 0, none⟩), .pointer (some ⟨A, 0, none⟩), .int .u16 (s : Int), .int .i64 (x : Int), .agg (w16 r).toArray, .int .i64 (k : Int), .bool true, .int .i64 (k : Int), .int .u16 (s : Int), .int .u16 (s : Int), .func (.func 44) #[] #[.pointer (some ⟨A + 1, 0, none⟩)], .int .i64 (x : Int), undef, undef, undef, undef, undef, undef, undef, u22, undef], defers := [] }) ?assign ?body ?done ?stop
      case assign =>
        intro l x W K hK
        gi_wp2
        exact hK
      case body =>
        rintro l pre x W ⟨g1, g2, g3, g4, g5⟩ hx hpre
        obtain ⟨T, hT⟩ : ∃ T, T = pre.foldl (R.stepU k) (R.turnTo r k) := ⟨_, rfl⟩
        have hTw : R.Wf T := by rw [hT]; exact (R.foldU hlt pre _ (R.turnTo_spec HR.out k (by omega)).1 (pre_lt hpre)).1
        have hT2 : (pre ++ [x]).foldl (R.stepU k) (R.turnTo r k) = T.set x (R.g T x ||| 2 ^ k) := by rw [List.foldl_append, ← hT]; rfl
        rw [← hT] at g2
        have HT2 := Box.mk hT2
        have c0 : W.cell? ⟨A, 0, none⟩ = some (.int .i64 (k : Int)) := by simp [World.cell?, g5]
        have c1 := g2.cell hTw hx
        have z1 := g2.fz x
        have n0 := or16 (hTw.lt x) (R.one_lt hlt)
        have i3 : (0 : Int) ≤ (x : Int) := by omega
        have i4 : (x : Int) < 16 := by omega
        have G1 := Box.mk g1; have G2 := Box.mk g2; have G3 := Box.mk g3; have G4 := Box.mk g4; have G5 := Box.mk g5
        have SG := Box.mk (fun w => single_any k hlt w)
        clear g1 g2 g3 g4 g5 hT hT2 hTw
        generalize R.g T x = y at *
        generalize (2 ^ k : Nat) = p at *
        generalize y ||| p = z at *
        have FIN : Box (Kp Wx.heap.size (A + 1) W (W.setCell ⟨w.heap.size + 1 + 1, x, none⟩ (.int .u16 (z : Int))).drew ∧ RB (W.setCell ⟨w.heap.size + 1 + 1, x, none⟩ (.int .u16 (z : Int))).drew (w.heap.size + 1) R.zeroM ∧ RB (W.setCell ⟨w.heap.size + 1 + 1, x, none⟩ (.int .u16 (z : Int))).drew (w.heap.size + 1 + 1) ((pre ++ [x]).foldl (R.stepU k) (R.turnTo r k)) ∧
            Below w.heap.size w (W.setCell ⟨w.heap.size + 1 + 1, x, none⟩ (.int .u16 (z : Int))).drew ∧ Mk w.heap.size A ds (W.setCell ⟨w.heap.size + 1 + 1, x, none⟩ (.int .u16 (z : Int))).drew ∧ (W.setCell ⟨w.heap.size + 1 + 1, x, none⟩ (.int .u16 (z : Int))).drew.heap[A]? = some (.cells #[.int .i64 (k : Int)] 3 (0, 0))) := by
          rw [HT2.out]
          have k1 := Kp.set (B := Wx.heap.size) G2.out (show A + 1 ≠ w.heap.size + 1 + 1 by omega) x (.int .u16 (z : Int))
          exact ⟨⟨k1.bn, k1.oth⟩, G1.out.other (by omega) _ _, G2.out.set _ _, (bset G3.out _ _ _ (by omega)).drew, (G4.out.set G2.out _ _).drew, (Below.heap_setCell W ⟨w.heap.size + 1 + 1, x, none⟩ _ A (by show A ≠ w.heap.size + 1 + 1; omega)).trans G5.out⟩
        have hmo : Tryd.prog.follows .mixedOrders = true := by kernel_rfl
        gi_wp2
        gi_region_with_o (first | (refine ⟨trivial, rfl, (CallsIn.inRound l (callsIn_wide.2 (SG.out _))).mono ?_⟩; rintro e w' ⟨rfl, rfl⟩))
        all_goals exact FIN.out
      case done =>
        rintro D W hD ⟨g1, g2, g3, g4, g5⟩ hK
        have hlD := (Array.getElem?_eq_some_iff.1 hK).1
        have HG : Box (RB W (w.heap.size + 1 + 1) (R.turnTo r (k + 1))) := ⟨by rw [turnTo_succ, ← HS.out]; exact g2⟩
        have HM := Box.mk (g4.cons (by omega) (show A ≤ D by omega) hlD hK)
        clear g2 g4 g5 hK
        go_wp2_with fail
        exact ⟨⟨_, _, _, _, _, _, _, _, k + 1, _, by omega, ⟨g1⟩, HG, ⟨g3⟩, HM, by go_num⟩, by simp [intOf]; omega⟩
      case stop =>
        rintro D pre W _ _ h _
        exact h.elim
    · obtain rfl : k = 16 := by omega
      have HW : Box (R.Wf (R.turnM r)) := ⟨R.turn_wf HR.out⟩
      have h2' : Box (RB wr (w.heap.size + 1 + 1) (R.turnM r)) := h2
      clear h2
      generalize hS : R.turnM r = S at *
      go_wp2_with (first
        | ((with_reducible refine at_load 25 (.tmp 3) ?_); refine wpList_load_mid rfl 25 (.tmp 3) (by rfl) (w.heap.size + 1 + 1) 0 (by rfl) (w16 S) _ h2'.out.range undR rfl (infoL HW.out) ?_)
        | ((with_reducible refine at_store 25 (.tmp 2) (.tmp 23) ?_); refine wpList_store_mid rfl 25 (.tmp 2) (.tmp 23) (by rfl) (w.heap.size + 1) 0 (w16 S).toArray (by rfl) (by rfl) (thereL h1.out HW.out) (infoA HW.out) (all_oneCell_toArray (w16_one _)) ?_))
      have RZ := h1.out.all R.zero_wf HW.out
      have BZ : Below w.heap.size w (wr.setCells (w.heap.size + 1) 0 (w16 S)) := bsets (by omega) _ _ _ hb.out
      refine leave_marks (B := w.heap.size) ds _ (hm.out.sets h1.out _ _) BZ.size (fun W' hc hb' => ?_)
      have RW : RB W' (w.heap.size + 1) S := hc _ _ RZ rfl
      exact ⟨_, results_one rfl (by rfl) (loadR RW HW.out), by rw [hS], BZ.trans hb'⟩
end Go.Proofs.YtbcbhofbikdfiaaDoor
