/- Contracts of rel: Then, Cross. -/
import Derived.Test.YtbcbhofbikdfiaaDoorRelF
namespace Go.Proofs.YtbcbhofbikdfiaaDoor
set_option maxRecDepth 100000
open Go.RowKit M
attribute [local go_sem] Oper.semAt_some

theorem thenTo_succ (r s : List Nat) (k : Nat) : R.thenTo r s (k + 1) = (R.els (R.g r k)).foldl (R.stepT s k) (R.thenTo r s k) := by unfold R.thenTo; rw [List.range_succ, List.foldl_append]; rfl

set_option maxRecDepth 100000 in
set_option maxHeartbeats 2000000 in
theorem then_any (r o : List Nat) (hr : R.Wf r) (ho : R.Wf o) (w : World) (hT : Tab64 w) :
    Calls Tryd.prog 24 #[.agg (w16 r).toArray, .agg (w16 o).toArray] w fun e w' => e = .returned (.agg (w16 (R.thenM r o)).toArray) ∧ Below w.heap.size w w' := by
  refine callsIn_wide.1 (callsIn_of_wp_marks (n := 0) Tryd.func24 rfl trivial ?_ rfl)
  rw [wpIn_wide]
  simp only [Tryd.ntmps24, List.size_toArray, List.length_cons, List.length_nil, Nat.reduceAdd, Nat.reduceSub, Array.replicate_succ, Array.replicate_zero, List.push_toArray, List.append_toArray, List.nil_append, List.cons_append]
  have HT := Box.mk hT
  clear hT
  have b1 : Below w.heap.size w ((((w.alloc (.cells (w16 r).toArray 25)).alloc (.cells (w16 o).toArray 25)).alloc (.cells (w16 R.zeroM).toArray 25)).alloc (.cells (w16 R.zeroM).toArray 25)) := (aset w _).trans (((aset _ _).trans (((aset _ _).trans ((aset _ _).mono (by simp))).mono (by simp))).mono (by simp))
  have rb0 := (((RB.new w r).alloc (.cells (w16 o).toArray 25)).alloc (.cells (w16 R.zeroM).toArray 25)).alloc (.cells (w16 R.zeroM).toArray 25)
  have rb3 := ((RB.new (w.alloc (.cells (w16 r).toArray 25)) o).alloc (.cells (w16 R.zeroM).toArray 25)).alloc (.cells (w16 R.zeroM).toArray 25)
  have rb1 := (RB.new ((w.alloc (.cells (w16 r).toArray 25)).alloc (.cells (w16 o).toArray 25)) R.zeroM).alloc (.cells (w16 R.zeroM).toArray 25)
  have rb2 := RB.new (((w.alloc (.cells (w16 r).toArray 25)).alloc (.cells (w16 o).toArray 25)).alloc (.cells (w16 R.zeroM).toArray 25)) R.zeroM
  rw [sum_zero] at b1 rb0 rb1 rb2 rb3
  simp only [World.size_alloc] at rb1 rb2 rb3
  have RB0 := Box.mk rb0; have HR := Box.mk hr; have HO := Box.mk ho
  clear rb0
  go_wp2_with (first
    | ((with_reducible refine at_load 25 (.tmp 2) ?_); refine wpList_load_mid rfl 25 (.tmp 2) (by rfl) w.heap.size 0 (by rfl) (w16 r) _ RB0.out.range undR rfl (infoL HR.out) ?_))
  generalize ((((w.alloc (.cells (w16 r).toArray 25)).alloc (.cells (w16 o).toArray 25)).alloc (.cells #[.int .u16 0, .int .u16 0, .int .u16 0, .int .u16 0, .int .u16 0, .int .u16 0, .int .u16 0, .int .u16 0, .int .u16 0, .int .u16 0, .int .u16 0, .int .u16 0, .int .u16 0, .int .u16 0, .int .u16 0, .int .u16 0] 25)).alloc (.cells #[.int .u16 0, .int .u16 0, .int .u16 0, .int .u16 0, .int .u16 0, .int .u16 0, .int .u16 0, .int .u16 0, .int .u16 0, .int .u16 0, .int .u16 0, .int .u16 0, .int .u16 0, .int .u16 0, .int .u16 0, .int .u16 0] 25)) = W at *
  have RB1 := Box.mk rb1; have RB2 := Box.mk rb2; have B1 := Box.mk b1; have RB3 := Box.mk rb3
  clear rb1 rb2 b1 RB0 hr ho rb3
  refine wp_loop (fun a' wr => ∃ (u6 u7 u11 u12 u13 u14 u15 u25 : Value) (k : Nat) (ds : List Deferred), k ≤ 16 ∧ Box (RB wr (w.heap.size + 1) o) ∧ Box (RB wr (w.heap.size + 1 + 1) R.zeroM) ∧ Box (RB wr (w.heap.size + 1 + 1 + 1) (R.thenTo r o k)) ∧ Box (Below w.heap.size w wr) ∧ Box (Mk w.heap.size wr.heap.size ds wr) ∧
      a' = { tmps := #[.agg (w16 r).toArray, .agg (w16 o).toArray, .pointer (some ⟨w.heap.size, 0, none⟩), .pointer (some ⟨w.heap.size + 1, 0, none⟩), .pointer (some ⟨w.heap.size + 1 + 1, 0, none⟩), .pointer (some ⟨w.heap.size + 1 + 1 + 1, 0, none⟩), u6, u7, undef, .agg (w16 r).toArray, .int .i64 (k : Int), u11, u12, u13, u14, u15, undef, undef, undef, undef, undef, undef, undef, undef, undef, u25, undef], defers := ds })
    (fun a' _ => 16 - (intOf (a'.tmps.getD 10 undef)).toNat) ?_ ?_
  · exact ⟨_, _, _, _, _, _, _, _, 0, [], by omega, RB3, RB1, RB2, B1, ⟨Mk.nil _ _ _⟩, rfl⟩
  · rintro a' wr ⟨u6, u7, u11, u12, u13, u14, u15, u25, k, ds, hk, h3, h1, h2, hb, hm, rfl⟩
    clear RB1 RB2 B1 RB3
    by_cases hlt : k < 16
    · have ix := fun w => index_rel HR.out w hlt
      have i1 : (0 : Int) ≤ (k : Int) := by omega
      have i2 : (k : Int) < 16 := by omega
      obtain ⟨s, hs⟩ : ∃ s, s = R.g r k := ⟨_, rfl⟩
      have hsl : s < 65536 := by rw [hs]; exact HR.out.lt k
      have HS := Box.mk hs
      rw [← hs] at ix
      clear hs
      go_wp2_with (go_at_call 39; refine (elements_any s _).mono ?_; rintro e w' ⟨rfl, rfl⟩)
      have hsb := SB.new (wr.alloc (.cells #[.int .i64 (k : Int)] 3)) s
      have hab : ((wr.alloc (.cells #[.int .i64 (k : Int)] 3)).alloc (.cells #[.int .u16 (s : Int)] 23)).heap[wr.heap.size]? = some (.cells #[.int .i64 (k : Int)] 3 (0, 0)) := (Below.heap_alloc _ _ _ (by simp)).trans (heap_alloc_new wr _)
      have h1' := (h1.out.alloc (.cells #[.int .i64 (k : Int)] 3)).alloc (.cells #[.int .u16 (s : Int)] 23)
      have h2' := (h2.out.alloc (.cells #[.int .i64 (k : Int)] 3)).alloc (.cells #[.int .u16 (s : Int)] 23)
      have h3' := (h3.out.alloc (.cells #[.int .i64 (k : Int)] 3)).alloc (.cells #[.int .u16 (s : Int)] 23)
      have hb' : Below w.heap.size w ((wr.alloc (.cells #[.int .i64 (k : Int)] 3)).alloc (.cells #[.int .u16 (s : Int)] 23)) := hb.out.trans (((aset _ _).trans ((aset _ _).mono (by simp))).mono hb.out.size)
      have hm' : Mk w.heap.size wr.heap.size ds ((wr.alloc (.cells #[.int .i64 (k : Int)] 3)).alloc (.cells #[.int .u16 (s : Int)] 23)) := hm.out.keep (Nat.le_refl _) fun D _ hD hd => ((Below.heap_alloc _ _ _ (by simp; omega)).trans (Below.heap_alloc _ _ _ hD)).trans hd
      rw [World.size_alloc] at hsb
      have hsz : ((wr.alloc (.cells #[.int .i64 (k : Int)] 3)).alloc (.cells #[.int .u16 (s : Int)] 23)).heap.size = wr.heap.size + 1 + 1 := by simp
      have l1 := h1.out.lt
      have l2 := h2.out.lt
      have l3 := h3.out.lt
      have l0 := hb.out.size
      generalize ((wr.alloc (.cells #[.int .i64 (k : Int)] 3)).alloc (.cells #[.int .u16 (s : Int)] 23)) = Wx at *
      generalize wr.heap.size = A at *
      have hT' : ∀ W, Below w.heap.size w W → Tab64 W := fun W h => tab_bel HT.out h
      refine wp_els (Bn := A + 1) (s := s) rfl hsl hsb
        (fun pre W => RB W (w.heap.size + 1) o ∧ RB W (w.heap.size + 1 + 1) R.zeroM ∧ RB W (w.heap.size + 1 + 1 + 1) (pre.foldl (R.stepT o k) (R.thenTo r o k)) ∧ Below w.heap.size w W ∧ Mk w.heap.size A ds W ∧ W.heap[A]? = some (.cells #[.int .i64 (k : Int)] 3 (0, 0)))
        (fun _ _ _ => False)
        (fun pre W W' h hs => ⟨hs.rb h.1 (by omega), hs.rb h.2.1 (by omega), hs.rb h.2.2.1 (by omega), hs.below h.2.2.2.1 (by omega) (by omega), hs.mk' h.2.2.2.2.1 (by omega) (fun D hD _ => by omega), hs.same _ _ h.2.2.2.2.2 (by omega) (.inr rfl)⟩)
        (fun _ _ _ _ h _ => h)
        (fun pre W h => hT' W h.2.2.2.1)
        ⟨h3', h1', h2', hb', hm', hab⟩
        (fun x => { tmps := #[.agg (w16 r).toArray, .agg (w16 o).toArray, .pointer (some ⟨w.heap.size, 0, none⟩), .pointer (some ⟨w.heap.size + 1, 0, none⟩), .pointer (some ⟨w.heap.size + 1 + 1, 0, none⟩), .pointer (some ⟨w.heap.size + 1 + 1 + 1, 0, none⟩), .pointer (some ⟨A, 0, none⟩), .int .u16 (s : Int), .int .i64 (x : Int), .agg (w16 r).toArray, .int .i64 (k : Int), .bool true, .int .i64 (k : Int), .int .u16 (s : Int), .int .u16 (s : Int), .func (.func 44) #[] #[.pointer (some ⟨A + 1, 0, none⟩)], .int .i64 (x : Int), undef, undef, undef, undef, undef, undef, undef, undef, u25, undef], defers := [] }) ?assign ?body ?done ?stop
      case assign =>
        intro l x W K hK
        gi_wp2
        exact hK
      case body =>
        rintro l pre x W ⟨g6, g1, g2, g3, g4, g5⟩ hx hpre
        obtain ⟨T, hT⟩ : ∃ T, T = pre.foldl (R.stepT o k) (R.thenTo r o k) := ⟨_, rfl⟩
        have hTw : R.Wf T := by rw [hT]; exact (R.foldT HO.out hlt pre _ (R.thenTo_spec HR.out HO.out k (by omega)).1).1
        have hT2 : (pre ++ [x]).foldl (R.stepT o k) (R.thenTo r o k) = T.set k (R.g T k ||| R.g o x) := by rw [List.foldl_append, ← hT]; rfl
        rw [← hT] at g2
        have HT2 := Box.mk hT2
        have c0 : W.cell? ⟨A, 0, none⟩ = some (.int .i64 (k : Int)) := by simp [World.cell?, g5]
        have c1 := g2.cell hTw hlt
        have c2 := g6.cell HO.out hx
        have z1 := g2.fz k
        have n0 := or16 (hTw.lt k) (HO.out.lt x)
        have i3 : (0 : Int) ≤ (x : Int) := by omega
        have i4 : (x : Int) < 16 := by omega
        have G1 := Box.mk g1; have G2 := Box.mk g2; have G3 := Box.mk g3; have G4 := Box.mk g4; have G5 := Box.mk g5; have G6 := Box.mk g6
        clear g1 g2 g3 g4 g5 g6 hT hT2 hTw
        generalize R.g T k = y at *
        generalize R.g o x = p at *
        generalize y ||| p = z at *
        have FIN : Box (Kp Wx.heap.size (A + 1) W (W.setCell ⟨w.heap.size + 1 + 1 + 1, k, none⟩ (.int .u16 (z : Int))).drew ∧ RB (W.setCell ⟨w.heap.size + 1 + 1 + 1, k, none⟩ (.int .u16 (z : Int))).drew (w.heap.size + 1) o ∧ RB (W.setCell ⟨w.heap.size + 1 + 1 + 1, k, none⟩ (.int .u16 (z : Int))).drew (w.heap.size + 1 + 1) R.zeroM ∧ RB (W.setCell ⟨w.heap.size + 1 + 1 + 1, k, none⟩ (.int .u16 (z : Int))).drew (w.heap.size + 1 + 1 + 1) ((pre ++ [x]).foldl (R.stepT o k) (R.thenTo r o k)) ∧
            Below w.heap.size w (W.setCell ⟨w.heap.size + 1 + 1 + 1, k, none⟩ (.int .u16 (z : Int))).drew ∧ Mk w.heap.size A ds (W.setCell ⟨w.heap.size + 1 + 1 + 1, k, none⟩ (.int .u16 (z : Int))).drew ∧ (W.setCell ⟨w.heap.size + 1 + 1 + 1, k, none⟩ (.int .u16 (z : Int))).drew.heap[A]? = some (.cells #[.int .i64 (k : Int)] 3 (0, 0))) := by
          rw [HT2.out]
          have k1 := Kp.set (B := Wx.heap.size) G2.out (show A + 1 ≠ w.heap.size + 1 + 1 + 1 by omega) k (.int .u16 (z : Int))
          exact ⟨⟨k1.bn, k1.oth⟩, G6.out.other (by omega) _ _, G1.out.other (by omega) _ _, G2.out.set _ _, (bset G3.out _ _ _ (by omega)).drew, (G4.out.set G2.out _ _).drew, (Below.heap_setCell W ⟨w.heap.size + 1 + 1 + 1, k, none⟩ _ A (by show A ≠ w.heap.size + 1 + 1 + 1; omega)).trans G5.out⟩
        have hmo : Tryd.prog.follows .mixedOrders = true := by kernel_rfl
        gi_wp2
        gi_region_with_o (fail)
        all_goals exact FIN.out
      case done =>
        rintro D W hD ⟨g6, g1, g2, g3, g4, g5⟩ hK
        have hlD := (Array.getElem?_eq_some_iff.1 hK).1
        have HG : Box (RB W (w.heap.size + 1 + 1 + 1) (R.thenTo r o (k + 1))) := ⟨by rw [thenTo_succ, ← HS.out]; exact g2⟩
        have HM := Box.mk (g4.cons (by omega) (show A ≤ D by omega) hlD hK)
        clear g2 g4 g5 hK
        go_wp2_with fail
        exact ⟨⟨_, _, _, _, _, _, _, _, k + 1, _, by omega, ⟨g6⟩, ⟨g1⟩, HG, ⟨g3⟩, HM, by go_num⟩, by simp [intOf]; omega⟩
      case stop =>
        rintro D pre W _ _ h _
        exact h.elim
    · obtain rfl : k = 16 := by omega
      have HW : Box (R.Wf (R.thenM r o)) := ⟨R.then_wf HR.out HO.out⟩
      have h2' : Box (RB wr (w.heap.size + 1 + 1 + 1) (R.thenM r o)) := h2
      clear h2
      generalize hS : R.thenM r o = S at *
      go_wp2_with (first
        | ((with_reducible refine at_load 25 (.tmp 5) ?_); refine wpList_load_mid rfl 25 (.tmp 5) (by rfl) (w.heap.size + 1 + 1 + 1) 0 (by rfl) (w16 S) _ h2'.out.range undR rfl (infoL HW.out) ?_)
        | ((with_reducible refine at_store 25 (.tmp 4) (.tmp 26) ?_); refine wpList_store_mid rfl 25 (.tmp 4) (.tmp 26) (by rfl) (w.heap.size + 1 + 1) 0 (w16 S).toArray (by rfl) (by rfl) (thereL h1.out HW.out) (infoA HW.out) (all_oneCell_toArray (w16_one _)) ?_))
      have RZ := h1.out.all R.zero_wf HW.out
      have BZ : Below w.heap.size w (wr.setCells (w.heap.size + 1 + 1) 0 (w16 S)) := bsets (by omega) _ _ _ hb.out
      refine leave_marks (B := w.heap.size) ds _ (hm.out.sets h1.out _ _) BZ.size (fun W' hc hb' => ?_)
      have RW : RB W' (w.heap.size + 1 + 1) S := hc _ _ RZ rfl
      exact ⟨_, results_one rfl (by rfl) (loadR RW HW.out), by rw [hS], BZ.trans hb'⟩
end Go.Proofs.YtbcbhofbikdfiaaDoor
