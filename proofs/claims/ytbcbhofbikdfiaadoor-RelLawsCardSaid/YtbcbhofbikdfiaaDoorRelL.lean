/- The law RelLaws, walked. -/
import Derived.Test.YtbcbhofbikdfiaaDoorRelK
namespace Go.Proofs.YtbcbhofbikdfiaaDoor
set_option maxRecDepth 100000
open Go.RowKit M

set_option maxRecDepth 100000 in
set_option linter.unusedSimpArgs false in
set_option maxHeartbeats 4000000 in
theorem relLaws_walk (r s : List Nat) (hr : R.Wf r) (hs : R.Wf s) (w : World) (hT : Tab64 w) :
    Calls Tryd.prog 5 #[.agg (w16 r).toArray, .agg (w16 s).toArray] w fun e w' => e = .returned (.bool true) ∧ Below w.heap.size w w' := by
  have t1 : ∀ W, Tab64 W → Calls Tryd.prog 22 #[.agg (w16 (r)).toArray] W fun e w' => e = .returned (.agg (w16 (R.turnM r)).toArray) ∧ Below W.heap.size W w' := fun W h => by
    have q := turned_any r hr W h
    exact q
  have t2 : ∀ W, Tab64 W → Calls Tryd.prog 22 #[.agg (w16 (R.turnM r)).toArray] W fun e w' => e = .returned (.agg (w16 (r)).toArray) ∧ Below W.heap.size W w' := fun W h => by
    have q := turned_any (R.turnM r) (R.turn_wf hr) W h
    rw [R.turn_turn hr] at q
    exact q
  have l1 : ∀ W, Calls Tryd.prog 26 #[.agg (w16 (r)).toArray] W fun e w' => e = .returned (.agg (w16 (R.closeM r)).toArray) ∧ Below W.heap.size W w' := fun W => by
    have q := closed_any r hr W
    exact q
  have l2 : ∀ W, Calls Tryd.prog 26 #[.agg (w16 (R.closeM r)).toArray] W fun e w' => e = .returned (.agg (w16 (R.closeM r)).toArray) ∧ Below W.heap.size W w' := fun W => by
    have q := closed_any (R.closeM r) (R.close_wf hr) W
    rw [R.close_close hr] at q
    exact q
  have n1 : ∀ W, Tab64 W → Calls Tryd.prog 24 #[.agg (w16 (r)).toArray, .agg (w16 (s)).toArray] W fun e w' => e = .returned (.agg (w16 (R.thenM r s)).toArray) ∧ Below W.heap.size W w' := fun W h => by
    have q := then_any r s hr hs W h
    exact q
  have t3 : ∀ W, Tab64 W → Calls Tryd.prog 22 #[.agg (w16 (R.thenM r s)).toArray] W fun e w' => e = .returned (.agg (w16 (R.thenM (R.turnM s) (R.turnM r))).toArray) ∧ Below W.heap.size W w' := fun W h => by
    have q := turned_any (R.thenM r s) (R.then_wf hr hs) W h
    rw [R.then_turn hr hs] at q
    exact q
  have t4 : ∀ W, Tab64 W → Calls Tryd.prog 22 #[.agg (w16 (s)).toArray] W fun e w' => e = .returned (.agg (w16 (R.turnM s)).toArray) ∧ Below W.heap.size W w' := fun W h => by
    have q := turned_any s hs W h
    exact q
  have n2 : ∀ W, Tab64 W → Calls Tryd.prog 24 #[.agg (w16 (R.turnM s)).toArray, .agg (w16 (R.turnM r)).toArray] W fun e w' => e = .returned (.agg (w16 (R.thenM (R.turnM s) (R.turnM r))).toArray) ∧ Below W.heap.size W w' := fun W h => by
    have q := then_any (R.turnM s) (R.turnM r) (R.turn_wf hs) (R.turn_wf hr) W h
    exact q
  have l3 : ∀ W, Calls Tryd.prog 26 #[.agg (w16 (R.turnM r)).toArray] W fun e w' => e = .returned (.agg (w16 (R.turnM (R.closeM r))).toArray) ∧ Below W.heap.size W w' := fun W => by
    have q := closed_any (R.turnM r) (R.turn_wf hr) W
    rw [R.close_turn hr] at q
    exact q
  have t5 : ∀ W, Tab64 W → Calls Tryd.prog 22 #[.agg (w16 (R.closeM r)).toArray] W fun e w' => e = .returned (.agg (w16 (R.turnM (R.closeM r))).toArray) ∧ Below W.heap.size W w' := fun W h => by
    have q := turned_any (R.closeM r) (R.close_wf hr) W h
    exact q
  have o1 : ∀ W, Calls Tryd.prog 16 #[.agg (w16 (r)).toArray, .agg (w16 (s)).toArray] W fun e w' => e = .returned (.agg (w16 (R.orM r s)).toArray) ∧ Below W.heap.size W w' := fun W => by
    have q := or_any r s hr hs W
    exact q
  have s1 : ∀ W, Calls Tryd.prog 20 #[.agg (w16 (R.orM r s)).toArray, .agg (w16 (s)).toArray] W fun e w' => e = .returned (.agg (w16 (R.lessM r s)).toArray) ∧ Below W.heap.size W w' := fun W => by
    have q := less_any (R.orM r s) s (R.or_wf hr hs) hs W
    rw [R.or_less hr hs] at q
    exact q
  have s2 : ∀ W, Calls Tryd.prog 20 #[.agg (w16 (r)).toArray, .agg (w16 (s)).toArray] W fun e w' => e = .returned (.agg (w16 (R.lessM r s)).toArray) ∧ Below W.heap.size W w' := fun W => by
    have q := less_any r s hr hs W
    exact q
  have d1 : ∀ W, Calls Tryd.prog 18 #[.agg (w16 (r)).toArray, .agg (w16 (s)).toArray] W fun e w' => e = .returned (.agg (w16 (R.andM r s)).toArray) ∧ Below W.heap.size W w' := fun W => by
    have q := and_any r s hr hs W
    exact q
  have o2 : ∀ W, Calls Tryd.prog 16 #[.agg (w16 (R.andM r s)).toArray, .agg (w16 (R.lessM r s)).toArray] W fun e w' => e = .returned (.agg (w16 (r)).toArray) ∧ Below W.heap.size W w' := fun W => by
    have q := or_any (R.andM r s) (R.lessM r s) (R.and_wf hr) (R.less_wf hr) W
    rw [R.and_or hr] at q
    exact q
  have a1 : ∀ W, Calls Tryd.prog 28 #[.agg (w16 r).toArray] W fun e w' => e = .returned (.bool (R.roundM r)) ∧ Below W.heap.size W w' := fun W => around_any r hr W
  have ko : ∀ W, Tab64 W → Calls Tryd.prog 30 #[.agg (w16 r).toArray, .int .u16 65535] W fun e w' => ∃ v, e = .returned (.tuple #[v, .bool (!R.roundM r)]) ∧ Below W.heap.size W w' := fun W h => by
    refine (order_any r hr 65535 (by decide) W h).mono ?_
    rintro e w' ⟨hb, hm⟩
    have ha := R.ord_all hr
    cases hx : R.ordM r 65535 with
    | none => rw [hx] at hm ha; exact ⟨_, by rw [← ha]; exact hm, hb⟩
    | some l => rw [hx] at hm ha; obtain ⟨v, hv, _⟩ := hm; exact ⟨v, by rw [← ha]; exact hv, hb⟩
  have ka : ∀ W, Tab64 W → Calls Tryd.prog 8 #[] W fun e w' => e = .returned (.bool true) ∧ Below W.heap.size W w' := fun W h => awake16_any W h
  have e0 := fun w => rel_eql hr hr w
  have e1 := fun w => rel_eql (R.close_wf hr) (R.close_wf hr) w
  have e2 := fun w => rel_eql (R.then_wf (R.turn_wf hs) (R.turn_wf hr)) (R.then_wf (R.turn_wf hs) (R.turn_wf hr)) w
  have e3 := fun w => rel_eql (R.turn_wf (R.close_wf hr)) (R.turn_wf (R.close_wf hr)) w
  have e4 := fun w => rel_eql (R.less_wf (s := s) hr) (R.less_wf (s := s) hr) w
  simp only [decide_true] at e0 e1 e2 e3 e4
  have b0 : Below w.heap.size w ((w.alloc (.cells (w16 r).toArray 25)).alloc (.cells (w16 s).toArray 25)) := (aset w _).trans ((aset _ _).mono (by simp))
  have RR := Box.mk ((RB.new w r).alloc (.cells (w16 s).toArray 25))
  have SS := Box.mk (RB.new (w.alloc (.cells (w16 r).toArray 25)) s)
  rw [World.size_alloc] at SS
  have TT := Box.mk (tab_bel hT b0)
  have BB := Box.mk b0
  have IR := Box.mk (infoL hr)
  have IS := Box.mk (infoL hs)
  have T1 := Box.mk t1
  have T2 := Box.mk t2
  have T3 := Box.mk t3
  have T4 := Box.mk t4
  have T5 := Box.mk t5
  have L1 := Box.mk l1
  have L2 := Box.mk l2
  have L3 := Box.mk l3
  have N1 := Box.mk n1
  have N2 := Box.mk n2
  have A1 := Box.mk a1
  have O1 := Box.mk o1
  have O2 := Box.mk o2
  have S1 := Box.mk s1
  have S2 := Box.mk s2
  have D1 := Box.mk d1
  have KA := Box.mk ka
  have KO := Box.mk ko
  clear t1 t2 t3 t4 t5 l1 l2 l3 n1 n2 a1 o1 o2 s1 s2 d1 ka ko hT b0 hr hs
  generalize R.thenM (R.turnM s) (R.turnM r) = X1 at *
  generalize R.thenM r s = X2 at *
  generalize R.turnM (R.closeM r) = X3 at *
  generalize R.closeM r = X4 at *
  generalize R.turnM r = X5 at *
  generalize R.turnM s = X6 at *
  generalize R.orM r s = X7 at *
  generalize R.andM r s = X8 at *
  generalize R.lessM r s = X9 at *
  generalize R.roundM r = qr at *
  go_enter Tryd.func5, Tryd.ntmps5
  go_wp2_with (first
    | ((with_reducible refine at_load 25 (.tmp 2) ?_); refine wpList_load_mid rfl 25 (.tmp 2) (by rfl) w.heap.size 0 (by rfl) (w16 r) _ RR.out.range undR rfl IR.out ?_)
    | ((with_reducible refine at_load 25 (.tmp 2) ?_); refine wpList_load_wanted (by rfl) 25 (.tmp 2) (by rfl) w.heap.size 0 (by rfl) (w16 r) _ RR.out.range undR rfl IR.out ?_)
    | ((with_reducible refine at_load 25 (.tmp 3) ?_); refine wpList_load_wanted (by rfl) 25 (.tmp 3) (by rfl) (w.heap.size + 1) 0 (by rfl) (w16 s) _ SS.out.range undR rfl IS.out ?_)
    | (go_at_call 30; ((with_reducible refine (KO.out _ TT.out).mono ?_); rintro e w1 ⟨v1, rfl, b1⟩; replace RR := Box.mk (RR.out.below b1); replace SS := Box.mk (SS.out.below b1); replace TT := Box.mk (tab_bel TT.out b1); replace BB := Box.mk (bel BB.out b1); clear b1))
    | (go_at_call 8; ((with_reducible refine (KA.out _ TT.out).mono ?_); rintro e w1 ⟨rfl, b1⟩; replace RR := Box.mk (RR.out.below b1); replace SS := Box.mk (SS.out.below b1); replace TT := Box.mk (tab_bel TT.out b1); replace BB := Box.mk (bel BB.out b1); clear b1))
    | (go_at_call 22; ((with_reducible refine (T1.out _ TT.out).mono ?_); rintro e w1 ⟨rfl, b1⟩; replace RR := Box.mk (RR.out.below b1); replace SS := Box.mk (SS.out.below b1); replace TT := Box.mk (tab_bel TT.out b1); replace BB := Box.mk (bel BB.out b1); clear b1))
    | (go_at_call 22; ((with_reducible refine (T2.out _ TT.out).mono ?_); rintro e w1 ⟨rfl, b1⟩; replace RR := Box.mk (RR.out.below b1); replace SS := Box.mk (SS.out.below b1); replace TT := Box.mk (tab_bel TT.out b1); replace BB := Box.mk (bel BB.out b1); clear b1))
    | (go_at_call 22; ((with_reducible refine (T3.out _ TT.out).mono ?_); rintro e w1 ⟨rfl, b1⟩; replace RR := Box.mk (RR.out.below b1); replace SS := Box.mk (SS.out.below b1); replace TT := Box.mk (tab_bel TT.out b1); replace BB := Box.mk (bel BB.out b1); clear b1))
    | (go_at_call 22; ((with_reducible refine (T4.out _ TT.out).mono ?_); rintro e w1 ⟨rfl, b1⟩; replace RR := Box.mk (RR.out.below b1); replace SS := Box.mk (SS.out.below b1); replace TT := Box.mk (tab_bel TT.out b1); replace BB := Box.mk (bel BB.out b1); clear b1))
    | (go_at_call 22; ((with_reducible refine (T5.out _ TT.out).mono ?_); rintro e w1 ⟨rfl, b1⟩; replace RR := Box.mk (RR.out.below b1); replace SS := Box.mk (SS.out.below b1); replace TT := Box.mk (tab_bel TT.out b1); replace BB := Box.mk (bel BB.out b1); clear b1))
    | (go_at_call 26; ((with_reducible refine (L1.out _).mono ?_); rintro e w1 ⟨rfl, b1⟩; replace RR := Box.mk (RR.out.below b1); replace SS := Box.mk (SS.out.below b1); replace TT := Box.mk (tab_bel TT.out b1); replace BB := Box.mk (bel BB.out b1); clear b1))
    | (go_at_call 26; ((with_reducible refine (L2.out _).mono ?_); rintro e w1 ⟨rfl, b1⟩; replace RR := Box.mk (RR.out.below b1); replace SS := Box.mk (SS.out.below b1); replace TT := Box.mk (tab_bel TT.out b1); replace BB := Box.mk (bel BB.out b1); clear b1))
    | (go_at_call 26; ((with_reducible refine (L3.out _).mono ?_); rintro e w1 ⟨rfl, b1⟩; replace RR := Box.mk (RR.out.below b1); replace SS := Box.mk (SS.out.below b1); replace TT := Box.mk (tab_bel TT.out b1); replace BB := Box.mk (bel BB.out b1); clear b1))
    | (go_at_call 24; ((with_reducible refine (N1.out _ TT.out).mono ?_); rintro e w1 ⟨rfl, b1⟩; replace RR := Box.mk (RR.out.below b1); replace SS := Box.mk (SS.out.below b1); replace TT := Box.mk (tab_bel TT.out b1); replace BB := Box.mk (bel BB.out b1); clear b1))
    | (go_at_call 24; ((with_reducible refine (N2.out _ TT.out).mono ?_); rintro e w1 ⟨rfl, b1⟩; replace RR := Box.mk (RR.out.below b1); replace SS := Box.mk (SS.out.below b1); replace TT := Box.mk (tab_bel TT.out b1); replace BB := Box.mk (bel BB.out b1); clear b1))
    | (go_at_call 28; ((with_reducible refine (A1.out _).mono ?_); rintro e w1 ⟨rfl, b1⟩; replace RR := Box.mk (RR.out.below b1); replace SS := Box.mk (SS.out.below b1); replace TT := Box.mk (tab_bel TT.out b1); replace BB := Box.mk (bel BB.out b1); clear b1))
    | (go_at_call 16; ((with_reducible refine (O1.out _).mono ?_); rintro e w1 ⟨rfl, b1⟩; replace RR := Box.mk (RR.out.below b1); replace SS := Box.mk (SS.out.below b1); replace TT := Box.mk (tab_bel TT.out b1); replace BB := Box.mk (bel BB.out b1); clear b1))
    | (go_at_call 16; ((with_reducible refine (O2.out _).mono ?_); rintro e w1 ⟨rfl, b1⟩; replace RR := Box.mk (RR.out.below b1); replace SS := Box.mk (SS.out.below b1); replace TT := Box.mk (tab_bel TT.out b1); replace BB := Box.mk (bel BB.out b1); clear b1))
    | (go_at_call 20; ((with_reducible refine (S1.out _).mono ?_); rintro e w1 ⟨rfl, b1⟩; replace RR := Box.mk (RR.out.below b1); replace SS := Box.mk (SS.out.below b1); replace TT := Box.mk (tab_bel TT.out b1); replace BB := Box.mk (bel BB.out b1); clear b1))
    | (go_at_call 20; ((with_reducible refine (S2.out _).mono ?_); rintro e w1 ⟨rfl, b1⟩; replace RR := Box.mk (RR.out.below b1); replace SS := Box.mk (SS.out.below b1); replace TT := Box.mk (tab_bel TT.out b1); replace BB := Box.mk (bel BB.out b1); clear b1))
    | (go_at_call 18; ((with_reducible refine (D1.out _).mono ?_); rintro e w1 ⟨rfl, b1⟩; replace RR := Box.mk (RR.out.below b1); replace SS := Box.mk (SS.out.below b1); replace TT := Box.mk (tab_bel TT.out b1); replace BB := Box.mk (bel BB.out b1); clear b1)))
  refine wp_region_held_drew (S := fun w' => RB w' w.heap.size r ∧ RB w' (w.heap.size + 1) s ∧ Tab64 w' ∧ Below w.heap.size w w') (by kernel_rfl) ⟨RR.out, SS.out, TT.out, BB.out.drew⟩ (fun hHeld => ?_)
  refine wpAnyH_ready (rs := [0]) (by kernel_rfl) (by simp) ?_
  refine AllReadyH.cons rfl (fun K hK => ?_) AllReadyH.nil
  go_simp
  go_wp2_with (first
    | (go_at_call 8; ((with_reducible refine (KA.out _ hHeld.2.2.1).mono ?_); rintro e w1 ⟨rfl, b1⟩))
    | (go_at_call 22; ((with_reducible refine (T1.out _ hHeld.2.2.1).mono ?_); rintro e w1 ⟨rfl, b1⟩))
    | (go_at_call 22; ((with_reducible refine (T2.out _ hHeld.2.2.1).mono ?_); rintro e w1 ⟨rfl, b1⟩))
    | (go_at_call 22; ((with_reducible refine (T3.out _ hHeld.2.2.1).mono ?_); rintro e w1 ⟨rfl, b1⟩))
    | (go_at_call 22; ((with_reducible refine (T4.out _ hHeld.2.2.1).mono ?_); rintro e w1 ⟨rfl, b1⟩))
    | (go_at_call 22; ((with_reducible refine (T5.out _ hHeld.2.2.1).mono ?_); rintro e w1 ⟨rfl, b1⟩))
    | (go_at_call 26; ((with_reducible refine (L1.out _).mono ?_); rintro e w1 ⟨rfl, b1⟩))
    | (go_at_call 26; ((with_reducible refine (L2.out _).mono ?_); rintro e w1 ⟨rfl, b1⟩))
    | (go_at_call 26; ((with_reducible refine (L3.out _).mono ?_); rintro e w1 ⟨rfl, b1⟩))
    | (go_at_call 24; ((with_reducible refine (N1.out _ hHeld.2.2.1).mono ?_); rintro e w1 ⟨rfl, b1⟩))
    | (go_at_call 24; ((with_reducible refine (N2.out _ hHeld.2.2.1).mono ?_); rintro e w1 ⟨rfl, b1⟩))
    | (go_at_call 28; ((with_reducible refine (A1.out _).mono ?_); rintro e w1 ⟨rfl, b1⟩))
    | (go_at_call 16; ((with_reducible refine (O1.out _).mono ?_); rintro e w1 ⟨rfl, b1⟩))
    | (go_at_call 16; ((with_reducible refine (O2.out _).mono ?_); rintro e w1 ⟨rfl, b1⟩))
    | (go_at_call 20; ((with_reducible refine (S1.out _).mono ?_); rintro e w1 ⟨rfl, b1⟩))
    | (go_at_call 20; ((with_reducible refine (S2.out _).mono ?_); rintro e w1 ⟨rfl, b1⟩))
    | (go_at_call 18; ((with_reducible refine (D1.out _).mono ?_); rintro e w1 ⟨rfl, b1⟩)))
  refine hK.out _ _ ⟨hHeld.1.below b1, hHeld.2.1.below b1, tab_bel hHeld.2.2.1 b1, bel hHeld.2.2.2 b1⟩ (fun hHeld => ?_)
  clear hK K b1
  try simp only [Act.put, List.setIfInBounds_toArray, List.set_cons_zero, List.set_cons_succ]
  refine wpAnyH_ready (rs := [1]) (by kernel_rfl) (by simp) ?_
  refine AllReadyH.cons rfl (fun K hK => ?_) AllReadyH.nil
  go_simp
  refine hK.out _ _ hHeld (fun hHeld => ?_)
  clear hK K
  try simp only [Act.put, List.setIfInBounds_toArray, List.set_cons_zero, List.set_cons_succ]
  refine wpAnyH_take (i := 2) (v := _) rfl (by kernel_rfl) (by kernel_rfl) (by kernel_rfl) (fun _ _ _ h => h) (yieldsIf_load_mid (by rfl) _ _ rfl _ _ rfl (w16 r) _ (fun w' h => h.1.range) undR rfl IR.out) hHeld ?_
  try simp only [Act.put, List.setIfInBounds_toArray, List.set_cons_zero, List.set_cons_succ]
  refine wpAnyH_take (i := 5) (v := _) rfl (by kernel_rfl) (by kernel_rfl) (by kernel_rfl) (fun _ _ _ h => h) (yieldsIf_load_mid (by rfl) _ _ rfl _ _ rfl (w16 r) _ (fun w' h => h.1.range) undR rfl IR.out) hHeld ?_
  try simp only [Act.put, List.setIfInBounds_toArray, List.set_cons_zero, List.set_cons_succ]
  refine wpAnyH_ready (rs := [3]) (by kernel_rfl) (by simp) ?_
  refine AllReadyH.cons rfl (fun K hK => ?_) AllReadyH.nil
  go_simp
  go_wp2_with (first
    | (go_at_call 8; ((with_reducible refine (KA.out _ hHeld.2.2.1).mono ?_); rintro e w1 ⟨rfl, b1⟩))
    | (go_at_call 22; ((with_reducible refine (T1.out _ hHeld.2.2.1).mono ?_); rintro e w1 ⟨rfl, b1⟩))
    | (go_at_call 22; ((with_reducible refine (T2.out _ hHeld.2.2.1).mono ?_); rintro e w1 ⟨rfl, b1⟩))
    | (go_at_call 22; ((with_reducible refine (T3.out _ hHeld.2.2.1).mono ?_); rintro e w1 ⟨rfl, b1⟩))
    | (go_at_call 22; ((with_reducible refine (T4.out _ hHeld.2.2.1).mono ?_); rintro e w1 ⟨rfl, b1⟩))
    | (go_at_call 22; ((with_reducible refine (T5.out _ hHeld.2.2.1).mono ?_); rintro e w1 ⟨rfl, b1⟩))
    | (go_at_call 26; ((with_reducible refine (L1.out _).mono ?_); rintro e w1 ⟨rfl, b1⟩))
    | (go_at_call 26; ((with_reducible refine (L2.out _).mono ?_); rintro e w1 ⟨rfl, b1⟩))
    | (go_at_call 26; ((with_reducible refine (L3.out _).mono ?_); rintro e w1 ⟨rfl, b1⟩))
    | (go_at_call 24; ((with_reducible refine (N1.out _ hHeld.2.2.1).mono ?_); rintro e w1 ⟨rfl, b1⟩))
    | (go_at_call 24; ((with_reducible refine (N2.out _ hHeld.2.2.1).mono ?_); rintro e w1 ⟨rfl, b1⟩))
    | (go_at_call 28; ((with_reducible refine (A1.out _).mono ?_); rintro e w1 ⟨rfl, b1⟩))
    | (go_at_call 16; ((with_reducible refine (O1.out _).mono ?_); rintro e w1 ⟨rfl, b1⟩))
    | (go_at_call 16; ((with_reducible refine (O2.out _).mono ?_); rintro e w1 ⟨rfl, b1⟩))
    | (go_at_call 20; ((with_reducible refine (S1.out _).mono ?_); rintro e w1 ⟨rfl, b1⟩))
    | (go_at_call 20; ((with_reducible refine (S2.out _).mono ?_); rintro e w1 ⟨rfl, b1⟩))
    | (go_at_call 18; ((with_reducible refine (D1.out _).mono ?_); rintro e w1 ⟨rfl, b1⟩)))
  refine hK.out _ _ ⟨hHeld.1.below b1, hHeld.2.1.below b1, tab_bel hHeld.2.2.1 b1, bel hHeld.2.2.2 b1⟩ (fun hHeld => ?_)
  clear hK K b1
  try simp only [Act.put, List.setIfInBounds_toArray, List.set_cons_zero, List.set_cons_succ]
  refine wpAnyH_ready (rs := [4]) (by kernel_rfl) (by simp) ?_
  refine AllReadyH.cons rfl (fun K hK => ?_) AllReadyH.nil
  go_simp
  go_wp2_with (first
    | (go_at_call 8; ((with_reducible refine (KA.out _ hHeld.2.2.1).mono ?_); rintro e w1 ⟨rfl, b1⟩))
    | (go_at_call 22; ((with_reducible refine (T1.out _ hHeld.2.2.1).mono ?_); rintro e w1 ⟨rfl, b1⟩))
    | (go_at_call 22; ((with_reducible refine (T2.out _ hHeld.2.2.1).mono ?_); rintro e w1 ⟨rfl, b1⟩))
    | (go_at_call 22; ((with_reducible refine (T3.out _ hHeld.2.2.1).mono ?_); rintro e w1 ⟨rfl, b1⟩))
    | (go_at_call 22; ((with_reducible refine (T4.out _ hHeld.2.2.1).mono ?_); rintro e w1 ⟨rfl, b1⟩))
    | (go_at_call 22; ((with_reducible refine (T5.out _ hHeld.2.2.1).mono ?_); rintro e w1 ⟨rfl, b1⟩))
    | (go_at_call 26; ((with_reducible refine (L1.out _).mono ?_); rintro e w1 ⟨rfl, b1⟩))
    | (go_at_call 26; ((with_reducible refine (L2.out _).mono ?_); rintro e w1 ⟨rfl, b1⟩))
    | (go_at_call 26; ((with_reducible refine (L3.out _).mono ?_); rintro e w1 ⟨rfl, b1⟩))
    | (go_at_call 24; ((with_reducible refine (N1.out _ hHeld.2.2.1).mono ?_); rintro e w1 ⟨rfl, b1⟩))
    | (go_at_call 24; ((with_reducible refine (N2.out _ hHeld.2.2.1).mono ?_); rintro e w1 ⟨rfl, b1⟩))
    | (go_at_call 28; ((with_reducible refine (A1.out _).mono ?_); rintro e w1 ⟨rfl, b1⟩))
    | (go_at_call 16; ((with_reducible refine (O1.out _).mono ?_); rintro e w1 ⟨rfl, b1⟩))
    | (go_at_call 16; ((with_reducible refine (O2.out _).mono ?_); rintro e w1 ⟨rfl, b1⟩))
    | (go_at_call 20; ((with_reducible refine (S1.out _).mono ?_); rintro e w1 ⟨rfl, b1⟩))
    | (go_at_call 20; ((with_reducible refine (S2.out _).mono ?_); rintro e w1 ⟨rfl, b1⟩))
    | (go_at_call 18; ((with_reducible refine (D1.out _).mono ?_); rintro e w1 ⟨rfl, b1⟩)))
  refine hK.out _ _ ⟨hHeld.1.below b1, hHeld.2.1.below b1, tab_bel hHeld.2.2.1 b1, bel hHeld.2.2.2 b1⟩ (fun hHeld => ?_)
  clear hK K b1
  try simp only [Act.put, List.setIfInBounds_toArray, List.set_cons_zero, List.set_cons_succ]
  refine wpAnyH_ready (rs := [6]) (by kernel_rfl) (by simp) ?_
  refine AllReadyH.cons rfl (fun K hK => ?_) AllReadyH.nil
  go_simp
  refine hK.out _ _ hHeld (fun hHeld => ?_)
  clear hK K
  try simp only [Act.put, List.setIfInBounds_toArray, List.set_cons_zero, List.set_cons_succ]
  refine wpAnyH_ready (rs := [7]) (by kernel_rfl) (by simp) ?_
  refine AllReadyH.cons rfl (fun K hK => ?_) AllReadyH.nil
  go_simp
  refine hK.out _ _ hHeld (fun hHeld => ?_)
  clear hK K
  try simp only [Act.put, List.setIfInBounds_toArray, List.set_cons_zero, List.set_cons_succ]
  refine wpAnyH_ready (rs := [8]) (by kernel_rfl) (by simp) ?_
  refine AllReadyH.cons rfl (fun K hK => ?_) AllReadyH.nil
  go_simp
  refine hK.out _ _ hHeld (fun hHeld => ?_)
  clear hK K
  try simp only [Act.put, List.setIfInBounds_toArray, List.set_cons_zero, List.set_cons_succ]
  refine wpAnyH_take (i := 9) (v := _) rfl (by kernel_rfl) (by kernel_rfl) (by kernel_rfl) (fun _ _ _ h => h) (yieldsIf_load_mid (by rfl) _ _ rfl _ _ rfl (w16 r) _ (fun w' h => h.1.range) undR rfl IR.out) hHeld ?_
  try simp only [Act.put, List.setIfInBounds_toArray, List.set_cons_zero, List.set_cons_succ]
  refine wpAnyH_take (i := 12) (v := _) rfl (by kernel_rfl) (by kernel_rfl) (by kernel_rfl) (fun _ _ _ h => h) (yieldsIf_load_mid (by rfl) _ _ rfl _ _ rfl (w16 r) _ (fun w' h => h.1.range) undR rfl IR.out) hHeld ?_
  try simp only [Act.put, List.setIfInBounds_toArray, List.set_cons_zero, List.set_cons_succ]
  refine wpAnyH_ready (rs := [10]) (by kernel_rfl) (by simp) ?_
  refine AllReadyH.cons rfl (fun K hK => ?_) AllReadyH.nil
  go_simp
  go_wp2_with (first
    | (go_at_call 8; ((with_reducible refine (KA.out _ hHeld.2.2.1).mono ?_); rintro e w1 ⟨rfl, b1⟩))
    | (go_at_call 22; ((with_reducible refine (T1.out _ hHeld.2.2.1).mono ?_); rintro e w1 ⟨rfl, b1⟩))
    | (go_at_call 22; ((with_reducible refine (T2.out _ hHeld.2.2.1).mono ?_); rintro e w1 ⟨rfl, b1⟩))
    | (go_at_call 22; ((with_reducible refine (T3.out _ hHeld.2.2.1).mono ?_); rintro e w1 ⟨rfl, b1⟩))
    | (go_at_call 22; ((with_reducible refine (T4.out _ hHeld.2.2.1).mono ?_); rintro e w1 ⟨rfl, b1⟩))
    | (go_at_call 22; ((with_reducible refine (T5.out _ hHeld.2.2.1).mono ?_); rintro e w1 ⟨rfl, b1⟩))
    | (go_at_call 26; ((with_reducible refine (L1.out _).mono ?_); rintro e w1 ⟨rfl, b1⟩))
    | (go_at_call 26; ((with_reducible refine (L2.out _).mono ?_); rintro e w1 ⟨rfl, b1⟩))
    | (go_at_call 26; ((with_reducible refine (L3.out _).mono ?_); rintro e w1 ⟨rfl, b1⟩))
    | (go_at_call 24; ((with_reducible refine (N1.out _ hHeld.2.2.1).mono ?_); rintro e w1 ⟨rfl, b1⟩))
    | (go_at_call 24; ((with_reducible refine (N2.out _ hHeld.2.2.1).mono ?_); rintro e w1 ⟨rfl, b1⟩))
    | (go_at_call 28; ((with_reducible refine (A1.out _).mono ?_); rintro e w1 ⟨rfl, b1⟩))
    | (go_at_call 16; ((with_reducible refine (O1.out _).mono ?_); rintro e w1 ⟨rfl, b1⟩))
    | (go_at_call 16; ((with_reducible refine (O2.out _).mono ?_); rintro e w1 ⟨rfl, b1⟩))
    | (go_at_call 20; ((with_reducible refine (S1.out _).mono ?_); rintro e w1 ⟨rfl, b1⟩))
    | (go_at_call 20; ((with_reducible refine (S2.out _).mono ?_); rintro e w1 ⟨rfl, b1⟩))
    | (go_at_call 18; ((with_reducible refine (D1.out _).mono ?_); rintro e w1 ⟨rfl, b1⟩)))
  refine hK.out _ _ ⟨hHeld.1.below b1, hHeld.2.1.below b1, tab_bel hHeld.2.2.1 b1, bel hHeld.2.2.2 b1⟩ (fun hHeld => ?_)
  clear hK K b1
  try simp only [Act.put, List.setIfInBounds_toArray, List.set_cons_zero, List.set_cons_succ]
  refine wpAnyH_ready (rs := [11]) (by kernel_rfl) (by simp) ?_
  refine AllReadyH.cons rfl (fun K hK => ?_) AllReadyH.nil
  go_simp
  go_wp2_with (first
    | (go_at_call 8; ((with_reducible refine (KA.out _ hHeld.2.2.1).mono ?_); rintro e w1 ⟨rfl, b1⟩))
    | (go_at_call 22; ((with_reducible refine (T1.out _ hHeld.2.2.1).mono ?_); rintro e w1 ⟨rfl, b1⟩))
    | (go_at_call 22; ((with_reducible refine (T2.out _ hHeld.2.2.1).mono ?_); rintro e w1 ⟨rfl, b1⟩))
    | (go_at_call 22; ((with_reducible refine (T3.out _ hHeld.2.2.1).mono ?_); rintro e w1 ⟨rfl, b1⟩))
    | (go_at_call 22; ((with_reducible refine (T4.out _ hHeld.2.2.1).mono ?_); rintro e w1 ⟨rfl, b1⟩))
    | (go_at_call 22; ((with_reducible refine (T5.out _ hHeld.2.2.1).mono ?_); rintro e w1 ⟨rfl, b1⟩))
    | (go_at_call 26; ((with_reducible refine (L1.out _).mono ?_); rintro e w1 ⟨rfl, b1⟩))
    | (go_at_call 26; ((with_reducible refine (L2.out _).mono ?_); rintro e w1 ⟨rfl, b1⟩))
    | (go_at_call 26; ((with_reducible refine (L3.out _).mono ?_); rintro e w1 ⟨rfl, b1⟩))
    | (go_at_call 24; ((with_reducible refine (N1.out _ hHeld.2.2.1).mono ?_); rintro e w1 ⟨rfl, b1⟩))
    | (go_at_call 24; ((with_reducible refine (N2.out _ hHeld.2.2.1).mono ?_); rintro e w1 ⟨rfl, b1⟩))
    | (go_at_call 28; ((with_reducible refine (A1.out _).mono ?_); rintro e w1 ⟨rfl, b1⟩))
    | (go_at_call 16; ((with_reducible refine (O1.out _).mono ?_); rintro e w1 ⟨rfl, b1⟩))
    | (go_at_call 16; ((with_reducible refine (O2.out _).mono ?_); rintro e w1 ⟨rfl, b1⟩))
    | (go_at_call 20; ((with_reducible refine (S1.out _).mono ?_); rintro e w1 ⟨rfl, b1⟩))
    | (go_at_call 20; ((with_reducible refine (S2.out _).mono ?_); rintro e w1 ⟨rfl, b1⟩))
    | (go_at_call 18; ((with_reducible refine (D1.out _).mono ?_); rintro e w1 ⟨rfl, b1⟩)))
  refine hK.out _ _ ⟨hHeld.1.below b1, hHeld.2.1.below b1, tab_bel hHeld.2.2.1 b1, bel hHeld.2.2.2 b1⟩ (fun hHeld => ?_)
  clear hK K b1
  try simp only [Act.put, List.setIfInBounds_toArray, List.set_cons_zero, List.set_cons_succ]
  refine wpAnyH_ready (rs := [13]) (by kernel_rfl) (by simp) ?_
  refine AllReadyH.cons rfl (fun K hK => ?_) AllReadyH.nil
  go_simp
  go_wp2_with (first
    | (go_at_call 8; ((with_reducible refine (KA.out _ hHeld.2.2.1).mono ?_); rintro e w1 ⟨rfl, b1⟩))
    | (go_at_call 22; ((with_reducible refine (T1.out _ hHeld.2.2.1).mono ?_); rintro e w1 ⟨rfl, b1⟩))
    | (go_at_call 22; ((with_reducible refine (T2.out _ hHeld.2.2.1).mono ?_); rintro e w1 ⟨rfl, b1⟩))
    | (go_at_call 22; ((with_reducible refine (T3.out _ hHeld.2.2.1).mono ?_); rintro e w1 ⟨rfl, b1⟩))
    | (go_at_call 22; ((with_reducible refine (T4.out _ hHeld.2.2.1).mono ?_); rintro e w1 ⟨rfl, b1⟩))
    | (go_at_call 22; ((with_reducible refine (T5.out _ hHeld.2.2.1).mono ?_); rintro e w1 ⟨rfl, b1⟩))
    | (go_at_call 26; ((with_reducible refine (L1.out _).mono ?_); rintro e w1 ⟨rfl, b1⟩))
    | (go_at_call 26; ((with_reducible refine (L2.out _).mono ?_); rintro e w1 ⟨rfl, b1⟩))
    | (go_at_call 26; ((with_reducible refine (L3.out _).mono ?_); rintro e w1 ⟨rfl, b1⟩))
    | (go_at_call 24; ((with_reducible refine (N1.out _ hHeld.2.2.1).mono ?_); rintro e w1 ⟨rfl, b1⟩))
    | (go_at_call 24; ((with_reducible refine (N2.out _ hHeld.2.2.1).mono ?_); rintro e w1 ⟨rfl, b1⟩))
    | (go_at_call 28; ((with_reducible refine (A1.out _).mono ?_); rintro e w1 ⟨rfl, b1⟩))
    | (go_at_call 16; ((with_reducible refine (O1.out _).mono ?_); rintro e w1 ⟨rfl, b1⟩))
    | (go_at_call 16; ((with_reducible refine (O2.out _).mono ?_); rintro e w1 ⟨rfl, b1⟩))
    | (go_at_call 20; ((with_reducible refine (S1.out _).mono ?_); rintro e w1 ⟨rfl, b1⟩))
    | (go_at_call 20; ((with_reducible refine (S2.out _).mono ?_); rintro e w1 ⟨rfl, b1⟩))
    | (go_at_call 18; ((with_reducible refine (D1.out _).mono ?_); rintro e w1 ⟨rfl, b1⟩)))
  refine hK.out _ _ ⟨hHeld.1.below b1, hHeld.2.1.below b1, tab_bel hHeld.2.2.1 b1, bel hHeld.2.2.2 b1⟩ (fun hHeld => ?_)
  clear hK K b1
  try simp only [Act.put, List.setIfInBounds_toArray, List.set_cons_zero, List.set_cons_succ]
  refine wpAnyH_ready (rs := [14]) (by kernel_rfl) (by simp) ?_
  refine AllReadyH.cons rfl (fun K hK => ?_) AllReadyH.nil
  go_simp
  refine hK.out _ _ hHeld (fun hHeld => ?_)
  clear hK K
  try simp only [Act.put, List.setIfInBounds_toArray, List.set_cons_zero, List.set_cons_succ]
  refine wpAnyH_ready (rs := [15]) (by kernel_rfl) (by simp) ?_
  refine AllReadyH.cons rfl (fun K hK => ?_) AllReadyH.nil
  go_simp
  refine hK.out _ _ hHeld (fun hHeld => ?_)
  clear hK K
  try simp only [Act.put, List.setIfInBounds_toArray, List.set_cons_zero, List.set_cons_succ]
  refine wpAnyH_ready (rs := [16]) (by kernel_rfl) (by simp) ?_
  refine AllReadyH.cons rfl (fun K hK => ?_) AllReadyH.nil
  go_simp
  refine hK.out _ _ hHeld (fun hHeld => ?_)
  clear hK K
  try simp only [Act.put, List.setIfInBounds_toArray, List.set_cons_zero, List.set_cons_succ]
  refine wpAnyH_take (i := 17) (v := _) rfl (by kernel_rfl) (by kernel_rfl) (by kernel_rfl) (fun _ _ _ h => h) (yieldsIf_load_mid (by rfl) _ _ rfl _ _ rfl (w16 r) _ (fun w' h => h.1.range) undR rfl IR.out) hHeld ?_
  try simp only [Act.put, List.setIfInBounds_toArray, List.set_cons_zero, List.set_cons_succ]
  refine wpAnyH_take (i := 18) (v := _) rfl (by kernel_rfl) (by kernel_rfl) (by kernel_rfl) (fun _ _ _ h => h) (yieldsIf_load_mid (by rfl) _ _ rfl _ _ rfl (w16 s) _ (fun w' h => h.2.1.range) undR rfl IS.out) hHeld ?_
  try simp only [Act.put, List.setIfInBounds_toArray, List.set_cons_zero, List.set_cons_succ]
  refine wpAnyH_take (i := 21) (v := _) rfl (by kernel_rfl) (by kernel_rfl) (by kernel_rfl) (fun _ _ _ h => h) (yieldsIf_load_mid (by rfl) _ _ rfl _ _ rfl (w16 s) _ (fun w' h => h.2.1.range) undR rfl IS.out) hHeld ?_
  try simp only [Act.put, List.setIfInBounds_toArray, List.set_cons_zero, List.set_cons_succ]
  refine wpAnyH_take (i := 23) (v := _) rfl (by kernel_rfl) (by kernel_rfl) (by kernel_rfl) (fun _ _ _ h => h) (yieldsIf_load_mid (by rfl) _ _ rfl _ _ rfl (w16 r) _ (fun w' h => h.1.range) undR rfl IR.out) hHeld ?_
  try simp only [Act.put, List.setIfInBounds_toArray, List.set_cons_zero, List.set_cons_succ]
  refine wpAnyH_ready (rs := [19]) (by kernel_rfl) (by simp) ?_
  refine AllReadyH.cons rfl (fun K hK => ?_) AllReadyH.nil
  go_simp
  go_wp2_with (first
    | (go_at_call 8; ((with_reducible refine (KA.out _ hHeld.2.2.1).mono ?_); rintro e w1 ⟨rfl, b1⟩))
    | (go_at_call 22; ((with_reducible refine (T1.out _ hHeld.2.2.1).mono ?_); rintro e w1 ⟨rfl, b1⟩))
    | (go_at_call 22; ((with_reducible refine (T2.out _ hHeld.2.2.1).mono ?_); rintro e w1 ⟨rfl, b1⟩))
    | (go_at_call 22; ((with_reducible refine (T3.out _ hHeld.2.2.1).mono ?_); rintro e w1 ⟨rfl, b1⟩))
    | (go_at_call 22; ((with_reducible refine (T4.out _ hHeld.2.2.1).mono ?_); rintro e w1 ⟨rfl, b1⟩))
    | (go_at_call 22; ((with_reducible refine (T5.out _ hHeld.2.2.1).mono ?_); rintro e w1 ⟨rfl, b1⟩))
    | (go_at_call 26; ((with_reducible refine (L1.out _).mono ?_); rintro e w1 ⟨rfl, b1⟩))
    | (go_at_call 26; ((with_reducible refine (L2.out _).mono ?_); rintro e w1 ⟨rfl, b1⟩))
    | (go_at_call 26; ((with_reducible refine (L3.out _).mono ?_); rintro e w1 ⟨rfl, b1⟩))
    | (go_at_call 24; ((with_reducible refine (N1.out _ hHeld.2.2.1).mono ?_); rintro e w1 ⟨rfl, b1⟩))
    | (go_at_call 24; ((with_reducible refine (N2.out _ hHeld.2.2.1).mono ?_); rintro e w1 ⟨rfl, b1⟩))
    | (go_at_call 28; ((with_reducible refine (A1.out _).mono ?_); rintro e w1 ⟨rfl, b1⟩))
    | (go_at_call 16; ((with_reducible refine (O1.out _).mono ?_); rintro e w1 ⟨rfl, b1⟩))
    | (go_at_call 16; ((with_reducible refine (O2.out _).mono ?_); rintro e w1 ⟨rfl, b1⟩))
    | (go_at_call 20; ((with_reducible refine (S1.out _).mono ?_); rintro e w1 ⟨rfl, b1⟩))
    | (go_at_call 20; ((with_reducible refine (S2.out _).mono ?_); rintro e w1 ⟨rfl, b1⟩))
    | (go_at_call 18; ((with_reducible refine (D1.out _).mono ?_); rintro e w1 ⟨rfl, b1⟩)))
  refine hK.out _ _ ⟨hHeld.1.below b1, hHeld.2.1.below b1, tab_bel hHeld.2.2.1 b1, bel hHeld.2.2.2 b1⟩ (fun hHeld => ?_)
  clear hK K b1
  try simp only [Act.put, List.setIfInBounds_toArray, List.set_cons_zero, List.set_cons_succ]
  refine wpAnyH_ready (rs := [20]) (by kernel_rfl) (by simp) ?_
  refine AllReadyH.cons rfl (fun K hK => ?_) AllReadyH.nil
  go_simp
  go_wp2_with (first
    | (go_at_call 8; ((with_reducible refine (KA.out _ hHeld.2.2.1).mono ?_); rintro e w1 ⟨rfl, b1⟩))
    | (go_at_call 22; ((with_reducible refine (T1.out _ hHeld.2.2.1).mono ?_); rintro e w1 ⟨rfl, b1⟩))
    | (go_at_call 22; ((with_reducible refine (T2.out _ hHeld.2.2.1).mono ?_); rintro e w1 ⟨rfl, b1⟩))
    | (go_at_call 22; ((with_reducible refine (T3.out _ hHeld.2.2.1).mono ?_); rintro e w1 ⟨rfl, b1⟩))
    | (go_at_call 22; ((with_reducible refine (T4.out _ hHeld.2.2.1).mono ?_); rintro e w1 ⟨rfl, b1⟩))
    | (go_at_call 22; ((with_reducible refine (T5.out _ hHeld.2.2.1).mono ?_); rintro e w1 ⟨rfl, b1⟩))
    | (go_at_call 26; ((with_reducible refine (L1.out _).mono ?_); rintro e w1 ⟨rfl, b1⟩))
    | (go_at_call 26; ((with_reducible refine (L2.out _).mono ?_); rintro e w1 ⟨rfl, b1⟩))
    | (go_at_call 26; ((with_reducible refine (L3.out _).mono ?_); rintro e w1 ⟨rfl, b1⟩))
    | (go_at_call 24; ((with_reducible refine (N1.out _ hHeld.2.2.1).mono ?_); rintro e w1 ⟨rfl, b1⟩))
    | (go_at_call 24; ((with_reducible refine (N2.out _ hHeld.2.2.1).mono ?_); rintro e w1 ⟨rfl, b1⟩))
    | (go_at_call 28; ((with_reducible refine (A1.out _).mono ?_); rintro e w1 ⟨rfl, b1⟩))
    | (go_at_call 16; ((with_reducible refine (O1.out _).mono ?_); rintro e w1 ⟨rfl, b1⟩))
    | (go_at_call 16; ((with_reducible refine (O2.out _).mono ?_); rintro e w1 ⟨rfl, b1⟩))
    | (go_at_call 20; ((with_reducible refine (S1.out _).mono ?_); rintro e w1 ⟨rfl, b1⟩))
    | (go_at_call 20; ((with_reducible refine (S2.out _).mono ?_); rintro e w1 ⟨rfl, b1⟩))
    | (go_at_call 18; ((with_reducible refine (D1.out _).mono ?_); rintro e w1 ⟨rfl, b1⟩)))
  refine hK.out _ _ ⟨hHeld.1.below b1, hHeld.2.1.below b1, tab_bel hHeld.2.2.1 b1, bel hHeld.2.2.2 b1⟩ (fun hHeld => ?_)
  clear hK K b1
  try simp only [Act.put, List.setIfInBounds_toArray, List.set_cons_zero, List.set_cons_succ]
  refine wpAnyH_ready (rs := [22]) (by kernel_rfl) (by simp) ?_
  refine AllReadyH.cons rfl (fun K hK => ?_) AllReadyH.nil
  go_simp
  go_wp2_with (first
    | (go_at_call 8; ((with_reducible refine (KA.out _ hHeld.2.2.1).mono ?_); rintro e w1 ⟨rfl, b1⟩))
    | (go_at_call 22; ((with_reducible refine (T1.out _ hHeld.2.2.1).mono ?_); rintro e w1 ⟨rfl, b1⟩))
    | (go_at_call 22; ((with_reducible refine (T2.out _ hHeld.2.2.1).mono ?_); rintro e w1 ⟨rfl, b1⟩))
    | (go_at_call 22; ((with_reducible refine (T3.out _ hHeld.2.2.1).mono ?_); rintro e w1 ⟨rfl, b1⟩))
    | (go_at_call 22; ((with_reducible refine (T4.out _ hHeld.2.2.1).mono ?_); rintro e w1 ⟨rfl, b1⟩))
    | (go_at_call 22; ((with_reducible refine (T5.out _ hHeld.2.2.1).mono ?_); rintro e w1 ⟨rfl, b1⟩))
    | (go_at_call 26; ((with_reducible refine (L1.out _).mono ?_); rintro e w1 ⟨rfl, b1⟩))
    | (go_at_call 26; ((with_reducible refine (L2.out _).mono ?_); rintro e w1 ⟨rfl, b1⟩))
    | (go_at_call 26; ((with_reducible refine (L3.out _).mono ?_); rintro e w1 ⟨rfl, b1⟩))
    | (go_at_call 24; ((with_reducible refine (N1.out _ hHeld.2.2.1).mono ?_); rintro e w1 ⟨rfl, b1⟩))
    | (go_at_call 24; ((with_reducible refine (N2.out _ hHeld.2.2.1).mono ?_); rintro e w1 ⟨rfl, b1⟩))
    | (go_at_call 28; ((with_reducible refine (A1.out _).mono ?_); rintro e w1 ⟨rfl, b1⟩))
    | (go_at_call 16; ((with_reducible refine (O1.out _).mono ?_); rintro e w1 ⟨rfl, b1⟩))
    | (go_at_call 16; ((with_reducible refine (O2.out _).mono ?_); rintro e w1 ⟨rfl, b1⟩))
    | (go_at_call 20; ((with_reducible refine (S1.out _).mono ?_); rintro e w1 ⟨rfl, b1⟩))
    | (go_at_call 20; ((with_reducible refine (S2.out _).mono ?_); rintro e w1 ⟨rfl, b1⟩))
    | (go_at_call 18; ((with_reducible refine (D1.out _).mono ?_); rintro e w1 ⟨rfl, b1⟩)))
  refine hK.out _ _ ⟨hHeld.1.below b1, hHeld.2.1.below b1, tab_bel hHeld.2.2.1 b1, bel hHeld.2.2.2 b1⟩ (fun hHeld => ?_)
  clear hK K b1
  try simp only [Act.put, List.setIfInBounds_toArray, List.set_cons_zero, List.set_cons_succ]
  refine wpAnyH_ready (rs := [24]) (by kernel_rfl) (by simp) ?_
  refine AllReadyH.cons rfl (fun K hK => ?_) AllReadyH.nil
  go_simp
  go_wp2_with (first
    | (go_at_call 8; ((with_reducible refine (KA.out _ hHeld.2.2.1).mono ?_); rintro e w1 ⟨rfl, b1⟩))
    | (go_at_call 22; ((with_reducible refine (T1.out _ hHeld.2.2.1).mono ?_); rintro e w1 ⟨rfl, b1⟩))
    | (go_at_call 22; ((with_reducible refine (T2.out _ hHeld.2.2.1).mono ?_); rintro e w1 ⟨rfl, b1⟩))
    | (go_at_call 22; ((with_reducible refine (T3.out _ hHeld.2.2.1).mono ?_); rintro e w1 ⟨rfl, b1⟩))
    | (go_at_call 22; ((with_reducible refine (T4.out _ hHeld.2.2.1).mono ?_); rintro e w1 ⟨rfl, b1⟩))
    | (go_at_call 22; ((with_reducible refine (T5.out _ hHeld.2.2.1).mono ?_); rintro e w1 ⟨rfl, b1⟩))
    | (go_at_call 26; ((with_reducible refine (L1.out _).mono ?_); rintro e w1 ⟨rfl, b1⟩))
    | (go_at_call 26; ((with_reducible refine (L2.out _).mono ?_); rintro e w1 ⟨rfl, b1⟩))
    | (go_at_call 26; ((with_reducible refine (L3.out _).mono ?_); rintro e w1 ⟨rfl, b1⟩))
    | (go_at_call 24; ((with_reducible refine (N1.out _ hHeld.2.2.1).mono ?_); rintro e w1 ⟨rfl, b1⟩))
    | (go_at_call 24; ((with_reducible refine (N2.out _ hHeld.2.2.1).mono ?_); rintro e w1 ⟨rfl, b1⟩))
    | (go_at_call 28; ((with_reducible refine (A1.out _).mono ?_); rintro e w1 ⟨rfl, b1⟩))
    | (go_at_call 16; ((with_reducible refine (O1.out _).mono ?_); rintro e w1 ⟨rfl, b1⟩))
    | (go_at_call 16; ((with_reducible refine (O2.out _).mono ?_); rintro e w1 ⟨rfl, b1⟩))
    | (go_at_call 20; ((with_reducible refine (S1.out _).mono ?_); rintro e w1 ⟨rfl, b1⟩))
    | (go_at_call 20; ((with_reducible refine (S2.out _).mono ?_); rintro e w1 ⟨rfl, b1⟩))
    | (go_at_call 18; ((with_reducible refine (D1.out _).mono ?_); rintro e w1 ⟨rfl, b1⟩)))
  refine hK.out _ _ ⟨hHeld.1.below b1, hHeld.2.1.below b1, tab_bel hHeld.2.2.1 b1, bel hHeld.2.2.2 b1⟩ (fun hHeld => ?_)
  clear hK K b1
  try simp only [Act.put, List.setIfInBounds_toArray, List.set_cons_zero, List.set_cons_succ]
  refine wpAnyH_ready (rs := [25]) (by kernel_rfl) (by simp) ?_
  refine AllReadyH.cons rfl (fun K hK => ?_) AllReadyH.nil
  go_simp
  go_wp2_with (first
    | (go_at_call 8; ((with_reducible refine (KA.out _ hHeld.2.2.1).mono ?_); rintro e w1 ⟨rfl, b1⟩))
    | (go_at_call 22; ((with_reducible refine (T1.out _ hHeld.2.2.1).mono ?_); rintro e w1 ⟨rfl, b1⟩))
    | (go_at_call 22; ((with_reducible refine (T2.out _ hHeld.2.2.1).mono ?_); rintro e w1 ⟨rfl, b1⟩))
    | (go_at_call 22; ((with_reducible refine (T3.out _ hHeld.2.2.1).mono ?_); rintro e w1 ⟨rfl, b1⟩))
    | (go_at_call 22; ((with_reducible refine (T4.out _ hHeld.2.2.1).mono ?_); rintro e w1 ⟨rfl, b1⟩))
    | (go_at_call 22; ((with_reducible refine (T5.out _ hHeld.2.2.1).mono ?_); rintro e w1 ⟨rfl, b1⟩))
    | (go_at_call 26; ((with_reducible refine (L1.out _).mono ?_); rintro e w1 ⟨rfl, b1⟩))
    | (go_at_call 26; ((with_reducible refine (L2.out _).mono ?_); rintro e w1 ⟨rfl, b1⟩))
    | (go_at_call 26; ((with_reducible refine (L3.out _).mono ?_); rintro e w1 ⟨rfl, b1⟩))
    | (go_at_call 24; ((with_reducible refine (N1.out _ hHeld.2.2.1).mono ?_); rintro e w1 ⟨rfl, b1⟩))
    | (go_at_call 24; ((with_reducible refine (N2.out _ hHeld.2.2.1).mono ?_); rintro e w1 ⟨rfl, b1⟩))
    | (go_at_call 28; ((with_reducible refine (A1.out _).mono ?_); rintro e w1 ⟨rfl, b1⟩))
    | (go_at_call 16; ((with_reducible refine (O1.out _).mono ?_); rintro e w1 ⟨rfl, b1⟩))
    | (go_at_call 16; ((with_reducible refine (O2.out _).mono ?_); rintro e w1 ⟨rfl, b1⟩))
    | (go_at_call 20; ((with_reducible refine (S1.out _).mono ?_); rintro e w1 ⟨rfl, b1⟩))
    | (go_at_call 20; ((with_reducible refine (S2.out _).mono ?_); rintro e w1 ⟨rfl, b1⟩))
    | (go_at_call 18; ((with_reducible refine (D1.out _).mono ?_); rintro e w1 ⟨rfl, b1⟩)))
  refine hK.out _ _ ⟨hHeld.1.below b1, hHeld.2.1.below b1, tab_bel hHeld.2.2.1 b1, bel hHeld.2.2.2 b1⟩ (fun hHeld => ?_)
  clear hK K b1
  try simp only [Act.put, List.setIfInBounds_toArray, List.set_cons_zero, List.set_cons_succ]
  refine wpAnyH_ready (rs := [26]) (by kernel_rfl) (by simp) ?_
  refine AllReadyH.cons rfl (fun K hK => ?_) AllReadyH.nil
  go_simp
  refine hK.out _ _ hHeld (fun hHeld => ?_)
  clear hK K
  try simp only [Act.put, List.setIfInBounds_toArray, List.set_cons_zero, List.set_cons_succ]
  refine wpAnyH_ready (rs := [27]) (by kernel_rfl) (by simp) ?_
  refine AllReadyH.cons rfl (fun K hK => ?_) AllReadyH.nil
  go_simp
  refine hK.out _ _ hHeld (fun hHeld => ?_)
  clear hK K
  try simp only [Act.put, List.setIfInBounds_toArray, List.set_cons_zero, List.set_cons_succ]
  refine wpAnyH_ready (rs := [28]) (by kernel_rfl) (by simp) ?_
  refine AllReadyH.cons rfl (fun K hK => ?_) AllReadyH.nil
  go_simp
  refine hK.out _ _ hHeld (fun hHeld => ?_)
  clear hK K
  try simp only [Act.put, List.setIfInBounds_toArray, List.set_cons_zero, List.set_cons_succ]
  refine wpAnyH_take (i := 29) (v := _) rfl (by kernel_rfl) (by kernel_rfl) (by kernel_rfl) (fun _ _ _ h => h) (yieldsIf_load_mid (by rfl) _ _ rfl _ _ rfl (w16 r) _ (fun w' h => h.1.range) undR rfl IR.out) hHeld ?_
  try simp only [Act.put, List.setIfInBounds_toArray, List.set_cons_zero, List.set_cons_succ]
  refine wpAnyH_take (i := 32) (v := _) rfl (by kernel_rfl) (by kernel_rfl) (by kernel_rfl) (fun _ _ _ h => h) (yieldsIf_load_mid (by rfl) _ _ rfl _ _ rfl (w16 r) _ (fun w' h => h.1.range) undR rfl IR.out) hHeld ?_
  try simp only [Act.put, List.setIfInBounds_toArray, List.set_cons_zero, List.set_cons_succ]
  refine wpAnyH_ready (rs := [30]) (by kernel_rfl) (by simp) ?_
  refine AllReadyH.cons rfl (fun K hK => ?_) AllReadyH.nil
  go_simp
  go_wp2_with (first
    | (go_at_call 8; ((with_reducible refine (KA.out _ hHeld.2.2.1).mono ?_); rintro e w1 ⟨rfl, b1⟩))
    | (go_at_call 22; ((with_reducible refine (T1.out _ hHeld.2.2.1).mono ?_); rintro e w1 ⟨rfl, b1⟩))
    | (go_at_call 22; ((with_reducible refine (T2.out _ hHeld.2.2.1).mono ?_); rintro e w1 ⟨rfl, b1⟩))
    | (go_at_call 22; ((with_reducible refine (T3.out _ hHeld.2.2.1).mono ?_); rintro e w1 ⟨rfl, b1⟩))
    | (go_at_call 22; ((with_reducible refine (T4.out _ hHeld.2.2.1).mono ?_); rintro e w1 ⟨rfl, b1⟩))
    | (go_at_call 22; ((with_reducible refine (T5.out _ hHeld.2.2.1).mono ?_); rintro e w1 ⟨rfl, b1⟩))
    | (go_at_call 26; ((with_reducible refine (L1.out _).mono ?_); rintro e w1 ⟨rfl, b1⟩))
    | (go_at_call 26; ((with_reducible refine (L2.out _).mono ?_); rintro e w1 ⟨rfl, b1⟩))
    | (go_at_call 26; ((with_reducible refine (L3.out _).mono ?_); rintro e w1 ⟨rfl, b1⟩))
    | (go_at_call 24; ((with_reducible refine (N1.out _ hHeld.2.2.1).mono ?_); rintro e w1 ⟨rfl, b1⟩))
    | (go_at_call 24; ((with_reducible refine (N2.out _ hHeld.2.2.1).mono ?_); rintro e w1 ⟨rfl, b1⟩))
    | (go_at_call 28; ((with_reducible refine (A1.out _).mono ?_); rintro e w1 ⟨rfl, b1⟩))
    | (go_at_call 16; ((with_reducible refine (O1.out _).mono ?_); rintro e w1 ⟨rfl, b1⟩))
    | (go_at_call 16; ((with_reducible refine (O2.out _).mono ?_); rintro e w1 ⟨rfl, b1⟩))
    | (go_at_call 20; ((with_reducible refine (S1.out _).mono ?_); rintro e w1 ⟨rfl, b1⟩))
    | (go_at_call 20; ((with_reducible refine (S2.out _).mono ?_); rintro e w1 ⟨rfl, b1⟩))
    | (go_at_call 18; ((with_reducible refine (D1.out _).mono ?_); rintro e w1 ⟨rfl, b1⟩)))
  refine hK.out _ _ ⟨hHeld.1.below b1, hHeld.2.1.below b1, tab_bel hHeld.2.2.1 b1, bel hHeld.2.2.2 b1⟩ (fun hHeld => ?_)
  clear hK K b1
  try simp only [Act.put, List.setIfInBounds_toArray, List.set_cons_zero, List.set_cons_succ]
  refine wpAnyH_ready (rs := [31]) (by kernel_rfl) (by simp) ?_
  refine AllReadyH.cons rfl (fun K hK => ?_) AllReadyH.nil
  go_simp
  go_wp2_with (first
    | (go_at_call 8; ((with_reducible refine (KA.out _ hHeld.2.2.1).mono ?_); rintro e w1 ⟨rfl, b1⟩))
    | (go_at_call 22; ((with_reducible refine (T1.out _ hHeld.2.2.1).mono ?_); rintro e w1 ⟨rfl, b1⟩))
    | (go_at_call 22; ((with_reducible refine (T2.out _ hHeld.2.2.1).mono ?_); rintro e w1 ⟨rfl, b1⟩))
    | (go_at_call 22; ((with_reducible refine (T3.out _ hHeld.2.2.1).mono ?_); rintro e w1 ⟨rfl, b1⟩))
    | (go_at_call 22; ((with_reducible refine (T4.out _ hHeld.2.2.1).mono ?_); rintro e w1 ⟨rfl, b1⟩))
    | (go_at_call 22; ((with_reducible refine (T5.out _ hHeld.2.2.1).mono ?_); rintro e w1 ⟨rfl, b1⟩))
    | (go_at_call 26; ((with_reducible refine (L1.out _).mono ?_); rintro e w1 ⟨rfl, b1⟩))
    | (go_at_call 26; ((with_reducible refine (L2.out _).mono ?_); rintro e w1 ⟨rfl, b1⟩))
    | (go_at_call 26; ((with_reducible refine (L3.out _).mono ?_); rintro e w1 ⟨rfl, b1⟩))
    | (go_at_call 24; ((with_reducible refine (N1.out _ hHeld.2.2.1).mono ?_); rintro e w1 ⟨rfl, b1⟩))
    | (go_at_call 24; ((with_reducible refine (N2.out _ hHeld.2.2.1).mono ?_); rintro e w1 ⟨rfl, b1⟩))
    | (go_at_call 28; ((with_reducible refine (A1.out _).mono ?_); rintro e w1 ⟨rfl, b1⟩))
    | (go_at_call 16; ((with_reducible refine (O1.out _).mono ?_); rintro e w1 ⟨rfl, b1⟩))
    | (go_at_call 16; ((with_reducible refine (O2.out _).mono ?_); rintro e w1 ⟨rfl, b1⟩))
    | (go_at_call 20; ((with_reducible refine (S1.out _).mono ?_); rintro e w1 ⟨rfl, b1⟩))
    | (go_at_call 20; ((with_reducible refine (S2.out _).mono ?_); rintro e w1 ⟨rfl, b1⟩))
    | (go_at_call 18; ((with_reducible refine (D1.out _).mono ?_); rintro e w1 ⟨rfl, b1⟩)))
  refine hK.out _ _ ⟨hHeld.1.below b1, hHeld.2.1.below b1, tab_bel hHeld.2.2.1 b1, bel hHeld.2.2.2 b1⟩ (fun hHeld => ?_)
  clear hK K b1
  try simp only [Act.put, List.setIfInBounds_toArray, List.set_cons_zero, List.set_cons_succ]
  refine wpAnyH_ready (rs := [33]) (by kernel_rfl) (by simp) ?_
  refine AllReadyH.cons rfl (fun K hK => ?_) AllReadyH.nil
  go_simp
  go_wp2_with (first
    | (go_at_call 8; ((with_reducible refine (KA.out _ hHeld.2.2.1).mono ?_); rintro e w1 ⟨rfl, b1⟩))
    | (go_at_call 22; ((with_reducible refine (T1.out _ hHeld.2.2.1).mono ?_); rintro e w1 ⟨rfl, b1⟩))
    | (go_at_call 22; ((with_reducible refine (T2.out _ hHeld.2.2.1).mono ?_); rintro e w1 ⟨rfl, b1⟩))
    | (go_at_call 22; ((with_reducible refine (T3.out _ hHeld.2.2.1).mono ?_); rintro e w1 ⟨rfl, b1⟩))
    | (go_at_call 22; ((with_reducible refine (T4.out _ hHeld.2.2.1).mono ?_); rintro e w1 ⟨rfl, b1⟩))
    | (go_at_call 22; ((with_reducible refine (T5.out _ hHeld.2.2.1).mono ?_); rintro e w1 ⟨rfl, b1⟩))
    | (go_at_call 26; ((with_reducible refine (L1.out _).mono ?_); rintro e w1 ⟨rfl, b1⟩))
    | (go_at_call 26; ((with_reducible refine (L2.out _).mono ?_); rintro e w1 ⟨rfl, b1⟩))
    | (go_at_call 26; ((with_reducible refine (L3.out _).mono ?_); rintro e w1 ⟨rfl, b1⟩))
    | (go_at_call 24; ((with_reducible refine (N1.out _ hHeld.2.2.1).mono ?_); rintro e w1 ⟨rfl, b1⟩))
    | (go_at_call 24; ((with_reducible refine (N2.out _ hHeld.2.2.1).mono ?_); rintro e w1 ⟨rfl, b1⟩))
    | (go_at_call 28; ((with_reducible refine (A1.out _).mono ?_); rintro e w1 ⟨rfl, b1⟩))
    | (go_at_call 16; ((with_reducible refine (O1.out _).mono ?_); rintro e w1 ⟨rfl, b1⟩))
    | (go_at_call 16; ((with_reducible refine (O2.out _).mono ?_); rintro e w1 ⟨rfl, b1⟩))
    | (go_at_call 20; ((with_reducible refine (S1.out _).mono ?_); rintro e w1 ⟨rfl, b1⟩))
    | (go_at_call 20; ((with_reducible refine (S2.out _).mono ?_); rintro e w1 ⟨rfl, b1⟩))
    | (go_at_call 18; ((with_reducible refine (D1.out _).mono ?_); rintro e w1 ⟨rfl, b1⟩)))
  refine hK.out _ _ ⟨hHeld.1.below b1, hHeld.2.1.below b1, tab_bel hHeld.2.2.1 b1, bel hHeld.2.2.2 b1⟩ (fun hHeld => ?_)
  clear hK K b1
  try simp only [Act.put, List.setIfInBounds_toArray, List.set_cons_zero, List.set_cons_succ]
  refine wpAnyH_ready (rs := [34]) (by kernel_rfl) (by simp) ?_
  refine AllReadyH.cons rfl (fun K hK => ?_) AllReadyH.nil
  go_simp
  go_wp2_with (first
    | (go_at_call 8; ((with_reducible refine (KA.out _ hHeld.2.2.1).mono ?_); rintro e w1 ⟨rfl, b1⟩))
    | (go_at_call 22; ((with_reducible refine (T1.out _ hHeld.2.2.1).mono ?_); rintro e w1 ⟨rfl, b1⟩))
    | (go_at_call 22; ((with_reducible refine (T2.out _ hHeld.2.2.1).mono ?_); rintro e w1 ⟨rfl, b1⟩))
    | (go_at_call 22; ((with_reducible refine (T3.out _ hHeld.2.2.1).mono ?_); rintro e w1 ⟨rfl, b1⟩))
    | (go_at_call 22; ((with_reducible refine (T4.out _ hHeld.2.2.1).mono ?_); rintro e w1 ⟨rfl, b1⟩))
    | (go_at_call 22; ((with_reducible refine (T5.out _ hHeld.2.2.1).mono ?_); rintro e w1 ⟨rfl, b1⟩))
    | (go_at_call 26; ((with_reducible refine (L1.out _).mono ?_); rintro e w1 ⟨rfl, b1⟩))
    | (go_at_call 26; ((with_reducible refine (L2.out _).mono ?_); rintro e w1 ⟨rfl, b1⟩))
    | (go_at_call 26; ((with_reducible refine (L3.out _).mono ?_); rintro e w1 ⟨rfl, b1⟩))
    | (go_at_call 24; ((with_reducible refine (N1.out _ hHeld.2.2.1).mono ?_); rintro e w1 ⟨rfl, b1⟩))
    | (go_at_call 24; ((with_reducible refine (N2.out _ hHeld.2.2.1).mono ?_); rintro e w1 ⟨rfl, b1⟩))
    | (go_at_call 28; ((with_reducible refine (A1.out _).mono ?_); rintro e w1 ⟨rfl, b1⟩))
    | (go_at_call 16; ((with_reducible refine (O1.out _).mono ?_); rintro e w1 ⟨rfl, b1⟩))
    | (go_at_call 16; ((with_reducible refine (O2.out _).mono ?_); rintro e w1 ⟨rfl, b1⟩))
    | (go_at_call 20; ((with_reducible refine (S1.out _).mono ?_); rintro e w1 ⟨rfl, b1⟩))
    | (go_at_call 20; ((with_reducible refine (S2.out _).mono ?_); rintro e w1 ⟨rfl, b1⟩))
    | (go_at_call 18; ((with_reducible refine (D1.out _).mono ?_); rintro e w1 ⟨rfl, b1⟩)))
  refine hK.out _ _ ⟨hHeld.1.below b1, hHeld.2.1.below b1, tab_bel hHeld.2.2.1 b1, bel hHeld.2.2.2 b1⟩ (fun hHeld => ?_)
  clear hK K b1
  try simp only [Act.put, List.setIfInBounds_toArray, List.set_cons_zero, List.set_cons_succ]
  refine wpAnyH_ready (rs := [35]) (by kernel_rfl) (by simp) ?_
  refine AllReadyH.cons rfl (fun K hK => ?_) AllReadyH.nil
  go_simp
  refine hK.out _ _ hHeld (fun hHeld => ?_)
  clear hK K
  try simp only [Act.put, List.setIfInBounds_toArray, List.set_cons_zero, List.set_cons_succ]
  refine wpAnyH_ready (rs := [36]) (by kernel_rfl) (by simp) ?_
  refine AllReadyH.cons rfl (fun K hK => ?_) AllReadyH.nil
  go_simp
  refine hK.out _ _ hHeld (fun hHeld => ?_)
  clear hK K
  try simp only [Act.put, List.setIfInBounds_toArray, List.set_cons_zero, List.set_cons_succ]
  refine wpAnyH_ready (rs := [37]) (by kernel_rfl) (by simp) ?_
  refine AllReadyH.cons rfl (fun K hK => ?_) AllReadyH.nil
  go_simp
  refine hK.out _ _ hHeld (fun hHeld => ?_)
  clear hK K
  try simp only [Act.put, List.setIfInBounds_toArray, List.set_cons_zero, List.set_cons_succ]
  refine wpAnyH_take (i := 39) (v := _) rfl (by kernel_rfl) (by kernel_rfl) (by kernel_rfl) (fun _ _ _ h => h) (yieldsIf_load_mid (by rfl) _ _ rfl _ _ rfl (w16 r) _ (fun w' h => h.1.range) undR rfl IR.out) hHeld ?_
  try simp only [Act.put, List.setIfInBounds_toArray, List.set_cons_zero, List.set_cons_succ]
  refine wpAnyH_take (i := 38) (v := _) rfl (by kernel_rfl) (by kernel_rfl) (by kernel_rfl) (fun _ _ _ h => h) (Or.inl ⟨by rfl, fun w' hw' => by go_simp; rfl⟩) hHeld ?_
  try simp only [Act.put, List.setIfInBounds_toArray, List.set_cons_zero, List.set_cons_succ]
  refine wpAnyH_ready (rs := [40]) (by kernel_rfl) (by simp) ?_
  refine AllReadyH.cons rfl (fun K hK => ?_) AllReadyH.nil
  go_simp
  go_wp2_with (first
    | (go_at_call 8; ((with_reducible refine (KA.out _ hHeld.2.2.1).mono ?_); rintro e w1 ⟨rfl, b1⟩))
    | (go_at_call 22; ((with_reducible refine (T1.out _ hHeld.2.2.1).mono ?_); rintro e w1 ⟨rfl, b1⟩))
    | (go_at_call 22; ((with_reducible refine (T2.out _ hHeld.2.2.1).mono ?_); rintro e w1 ⟨rfl, b1⟩))
    | (go_at_call 22; ((with_reducible refine (T3.out _ hHeld.2.2.1).mono ?_); rintro e w1 ⟨rfl, b1⟩))
    | (go_at_call 22; ((with_reducible refine (T4.out _ hHeld.2.2.1).mono ?_); rintro e w1 ⟨rfl, b1⟩))
    | (go_at_call 22; ((with_reducible refine (T5.out _ hHeld.2.2.1).mono ?_); rintro e w1 ⟨rfl, b1⟩))
    | (go_at_call 26; ((with_reducible refine (L1.out _).mono ?_); rintro e w1 ⟨rfl, b1⟩))
    | (go_at_call 26; ((with_reducible refine (L2.out _).mono ?_); rintro e w1 ⟨rfl, b1⟩))
    | (go_at_call 26; ((with_reducible refine (L3.out _).mono ?_); rintro e w1 ⟨rfl, b1⟩))
    | (go_at_call 24; ((with_reducible refine (N1.out _ hHeld.2.2.1).mono ?_); rintro e w1 ⟨rfl, b1⟩))
    | (go_at_call 24; ((with_reducible refine (N2.out _ hHeld.2.2.1).mono ?_); rintro e w1 ⟨rfl, b1⟩))
    | (go_at_call 28; ((with_reducible refine (A1.out _).mono ?_); rintro e w1 ⟨rfl, b1⟩))
    | (go_at_call 16; ((with_reducible refine (O1.out _).mono ?_); rintro e w1 ⟨rfl, b1⟩))
    | (go_at_call 16; ((with_reducible refine (O2.out _).mono ?_); rintro e w1 ⟨rfl, b1⟩))
    | (go_at_call 20; ((with_reducible refine (S1.out _).mono ?_); rintro e w1 ⟨rfl, b1⟩))
    | (go_at_call 20; ((with_reducible refine (S2.out _).mono ?_); rintro e w1 ⟨rfl, b1⟩))
    | (go_at_call 18; ((with_reducible refine (D1.out _).mono ?_); rintro e w1 ⟨rfl, b1⟩)))
  refine hK.out _ _ ⟨hHeld.1.below b1, hHeld.2.1.below b1, tab_bel hHeld.2.2.1 b1, bel hHeld.2.2.2 b1⟩ (fun hHeld => ?_)
  clear hK K b1
  try simp only [Act.put, List.setIfInBounds_toArray, List.set_cons_zero, List.set_cons_succ]
  refine wpAnyH_ready (rs := [41]) (by kernel_rfl) (by simp) ?_
  refine AllReadyH.cons rfl (fun K hK => ?_) AllReadyH.nil
  go_simp
  refine hK.out _ _ hHeld (fun hHeld => ?_)
  clear hK K
  try simp only [Act.put, List.setIfInBounds_toArray, List.set_cons_zero, List.set_cons_succ]
  refine wpAnyH_ready (rs := [42]) (by kernel_rfl) (by simp) ?_
  refine AllReadyH.cons rfl (fun K hK => ?_) AllReadyH.nil
  go_simp
  refine hK.out _ _ hHeld (fun hHeld => ?_)
  clear hK K
  try simp only [Act.put, List.setIfInBounds_toArray, List.set_cons_zero, List.set_cons_succ]
  refine wpAnyH_ready (rs := [43]) (by kernel_rfl) (by simp) ?_
  refine AllReadyH.cons rfl (fun K hK => ?_) AllReadyH.nil
  go_simp
  refine hK.out _ _ hHeld (fun hHeld => ?_)
  clear hK K
  try simp only [Act.put, List.setIfInBounds_toArray, List.set_cons_zero, List.set_cons_succ]
  refine wpAnyH_ready (rs := [44]) (by kernel_rfl) (by simp) ?_
  refine AllReadyH.cons rfl (fun K hK => ?_) AllReadyH.nil
  go_simp
  refine hK.out _ _ hHeld (fun hHeld => ?_)
  clear hK K
  try simp only [Act.put, List.setIfInBounds_toArray, List.set_cons_zero, List.set_cons_succ]
  refine wpAnyH_take (i := 45) (v := _) rfl (by kernel_rfl) (by kernel_rfl) (by kernel_rfl) (fun _ _ _ h => h) (yieldsIf_load_mid (by rfl) _ _ rfl _ _ rfl (w16 r) _ (fun w' h => h.1.range) undR rfl IR.out) hHeld ?_
  try simp only [Act.put, List.setIfInBounds_toArray, List.set_cons_zero, List.set_cons_succ]
  refine wpAnyH_take (i := 46) (v := _) rfl (by kernel_rfl) (by kernel_rfl) (by kernel_rfl) (fun _ _ _ h => h) (yieldsIf_load_mid (by rfl) _ _ rfl _ _ rfl (w16 s) _ (fun w' h => h.2.1.range) undR rfl IS.out) hHeld ?_
  try simp only [Act.put, List.setIfInBounds_toArray, List.set_cons_zero, List.set_cons_succ]
  refine wpAnyH_take (i := 48) (v := _) rfl (by kernel_rfl) (by kernel_rfl) (by kernel_rfl) (fun _ _ _ h => h) (yieldsIf_load_mid (by rfl) _ _ rfl _ _ rfl (w16 s) _ (fun w' h => h.2.1.range) undR rfl IS.out) hHeld ?_
  try simp only [Act.put, List.setIfInBounds_toArray, List.set_cons_zero, List.set_cons_succ]
  refine wpAnyH_take (i := 50) (v := _) rfl (by kernel_rfl) (by kernel_rfl) (by kernel_rfl) (fun _ _ _ h => h) (yieldsIf_load_mid (by rfl) _ _ rfl _ _ rfl (w16 r) _ (fun w' h => h.1.range) undR rfl IR.out) hHeld ?_
  try simp only [Act.put, List.setIfInBounds_toArray, List.set_cons_zero, List.set_cons_succ]
  refine wpAnyH_take (i := 51) (v := _) rfl (by kernel_rfl) (by kernel_rfl) (by kernel_rfl) (fun _ _ _ h => h) (yieldsIf_load_mid (by rfl) _ _ rfl _ _ rfl (w16 s) _ (fun w' h => h.2.1.range) undR rfl IS.out) hHeld ?_
  try simp only [Act.put, List.setIfInBounds_toArray, List.set_cons_zero, List.set_cons_succ]
  refine wpAnyH_ready (rs := [47]) (by kernel_rfl) (by simp) ?_
  refine AllReadyH.cons rfl (fun K hK => ?_) AllReadyH.nil
  go_simp
  go_wp2_with (first
    | (go_at_call 8; ((with_reducible refine (KA.out _ hHeld.2.2.1).mono ?_); rintro e w1 ⟨rfl, b1⟩))
    | (go_at_call 22; ((with_reducible refine (T1.out _ hHeld.2.2.1).mono ?_); rintro e w1 ⟨rfl, b1⟩))
    | (go_at_call 22; ((with_reducible refine (T2.out _ hHeld.2.2.1).mono ?_); rintro e w1 ⟨rfl, b1⟩))
    | (go_at_call 22; ((with_reducible refine (T3.out _ hHeld.2.2.1).mono ?_); rintro e w1 ⟨rfl, b1⟩))
    | (go_at_call 22; ((with_reducible refine (T4.out _ hHeld.2.2.1).mono ?_); rintro e w1 ⟨rfl, b1⟩))
    | (go_at_call 22; ((with_reducible refine (T5.out _ hHeld.2.2.1).mono ?_); rintro e w1 ⟨rfl, b1⟩))
    | (go_at_call 26; ((with_reducible refine (L1.out _).mono ?_); rintro e w1 ⟨rfl, b1⟩))
    | (go_at_call 26; ((with_reducible refine (L2.out _).mono ?_); rintro e w1 ⟨rfl, b1⟩))
    | (go_at_call 26; ((with_reducible refine (L3.out _).mono ?_); rintro e w1 ⟨rfl, b1⟩))
    | (go_at_call 24; ((with_reducible refine (N1.out _ hHeld.2.2.1).mono ?_); rintro e w1 ⟨rfl, b1⟩))
    | (go_at_call 24; ((with_reducible refine (N2.out _ hHeld.2.2.1).mono ?_); rintro e w1 ⟨rfl, b1⟩))
    | (go_at_call 28; ((with_reducible refine (A1.out _).mono ?_); rintro e w1 ⟨rfl, b1⟩))
    | (go_at_call 16; ((with_reducible refine (O1.out _).mono ?_); rintro e w1 ⟨rfl, b1⟩))
    | (go_at_call 16; ((with_reducible refine (O2.out _).mono ?_); rintro e w1 ⟨rfl, b1⟩))
    | (go_at_call 20; ((with_reducible refine (S1.out _).mono ?_); rintro e w1 ⟨rfl, b1⟩))
    | (go_at_call 20; ((with_reducible refine (S2.out _).mono ?_); rintro e w1 ⟨rfl, b1⟩))
    | (go_at_call 18; ((with_reducible refine (D1.out _).mono ?_); rintro e w1 ⟨rfl, b1⟩)))
  refine hK.out _ _ ⟨hHeld.1.below b1, hHeld.2.1.below b1, tab_bel hHeld.2.2.1 b1, bel hHeld.2.2.2 b1⟩ (fun hHeld => ?_)
  clear hK K b1
  try simp only [Act.put, List.setIfInBounds_toArray, List.set_cons_zero, List.set_cons_succ]
  refine wpAnyH_ready (rs := [49]) (by kernel_rfl) (by simp) ?_
  refine AllReadyH.cons rfl (fun K hK => ?_) AllReadyH.nil
  go_simp
  go_wp2_with (first
    | (go_at_call 8; ((with_reducible refine (KA.out _ hHeld.2.2.1).mono ?_); rintro e w1 ⟨rfl, b1⟩))
    | (go_at_call 22; ((with_reducible refine (T1.out _ hHeld.2.2.1).mono ?_); rintro e w1 ⟨rfl, b1⟩))
    | (go_at_call 22; ((with_reducible refine (T2.out _ hHeld.2.2.1).mono ?_); rintro e w1 ⟨rfl, b1⟩))
    | (go_at_call 22; ((with_reducible refine (T3.out _ hHeld.2.2.1).mono ?_); rintro e w1 ⟨rfl, b1⟩))
    | (go_at_call 22; ((with_reducible refine (T4.out _ hHeld.2.2.1).mono ?_); rintro e w1 ⟨rfl, b1⟩))
    | (go_at_call 22; ((with_reducible refine (T5.out _ hHeld.2.2.1).mono ?_); rintro e w1 ⟨rfl, b1⟩))
    | (go_at_call 26; ((with_reducible refine (L1.out _).mono ?_); rintro e w1 ⟨rfl, b1⟩))
    | (go_at_call 26; ((with_reducible refine (L2.out _).mono ?_); rintro e w1 ⟨rfl, b1⟩))
    | (go_at_call 26; ((with_reducible refine (L3.out _).mono ?_); rintro e w1 ⟨rfl, b1⟩))
    | (go_at_call 24; ((with_reducible refine (N1.out _ hHeld.2.2.1).mono ?_); rintro e w1 ⟨rfl, b1⟩))
    | (go_at_call 24; ((with_reducible refine (N2.out _ hHeld.2.2.1).mono ?_); rintro e w1 ⟨rfl, b1⟩))
    | (go_at_call 28; ((with_reducible refine (A1.out _).mono ?_); rintro e w1 ⟨rfl, b1⟩))
    | (go_at_call 16; ((with_reducible refine (O1.out _).mono ?_); rintro e w1 ⟨rfl, b1⟩))
    | (go_at_call 16; ((with_reducible refine (O2.out _).mono ?_); rintro e w1 ⟨rfl, b1⟩))
    | (go_at_call 20; ((with_reducible refine (S1.out _).mono ?_); rintro e w1 ⟨rfl, b1⟩))
    | (go_at_call 20; ((with_reducible refine (S2.out _).mono ?_); rintro e w1 ⟨rfl, b1⟩))
    | (go_at_call 18; ((with_reducible refine (D1.out _).mono ?_); rintro e w1 ⟨rfl, b1⟩)))
  refine hK.out _ _ ⟨hHeld.1.below b1, hHeld.2.1.below b1, tab_bel hHeld.2.2.1 b1, bel hHeld.2.2.2 b1⟩ (fun hHeld => ?_)
  clear hK K b1
  try simp only [Act.put, List.setIfInBounds_toArray, List.set_cons_zero, List.set_cons_succ]
  refine wpAnyH_ready (rs := [52]) (by kernel_rfl) (by simp) ?_
  refine AllReadyH.cons rfl (fun K hK => ?_) AllReadyH.nil
  go_simp
  go_wp2_with (first
    | (go_at_call 8; ((with_reducible refine (KA.out _ hHeld.2.2.1).mono ?_); rintro e w1 ⟨rfl, b1⟩))
    | (go_at_call 22; ((with_reducible refine (T1.out _ hHeld.2.2.1).mono ?_); rintro e w1 ⟨rfl, b1⟩))
    | (go_at_call 22; ((with_reducible refine (T2.out _ hHeld.2.2.1).mono ?_); rintro e w1 ⟨rfl, b1⟩))
    | (go_at_call 22; ((with_reducible refine (T3.out _ hHeld.2.2.1).mono ?_); rintro e w1 ⟨rfl, b1⟩))
    | (go_at_call 22; ((with_reducible refine (T4.out _ hHeld.2.2.1).mono ?_); rintro e w1 ⟨rfl, b1⟩))
    | (go_at_call 22; ((with_reducible refine (T5.out _ hHeld.2.2.1).mono ?_); rintro e w1 ⟨rfl, b1⟩))
    | (go_at_call 26; ((with_reducible refine (L1.out _).mono ?_); rintro e w1 ⟨rfl, b1⟩))
    | (go_at_call 26; ((with_reducible refine (L2.out _).mono ?_); rintro e w1 ⟨rfl, b1⟩))
    | (go_at_call 26; ((with_reducible refine (L3.out _).mono ?_); rintro e w1 ⟨rfl, b1⟩))
    | (go_at_call 24; ((with_reducible refine (N1.out _ hHeld.2.2.1).mono ?_); rintro e w1 ⟨rfl, b1⟩))
    | (go_at_call 24; ((with_reducible refine (N2.out _ hHeld.2.2.1).mono ?_); rintro e w1 ⟨rfl, b1⟩))
    | (go_at_call 28; ((with_reducible refine (A1.out _).mono ?_); rintro e w1 ⟨rfl, b1⟩))
    | (go_at_call 16; ((with_reducible refine (O1.out _).mono ?_); rintro e w1 ⟨rfl, b1⟩))
    | (go_at_call 16; ((with_reducible refine (O2.out _).mono ?_); rintro e w1 ⟨rfl, b1⟩))
    | (go_at_call 20; ((with_reducible refine (S1.out _).mono ?_); rintro e w1 ⟨rfl, b1⟩))
    | (go_at_call 20; ((with_reducible refine (S2.out _).mono ?_); rintro e w1 ⟨rfl, b1⟩))
    | (go_at_call 18; ((with_reducible refine (D1.out _).mono ?_); rintro e w1 ⟨rfl, b1⟩)))
  refine hK.out _ _ ⟨hHeld.1.below b1, hHeld.2.1.below b1, tab_bel hHeld.2.2.1 b1, bel hHeld.2.2.2 b1⟩ (fun hHeld => ?_)
  clear hK K b1
  try simp only [Act.put, List.setIfInBounds_toArray, List.set_cons_zero, List.set_cons_succ]
  refine wpAnyH_ready (rs := [53]) (by kernel_rfl) (by simp) ?_
  refine AllReadyH.cons rfl (fun K hK => ?_) AllReadyH.nil
  go_simp
  refine hK.out _ _ hHeld (fun hHeld => ?_)
  clear hK K
  try simp only [Act.put, List.setIfInBounds_toArray, List.set_cons_zero, List.set_cons_succ]
  refine wpAnyH_ready (rs := [54]) (by kernel_rfl) (by simp) ?_
  refine AllReadyH.cons rfl (fun K hK => ?_) AllReadyH.nil
  go_simp
  refine hK.out _ _ hHeld (fun hHeld => ?_)
  clear hK K
  try simp only [Act.put, List.setIfInBounds_toArray, List.set_cons_zero, List.set_cons_succ]
  refine wpAnyH_ready (rs := [55]) (by kernel_rfl) (by simp) ?_
  refine AllReadyH.cons rfl (fun K hK => ?_) AllReadyH.nil
  go_simp
  refine hK.out _ _ hHeld (fun hHeld => ?_)
  clear hK K
  try simp only [Act.put, List.setIfInBounds_toArray, List.set_cons_zero, List.set_cons_succ]
  refine wpAnyH_take (i := 56) (v := _) rfl (by kernel_rfl) (by kernel_rfl) (by kernel_rfl) (fun _ _ _ h => h) (yieldsIf_load_mid (by rfl) _ _ rfl _ _ rfl (w16 r) _ (fun w' h => h.1.range) undR rfl IR.out) hHeld ?_
  try simp only [Act.put, List.setIfInBounds_toArray, List.set_cons_zero, List.set_cons_succ]
  refine wpAnyH_take (i := 57) (v := _) rfl (by kernel_rfl) (by kernel_rfl) (by kernel_rfl) (fun _ _ _ h => h) (yieldsIf_load_mid (by rfl) _ _ rfl _ _ rfl (w16 s) _ (fun w' h => h.2.1.range) undR rfl IS.out) hHeld ?_
  try simp only [Act.put, List.setIfInBounds_toArray, List.set_cons_zero, List.set_cons_succ]
  refine wpAnyH_take (i := 59) (v := _) rfl (by kernel_rfl) (by kernel_rfl) (by kernel_rfl) (fun _ _ _ h => h) (yieldsIf_load_mid (by rfl) _ _ rfl _ _ rfl (w16 r) _ (fun w' h => h.1.range) undR rfl IR.out) hHeld ?_
  try simp only [Act.put, List.setIfInBounds_toArray, List.set_cons_zero, List.set_cons_succ]
  refine wpAnyH_take (i := 60) (v := _) rfl (by kernel_rfl) (by kernel_rfl) (by kernel_rfl) (fun _ _ _ h => h) (yieldsIf_load_mid (by rfl) _ _ rfl _ _ rfl (w16 s) _ (fun w' h => h.2.1.range) undR rfl IS.out) hHeld ?_
  try simp only [Act.put, List.setIfInBounds_toArray, List.set_cons_zero, List.set_cons_succ]
  refine wpAnyH_take (i := 63) (v := _) rfl (by kernel_rfl) (by kernel_rfl) (by kernel_rfl) (fun _ _ _ h => h) (yieldsIf_load_mid (by rfl) _ _ rfl _ _ rfl (w16 r) _ (fun w' h => h.1.range) undR rfl IR.out) hHeld ?_
  try simp only [Act.put, List.setIfInBounds_toArray, List.set_cons_zero, List.set_cons_succ]
  refine wpAnyH_ready (rs := [58]) (by kernel_rfl) (by simp) ?_
  refine AllReadyH.cons rfl (fun K hK => ?_) AllReadyH.nil
  go_simp
  go_wp2_with (first
    | (go_at_call 8; ((with_reducible refine (KA.out _ hHeld.2.2.1).mono ?_); rintro e w1 ⟨rfl, b1⟩))
    | (go_at_call 22; ((with_reducible refine (T1.out _ hHeld.2.2.1).mono ?_); rintro e w1 ⟨rfl, b1⟩))
    | (go_at_call 22; ((with_reducible refine (T2.out _ hHeld.2.2.1).mono ?_); rintro e w1 ⟨rfl, b1⟩))
    | (go_at_call 22; ((with_reducible refine (T3.out _ hHeld.2.2.1).mono ?_); rintro e w1 ⟨rfl, b1⟩))
    | (go_at_call 22; ((with_reducible refine (T4.out _ hHeld.2.2.1).mono ?_); rintro e w1 ⟨rfl, b1⟩))
    | (go_at_call 22; ((with_reducible refine (T5.out _ hHeld.2.2.1).mono ?_); rintro e w1 ⟨rfl, b1⟩))
    | (go_at_call 26; ((with_reducible refine (L1.out _).mono ?_); rintro e w1 ⟨rfl, b1⟩))
    | (go_at_call 26; ((with_reducible refine (L2.out _).mono ?_); rintro e w1 ⟨rfl, b1⟩))
    | (go_at_call 26; ((with_reducible refine (L3.out _).mono ?_); rintro e w1 ⟨rfl, b1⟩))
    | (go_at_call 24; ((with_reducible refine (N1.out _ hHeld.2.2.1).mono ?_); rintro e w1 ⟨rfl, b1⟩))
    | (go_at_call 24; ((with_reducible refine (N2.out _ hHeld.2.2.1).mono ?_); rintro e w1 ⟨rfl, b1⟩))
    | (go_at_call 28; ((with_reducible refine (A1.out _).mono ?_); rintro e w1 ⟨rfl, b1⟩))
    | (go_at_call 16; ((with_reducible refine (O1.out _).mono ?_); rintro e w1 ⟨rfl, b1⟩))
    | (go_at_call 16; ((with_reducible refine (O2.out _).mono ?_); rintro e w1 ⟨rfl, b1⟩))
    | (go_at_call 20; ((with_reducible refine (S1.out _).mono ?_); rintro e w1 ⟨rfl, b1⟩))
    | (go_at_call 20; ((with_reducible refine (S2.out _).mono ?_); rintro e w1 ⟨rfl, b1⟩))
    | (go_at_call 18; ((with_reducible refine (D1.out _).mono ?_); rintro e w1 ⟨rfl, b1⟩)))
  refine hK.out _ _ ⟨hHeld.1.below b1, hHeld.2.1.below b1, tab_bel hHeld.2.2.1 b1, bel hHeld.2.2.2 b1⟩ (fun hHeld => ?_)
  clear hK K b1
  try simp only [Act.put, List.setIfInBounds_toArray, List.set_cons_zero, List.set_cons_succ]
  refine wpAnyH_ready (rs := [61]) (by kernel_rfl) (by simp) ?_
  refine AllReadyH.cons rfl (fun K hK => ?_) AllReadyH.nil
  go_simp
  go_wp2_with (first
    | (go_at_call 8; ((with_reducible refine (KA.out _ hHeld.2.2.1).mono ?_); rintro e w1 ⟨rfl, b1⟩))
    | (go_at_call 22; ((with_reducible refine (T1.out _ hHeld.2.2.1).mono ?_); rintro e w1 ⟨rfl, b1⟩))
    | (go_at_call 22; ((with_reducible refine (T2.out _ hHeld.2.2.1).mono ?_); rintro e w1 ⟨rfl, b1⟩))
    | (go_at_call 22; ((with_reducible refine (T3.out _ hHeld.2.2.1).mono ?_); rintro e w1 ⟨rfl, b1⟩))
    | (go_at_call 22; ((with_reducible refine (T4.out _ hHeld.2.2.1).mono ?_); rintro e w1 ⟨rfl, b1⟩))
    | (go_at_call 22; ((with_reducible refine (T5.out _ hHeld.2.2.1).mono ?_); rintro e w1 ⟨rfl, b1⟩))
    | (go_at_call 26; ((with_reducible refine (L1.out _).mono ?_); rintro e w1 ⟨rfl, b1⟩))
    | (go_at_call 26; ((with_reducible refine (L2.out _).mono ?_); rintro e w1 ⟨rfl, b1⟩))
    | (go_at_call 26; ((with_reducible refine (L3.out _).mono ?_); rintro e w1 ⟨rfl, b1⟩))
    | (go_at_call 24; ((with_reducible refine (N1.out _ hHeld.2.2.1).mono ?_); rintro e w1 ⟨rfl, b1⟩))
    | (go_at_call 24; ((with_reducible refine (N2.out _ hHeld.2.2.1).mono ?_); rintro e w1 ⟨rfl, b1⟩))
    | (go_at_call 28; ((with_reducible refine (A1.out _).mono ?_); rintro e w1 ⟨rfl, b1⟩))
    | (go_at_call 16; ((with_reducible refine (O1.out _).mono ?_); rintro e w1 ⟨rfl, b1⟩))
    | (go_at_call 16; ((with_reducible refine (O2.out _).mono ?_); rintro e w1 ⟨rfl, b1⟩))
    | (go_at_call 20; ((with_reducible refine (S1.out _).mono ?_); rintro e w1 ⟨rfl, b1⟩))
    | (go_at_call 20; ((with_reducible refine (S2.out _).mono ?_); rintro e w1 ⟨rfl, b1⟩))
    | (go_at_call 18; ((with_reducible refine (D1.out _).mono ?_); rintro e w1 ⟨rfl, b1⟩)))
  refine hK.out _ _ ⟨hHeld.1.below b1, hHeld.2.1.below b1, tab_bel hHeld.2.2.1 b1, bel hHeld.2.2.2 b1⟩ (fun hHeld => ?_)
  clear hK K b1
  try simp only [Act.put, List.setIfInBounds_toArray, List.set_cons_zero, List.set_cons_succ]
  refine wpAnyH_ready (rs := [62]) (by kernel_rfl) (by simp) ?_
  refine AllReadyH.cons rfl (fun K hK => ?_) AllReadyH.nil
  go_simp
  go_wp2_with (first
    | (go_at_call 8; ((with_reducible refine (KA.out _ hHeld.2.2.1).mono ?_); rintro e w1 ⟨rfl, b1⟩))
    | (go_at_call 22; ((with_reducible refine (T1.out _ hHeld.2.2.1).mono ?_); rintro e w1 ⟨rfl, b1⟩))
    | (go_at_call 22; ((with_reducible refine (T2.out _ hHeld.2.2.1).mono ?_); rintro e w1 ⟨rfl, b1⟩))
    | (go_at_call 22; ((with_reducible refine (T3.out _ hHeld.2.2.1).mono ?_); rintro e w1 ⟨rfl, b1⟩))
    | (go_at_call 22; ((with_reducible refine (T4.out _ hHeld.2.2.1).mono ?_); rintro e w1 ⟨rfl, b1⟩))
    | (go_at_call 22; ((with_reducible refine (T5.out _ hHeld.2.2.1).mono ?_); rintro e w1 ⟨rfl, b1⟩))
    | (go_at_call 26; ((with_reducible refine (L1.out _).mono ?_); rintro e w1 ⟨rfl, b1⟩))
    | (go_at_call 26; ((with_reducible refine (L2.out _).mono ?_); rintro e w1 ⟨rfl, b1⟩))
    | (go_at_call 26; ((with_reducible refine (L3.out _).mono ?_); rintro e w1 ⟨rfl, b1⟩))
    | (go_at_call 24; ((with_reducible refine (N1.out _ hHeld.2.2.1).mono ?_); rintro e w1 ⟨rfl, b1⟩))
    | (go_at_call 24; ((with_reducible refine (N2.out _ hHeld.2.2.1).mono ?_); rintro e w1 ⟨rfl, b1⟩))
    | (go_at_call 28; ((with_reducible refine (A1.out _).mono ?_); rintro e w1 ⟨rfl, b1⟩))
    | (go_at_call 16; ((with_reducible refine (O1.out _).mono ?_); rintro e w1 ⟨rfl, b1⟩))
    | (go_at_call 16; ((with_reducible refine (O2.out _).mono ?_); rintro e w1 ⟨rfl, b1⟩))
    | (go_at_call 20; ((with_reducible refine (S1.out _).mono ?_); rintro e w1 ⟨rfl, b1⟩))
    | (go_at_call 20; ((with_reducible refine (S2.out _).mono ?_); rintro e w1 ⟨rfl, b1⟩))
    | (go_at_call 18; ((with_reducible refine (D1.out _).mono ?_); rintro e w1 ⟨rfl, b1⟩)))
  refine hK.out _ _ ⟨hHeld.1.below b1, hHeld.2.1.below b1, tab_bel hHeld.2.2.1 b1, bel hHeld.2.2.2 b1⟩ (fun hHeld => ?_)
  clear hK K b1
  try simp only [Act.put, List.setIfInBounds_toArray, List.set_cons_zero, List.set_cons_succ]
  refine wpAnyH_ready (rs := [64]) (by kernel_rfl) (by simp) ?_
  refine AllReadyH.cons rfl (fun K hK => ?_) AllReadyH.nil
  go_simp
  refine hK.out _ _ hHeld (fun hHeld => ?_)
  clear hK K
  try simp only [Act.put, List.setIfInBounds_toArray, List.set_cons_zero, List.set_cons_succ]
  refine wpAnyH_ready (rs := [65]) (by kernel_rfl) (by simp) ?_
  refine AllReadyH.cons rfl (fun K hK => ?_) AllReadyH.nil
  go_simp
  refine hK.out _ _ hHeld (fun hHeld => ?_)
  clear hK K
  try simp only [Act.put, List.setIfInBounds_toArray, List.set_cons_zero, List.set_cons_succ]
  refine wpAnyH_ready (rs := [66]) (by kernel_rfl) (by simp) ?_
  refine AllReadyH.cons rfl (fun K hK => ?_) AllReadyH.nil
  go_simp
  refine hK.out _ _ hHeld (fun hHeld => ?_)
  clear hK K
  try simp only [Act.put, List.setIfInBounds_toArray, List.set_cons_zero, List.set_cons_succ]
  refine wpAnyH_done (by kernel_rfl) ?_ _
  go_wp2_with fail
  go_ret
  exact ⟨rfl, hHeld.2.2.2⟩
end Go.Proofs.YtbcbhofbikdfiaaDoor
