/- Contracts of the litmus rows: awake. -/
import Derived.Test.YtdbplbldgplcfaaLitX
import Derived.Test.YtdbplbldgplcfaaLitT
import Derived.Test.YtdbplbldgplcfaaLitV
import Derived.Test.YtdbplbldgplcfaaLitW
namespace Go.Proofs.Ytdbplbldgplcfaa
set_option maxRecDepth 100000
open Go.RowKit

theorem sort01 : sortZ [0, 1] = [0, 1] := List.mergeSort_of_pairwise (by decide)
theorem regs_pass : regsM [one1 9 0 1 0, one1 9 1 0 0] = [0, 1] := by
  have e : regsOf [one1 9 0 1 0, one1 9 1 0 0] = [0, 1] := by decide
  unfold regsM
  rw [e, sort01]
  decide
theorem chkM_of {x : Ins} {locs foll : Int} (h1 : known x.op = true) (h2 : x = needM x) (h3 : namesM x locs = true) (h4 : fitsM x = true) (h5 : 0 ≤ x.skip) (h6 : x.skip ≤ foll) : chkM x locs foll = 0 := by
  unfold chkM
  rw [if_neg (by rintro (h | h); exact absurd (h1.symm.trans h) (by decide); exact h h2), if_neg (by rw [h3]; decide), if_neg (by rw [h4]; decide), if_neg (by omega)]
theorem chkLine2 {a b : Ins} {locs : Int} (h1 : chkM a locs 1 = 0) (h2 : chkM b locs 0 = 0) : chkLine locs [a, b] = 0 := by
  have e1 : chkM a locs ([b] : List Ins).length = 0 := h1
  have e2 : chkM b locs ([] : List Ins).length = 0 := h2
  rw [chkLine, if_pos e1, chkLine, if_pos e2, chkLine]
theorem pass_good : chkTest passM = 0 := by
  rw [chk0]
  refine ⟨by decide, by kernel_rfl, ?_, by kernel_rfl⟩
  rw [thr0]
  intro l hl
  simp only [passM, List.mem_cons, List.not_mem_nil, or_false] at hl
  rcases hl with rfl | rfl
  · exact chkLine2 (chkM_of (by decide) rfl (by decide) (by decide) (by decide) (by decide)) (chkM_of (by decide) rfl (by decide) (by decide) (by decide) (by decide))
  · exact chkLine2 (chkM_of (by decide) rfl (by decide) (by decide) (by decide) (by decide)) (chkM_of (by decide) rfl (by decide) (by decide) (by decide) (by decide))
theorem pass_ev : evM passM.thr = 4 := by decide
theorem pass_pairs : passM.thr.any (fun l => l.any pairM) = false := by decide
theorem pass_ok : TestOk passM := ⟨by decide, by decide, by decide, by decide⟩
theorem pass_name : ∀ l ∈ passM.locs, l.1.length ≤ 1000000000 := by decide
theorem testVals {w : World} {lv tv av : Value} {t : TestM} (h : TestIn w lv tv av t) : ∃ lp lc tp tc ap ac, lv = .slice lp t.locs.length lc ∧ tv = .slice tp t.thr.length tc ∧ av = .slice ap t.asks.length ac := by
  obtain ⟨a, ⟨vs, _, b, _⟩, c⟩ := h
  obtain ⟨lp, lc, h1⟩ := a.slice
  obtain ⟨tp, tc, h2⟩ := b.slice
  obtain ⟨ap, ac, h3⟩ := c.slice
  exact ⟨lp, lc, tp, tc, ap, ac, h1, h2, h3⟩
/-- a test variable that is made -/
theorem atNew {w : World} {lv tv av : Value} {t : TestM} (h : TestIn w lv tv av t) (T : TypeId) : TestAt (w.alloc (.cells #[lv, tv, av] T)) w.heap.size t :=
  ⟨_, _, _, by rw [cOf (heap_alloc_new _ _)]; rfl, by rw [cOf (heap_alloc_new _ _)]; rfl, by rw [cOf (heap_alloc_new _ _)]; rfl, h.below (aset _ _)⟩

set_option maxHeartbeats 3200000 in
theorem awake8_any (w : World) :
    Calls Try.prog 5 #[] w fun e w' => e = .returned (.bool true) ∧ Below w.heap.size w w' := by
  have c0 := passing_any w
  have c1 : ∀ (b : Nat) W, TestAt W b passM → Calls Try.prog 10 #[.pointer (some ⟨b, 0, none⟩), .int .i64 1] W (RegsP W [one1 9 0 1 0, one1 9 1 0 0]) := fun b W h => regs_any b passM pass_ok 1 _ rfl W h
  have c2 := fun (b : Nat) W h => check_test b passM pass_ok pass_name W h
  have c3 := fun (b : Nat) W h => events_any b passM pass_ok W h
  have c4 := fun (b : Nat) W h => hasPairs_any b passM pass_ok W h
  rw [pass_good] at c2
  rw [pass_ev] at c3
  rw [pass_pairs] at c4
  have C0 := Bx.mk c0; have C1 := Bx.mk c1; have C2 := Bx.mk c2; have C3 := Bx.mk c3; have C4 := Bx.mk c4
  clear c0 c1 c2 c3 c4
  go_enter Try.func5, Try.ntmps5
  go_wp2_with (first
    | (go_at_call 9; ((with_reducible refine (C0.out).mono ?_); rintro e w1 ⟨⟨lv, tv, av, rfl, ht⟩, hb1⟩; obtain ⟨lp, lc, tp, tc, ap, ac, rfl, rfl, rfl⟩ := testVals ht; have HT := Bx.mk (atNew ht 26); have B0 := Bx.mk (bel hb1 (aset w1 (.cells #[.slice lp passM.locs.length lc, .slice tp passM.thr.length tc, .slice ap passM.asks.length ac] 26))); clear ht hb1))
    | (go_at_call 10; ((with_reducible refine (C1.out _ _ HT.out).mono ?_); rintro e w2 ⟨u, rfl, hu, hb2⟩; rw [regs_pass] at hu; obtain ⟨ub, uo, uc, rfl, hul, huc⟩ := hu.at (by decide); have u0 : w2.cell? ⟨ub, uo, none⟩ = some (.int .i64 0) := huc 0 _ rfl; have u1 : w2.cell? ⟨ub, uo + 1, none⟩ = some (.int .i64 1) := huc 1 _ rfl; have HT2 := Bx.mk (HT.out.below hb2); have B1 := Bx.mk (bel B0.out hb2); clear hu hb2 huc))
    | (go_at_call 6; ((with_reducible refine (C2.out _ _ HT2.out).mono ?_); rintro e w3 ⟨rfl, hb3⟩; have u0 := cBel u0 hb3; have u1 := cBel u1 hb3; have HT3 := Bx.mk (HT2.out.below hb3); have B2 := Bx.mk (bel B1.out hb3); clear hb3))
    | (go_at_call 7; ((with_reducible refine (C3.out _ _ HT3.out).mono ?_); rintro e w4 ⟨rfl, hb4⟩; have u0 := cBel u0 hb4; have u1 := cBel u1 hb4; have HT4 := Bx.mk (HT3.out.below hb4); have B3 := Bx.mk (bel B2.out hb4); clear hb4))
    | (go_at_call 11; ((with_reducible refine (C4.out _ _ HT4.out).mono ?_); rintro e w5 ⟨rfl, hb5⟩; have B4 := Bx.mk (bel B3.out hb5); clear hb5)))
  go_ret
  exact ⟨rfl, B4.out⟩
end Go.Proofs.Ytdbplbldgplcfaa
