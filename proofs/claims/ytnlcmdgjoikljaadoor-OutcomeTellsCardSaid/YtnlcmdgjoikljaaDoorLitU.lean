/- Contracts of litmus: Sets. -/
import Derived.Test.YtnlcmdgjoikljaaDoorLitG
namespace Go.Proofs.YtnlcmdgjoikljaaDoor
set_option maxRecDepth 100000
open Go.RowKit

theorem setsM_eq (o : Int) : setsM o = if o = 10 ∨ o = 15 ∨ o = 16 ∨ o = 17 then false else known o := by
  unfold setsM
  by_cases h1 : o = 10 <;> by_cases h2 : o = 15 <;> by_cases h3 : o = 16 <;> by_cases h4 : o = 17 <;> simp [h1, h2, h3, h4]
set_option maxHeartbeats 1600000 in
theorem sets_any (x : Ins) (w : World) :
    Calls Tryd.prog 45 #[insV x] w fun e w' => e = .returned (.bool (setsM x.op)) ∧ Below w.heap.size w w' := by
  have c := fun W => isKnown_any x W
  rw [setsM_eq]
  rw [insV_eq] at c
  rw [insV_eq]
  generalize known x.op = K at *
  generalize x.op = o at *
  generalize x.rd = o1 at *; generalize x.loc = o2 at *; generalize x.ar = o3 at *; generalize x.an = o4 at *; generalize x.br = o5 at *; generalize x.bn = o6 at *; generalize x.acq = o7 at *; generalize x.rel = o8 at *; generalize x.dep = o9 at *; generalize x.pred = o10 at *; generalize x.succ = o11 at *; generalize x.skip = o12 at *
  by_cases h : o = 10 ∨ o = 15 ∨ o = 16 ∨ o = 17
  · rw [if_pos h]
    clear c
    rcases h with rfl | rfl | rfl | rfl
    all_goals
      go_enter Tryd.func45, Tryd.ntmps45
      go_wp2_with fail
      go_ret
      exact ⟨rfl, aset _ _⟩
  · rw [if_neg h]
    have g1 : ((o : Int) == 10) = false := by rw [beq_eq_false_iff_ne]; omega
    have g2 : ((o : Int) == 15) = false := by rw [beq_eq_false_iff_ne]; omega
    have g3 : ((o : Int) == 16) = false := by rw [beq_eq_false_iff_ne]; omega
    have g4 : ((o : Int) == 17) = false := by rw [beq_eq_false_iff_ne]; omega
    clear h
    have C := Bx.mk c
    clear c
    go_enter Tryd.func45, Tryd.ntmps45
    go_wp2_with (go_at_call 62; ((with_reducible refine (C.out _).mono ?_); rintro e w' ⟨rfl, hb⟩))
    go_ret
    exact ⟨rfl, bel (aset _ _) hb⟩
end Go.Proofs.YtnlcmdgjoikljaaDoor
