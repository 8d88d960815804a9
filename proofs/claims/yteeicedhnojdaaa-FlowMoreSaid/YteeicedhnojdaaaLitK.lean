/- Contracts of litmus: compare. -/
import Derived.Test.YteeicedhnojdaaaLitJ
import Derived.Deep.RegionHeld3
namespace Go.Proofs.Yteeicedhnojdaaa
set_option maxRecDepth 100000
open Go.RowKit

def cmpA (a b : Int × Int × Int) : Int := firstNZ [cmpI (rankM a.1) (rankM b.1), cmpI a.2.1 b.2.1]
set_option maxHeartbeats 3200000 in
theorem compareA_any (a b : Int × Int × Int) (w : World) :
    Calls Try.prog 45 #[askV a, askV b] w fun e w' => e = .returned (.int .i64 (cmpA a b)) ∧ Below w.heap.size w w' := by
  have c1 := fun W => rank_any a W
  have c2 := fun W => rank_any b W
  have c3 := fun W => compareI_any (rankM a.1) (rankM b.1) W
  have c4 := fun W => compareI_any a.2.1 b.2.1 W
  have c5 : ∀ W : World, Calls Try.prog 68 #[.slice (some ⟨W.heap.size, 0, none⟩) 2 2] (W.alloc (.cells #[.int .i64 (cmpI (rankM a.1) (rankM b.1)), .int .i64 (cmpI a.2.1 b.2.1)] 3)) fun e w' => e = .returned (.int .i64 (cmpA a b)) ∧ (W.alloc (.cells #[.int .i64 (cmpI (rankM a.1) (rankM b.1)), .int .i64 (cmpI a.2.1 b.2.1)] 3)) = w' := fun W =>
    orInt_any [cmpI (rankM a.1) (rankM b.1), cmpI a.2.1 b.2.1] W.heap.size 2 rfl (by decide) _ (fun j x hx => by
      rw [cOf (heap_alloc_new _ _)]
      match j, hx with
      | 0, hx => simp at hx; subst hx; rfl
      | 1, hx => simp at hx; subst hx; rfl
      | j + 2, hx => simp at hx)
  generalize cmpA a b = R at *
  obtain ⟨x0, x1, x2⟩ := a
  obtain ⟨y0, y1, y2⟩ := b
  unfold askV at c1 c2 ⊢
  simp only at c1 c2 c3 c4 c5 ⊢
  generalize rankM x0 = ra at *
  generalize rankM y0 = rb at *
  generalize cmpI ra rb = k1 at *
  generalize cmpI x1 y1 = k2 at *
  have C1 := Bx.mk c1; have C2 := Bx.mk c2; have C3 := Bx.mk c3; have C4 := Bx.mk c4; have C5 := Bx.mk c5
  clear c1 c2 c3 c4 c5
  go_enter Try.func45, Try.ntmps45
  go_wp2_with fail
  have hb0 : Below w.heap.size w ((w.alloc (.cells #[.int .i64 x0, .int .i64 x1, .int .u64 x2] 94)).alloc (.cells #[.int .i64 y0, .int .i64 y1, .int .u64 y2] 94)) := (aset _ _).alloc (by simp) _
  obtain ⟨w0, hw0⟩ : ∃ w0, w0 = ((w.alloc (.cells #[.int .i64 x0, .int .i64 x1, .int .u64 x2] 94)).alloc (.cells #[.int .i64 y0, .int .i64 y1, .int .u64 y2] 94)) := ⟨_, rfl⟩
  have q3 : w0.cell? ⟨w.heap.size + 1, 0, none⟩ = some (.int .i64 y0) := by rw [hw0]; simp
  have q4 : w0.cell? ⟨w.heap.size + 1, 1, none⟩ = some (.int .i64 y1) := by rw [hw0]; simp
  have q5 : w0.cell? ⟨w.heap.size + 1, 2, none⟩ = some (.int .u64 y2) := by rw [hw0]; simp
  have q0 : w0.cell? ⟨w.heap.size, 0, none⟩ = some (.int .i64 x0) := by rw [hw0]; simp
  have q1 : w0.cell? ⟨w.heap.size, 1, none⟩ = some (.int .i64 x1) := by rw [hw0]; simp
  have q2 : w0.cell? ⟨w.heap.size, 2, none⟩ = some (.int .u64 x2) := by rw [hw0]; simp
  rw [← hw0] at hb0
  simp only [← hw0]
  clear hw0
  go_region_held3 (fun W => W.cell? ⟨w.heap.size, 0, none⟩ = some (.int .i64 x0) ∧ W.cell? ⟨w.heap.size, 1, none⟩ = some (.int .i64 x1) ∧ W.cell? ⟨w.heap.size, 2, none⟩ = some (.int .u64 x2) ∧ W.cell? ⟨w.heap.size + 1, 0, none⟩ = some (.int .i64 y0) ∧ W.cell? ⟨w.heap.size + 1, 1, none⟩ = some (.int .i64 y1) ∧ W.cell? ⟨w.heap.size + 1, 2, none⟩ = some (.int .u64 y2) ∧ Below w0.heap.size w0 W)
    (first
      | (exact ⟨q0, q1, q2, q3, q4, q5, (Below.refl _ _).drew⟩)
      | (go_split_ands; refine ⟨cBel (by assumption) (by first | assumption | exact Below.refl _ _ | exact aset _ _), cBel (by assumption) (by first | assumption | exact Below.refl _ _ | exact aset _ _), cBel (by assumption) (by first | assumption | exact Below.refl _ _ | exact aset _ _), cBel (by assumption) (by first | assumption | exact Below.refl _ _ | exact aset _ _), cBel (by assumption) (by first | assumption | exact Below.refl _ _ | exact aset _ _), cBel (by assumption) (by first | assumption | exact Below.refl _ _ | exact aset _ _), bel (by assumption) (by first | assumption | exact Below.refl _ _ | exact aset _ _)⟩))
    (first
      | (go_at_call 70; first
        | ((with_reducible refine (C1.out _).mono ?_); rintro e w1 ⟨rfl, hb1⟩)
        | ((with_reducible refine (C2.out _).mono ?_); rintro e w1 ⟨rfl, hb1⟩))
      | (go_at_call 69; first
        | ((with_reducible refine (C3.out _).mono ?_); rintro e w1 ⟨rfl, rfl⟩)
        | ((with_reducible refine (C4.out _).mono ?_); rintro e w1 ⟨rfl, rfl⟩))
      | (go_at_call 68; ((with_reducible refine (C5.out _).mono ?_); rintro e w1 ⟨rfl, rfl⟩)))
  rename_i hh
  have hb9 := bel hb0 hh.2.2.2.2.2.2
  clear hh
  go_wp2
  go_ret
  exact ⟨rfl, hb9⟩
end Go.Proofs.Yteeicedhnojdaaa
