/- Contracts of ordealref04: ReadNum. -/
import Derived.Test.YtdhbeeeofaheeaaPackS
import Derived.Deep.DeepCutAuto
namespace Go.Proofs.Ytdhbeeeofaheeaa
set_option maxRecDepth 100000
open Go.RowKit M

/-- a cursor's variable -/
structure Cur (w : World) (b : Nat) (T : ByteArray) (a x : Nat) : Prop where
  c0 : w.cell? ⟨b, 0, none⟩ = some (.string T)
  c1 : w.cell? ⟨b, 1, none⟩ = some (.int .i64 (a : Int))
  c2 : w.cell? ⟨b, 2, none⟩ = some (.int .i64 (x : Int))
  f0 : w.frozen? ⟨b, 0, none⟩ = false
  f1 : w.frozen? ⟨b, 1, none⟩ = false
  f2 : w.frozen? ⟨b, 2, none⟩ = false
theorem Cur.below {w w' : World} {b : Nat} {T : ByteArray} {a x : Nat} (h : Cur w b T a x) (hb : Below w.heap.size w w') : Cur w' b T a x := by
  have hlt : b < w.heap.size := World.block_lt_of_cell? w _ h.c0
  exact ⟨by rw [hb.cell hlt]; exact h.c0, by rw [hb.cell hlt]; exact h.c1, by rw [hb.cell hlt]; exact h.c2, by rw [hb.frozen hlt]; exact h.f0, by rw [hb.frozen hlt]; exact h.f1, by rw [hb.frozen hlt]; exact h.f2⟩
theorem Cur.drewN {w : World} {b : Nat} {T : ByteArray} {a x : Nat} (h : Cur w b T a x) (k : Nat) : Cur (w.drewN k) b T a x := ⟨h.c0, h.c1, h.c2, h.f0, h.f1, h.f2⟩
theorem Cur.drew {w : World} {b : Nat} {T : ByteArray} {a x : Nat} (h : Cur w b T a x) : Cur w.drew b T a x := ⟨h.c0, h.c1, h.c2, h.f0, h.f1, h.f2⟩
theorem Cur.of_block {W : World} {b : Nat} {T : ByteArray} {a x : Nat} {t : TypeId} (e : W.heap[b]? = some (.cells #[.string T, .int .i64 (a : Int), .int .i64 (x : Int)] t)) : Cur W b T a x := by
  have hc := fun j => cell_of_row W b j _ _ _ e
  refine ⟨by rw [hc]; rfl, by rw [hc]; rfl, by rw [hc]; rfl, ?_, ?_, ?_⟩
  all_goals
    unfold World.frozen?
    simp [e]
theorem Cur.new (w : World) (T : ByteArray) (a x : Nat) (t : TypeId) : Cur (w.alloc (.cells #[.string T, .int .i64 (a : Int), .int .i64 (x : Int)] t)) w.heap.size T a x := Cur.of_block (heap_alloc_new w _)
theorem Cur.far {w : World} {b g : Nat} {T : ByteArray} {a x : Nat} (h : Cur w b T a x) (o : Nat) (u : Value) (hne : g ≠ b) : Cur (w.setCell ⟨g, o, none⟩ u) b T a x := by
  have n0 : ∀ j, (⟨g, o, none⟩ : Addr) ≠ ⟨b, j, none⟩ := fun j e => hne (by injection e)
  exact ⟨by rw [World.cell?_setCell_other _ _ _ _ (n0 0)]; exact h.c0, by rw [World.cell?_setCell_other _ _ _ _ (n0 1)]; exact h.c1, by rw [World.cell?_setCell_other _ _ _ _ (n0 2)]; exact h.c2, by rw [frozen_setCell]; exact h.f0, by rw [frozen_setCell]; exact h.f1, by rw [frozen_setCell]; exact h.f2⟩
theorem Cur.set3 {w : World} {b : Nat} {T : ByteArray} {a x : Nat} (h : Cur w b T a x) (T' : ByteArray) (a' x' : Nat) :
    Cur (((w.setCell ⟨b, 0, none⟩ (.string T')).setCell ⟨b, 1, none⟩ (.int .i64 (a' : Int))).setCell ⟨b, 2, none⟩ (.int .i64 (x' : Int))) b T' a' x' := by
  have k1 : (w.setCell ⟨b, 0, none⟩ (.string T')).cell? ⟨b, 1, none⟩ = some (.int .i64 (a : Int)) := by rw [World.cell?_setCell_other _ _ _ _ (by simp)]; exact h.c1
  have k2 : ((w.setCell ⟨b, 0, none⟩ (.string T')).setCell ⟨b, 1, none⟩ (.int .i64 (a' : Int))).cell? ⟨b, 2, none⟩ = some (.int .i64 (x : Int)) := by
    rw [World.cell?_setCell_other _ _ _ _ (by simp), World.cell?_setCell_other _ _ _ _ (by simp)]; exact h.c2
  refine ⟨?_, ?_, ?_, ?_, ?_, ?_⟩
  · rw [World.cell?_setCell_other _ _ _ _ (by simp), World.cell?_setCell_other _ _ _ _ (by simp)]; exact World.cell?_setCell_same _ _ _ h.c0
  · rw [World.cell?_setCell_other _ _ _ _ (by simp)]; exact World.cell?_setCell_same _ _ _ k1
  · exact World.cell?_setCell_same _ _ _ k2
  · rw [frozen_setCell, frozen_setCell, frozen_setCell]; exact h.f0
  · rw [frozen_setCell, frozen_setCell, frozen_setCell]; exact h.f1
  · rw [frozen_setCell, frozen_setCell, frozen_setCell]; exact h.f2

set_option maxHeartbeats 600000 in
theorem cnum_small (T : ByteArray) (a x : Nat) (ha : a ≤ T.size) (hT : T.size ≤ 1000000) (hs : fixU T a x 1 < 248) (w : World) :
    Calls Try.prog 13 #[cu T a x] w fun e w' => e = .returned (.tuple #[cu T (numA T a x) (numX T a x), .int .u64 (numV T a x : Nat)]) ∧ Below w.heap.size w w' := by
  have c1 : ∀ W, Calls Try.prog 11 #[cu T a x, .int .i64 1] W fun e w' => e = .returned (.tuple #[cu T (rawA T a x 1) (rawX T a x 1), .int .u64 (fixU T a x 1 : Nat)]) ∧ Below W.heap.size W w' := fun W => cfix_any T a x 1 ha hT (by omega) (by omega) W
  have e1 : numA T a x = rawA T a x 1 := by unfold numA; rw [if_pos hs]
  have e2 : numX T a x = rawX T a x 1 := by unfold numX; rw [if_pos hs]
  have e3 : numV T a x = fixU T a x 1 := by unfold numV; rw [if_pos hs]
  rw [e1, e2, e3]
  generalize rawA T a x 1 = a1 at *
  generalize rawX T a x 1 = x1 at *
  generalize fixU T a x 1 = f at *
  clear e1 e2 e3
  have C1 := Box.mk c1
  clear c1
  have hd : ((x1 : Int) != 0) = true ∨ ((x1 : Int) != 0) = false := by cases ((x1 : Int) != 0) <;> simp
  have d2 : decide ((f : Int) < 248) = true := by simp; omega
  unfold cu at C1 ⊢
  rcases hd with d1 | d1
  all_goals
    go_enter Try.func13, Try.ntmps13
    go_wp2_with (go_at_call 11; ((with_reducible refine (C1.out _).mono ?_); rintro e w1 ⟨rfl, b1⟩; have B1 := Box.mk (bch (((Below.refl _ _).alloc (Nat.le_refl _) _).alloc (by simp) _) (b1.alloc b1.size (.cells #[.string T, .int .i64 (a1 : Int), .int .i64 (x1 : Int)] 38))); obtain ⟨⟨m0, m1, m2⟩, ⟨f0, f1, f2⟩, ⟨n0, n1, n2⟩, ⟨g0, g1, g2⟩⟩ := two3 (w := w) (b1.alloc b1.size (.cells #[.string T, .int .i64 (a1 : Int), .int .i64 (x1 : Int)] 38)) rfl; clear b1))
    refine bodyPost_ret (v := .tuple #[.agg #[.string T, .int .i64 (a1 : Int), .int .i64 (x1 : Int)], .int .u64 (f : Int)]) (by simp [results, go_sem, *]) rfl ⟨rfl, ?_⟩
    exact (((B1.out).setCell (Nat.le_succ _) _).setCell (Nat.le_succ _) _).setCell (Nat.le_succ _) _
end Go.Proofs.Ytdhbeeeofaheeaa
