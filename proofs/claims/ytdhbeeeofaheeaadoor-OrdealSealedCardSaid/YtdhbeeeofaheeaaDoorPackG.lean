/- Contracts of pack: texts, a new reader, what a reader says; awake. -/
import Derived.Test.YtdhbeeeofaheeaaDoorPackF
namespace Go.Proofs.YtdhbeeeofaheeaaDoor
set_option maxRecDepth 100000
open Go.RowKit M

theorem Wr.ext {w w1 : World} {b b' : Nat} {L : List Nat} {v v1 v' : Value} (h : Wr w b' L v') (x : Ext b v v1 w w1) (h1 : b' ≠ b) (h2 : v.ownBlock ≠ some b') (h3 : v'.ownBlock ≠ some b) (h4 : ∀ k, v'.ownBlock = some k → v.ownBlock ≠ some k) : Wr w1 b' L v' := by
  have hlt := World.block_lt_of_cell? w _ h.cell
  have e := x.block b' hlt h1 h2
  refine ⟨by rw [World.cell?_of_block (w := w) (a := ⟨b', 0, none⟩) e]; exact h.cell, ?_, by rw [World.frozen?_of_block (w := w) (a := ⟨b', 0, none⟩) e]; exact h.fr⟩
  obtain ⟨o1, o2⟩ := h.own
  refine ⟨o1, ?_⟩
  rcases o2 with o2 | ⟨g, cap, cur, hv, hg, hh, r⟩
  · exact .inl o2
  · refine .inr ⟨g, cap, cur, hv, hg, ?_, r⟩
    have hgl : g < w.heap.size := by
      rcases Nat.lt_or_ge g w.heap.size with hl | hl
      · exact hl
      · rw [Array.getElem?_eq_none hl] at hh; cases hh
    have ho : v'.ownBlock = some g := by rw [hv]; rfl
    rw [x.block g hgl (fun e2 => h3 (by rw [ho, e2])) (h4 g ho)]
    exact hh

theorem wr_new (w : World) (b : Nat) (hb : b = w.heap.size) : Wr (w.alloc (.cells #[.slice none 0 0] 53)) b [] (.slice none 0 0) := by
  subst hb
  refine ⟨?_, World.ownsRow_nil _ _ _ _, by simp⟩
  have e := heap_alloc_new w (.cells #[.slice none 0 0] 53)
  rw [cell_of_row _ _ _ _ _ _ e]; rfl

/-- what Read leaves -/
def ReadP (T : ByteArray) (w : World) (e : Ending) (w' : World) : Prop :=
  e = .returned (.pointer (some ⟨w.heap.size, 0, none⟩)) ∧ Rd w' w.heap.size T 0 0 ∧ Below w.heap.size w w'

theorem read_any (T : ByteArray) (hT : T.size ≤ 1000000) (w : World) : Calls Tryd.prog 32 #[.string T] w (ReadP T w) := by
  go_enter Tryd.func32, Tryd.ntmps32
  go_wp2
  go_ret
  have e := heap_alloc_new w (.cells #[.string T, .int .i64 0, .int .i64 0] 103)
  refine ⟨rfl, ⟨?_, ?_, ?_, by simp, by simp, by omega, hT⟩, (Below.refl _ _).alloc (Nat.le_refl _) _⟩
  all_goals (try (rw [cell_of_row _ _ _ _ _ _ (heap_alloc_new w _)]; rfl))
theorem err_any (b : Nat) (T : ByteArray) (a x : Nat) (w : World) (h : Rd w b T a x) :
    Calls Tryd.prog 64 #[.pointer (some ⟨b, 0, none⟩)] w (RdQ b T a x (.int .i64 (x : Int)) w) := by
  have c2 := h.c2
  have HR := Box.mk h; clear h
  go_enter Tryd.func64, Tryd.ntmps64
  go_wp2
  go_ret
  exact ⟨rfl, HR.out, Onl.refl _ _⟩
theorem at_any (b : Nat) (T : ByteArray) (a x : Nat) (w : World) (h : Rd w b T a x) :
    Calls Tryd.prog 66 #[.pointer (some ⟨b, 0, none⟩)] w (RdQ b T a x (.int .i64 (a : Int)) w) := by
  have c1 := h.c1
  have HR := Box.mk h; clear h
  go_enter Tryd.func66, Tryd.ntmps66
  go_wp2
  go_ret
  exact ⟨rfl, HR.out, Onl.refl _ _⟩
end Go.Proofs.YtdhbeeeofaheeaaDoor
