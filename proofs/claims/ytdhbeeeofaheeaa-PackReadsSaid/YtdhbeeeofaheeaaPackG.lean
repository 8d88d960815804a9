/- Contracts of pack: texts, a new reader, what a reader says; awake. -/
import Derived.Test.YtdhbeeeofaheeaaPackF
namespace Go.Proofs.Ytdhbeeeofaheeaa
set_option maxRecDepth 100000
open Go.RowKit M

theorem Wr.ext {w w1 : World} {b b' : Nat} {L : List Nat} {v v1 v' : Value} (h : Wr w b' L v') (x : Ext b v v1 w w1) (h1 : b' ≠ b) (h2 : v.ownBlock ≠ some b') (h3 : v'.ownBlock ≠ some b) (h4 : ∀ k, v'.ownBlock = some k → v.ownBlock ≠ some k) : Wr w1 b' L v' := by
  have hlt := World.block_lt_of_cell? w _ h.cell
  have e := x.block b' hlt h1 h2
  refine ⟨by rw [World.cell?_of_block (w := w) (a := ⟨b', 0, none⟩) e]; exact h.cell, ?_, by rw [World.frozen?_of_block (w := w) (a := ⟨b', 0, none⟩) e]; exact h.fr⟩
  obtain ⟨o1, o2⟩ := h.own
  refine ⟨o1, ?_⟩
  rcases o2 with o2 | ⟨g, cap, cur, hv, hg, hh, r⟩
  · exact .inl o2
  · refine .inr ⟨g, cap, cur, hv, hg, ?_, r⟩
    have hgl : g < w.heap.size := by
      rcases Nat.lt_or_ge g w.heap.size with hl | hl
      · exact hl
      · rw [Array.getElem?_eq_none hl] at hh; cases hh
    have ho : v'.ownBlock = some g := by rw [hv]; rfl
    rw [x.block g hgl (fun e2 => h3 (by rw [ho, e2])) (h4 g ho)]
    exact hh

theorem wr_new (w : World) (b : Nat) (hb : b = w.heap.size) : Wr (w.alloc (.cells #[.slice none 0 0] 25)) b [] (.slice none 0 0) := by
  subst hb
  refine ⟨?_, World.ownsRow_nil _ _ _ _, by simp⟩
  have e := heap_alloc_new w (.cells #[.slice none 0 0] 25)
  rw [cell_of_row _ _ _ _ _ _ e]; rfl

set_option maxHeartbeats 400000 in
theorem wtext_any (b : Nat) (L : List Nat) (v0 : Value) (s : ByteArray) (w : World) (h : Wr w b L v0) (hl : L.length + s.size ≤ 700000) :
    Calls Try.prog 27 #[.pointer (some ⟨b, 0, none⟩), .string s] w (WrP b (L ++ txtL (sb s)) v0 w) := by
  have hlen : (sb s).length = s.size := sb_length s
  have c1 := num_any b L v0 s.size (by omega) w h (by omega)
  have hn9 := numL_length s.size
  have c2 : ∀ (W : World) (v1 : Value), Wr W b (L ++ numL s.size) v1 → Calls Try.prog 29 #[.pointer (some ⟨b, 0, none⟩), .string s] W (WrP b (L ++ txtL (sb s)) v1 W) := fun W v1 hW => by
    have c := raw_any b (L ++ numL s.size) v1 s W hW (by rw [List.length_append]; omega)
    rw [List.append_assoc, show numL s.size ++ sb s = txtL (sb s) by unfold txtL; rw [hlen]] at c
    exact c
  have hs63 : (s.size : Int) ≤ 700000 := by omega
  have C1 := Box.mk c1; have C2 := Box.mk c2
  clear c1 c2 h hlen
  go_enter Try.func27, Try.ntmps27
  go_wp2_with (first
    | (go_at_call 25; ((with_reducible refine C1.out.mono ?_); rintro e w1 ⟨rfl, v1, q1, b1⟩; have Q1 := Box.mk q1; have B1 := Box.mk b1; clear q1 b1))
    | (go_at_call 29; ((with_reducible refine (C2.out _ _ Q1.out).mono ?_); rintro e w2 ⟨rfl, v2, q2, b2⟩; have Q2 := Box.mk q2; have B2 := Box.mk b2; clear q2 b2)))
  go_end0
  exact ⟨rfl, v2, Q2.out, B1.out.trans B2.out⟩

/-- what Read leaves -/
def ReadP (T : ByteArray) (w : World) (e : Ending) (w' : World) : Prop :=
  e = .returned (.pointer (some ⟨w.heap.size, 0, none⟩)) ∧ Rd w' w.heap.size T 0 0 ∧ Below w.heap.size w w'

theorem read_any (T : ByteArray) (hT : T.size ≤ 1000000) (w : World) : Calls Try.prog 10 #[.string T] w (ReadP T w) := by
  go_enter Try.func10, Try.ntmps10
  go_wp2
  go_ret
  have e := heap_alloc_new w (.cells #[.string T, .int .i64 0, .int .i64 0] 58)
  refine ⟨rfl, ⟨?_, ?_, ?_, by simp, by simp, by omega, hT⟩, (Below.refl _ _).alloc (Nat.le_refl _) _⟩
  all_goals (try (rw [cell_of_row _ _ _ _ _ _ (heap_alloc_new w _)]; rfl))
theorem err_any (b : Nat) (T : ByteArray) (a x : Nat) (w : World) (h : Rd w b T a x) :
    Calls Try.prog 20 #[.pointer (some ⟨b, 0, none⟩)] w (RdQ b T a x (.int .i64 (x : Int)) w) := by
  have c2 := h.c2
  have HR := Box.mk h; clear h
  go_enter Try.func20, Try.ntmps20
  go_wp2
  go_ret
  exact ⟨rfl, HR.out, Onl.refl _ _⟩
theorem at_any (b : Nat) (T : ByteArray) (a x : Nat) (w : World) (h : Rd w b T a x) :
    Calls Try.prog 19 #[.pointer (some ⟨b, 0, none⟩)] w (RdQ b T a x (.int .i64 (a : Int)) w) := by
  have c1 := h.c1
  have HR := Box.mk h; clear h
  go_enter Try.func19, Try.ntmps19
  go_wp2
  go_ret
  exact ⟨rfl, HR.out, Onl.refl _ _⟩
end Go.Proofs.Ytdhbeeeofaheeaa
