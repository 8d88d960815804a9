/- Acts that came in, opened: for a law's frame. -/
import Derived.Test.YtalinhjalnndhaaDiskZ
import Derived.OpenShut
import Derived.Deep.Slices
import Derived.Deep.Fields
import Derived.ChangeSame
import Derived.Carry
namespace Go.Proofs.Ytalinhjalnndhaa
set_option maxRecDepth 100000
open Go.ChangeShapes Go.WideShapes Go.RowKit

theorem open_acts {H : Type} {enc : TypeId × Value → H} {w : World} {b0 : Nat} {held : Bool} {r : Reach} {v : Value} {d : DataW H} {p : List MemPlace}
    (hv : Value.okWide Try.prog w r b0 22 v) (h : DataW.Trod enc Try.prog w 0 (fun _ => true) held 22 v d p) :
    ∃ (K N : Nat → Int) (A B : Nat → ByteArray) (C : Nat → Value) (q : Option Addr) (n c : Nat), v = .slice q n c ∧ n ≤ 9223372036854775807 ∧ ActIn w (.slice q n c) n K N A B C := by
  have hC : Try.prog.cellsOf 37 = 5 := by kernel_rfl
  have k3 : Try.prog.cellsOf 3 = 1 := by kernel_rfl
  have k4 : Try.prog.cellsOf 35 = 1 := by kernel_rfl
  have k5 : Try.prog.cellsOf 9 = 1 := by kernel_rfl
  obtain ⟨a0, len, cap, rfl⟩ := okWide_slice Try.underlying22 hv
  obtain ⟨fuel, hf⟩ := h
  rcases Go.Deep.open_slice Try.underlying22 hf with ⟨hcs, hx⟩ | ⟨a, len', cap', m, nn, D, Pl, hcs, _, hl, hm, hmm, hx, hi⟩
  · simp [Value.cells] at hcs
    obtain ⟨rfl, rfl, rfl⟩ := hcs
    exact ⟨fun _ => 0, fun _ => 0, fun _ => ⟨#[]⟩, fun _ => ⟨#[]⟩, fun _ => .slice none 0 0, _, _, _, rfl, by omega, ⟨⟨_, _, rfl⟩, fun h => absurd h (by omega), fun i h => absurd h (by omega), fun i h => absurd h (by omega)⟩⟩
  · simp [Value.cells] at hcs
    obtain ⟨rfl, rfl, rfl⟩ := hcs
    have hm' : m = cap := by simpa using hmm
    have each : ∀ i, i < m → ∃ x : Int × Int × ByteArray × ByteArray × Value, w.cell? (a.add (i * 5 + 0)) = some (.int .i64 x.1) ∧ w.cell? (a.add (i * 5 + 1)) = some (.int .i64 x.2.1) ∧ w.cell? (a.add (i * 5 + 2)) = some (.string x.2.2.1) ∧ w.cell? (a.add (i * 5 + 3)) = some (.string x.2.2.2.1) ∧ w.cell? (a.add (i * 5 + 4)) = some x.2.2.2.2 ∧
        (-9223372036854775808 ≤ x.2.1 ∧ x.2.1 ≤ 9223372036854775807) ∧ ∃ q l c, x.2.2.2.2 = .slice q l c := fun i him => by
      obtain ⟨cs', hc, ht'⟩ := hi i him
      rw [hC] at hc
      obtain ⟨ys, n', hn', hy, hlen, hyl, hfs⟩ := DataW.trod_struct Try.underlying37 ht'
      obtain ⟨_, hcl, hat⟩ := World.cells?_some hc
      have f0 : DataW.trod enc Try.prog w 0 (fun _ => true) held n' 3 ((cs'.drop 0).take (Try.prog.cellsOf 3)) = ys[0]? := hfs 0 _ rfl
      have f1 : DataW.trod enc Try.prog w 0 (fun _ => true) held n' 3 ((cs'.drop 1).take (Try.prog.cellsOf 3)) = ys[1]? := hfs 1 _ rfl
      have f2 : DataW.trod enc Try.prog w 0 (fun _ => true) held n' 9 ((cs'.drop 2).take (Try.prog.cellsOf 9)) = ys[2]? := hfs 2 _ rfl
      have f3 : DataW.trod enc Try.prog w 0 (fun _ => true) held n' 9 ((cs'.drop 3).take (Try.prog.cellsOf 9)) = ys[3]? := hfs 3 _ rfl
      have f4 : DataW.trod enc Try.prog w 0 (fun _ => true) held n' 35 ((cs'.drop 4).take (Try.prog.cellsOf 35)) = ys[4]? := hfs 4 _ rfl
      rw [k3] at f0 f1
      rw [k5] at f2 f3
      rw [k4] at f4
      match cs', hcl with
      | [c0, c1, c2, c3, c4], _ =>
        have y0 : ∃ y, ys[0]? = some y := ⟨_, List.getElem?_eq_getElem (by rw [hyl]; decide)⟩
        have y1 : ∃ y, ys[1]? = some y := ⟨_, List.getElem?_eq_getElem (by rw [hyl]; decide)⟩
        have y2 : ∃ y, ys[2]? = some y := ⟨_, List.getElem?_eq_getElem (by rw [hyl]; decide)⟩
        have y3 : ∃ y, ys[3]? = some y := ⟨_, List.getElem?_eq_getElem (by rw [hyl]; decide)⟩
        have y4 : ∃ y, ys[4]? = some y := ⟨_, List.getElem?_eq_getElem (by rw [hyl]; decide)⟩
        obtain ⟨y0, e0⟩ := y0
        obtain ⟨y1, e1⟩ := y1
        obtain ⟨y2, e2⟩ := y2
        obtain ⟨y3, e3⟩ := y3
        obtain ⟨y4, e4⟩ := y4
        rw [e0] at f0
        rw [e1] at f1
        rw [e2] at f2
        rw [e3] at f3
        rw [e4] at f4
        obtain ⟨z0, g0, _, w0⟩ := DataW.trod_int Try.underlying3 f0
        obtain ⟨z1, g1, _, w1⟩ := DataW.trod_int Try.underlying3 f1
        obtain ⟨z2, g2, _, w2⟩ := DataW.trod_string Try.underlying9 f2
        obtain ⟨z3, g3, _, w3⟩ := DataW.trod_string Try.underlying9 f3
        have g4 : ∃ q l c, c4 = .slice q l c := by
          rcases Go.Deep.open_slice Try.underlying35 f4 with ⟨hcs, _⟩ | ⟨_, _, _, _, _, _, _, hcs, _⟩
          · simp at hcs; exact ⟨_, _, _, hcs⟩
          · simp at hcs; exact ⟨_, _, _, hcs⟩
        simp at g0 g1 g2 g3
        subst g0 g1 g2 g3
        have b1 := bounds_i64 w1
        refine ⟨(z0, z1, z2, z3, c4), ?_, ?_, ?_, ?_, ?_, b1, g4⟩
        · have h := hat 0 (by omega); rw [Go.Deep.add_add] at h; exact h
        · have h := hat 1 (by omega); rw [Go.Deep.add_add] at h; exact h
        · have h := hat 2 (by omega); rw [Go.Deep.add_add] at h; exact h
        · have h := hat 3 (by omega); rw [Go.Deep.add_add] at h; exact h
        · have h := hat 4 (by omega); rw [Go.Deep.add_add] at h; exact h
    obtain ⟨F, hF⟩ := Go.Deep.choose_lt each
    refine ⟨fun i => (F i).1, fun i => (F i).2.1, fun i => (F i).2.2.1, fun i => (F i).2.2.2.1, fun i => (F i).2.2.2.2, _, _, _, rfl, by unfold maxLen at hm; omega, ⟨⟨_, _, rfl⟩, fun h0 => ?_, fun i h => (hF i (by omega)).2.2.2.2.2.2, fun i h => (hF i (by omega)).2.2.2.2.2.1⟩⟩
    obtain ⟨b, off, spot⟩ := a
    have hspot : spot = none := by simpa [Addr.add] using World.cell?_spot (hF 0 (by omega)).1
    subst hspot
    refine ⟨b, off, _, rfl, ?_, fun i hi2 => ?_⟩
    · have h1 := World.block_lt_of_cell? w _ (hF 0 (by omega)).1
      simpa [Addr.add] using h1
    · obtain ⟨q0, q1, q2, q3, q4, _⟩ := hF i (by omega)
      rw [add_plain] at q0 q1 q2 q3 q4
      exact ⟨q0, q1, q2, q3, q4⟩
end Go.Proofs.Ytalinhjalnndhaa
