/- A slice of items (two strings each) that came in, opened: for a law's frame. -/
import Derived.Test.YtacfdnjdjgdbcaaDoorTg
import Derived.OpenShut
import Derived.Deep.Slices
import Derived.Deep.Fields
import Derived.ChangeSame
import Derived.Carry
namespace Go.Proofs.YtacfdnjdjgdbcaaDoor
set_option maxRecDepth 100000
open Go.ChangeShapes Go.WideShapes Go.RowKit

theorem open_iin {H : Type} {enc : TypeId × Value → H} {w : World} {b0 : Nat} {held : Bool} {r : Reach} {v : Value} {d : DataW H} {p : List MemPlace}
    (hv : Value.okWide Tryd.prog w r b0 22 v) (h : DataW.Trod enc Tryd.prog w 0 (fun _ => true) held 22 v d p) :
    ∃ (A B : Nat → ByteArray) (q : Option Addr) (n c : Nat), v = .slice q n c ∧ n ≤ 9223372036854775807 ∧ IIn w (.slice q n c) n A B := by
  have hC : Tryd.prog.cellsOf 54 = 2 := by kernel_rfl
  have k5 : Tryd.prog.cellsOf 9 = 1 := by kernel_rfl
  obtain ⟨a0, len, cap, rfl⟩ := okWide_slice Tryd.underlying22 hv
  obtain ⟨fuel, hf⟩ := h
  rcases Go.Deep.open_slice Tryd.underlying22 hf with ⟨hcs, hx⟩ | ⟨a, len', cap', m, nn, D, Pl, hcs, _, hl, hm, hmm, hx, hi⟩
  · simp [Value.cells] at hcs
    obtain ⟨rfl, rfl, rfl⟩ := hcs
    exact ⟨fun _ => ⟨#[]⟩, fun _ => ⟨#[]⟩, _, _, _, rfl, by omega, ⟨⟨_, _, rfl⟩, fun h => absurd h (by omega)⟩⟩
  · simp [Value.cells] at hcs
    obtain ⟨rfl, rfl, rfl⟩ := hcs
    have hm' : m = cap := by simpa using hmm
    have each : ∀ i, i < m → ∃ x : ByteArray × ByteArray, w.cell? (a.add (i * 2 + 0)) = some (.string x.1) ∧ w.cell? (a.add (i * 2 + 1)) = some (.string x.2) := fun i him => by
      obtain ⟨cs', hc, ht'⟩ := hi i him
      rw [hC] at hc
      obtain ⟨ys, n', hn', hy, hlen, hyl, hfs⟩ := DataW.trod_struct Tryd.underlying54 ht'
      obtain ⟨_, hcl, hat⟩ := World.cells?_some hc
      have f0 : DataW.trod enc Tryd.prog w 0 (fun _ => true) held n' 9 ((cs'.drop 0).take (Tryd.prog.cellsOf 9)) = ys[0]? := hfs 0 _ rfl
      have f1 : DataW.trod enc Tryd.prog w 0 (fun _ => true) held n' 9 ((cs'.drop 1).take (Tryd.prog.cellsOf 9)) = ys[1]? := hfs 1 _ rfl
      rw [k5] at f0 f1
      match cs', hcl with
      | [c0, c1], _ =>
        have y0 : ∃ y, ys[0]? = some y := ⟨_, List.getElem?_eq_getElem (by rw [hyl]; decide)⟩
        have y1 : ∃ y, ys[1]? = some y := ⟨_, List.getElem?_eq_getElem (by rw [hyl]; decide)⟩
        obtain ⟨y0, e0⟩ := y0
        obtain ⟨y1, e1⟩ := y1
        rw [e0] at f0
        rw [e1] at f1
        obtain ⟨z0, g0, _, w0⟩ := DataW.trod_string Tryd.underlying9 f0
        obtain ⟨z1, g1, _, w1⟩ := DataW.trod_string Tryd.underlying9 f1
        simp at g0 g1
        subst g0 g1
        refine ⟨(z0, z1), ?_, ?_⟩
        · have h := hat 0 (by omega); rw [Go.Deep.add_add] at h; exact h
        · have h := hat 1 (by omega); rw [Go.Deep.add_add] at h; exact h
    obtain ⟨F, hF⟩ := Go.Deep.choose_lt each
    refine ⟨fun i => (F i).1, fun i => (F i).2, _, _, _, rfl, by unfold maxLen at hm; omega, ⟨⟨_, _, rfl⟩, fun h0 => ?_⟩⟩
    obtain ⟨b, off, spot⟩ := a
    have hspot : spot = none := by simpa [Addr.add] using World.cell?_spot (hF 0 (by omega)).1
    subst hspot
    refine ⟨b, off, _, rfl, ?_, fun i hi2 => ?_⟩
    · have h1 := World.block_lt_of_cell? w _ (hF 0 (by omega)).1
      simpa [Addr.add] using h1
    · obtain ⟨q0, q1⟩ := hF i (by omega)
      rw [Addr.add_mid] at q0 q1
      exact ⟨q0, q1⟩
end Go.Proofs.YtacfdnjdjgdbcaaDoor
