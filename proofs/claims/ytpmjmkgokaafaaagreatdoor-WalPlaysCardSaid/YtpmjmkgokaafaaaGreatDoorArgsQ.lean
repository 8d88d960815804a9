/- Acts of layer 7 that came in, opened: for a law's frame. -/
import Derived.Test.YtpmjmkgokaafaaaGreatDoorPlyI
import Derived.Test.YtpmjmkgokaafaaaGreatDoorIc
namespace Go.Proofs.YtpmjmkgokaafaaaGreatDoor
set_option maxRecDepth 100000
open Go.ChangeShapes Go.WideShapes Go.RowKit

theorem open_intsQ {H : Type} {enc : TypeId × Value → H} {P : Program} {w : World} {held : Bool} {t e : TypeId} {fuel : Nat} {v : Value} {y : DataW H × List MemPlace}
    (ht : P.underlying t = some (.slice e)) (he : P.underlying e = some (.int .i64)) (hc : P.cellsOf e = 1)
    (hf : DataW.trod enc P w 0 (fun _ => true) held fuel t [v] = some y) : ∃ xs : List Int, IntsIn w v xs := by
  rcases open_ints ht he hc hf with ⟨hcs, hx⟩ | ⟨a, len', cap', zs, hcs, _, hl, hm, hz, hx, hcell, hws⟩
  · simp at hcs
    subst hcs
    exact ⟨[], ⟨_, _, rfl⟩, fun h => absurd h (by simp), by simp, by simp⟩
  · simp at hcs
    subst hcs
    have hz' : zs.length = cap' := by simpa using hz
    have htl : (zs.take len').length = len' := by rw [List.length_take]; omega
    refine ⟨zs.take len', ⟨_, _, by rw [htl]⟩, fun h0 => ?_, by rw [htl]; exact Nat.le_trans hl hm, fun x hx => bounds_i64 (hws x (List.mem_of_mem_take hx))⟩
    rw [htl] at h0
    obtain ⟨b, off, spot⟩ := a
    have hspot : spot = none := by simpa [Addr.add] using World.cell?_spot (hcell 0 (by omega))
    subst hspot
    refine ⟨b, off, _, by rw [htl], ?_, fun i hi => ?_⟩
    · have h1 := World.block_lt_of_cell? w _ (hcell 0 (by omega))
      simpa [Addr.add] using h1
    · rw [htl] at hi
      have h1 := hcell i (by omega)
      rw [add_plain] at h1
      rw [h1]
      have : (zs.take len').getD i 0 = zs.getD i 0 := by
        have hs : i < zs.length := by omega
        simp [List.getD, hi, hs]
      rw [this]

theorem open_wacts {H : Type} {enc : TypeId × Value → H} {w : World} {b0 : Nat} {held : Bool} {r : Reach} {v : Value} {d : DataW H} {p : List MemPlace}
    (hv : Value.okWide Tryz.prog w r b0 22 v) (h : DataW.Trod enc Tryz.prog w 0 (fun _ => true) held 22 v d p) :
    ∃ (K N : Nat → Int) (T : Nat → ByteArray) (VC : Nat → Value) (X : Nat → List Int) (q : Option Addr) (n c : Nat), v = .slice q n c ∧ n ≤ 9223372036854775807 ∧ WActIn w (.slice q n c) n K N T VC X := by
  have hC : Tryz.prog.cellsOf 33 = 4 := by kernel_rfl
  have k3 : Tryz.prog.cellsOf 3 = 1 := by kernel_rfl
  have k4 : Tryz.prog.cellsOf 31 = 1 := by kernel_rfl
  have k5 : Tryz.prog.cellsOf 9 = 1 := by kernel_rfl
  obtain ⟨a0, len, cap, rfl⟩ := okWide_slice Tryz.underlying22 hv
  obtain ⟨fuel, hf⟩ := h
  rcases Go.Deep.open_slice Tryz.underlying22 hf with ⟨hcs, hx⟩ | ⟨a, len', cap', m, nn, D, Pl, hcs, _, hl, hm, hmm, hx, hi⟩
  · simp [Value.cells] at hcs
    obtain ⟨rfl, rfl, rfl⟩ := hcs
    exact ⟨fun _ => 0, fun _ => 0, fun _ => ⟨#[]⟩, fun _ => .slice none 0 0, fun _ => [], _, _, _, rfl, by omega, ⟨⟨_, _, rfl⟩, fun h => absurd h (by omega), fun i h => absurd h (by omega), fun i h => absurd h (by omega)⟩⟩
  · simp [Value.cells] at hcs
    obtain ⟨rfl, rfl, rfl⟩ := hcs
    have hm' : m = cap := by simpa using hmm
    have each : ∀ i, i < m → ∃ x : Int × Int × ByteArray × Value × List Int, w.cell? (a.add (i * 4 + 0)) = some (.int .i64 x.1) ∧ w.cell? (a.add (i * 4 + 1)) = some (.int .i64 x.2.1) ∧ w.cell? (a.add (i * 4 + 2)) = some (.string x.2.2.1) ∧ w.cell? (a.add (i * 4 + 3)) = some x.2.2.2.1 ∧
        IntsIn w x.2.2.2.1 x.2.2.2.2 ∧ x.2.1 ≤ 9223372036854775807 := fun i him => by
      obtain ⟨cs', hc, ht'⟩ := hi i him
      rw [hC] at hc
      obtain ⟨ys, n', hn', hy, hlen, hyl, hfs⟩ := DataW.trod_struct Tryz.underlying33 ht'
      obtain ⟨_, hcl, hat⟩ := World.cells?_some hc
      have f0 : DataW.trod enc Tryz.prog w 0 (fun _ => true) held n' 3 ((cs'.drop 0).take (Tryz.prog.cellsOf 3)) = ys[0]? := hfs 0 _ rfl
      have f1 : DataW.trod enc Tryz.prog w 0 (fun _ => true) held n' 3 ((cs'.drop 1).take (Tryz.prog.cellsOf 3)) = ys[1]? := hfs 1 _ rfl
      have f2 : DataW.trod enc Tryz.prog w 0 (fun _ => true) held n' 9 ((cs'.drop 2).take (Tryz.prog.cellsOf 9)) = ys[2]? := hfs 2 _ rfl
      have f3 : DataW.trod enc Tryz.prog w 0 (fun _ => true) held n' 31 ((cs'.drop 3).take (Tryz.prog.cellsOf 31)) = ys[3]? := hfs 3 _ rfl
      rw [k3] at f0 f1
      rw [k5] at f2
      rw [k4] at f3
      match cs', hcl with
      | [c0, c1, c2, c3], _ =>
        have y0 : ∃ y, ys[0]? = some y := ⟨_, List.getElem?_eq_getElem (by rw [hyl]; decide)⟩
        have y1 : ∃ y, ys[1]? = some y := ⟨_, List.getElem?_eq_getElem (by rw [hyl]; decide)⟩
        have y2 : ∃ y, ys[2]? = some y := ⟨_, List.getElem?_eq_getElem (by rw [hyl]; decide)⟩
        have y3 : ∃ y, ys[3]? = some y := ⟨_, List.getElem?_eq_getElem (by rw [hyl]; decide)⟩
        obtain ⟨y0, e0⟩ := y0
        obtain ⟨y1, e1⟩ := y1
        obtain ⟨y2, e2⟩ := y2
        obtain ⟨y3, e3⟩ := y3
        rw [e0] at f0
        rw [e1] at f1
        rw [e2] at f2
        rw [e3] at f3
        obtain ⟨z0, g0, _, w0⟩ := DataW.trod_int Tryz.underlying3 f0
        obtain ⟨z1, g1, _, w1⟩ := DataW.trod_int Tryz.underlying3 f1
        obtain ⟨z2, g2, _, w2⟩ := DataW.trod_string Tryz.underlying9 f2
        obtain ⟨xs, i3⟩ := open_intsQ (v := c3) Tryz.underlying31 Tryz.underlying3 k3 f3
        simp at g0 g1 g2
        subst g0 g1 g2
        have b1 := bounds_i64 w1
        refine ⟨(z0, z1, z2, c3, xs), ?_, ?_, ?_, ?_, i3, b1.2⟩
        · have h := hat 0 (by omega); rw [Go.Deep.add_add] at h; exact h
        · have h := hat 1 (by omega); rw [Go.Deep.add_add] at h; exact h
        · have h := hat 2 (by omega); rw [Go.Deep.add_add] at h; exact h
        · have h := hat 3 (by omega); rw [Go.Deep.add_add] at h; exact h
    obtain ⟨F, hF⟩ := Go.Deep.choose_lt each
    refine ⟨fun i => (F i).1, fun i => (F i).2.1, fun i => (F i).2.2.1, fun i => (F i).2.2.2.1, fun i => (F i).2.2.2.2, _, _, _, rfl, by unfold maxLen at hm; omega, ⟨⟨_, _, rfl⟩, fun h0 => ?_, fun i h => (hF i (by omega)).2.2.2.2.1, fun i h => (hF i (by omega)).2.2.2.2.2⟩⟩
    obtain ⟨b, off, spot⟩ := a
    have hspot : spot = none := by simpa [Addr.add] using World.cell?_spot (hF 0 (by omega)).1
    subst hspot
    refine ⟨b, off, _, rfl, ?_, fun i hi2 => ?_⟩
    · have h1 := World.block_lt_of_cell? w _ (hF 0 (by omega)).1
      simpa [Addr.add] using h1
    · obtain ⟨q0, q1, q2, q3, _⟩ := hF i (by omega)
      rw [add_plain] at q0 q1 q2 q3
      exact ⟨q0, q1, q2, q3⟩
end Go.Proofs.YtpmjmkgokaafaaaGreatDoor
