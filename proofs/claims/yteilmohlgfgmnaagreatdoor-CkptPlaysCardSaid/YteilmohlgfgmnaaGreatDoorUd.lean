/- ArgsE, ArgsC, in one text. -/
import Derived.Test.YteilmohlgfgmnaaGreatDoorTg
import Derived.OpenShut
import Derived.Deep.Slices
import Derived.Deep.Fields
import Derived.ChangeSame
import Derived.Carry
import Derived.Test.YteilmohlgfgmnaaGreatDoorHu
namespace Go.Proofs.YteilmohlgfgmnaaGreatDoor
set_option maxRecDepth 100000
open Go.ChangeShapes Go.WideShapes Go.RowKit

theorem open_iin {H : Type} {enc : TypeId × Value → H} {w : World} {b0 : Nat} {held : Bool} {r : Reach} {v : Value} {d : DataW H} {p : List MemPlace}
    (hv : Value.okWide Tryz.prog w r b0 54 v) (h : DataW.Trod enc Tryz.prog w 0 (fun _ => true) held 54 v d p) :
    ∃ (A B : Nat → ByteArray) (q : Option Addr) (n c : Nat), v = .slice q n c ∧ n ≤ 9223372036854775807 ∧ IIn w (.slice q n c) n A B := by
  have hC : Tryz.prog.cellsOf 109 = 2 := by kernel_rfl
  have k5 : Tryz.prog.cellsOf 9 = 1 := by kernel_rfl
  obtain ⟨a0, len, cap, rfl⟩ := okWide_slice Tryz.underlying54 hv
  obtain ⟨fuel, hf⟩ := h
  rcases Go.Deep.open_slice Tryz.underlying54 hf with ⟨hcs, hx⟩ | ⟨a, len', cap', m, nn, D, Pl, hcs, _, hl, hm, hmm, hx, hi⟩
  · simp [Value.cells] at hcs
    obtain ⟨rfl, rfl, rfl⟩ := hcs
    exact ⟨fun _ => ⟨#[]⟩, fun _ => ⟨#[]⟩, _, _, _, rfl, by omega, ⟨⟨_, _, rfl⟩, fun h => absurd h (by omega)⟩⟩
  · simp [Value.cells] at hcs
    obtain ⟨rfl, rfl, rfl⟩ := hcs
    have hm' : m = cap := by simpa using hmm
    have each : ∀ i, i < m → ∃ x : ByteArray × ByteArray, w.cell? (a.add (i * 2 + 0)) = some (.string x.1) ∧ w.cell? (a.add (i * 2 + 1)) = some (.string x.2) := fun i him => by
      obtain ⟨cs', hc, ht'⟩ := hi i him
      rw [hC] at hc
      obtain ⟨ys, n', hn', hy, hlen, hyl, hfs⟩ := DataW.trod_struct Tryz.underlying109 ht'
      obtain ⟨_, hcl, hat⟩ := World.cells?_some hc
      have f0 : DataW.trod enc Tryz.prog w 0 (fun _ => true) held n' 9 ((cs'.drop 0).take (Tryz.prog.cellsOf 9)) = ys[0]? := hfs 0 _ rfl
      have f1 : DataW.trod enc Tryz.prog w 0 (fun _ => true) held n' 9 ((cs'.drop 1).take (Tryz.prog.cellsOf 9)) = ys[1]? := hfs 1 _ rfl
      rw [k5] at f0 f1
      match cs', hcl with
      | [c0, c1], _ =>
        have y0 : ∃ y, ys[0]? = some y := ⟨_, List.getElem?_eq_getElem (by rw [hyl]; decide)⟩
        have y1 : ∃ y, ys[1]? = some y := ⟨_, List.getElem?_eq_getElem (by rw [hyl]; decide)⟩
        obtain ⟨y0, e0⟩ := y0
        obtain ⟨y1, e1⟩ := y1
        rw [e0] at f0
        rw [e1] at f1
        obtain ⟨z0, g0, _, w0⟩ := DataW.trod_string Tryz.underlying9 f0
        obtain ⟨z1, g1, _, w1⟩ := DataW.trod_string Tryz.underlying9 f1
        simp at g0 g1
        subst g0 g1
        refine ⟨(z0, z1), ?_, ?_⟩
        · have h := hat 0 (by omega); rw [Go.Deep.add_add] at h; exact h
        · have h := hat 1 (by omega); rw [Go.Deep.add_add] at h; exact h
    obtain ⟨F, hF⟩ := Go.Deep.choose_lt each
    refine ⟨fun i => (F i).1, fun i => (F i).2, _, _, _, rfl, by unfold maxLen at hm; omega, ⟨⟨_, _, rfl⟩, fun h0 => ?_⟩⟩
    obtain ⟨b, off, spot⟩ := a
    have hspot : spot = none := by simpa [Addr.add] using World.cell?_spot (hF 0 (by omega)).1
    subst hspot
    refine ⟨b, off, _, rfl, ?_, fun i hi2 => ?_⟩
    · have h1 := World.block_lt_of_cell? w _ (hF 0 (by omega)).1
      simpa [Addr.add] using h1
    · obtain ⟨q0, q1⟩ := hF i (by omega)
      rw [Addr.add_mid] at q0 q1
      exact ⟨q0, q1⟩
end Go.Proofs.YteilmohlgfgmnaaGreatDoor
namespace Go.Proofs.YteilmohlgfgmnaaGreatDoor
set_option maxRecDepth 100000
open Go.ChangeShapes Go.WideShapes Go.RowKit

theorem open_intsC {H : Type} {enc : TypeId × Value → H} {P : Program} {w : World} {b0 : Nat} {held : Bool} {t e : TypeId} {r : Reach} {v : Value} {d : DataW H} {p : List MemPlace}
    (ht : P.underlying t = some (.slice e)) (he : P.underlying e = some (.int .i64)) (hc : P.cellsOf e = 1)
    (hv : Value.okWide P w r b0 t v) (h : DataW.Trod enc P w 0 (fun _ => true) held t v d p) : ∃ xs : List Int, IntsIn w v xs := by
  obtain ⟨a0, len, cap, rfl⟩ := okWide_slice ht hv
  obtain ⟨fuel, hf⟩ := h
  rcases open_ints ht he hc hf with ⟨hcs, hx⟩ | ⟨a, len', cap', zs, hcs, _, hl, hm, hz, hx, hcell, hws⟩
  · simp [Value.cells] at hcs
    obtain ⟨rfl, rfl, rfl⟩ := hcs
    exact ⟨[], ⟨_, _, rfl⟩, fun h => absurd h (by simp), by simp, by simp⟩
  · simp [Value.cells] at hcs
    obtain ⟨rfl, rfl, rfl⟩ := hcs
    have hz' : zs.length = cap := by simpa using hz
    have htl : (zs.take len).length = len := by rw [List.length_take]; omega
    refine ⟨zs.take len, ⟨_, _, by rw [htl]⟩, fun h0 => ?_, by rw [htl]; exact Nat.le_trans hl hm, fun x hx => bounds_i64 (hws x (List.mem_of_mem_take hx))⟩
    rw [htl] at h0
    obtain ⟨b, off, spot⟩ := a
    have hspot : spot = none := by simpa [Addr.add] using World.cell?_spot (hcell 0 (by omega))
    subst hspot
    refine ⟨b, off, _, by rw [htl], ?_, fun i hi => ?_⟩
    · have h1 := World.block_lt_of_cell? w _ (hcell 0 (by omega))
      simpa [Addr.add] using h1
    · rw [htl] at hi
      have h1 := hcell i (by omega)
      rw [add_plain] at h1
      rw [h1]
      have : (zs.take len).getD i 0 = zs.getD i 0 := by
        have hs : i < zs.length := by omega
        simp [List.getD, hi, hs]
      rw [this]
end Go.Proofs.YteilmohlgfgmnaaGreatDoor
