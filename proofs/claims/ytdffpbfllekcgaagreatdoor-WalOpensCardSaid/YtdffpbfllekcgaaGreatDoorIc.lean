/- Args, ArgsW, in one text. -/
import Derived.Test.YtdffpbfllekcgaaGreatDoorIb
import Derived.OpenShut
import Derived.SliceStrings
import Derived.Carry
namespace Go.Proofs.YtdffpbfllekcgaaGreatDoor
set_option maxRecDepth 100000
open Go.ChangeShapes Go.WideShapes Go.RowKit

theorem open_sin {H : Type} {enc : TypeId × Value → H} {P : Program} {w : World} {b0 : Nat} {held : Bool} {t e : TypeId} {r : Reach} {v : Value} {d : DataW H} {p : List MemPlace}
    (ht : P.underlying t = some (.slice e)) (he : P.underlying e = some .string) (hc : P.cellsOf e = 1)
    (hv : Value.okWide P w r b0 t v) (h : DataW.Trod enc P w 0 (fun _ => true) held t v d p) :
    ∃ (ss : Nat → ByteArray) (q : Option Addr) (n c : Nat), v = .slice q n c ∧ n ≤ 9223372036854775807 ∧ SIn w (.slice q n c) n ss := by
  obtain ⟨a0, len, cap, rfl⟩ := okWide_slice ht hv
  obtain ⟨fuel, hf⟩ := h
  rcases open_strings ht he hc hf with ⟨hcs, hx⟩ | ⟨a, len', cap', ss, hcs, _, hl, hm, hz, hx, hcell, hws⟩
  · simp [Value.cells] at hcs
    obtain ⟨rfl, rfl, rfl⟩ := hcs
    exact ⟨fun _ => ⟨#[]⟩, _, _, _, rfl, by omega, ⟨_, _, rfl⟩, fun h => absurd h (by omega)⟩
  · simp [Value.cells] at hcs
    obtain ⟨rfl, rfl, rfl⟩ := hcs
    refine ⟨fun i => ss.getD i ByteArray.empty, _, _, _, rfl, by unfold maxLen at hm; omega, ⟨_, _, rfl⟩, fun h0 => ?_⟩
    have hz' : ss.length = cap := by simpa using hz
    obtain ⟨b, off, spot⟩ := a
    have hspot : spot = none := by simpa [Addr.add] using World.cell?_spot (hcell 0 (by omega))
    subst hspot
    refine ⟨b, off, _, rfl, ?_, fun i hi => ?_⟩
    · have h1 := World.block_lt_of_cell? w _ (hcell 0 (by omega))
      simpa [Addr.add] using h1
    · have h1 := hcell i (by omega)
      rw [add_plain] at h1
      exact h1
end Go.Proofs.YtdffpbfllekcgaaGreatDoor
namespace Go.Proofs.YtdffpbfllekcgaaGreatDoor
set_option maxRecDepth 100000
open Go.ChangeShapes Go.WideShapes Go.RowKit

theorem open_ints_w {H : Type} {enc : TypeId × Value → H} {P : Program} {w : World} {b0 : Nat} {held : Bool} {t e : TypeId} {r : Reach} {v : Value} {d : DataW H} {p : List MemPlace}
    (ht : P.underlying t = some (.slice e)) (he : P.underlying e = some (.int .i64)) (hc : P.cellsOf e = 1)
    (hv : Value.okWide P w r b0 t v) (h : DataW.Trod enc P w 0 (fun _ => true) held t v d p) : ∃ xs : List Int, IntsIn w v xs := by
  obtain ⟨a0, len, cap, rfl⟩ := okWide_slice ht hv
  obtain ⟨fuel, hf⟩ := h
  rcases open_ints ht he hc hf with ⟨hcs, hx⟩ | ⟨a, len', cap', zs, hcs, _, hl, hm, hz, hx, hcell, hws⟩
  · simp [Value.cells] at hcs
    obtain ⟨rfl, rfl, rfl⟩ := hcs
    exact ⟨[], ⟨_, _, rfl⟩, fun h => absurd h (by simp), by simp, by simp⟩
  · simp [Value.cells] at hcs
    obtain ⟨rfl, rfl, rfl⟩ := hcs
    have hz' : zs.length = cap := by simpa using hz
    have htl : (zs.take len).length = len := by rw [List.length_take]; omega
    refine ⟨zs.take len, ⟨_, _, by rw [htl]⟩, fun h0 => ?_, by rw [htl]; exact Nat.le_trans hl hm, fun x hx => bounds_i64 (hws x (List.mem_of_mem_take hx))⟩
    rw [htl] at h0
    obtain ⟨b, off, spot⟩ := a
    have hspot : spot = none := by simpa [Addr.add] using World.cell?_spot (hcell 0 (by omega))
    subst hspot
    refine ⟨b, off, _, by rw [htl], ?_, fun i hi => ?_⟩
    · have h1 := World.block_lt_of_cell? w _ (hcell 0 (by omega))
      simpa [Addr.add] using h1
    · rw [htl] at hi
      have h1 := hcell i (by omega)
      rw [add_plain] at h1
      rw [h1]
      have : (zs.take len).getD i 0 = zs.getD i 0 := by
        have hs : i < zs.length := by omega
        simp [List.getD, hi, hs]
      rw [this]
end Go.Proofs.YtdffpbfllekcgaaGreatDoor
