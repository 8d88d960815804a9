/- A slice of numbers (64 bits) that came in, opened: for a law's frame. -/
import Derived.Test.YtinhddggbckmpaaGreatDoorIc
namespace Go.Proofs.YtinhddggbckmpaaGreatDoor
set_option maxRecDepth 100000
open Go.RowKit M

structure UIn (w : World) (v : Value) (n : Nat) (V : Nat → Nat) : Prop where
  shape : ∃ p c, v = .slice p n c
  cells : 0 < n → ∃ b off c, v = .slice (some ⟨b, off, none⟩) n c ∧ b < w.heap.size ∧ ∀ i, i < n → w.cell? ⟨b, off + i, none⟩ = some (.int .u64 ((V i : Nat) : Int))
  vb : ∀ i, i < n → V i < 18446744073709551616
theorem UIn.below {w w' : World} {v : Value} {n : Nat} {V : Nat → Nat} (h : UIn w v n V) (hb : Below w.heap.size w w') : UIn w' v n V :=
  ⟨h.shape, fun hn => by
    obtain ⟨b, off, c, hv, hlt, hc⟩ := h.cells hn
    exact ⟨b, off, c, hv, Nat.lt_of_lt_of_le hlt hb.size, fun i hi => by rw [hb.cell hlt]; exact hc i hi⟩, h.vb⟩

section
open Go.ChangeShapes Go.WideShapes
/-- a slice of numbers that came in, opened: for the law's frame -/
theorem open_uin {H : Type} {enc : TypeId × Value → H} {P : Program} {w : World} {b0 : Nat} {held : Bool} {t e : TypeId} {r : Reach} {v : Value} {d : DataW H} {p : List MemPlace}
    (ht : P.underlying t = some (.slice e)) (he : P.underlying e = some (.int .u64)) (hc : P.cellsOf e = 1)
    (hv : Value.okWide P w r b0 t v) (h : DataW.Trod enc P w 0 (fun _ => true) held t v d p) :
    ∃ (V : Nat → Nat) (q : Option Addr) (n c : Nat), v = .slice q n c ∧ n ≤ 9223372036854775807 ∧ UIn w (.slice q n c) n V := by
  obtain ⟨a0, len, cap, rfl⟩ := okWide_slice ht hv
  obtain ⟨fuel, hf⟩ := h
  rcases open_ints ht he hc hf with ⟨hcs, hx⟩ | ⟨a, len', cap', zs, hcs, _, hl, hm, hz, hx, hcell, hws⟩
  · simp [Value.cells] at hcs
    obtain ⟨rfl, rfl, rfl⟩ := hcs
    exact ⟨fun _ => 0, _, _, _, rfl, by omega, ⟨_, _, rfl⟩, fun h => absurd h (by omega), fun i h => absurd h (by omega)⟩
  · simp [Value.cells] at hcs
    obtain ⟨rfl, rfl, rfl⟩ := hcs
    have hz' : zs.length = cap := by simpa using hz
    have hb : ∀ i, i < zs.length → 0 ≤ zs.getD i 0 ∧ zs.getD i 0 ≤ 18446744073709551615 := fun i hi => by
      refine bounds_u64 (hws _ ?_)
      rw [List.getD, List.getElem?_eq_getElem hi]
      exact List.getElem_mem _
    refine ⟨fun i => (zs.getD i 0).toNat, _, _, _, rfl, by unfold maxLen at hm; omega, ⟨_, _, rfl⟩, fun h0 => ?_, fun i hi => by have := hb i (by omega); show (zs.getD i 0).toNat < _; omega⟩
    obtain ⟨b, off, spot⟩ := a
    have hspot : spot = none := by simpa [Addr.add] using World.cell?_spot (hcell 0 (by omega))
    subst hspot
    refine ⟨b, off, _, rfl, ?_, fun i hi => ?_⟩
    · have h1 := World.block_lt_of_cell? w _ (hcell 0 (by omega))
      simpa [Addr.add] using h1
    · have h1 := hcell i (by omega)
      rw [add_plain] at h1
      have h2 := hb i (by omega)
      rw [h1]
      show some (Value.int .u64 (zs.getD i 0)) = some (.int .u64 (((zs.getD i 0).toNat : Nat) : Int))
      rw [Int.toNat_of_nonneg h2.1]
end
end Go.Proofs.YtinhddggbckmpaaGreatDoor
