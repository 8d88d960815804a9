/- WalPlays: acts. -/
import Derived.Test.YtpmjmkgokaafaaaGreatDoorPlyF
namespace Go.Proofs.YtpmjmkgokaafaaaGreatDoor
set_option maxRecDepth 100000
open Go.ChangeShapes Go.WideShapes Go.RowKit M

/-- acts that came in -/
structure WActIn (w : World) (v : Value) (n : Nat) (K N : Nat → Int) (T : Nat → ByteArray) (VC : Nat → Value) (X : Nat → List Int) : Prop where
  shape : ∃ q c, v = .slice q n c
  cells : 0 < n → ∃ b off c, v = .slice (some ⟨b, off, none⟩) n c ∧ b < w.heap.size ∧ ∀ i, i < n → w.cell? ⟨b, off + i * 4, none⟩ = some (.int .i64 (K i)) ∧ w.cell? ⟨b, off + i * 4 + 1, none⟩ = some (.int .i64 (N i)) ∧ w.cell? ⟨b, off + i * 4 + 2, none⟩ = some (.string (T i)) ∧ w.cell? ⟨b, off + i * 4 + 3, none⟩ = some (VC i)
  ints : ∀ i, i < n → IntsIn w (VC i) (X i)
  rng : ∀ i, i < n → N i ≤ 9223372036854775807
theorem WActIn.below {w w' : World} {v : Value} {n : Nat} {K N : Nat → Int} {T : Nat → ByteArray} {VC : Nat → Value} {X : Nat → List Int} (h : WActIn w v n K N T VC X) (hb : Below w.heap.size w w') : WActIn w' v n K N T VC X :=
  ⟨h.shape, fun h0 => by
    obtain ⟨b, off, c, e, hl, hc⟩ := h.cells h0
    exact ⟨b, off, c, e, Nat.lt_of_lt_of_le hl hb.size, fun i hi => by
      obtain ⟨c0, c1, c2, c3⟩ := hc i hi
      exact ⟨(hb.cell hl).trans c0, (hb.cell hl).trans c1, (hb.cell hl).trans c2, (hb.cell hl).trans c3⟩⟩, fun i hi => (h.ints i hi).keep0 hb.size (fun _ b _ hlt => hb.block b hlt), h.rng⟩
end Go.Proofs.YtpmjmkgokaafaaaGreatDoor
