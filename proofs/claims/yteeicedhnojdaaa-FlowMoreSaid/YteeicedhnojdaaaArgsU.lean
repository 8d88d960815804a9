/- A slice of numbers that came in, opened: for a law's frame. -/
import Derived.Test.YteeicedhnojdaaaArgsL
namespace Go.Proofs.Yteeicedhnojdaaa
set_option maxRecDepth 100000
open Go.ChangeShapes Go.WideShapes Go.RowKit

section
variable {H : Type} {enc : TypeId × Value → H} {w : World} {sp : Nat → Bool} {held : Bool}
theorem flatSing : ∀ X : List Int, (X.flatMap fun x => [Value.int .u64 x]) = X.map (Value.int .u64)
  | [] => rfl
  | a :: r => by rw [List.flatMap_cons, flatSing r]; rfl
theorem open_u64s {b0 : Nat} {r : Reach} {v : Value} {d : DataW H} {p : List MemPlace}
    (hv : Value.okWide Try.prog w r b0 65 v) (h : DataW.Trod enc Try.prog w 0 (fun _ => true) held 65 v d p) :
    ∃ X : List Int, SlIn w v 1 X.length (X.map (Value.int .u64)) ∧ (∀ x ∈ X, U64 x) ∧ X.length ≤ maxLen ∧ SlCap v := by
  obtain ⟨a0, len, cap, rfl⟩ := okWide_slice Try.underlying65 hv
  obtain ⟨fuel, hf⟩ := h
  obtain ⟨X, h1, h2, h3, h4⟩ := open_rows (fun x : Int => [Value.int .u64 x]) 1 (fun _ => rfl) (by decide) U64 Try.underlying65 cells_u64 (fun n cs y h => by
    obtain ⟨z, g, _, wf⟩ := DataW.trod_int Try.underlying46 h
    exact ⟨z, g, wf_u64 wf⟩) hf
  rw [flatSing] at h1
  exact ⟨X, h1, h2, h3, h4⟩
end
end Go.Proofs.Yteeicedhnojdaaa
