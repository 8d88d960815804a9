/- Numbers that came in: a slice of int, opened: for a law's frame. -/
import Derived.Test.YtbcbhofbikdfiaaDoorArgsP
import Derived.Test.YtbcbhofbikdfiaaDoorSetM
namespace Go.Proofs.YtbcbhofbikdfiaaDoor
set_option maxRecDepth 100000
open Go.ChangeShapes Go.WideShapes Go.ChangeAt Go.RowKit

theorem flat_one (X : List Int) : (X.flatMap fun x => [Value.int .i64 x]) = X.map fun x => Value.int .i64 x := by
  induction X with
  | nil => rfl
  | cons x X ih => rw [List.flatMap_cons, ih]; rfl
theorem open_zs {H : Type} {enc : TypeId × Value → H} {w : World} {held : Bool} {b0 : Nat} {r : Reach} {v : Value} {d : DataW H} {p : List MemPlace}
    (hv : Value.okWide Tryd.prog w r b0 45 v) (h : DataW.Trod enc Tryd.prog w 0 (fun _ => true) held 45 v d p) :
    ∃ X : List Int, ZIn w v X ∧ X.length ≤ maxLen := by
  obtain ⟨a0, len, cap, rfl⟩ := okWide_slice Tryd.underlying45 hv
  obtain ⟨fuel, hf⟩ := h
  obtain ⟨X, h1, _, h3⟩ := open_rows (fun x : Int => [Value.int .i64 x]) 1 (fun _ => rfl) (by decide) (fun _ => True) Tryd.underlying45 cells_int (fun n cs y h => by
    obtain ⟨z0, g0, _⟩ := DataW.trod_int Tryd.underlying3 h
    exact ⟨z0, g0, trivial⟩) hf
  exact ⟨X, by unfold ZIn; rw [← flat_one]; exact h1, h3⟩
end Go.Proofs.YtbcbhofbikdfiaaDoor
