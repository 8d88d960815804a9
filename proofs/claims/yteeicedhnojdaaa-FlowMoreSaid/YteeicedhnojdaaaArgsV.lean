/- Numbers that are read, Scs that work: slices that came in, opened: for a law's frame. -/
import Derived.Test.YteeicedhnojdaaaArgsU
import Derived.Test.YteeicedhnojdaaaFloC
namespace Go.Proofs.Yteeicedhnojdaaa
set_option maxRecDepth 100000
open Go.ChangeShapes Go.WideShapes Go.RowKit

section
variable {H : Type} {enc : TypeId × Value → H} {w : World} {sp : Nat → Bool} {held : Bool}
theorem cells_val : Try.prog.cellsOf 74 = 2 := by kernel_rfl
theorem open_val {n : Nat} {cs : List Value} {y : DataW H × List MemPlace} (h : DataW.trod enc Try.prog w 0 sp held n 74 cs = some y) : ∃ x : Bool × Nat, cs = vC x ∧ x.2 < 18446744073709551616 := by
  obtain ⟨ys, n', _, _, hlen, hyl, hfs⟩ := DataW.trod_struct Try.underlying74 h
  have f0 : DataW.trod enc Try.prog w 0 sp held n' 4 ((cs.drop 0).take (Try.prog.cellsOf 4)) = ys[0]? := hfs 0 _ rfl
  have f1 : DataW.trod enc Try.prog w 0 sp held n' 46 ((cs.drop 1).take (Try.prog.cellsOf 46)) = ys[1]? := hfs 1 _ rfl
  obtain ⟨c0, c1, rfl⟩ := list2 (hlen.trans cells_val)
  obtain ⟨y0, e0⟩ := at_some (i := 0) hyl (by decide)
  obtain ⟨y1, e1⟩ := at_some (i := 1) hyl (by decide)
  rw [cells_bool, e0] at f0
  rw [cells_u64, e1] at f1
  obtain ⟨z0, g0, _⟩ := DataW.trod_bool Try.underlying4 f0
  obtain ⟨z1, g1, _, w1⟩ := DataW.trod_int Try.underlying46 f1
  simp at g0 g1
  subst g0 g1
  have hu := wf_u64 w1
  unfold U64 at hu
  obtain ⟨m, rfl⟩ := Int.eq_ofNat_of_zero_le hu.1
  exact ⟨(z0, m), rfl, by have := hu.2; dsimp only; omega⟩
theorem open_vals {b0 : Nat} {r : Reach} {v : Value} {d : DataW H} {p : List MemPlace}
    (hv : Value.okWide Try.prog w r b0 27 v) (h : DataW.Trod enc Try.prog w 0 (fun _ => true) held 27 v d p) :
    ∃ X : List (Bool × Nat), SlIn w v 2 X.length (nV X) ∧ (∀ x ∈ X, x.2 < 18446744073709551616) ∧ X.length ≤ maxLen := by
  obtain ⟨a0, len, cap, rfl⟩ := okWide_slice Try.underlying27 hv
  obtain ⟨fuel, hf⟩ := h
  obtain ⟨X, h1, h2, h3, _⟩ := open_rows vC 2 (fun _ => rfl) (by decide) (fun x => x.2 < 18446744073709551616) Try.underlying27 cells_val (fun n cs y h => open_val h) hf
  exact ⟨X, h1, h2, h3⟩
theorem open_nats {b0 : Nat} {r : Reach} {v : Value} {d : DataW H} {p : List MemPlace}
    (hv : Value.okWide Try.prog w r b0 65 v) (h : DataW.Trod enc Try.prog w 0 (fun _ => true) held 65 v d p) :
    ∃ M : List Nat, SlIn w v 1 M.length (nU M) ∧ (∀ x ∈ M, x < 18446744073709551616) ∧ M.length ≤ maxLen := by
  obtain ⟨X, h1, h2, h3, _⟩ := open_u64s hv h
  have e : nU (X.map Int.toNat) = X.map (Value.int .u64) := by
    unfold nU
    rw [List.map_map]
    apply List.map_congr_left
    intro x hx
    have := h2 x hx
    unfold U64 at this
    show Value.int .u64 ((x.toNat : Nat) : Int) = _
    rw [Int.toNat_of_nonneg this.1]
  refine ⟨X.map Int.toNat, by rw [e, List.length_map]; exact h1, fun x hx => ?_, by rw [List.length_map]; exact h3⟩
  obtain ⟨y, hy, rfl⟩ := List.mem_map.1 hx
  have := h2 y hy
  unfold U64 at this
  omega
theorem flatSingB : ∀ X : List Bool, (X.flatMap fun x => [Value.bool x]) = X.map Value.bool
  | [] => rfl
  | a :: r => by rw [List.flatMap_cons, flatSingB r]; rfl
theorem open_bools {b0 : Nat} {r : Reach} {v : Value} {d : DataW H} {p : List MemPlace}
    (hv : Value.okWide Try.prog w r b0 28 v) (h : DataW.Trod enc Try.prog w 0 (fun _ => true) held 28 v d p) :
    ∃ X : List Bool, SlIn w v 1 X.length (X.map Value.bool) ∧ X.length ≤ maxLen := by
  obtain ⟨a0, len, cap, rfl⟩ := okWide_slice Try.underlying28 hv
  obtain ⟨fuel, hf⟩ := h
  obtain ⟨X, h1, _, h3, _⟩ := open_rows (fun x : Bool => [Value.bool x]) 1 (fun _ => rfl) (by decide) (fun _ => True) Try.underlying28 cells_bool (fun n cs y h => by
    obtain ⟨z, g, _⟩ := DataW.trod_bool Try.underlying4 h
    exact ⟨z, g, trivial⟩) hf
  rw [flatSingB] at h1
  exact ⟨X, h1, h3⟩
end
end Go.Proofs.Yteeicedhnojdaaa
