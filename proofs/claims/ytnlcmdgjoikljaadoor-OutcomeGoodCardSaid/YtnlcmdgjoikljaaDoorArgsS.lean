/- A slice of states that came in, opened: for a law's frame. -/
import Derived.Test.YtnlcmdgjoikljaaDoorArgsL
import Derived.Test.YtnlcmdgjoikljaaDoorOutB
namespace Go.Proofs.YtnlcmdgjoikljaaDoor
set_option maxRecDepth 100000
open Go.ChangeShapes Go.WideShapes Go.RowKit

section
variable {H : Type} {enc : TypeId × Value → H} {w : World} {sp : Nat → Bool} {held : Bool}
theorem cells_v40 : Tryd.prog.cellsOf 42 = 40 := by kernel_rfl
theorem cells_state : Tryd.prog.cellsOf 44 = 41 := by kernel_rfl
theorem open_nums {n : Nat} {cs : List Value} {y : DataW H × List MemPlace} (h : DataW.trod enc Tryd.prog w 0 sp held n 42 cs = some y) : ∃ l : List Int, l.length = 40 ∧ cs = l.map (Value.int .u64) ∧ ∀ x ∈ l, U64 x := by
  obtain ⟨xs, m, _, _, hlen, hxl, hel⟩ := DataW.trod_array Tryd.underlying42 h
  rw [cells_v40] at hlen
  have key : ∀ i, i < 40 → ∃ z : Int, U64 z ∧ cs[i]? = some (.int .u64 z) := fun i hi => by
    have hE := hel i hi
    obtain ⟨y0, e0⟩ := at_some (i := i) hxl hi
    rw [cells_u64, Nat.mul_one, e0] at hE
    obtain ⟨z, e1, _, e3⟩ := DataW.trod_int Tryd.underlying40 hE
    refine ⟨z, wf_u64 e3, ?_⟩
    have h0 : ((cs.drop i).take 1)[0]? = some (.int .u64 z) := by rw [e1]; rfl
    simpa using h0
  let f : Value → Int := fun v => match v with | .int _ z => z | _ => 0
  refine ⟨cs.map f, by simp [hlen], ?_, ?_⟩
  · rw [List.map_map]
    refine List.ext_getElem? fun i => ?_
    by_cases hi : i < 40
    · obtain ⟨z, _, h2⟩ := key i hi
      rw [List.getElem?_map, h2]; rfl
    · rw [List.getElem?_eq_none (by omega), List.getElem?_eq_none (by simp; omega)]
  · intro x hx
    obtain ⟨v, hv, rfl⟩ := List.mem_map.1 hx
    obtain ⟨i, hi, rfl⟩ := List.mem_iff_getElem.1 hv
    obtain ⟨z, h1, h2⟩ := key i (by omega)
    rw [List.getElem?_eq_getElem hi] at h2
    rw [Option.some.inj h2]; exact h1
def stWf (s : StM) : Prop := I64 s.n ∧ ∀ x ∈ s.v, U64 x
theorem open_state {n : Nat} {cs : List Value} {y : DataW H × List MemPlace} (h : DataW.trod enc Tryd.prog w 0 sp held n 44 cs = some y) : ∃ s : StM, cs = stC s ∧ stWf s := by
  obtain ⟨ys, n', _, _, hlen, hyl, hfs⟩ := DataW.trod_struct Tryd.underlying44 h
  have f0 : DataW.trod enc Tryd.prog w 0 sp held n' 3 ((cs.drop 0).take (Tryd.prog.cellsOf 3)) = ys[0]? := hfs 0 _ rfl
  have f1 : DataW.trod enc Tryd.prog w 0 sp held n' 42 ((cs.drop 1).take (Tryd.prog.cellsOf 42)) = ys[1]? := hfs 1 _ rfl
  rw [cells_state] at hlen
  obtain ⟨y0, e0⟩ := at_some (i := 0) hyl (by decide)
  obtain ⟨y1, e1⟩ := at_some (i := 1) hyl (by decide)
  rw [cells_int, e0] at f0
  rw [cells_v40, e1] at f1
  obtain ⟨z0, g0, _, w0⟩ := DataW.trod_int Tryd.underlying3 f0
  obtain ⟨l, hl, g1, ok⟩ := open_nums f1
  refine ⟨⟨z0, l, hl⟩, ?_, wf_i64 w0, ok⟩
  match cs, hlen with
  | c :: r, hr =>
    have hr' : r.length = 40 := by simpa using hr
    have g2 : r.take 40 = l.map (Value.int .u64) := g1
    rw [List.take_of_length_le (by omega)] at g2
    have g3 : [c] = [.int .i64 z0] := g0
    rw [List.cons.inj g3 |>.1, g2]; rfl
theorem open_states {b0 : Nat} {r : Reach} {v : Value} {d : DataW H} {p : List MemPlace}
    (hv : Value.okWide Tryd.prog w r b0 60 v) (h : DataW.Trod enc Tryd.prog w 0 (fun _ => true) held 60 v d p) :
    ∃ X : List StM, SlIn w v 41 X.length (X.flatMap stC) ∧ (∀ x ∈ X, stWf x) ∧ X.length ≤ maxLen ∧ SlCap v := by
  obtain ⟨a0, len, cap, rfl⟩ := okWide_slice Tryd.underlying60 hv
  obtain ⟨fuel, hf⟩ := h
  exact open_rows stC 41 (fun x => stC_len (stOk x)) (by decide) _ Tryd.underlying60 cells_state (fun _ _ _ h => open_state h) hf
end
end Go.Proofs.YtnlcmdgjoikljaaDoor
