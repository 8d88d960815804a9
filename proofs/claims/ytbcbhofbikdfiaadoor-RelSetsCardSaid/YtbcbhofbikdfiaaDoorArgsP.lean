/- Pairs of numbers that came in: a slice of arrays, opened: for a law's frame. -/
import Derived.Test.YtbcbhofbikdfiaaDoorPaiJ
import Derived.OpenShut
import Derived.Deep.Slices
import Derived.Deep.Fields
import Derived.ChangeSame
import Derived.Carry
import Derived.Lib.SmallJoins
namespace Go.Proofs.YtbcbhofbikdfiaaDoor
set_option maxRecDepth 100000
open Go.ChangeShapes Go.WideShapes Go.RowKit

theorem flatLen0 {α β : Type} (f : α → List β) (z : Nat) (hf : ∀ x, (f x).length = z) (X : List α) : (X.flatMap f).length = X.length * z := by
  induction X with
  | nil => simp
  | cons x X ih => rw [List.flatMap_cons, List.length_append, ih, hf, List.length_cons, Nat.succ_mul]; omega
theorem slin_mk {α : Type} (f : α → List Value) (z : Nat) (hz : ∀ x, (f x).length = z) (hz0 : 0 < z) (ok : α → Prop) {w : World} {a : Addr} {len cap m : Nat} (hlm : len ≤ m)
    (each : ∀ i, i < m → ∃ x, ok x ∧ ∀ j u, (f x)[j]? = some u → w.cell? (a.add (i * z + j)) = some u) : ∃ X : List α, X.length = len ∧ SlIn w (.slice (some a) len cap) z len (X.flatMap f) ∧ ∀ x ∈ X, ok x := by
  by_cases h0 : len = 0
  · subst h0
    exact ⟨[], rfl, ⟨by simp, .inl ⟨rfl, _, _, rfl⟩⟩, fun x h => by cases h⟩
  · obtain ⟨x0, hx0, _⟩ := each 0 (by omega)
    letI : Inhabited α := ⟨x0⟩
    obtain ⟨F, hF⟩ := Go.Deep.choose_lt each
    have hlen : ((List.range len).map F).length = len := by simp
    have hfl := flatLen0 f z hz ((List.range len).map F)
    rw [hlen] at hfl
    have hcell : ∀ i u, (((List.range len).map F).flatMap f)[i]? = some u → w.cell? (a.add i) = some u := fun i u hu => by
      have hi : i < len * z := by
        rw [← hfl]; exact (List.getElem?_eq_some_iff.1 hu).1
      have hq : i / z < len := Nat.div_lt_of_lt_mul (by rw [Nat.mul_comm]; exact hi)
      have hr : i % z < z := Nat.mod_lt _ hz0
      have hd : i / z * z + i % z = i := by rw [Nat.mul_comm]; exact Nat.div_add_mod i z
      have hat := flatAt f z hz ((List.range len).map F) (i / z) (i % z) (F (i / z)) (by simp [hq]) hr
      rw [hd, hu] at hat
      have := (hF (i / z) (by omega)).2 (i % z) u hat.symm
      rwa [hd] at this
    refine ⟨(List.range len).map F, hlen, ⟨hfl, .inr ?_⟩, fun x hx => ?_⟩
    · obtain ⟨b, off, spot⟩ := a
      have hne : ((List.range len).map F).flatMap f ≠ [] := fun e => by
        rw [e] at hfl
        have : 0 < len * z := Nat.mul_pos (by omega) hz0
        simp at hfl; omega
      obtain ⟨u0, hu0⟩ : ∃ u, (((List.range len).map F).flatMap f)[0]? = some u := ⟨_, List.getElem?_eq_getElem (List.length_pos_iff.2 hne)⟩
      have h1 := hcell 0 u0 hu0
      have hspot : spot = none := by simpa [Addr.add] using World.cell?_spot h1
      subst hspot
      refine ⟨b, off, cap, rfl, ?_, fun i u hu => ?_⟩
      · have h2 := World.block_lt_of_cell? w _ h1
        simpa [Addr.add] using h2
      · have h2 := hcell i u hu
        rwa [add_plain] at h2
    · obtain ⟨i, hi, rfl⟩ := List.mem_map.1 hx
      exact (hF i (by have := List.mem_range.1 hi; omega)).1

theorem list2 {α : Type} {cs : List α} (h : cs.length = 2) : ∃ c0 c1, cs = [c0, c1] := by
  match cs, h with
  | [c0, c1], _ => exact ⟨c0, c1, rfl⟩


section
variable {H : Type} {enc : TypeId × Value → H} {w : World} {sp : Nat → Bool} {held : Bool}
theorem cells_int : Tryd.prog.cellsOf 3 = 1 := by kernel_rfl
theorem cells_two : Tryd.prog.cellsOf 55 = 2 := by kernel_rfl
theorem at_some {β : Type} {ys : List β} {n i : Nat} (h : ys.length = n) (hi : i < n) : ∃ y, ys[i]? = some y := ⟨_, List.getElem?_eq_getElem (by rw [h]; exact hi)⟩
theorem open_two {n : Nat} {cs : List Value} {y : DataW H × List MemPlace} (h : DataW.trod enc Tryd.prog w 0 sp held n 55 cs = some y) : ∃ x : Int × Int, cs = priC x ∧ True := by
  obtain ⟨ys, n', _, _, hlen, hyl, hfs⟩ := DataW.trod_array Tryd.underlying55 h
  have f0 := hfs 0 (by decide)
  have f1 := hfs 1 (by decide)
  obtain ⟨c0, c1, rfl⟩ := list2 (hlen.trans cells_two)
  obtain ⟨y0, e0⟩ := at_some (i := 0) hyl (by decide)
  obtain ⟨y1, e1⟩ := at_some (i := 1) hyl (by decide)
  rw [cells_int, e0] at f0
  rw [cells_int, e1] at f1
  obtain ⟨z0, g0, _⟩ := DataW.trod_int Tryd.underlying3 f0
  obtain ⟨z1, g1, _⟩ := DataW.trod_int Tryd.underlying3 f1
  simp at g0 g1
  subst g0 g1
  exact ⟨(z0, z1), rfl, trivial⟩
theorem open_rows {α : Type} (f : α → List Value) (z : Nat) (hz : ∀ x, (f x).length = z) (hz0 : 0 < z) (ok : α → Prop) {t e : TypeId} (ht : Tryd.prog.underlying t = some (.slice e)) (hc : Tryd.prog.cellsOf e = z)
    (hel : ∀ n cs y, DataW.trod enc Tryd.prog w 0 (fun _ => true) held n e cs = some y → ∃ x, cs = f x ∧ ok x) {n : Nat} {v : Value} {y : DataW H × List MemPlace} (h : DataW.trod enc Tryd.prog w 0 (fun _ => true) held n t [v] = some y) :
    ∃ X : List α, SlIn w v z X.length (X.flatMap f) ∧ (∀ x ∈ X, ok x) ∧ X.length ≤ maxLen := by
  rcases Go.Deep.open_slice ht h with ⟨hcs, _⟩ | ⟨a, len, cap, m, nn, D, Pl, hcs, _, hl, hm, hmm, _, hi⟩
  · simp at hcs
    subst hcs
    exact ⟨[], ⟨by simp, .inl ⟨rfl, _, _, rfl⟩⟩, (fun x h => nomatch h), Nat.zero_le _⟩
  · simp at hcs
    subst hcs
    have hm' : m = cap := by simpa using hmm
    obtain ⟨X, hX, hS, hok⟩ := slin_mk f z hz hz0 ok (w := w) (a := a) (len := len) (cap := cap) (m := m) (by omega) (fun i him => by
      obtain ⟨cs', hcc, ht'⟩ := hi i him
      rw [hc] at hcc
      obtain ⟨x, rfl, hx⟩ := hel _ _ _ ht'
      obtain ⟨_, hcl, hat⟩ := World.cells?_some hcc
      refine ⟨x, hx, fun j u hu => ?_⟩
      have hj : j < z := by rw [← hz x]; exact (List.getElem?_eq_some_iff.1 hu).1
      have h1 := hat j hj
      rw [Go.Deep.add_add] at h1
      rw [h1, hu])
    exact ⟨X, by rw [hX]; exact hS, hok, by omega⟩
theorem open_pairs {b0 : Nat} {r : Reach} {v : Value} {d : DataW H} {p : List MemPlace}
    (hv : Value.okWide Tryd.prog w r b0 22 v) (h : DataW.Trod enc Tryd.prog w 0 (fun _ => true) held 22 v d p) :
    ∃ X : List (Int × Int), QIn w v X ∧ X.length ≤ maxLen := by
  obtain ⟨a0, len, cap, rfl⟩ := okWide_slice Tryd.underlying22 hv
  obtain ⟨fuel, hf⟩ := h
  obtain ⟨X, h1, _, h3⟩ := open_rows priC 2 (fun _ => rfl) (by decide) (fun _ => True) Tryd.underlying22 cells_two (fun n cs y h => open_two h) hf
  exact ⟨X, h1, h3⟩
end
end Go.Proofs.YtbcbhofbikdfiaaDoor
