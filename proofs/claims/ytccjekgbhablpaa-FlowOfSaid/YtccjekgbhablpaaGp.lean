/- ArgsL, ArgsU, ArgsV, in one text. -/
import Derived.Test.YtccjekgbhablpaaGb
import Derived.OpenShut
import Derived.Deep.Slices
import Derived.Deep.Fields
import Derived.ChangeSame
import Derived.Carry
import Derived.Lib.SmallJoins
import Derived.Test.YtccjekgbhablpaaGc
namespace Go.Proofs.Ytccjekgbhablpaa
set_option maxRecDepth 100000
open Go.ChangeShapes Go.WideShapes Go.RowKit

def I64 (n : Int) : Prop := -9223372036854775808 ≤ n ∧ n ≤ 9223372036854775807
def U64 (n : Int) : Prop := 0 ≤ n ∧ n ≤ 18446744073709551615
theorem wf_i64 {n : Int} (h : (Lit.int .i64 n).wf = true) : I64 n := by unfold I64; simpa [Lit.wf, IntKind.min, IntKind.max, IntKind.signed, IntKind.bits] using h
theorem wf_u64 {n : Int} (h : (Lit.int .u64 n).wf = true) : U64 n := by unfold U64; simpa [Lit.wf, IntKind.min, IntKind.max, IntKind.signed, IntKind.bits] using h
/-- numbers that Go's own types hold -/
def insWf (x : Ins) : Prop := I64 x.op ∧ I64 x.rd ∧ I64 x.loc ∧ U64 x.an ∧ U64 x.bn ∧ I64 x.dep ∧ I64 x.pred ∧ I64 x.succ ∧ I64 x.skip
structure TestWf (t : TestM) : Prop where
  locs : ∀ l ∈ t.locs, l.1.length ≤ 9223372036854775807 ∧ U64 l.2
  ins : ∀ l ∈ t.thr, ∀ x ∈ l, insWf x
  asks : ∀ a ∈ t.asks, I64 a.1 ∧ I64 a.2.1 ∧ U64 a.2.2

theorem flatLen0 {α β : Type} (f : α → List β) (z : Nat) (hf : ∀ x, (f x).length = z) (X : List α) : (X.flatMap f).length = X.length * z := by
  induction X with
  | nil => simp
  | cons x X ih => rw [List.flatMap_cons, List.length_append, ih, hf, List.length_cons, Nat.succ_mul]; omega
theorem slin_mk {α : Type} (f : α → List Value) (z : Nat) (hz : ∀ x, (f x).length = z) (hz0 : 0 < z) (ok : α → Prop) {w : World} {a : Addr} {len cap m : Nat} (hlm : len ≤ m)
    (each : ∀ i, i < m → ∃ x, ok x ∧ ∀ j u, (f x)[j]? = some u → w.cell? (a.add (i * z + j)) = some u) : ∃ X : List α, X.length = len ∧ SlIn w (.slice (some a) len cap) z len (X.flatMap f) ∧ ∀ x ∈ X, ok x := by
  by_cases h0 : len = 0
  · subst h0
    exact ⟨[], rfl, ⟨by simp, .inl ⟨rfl, _, _, rfl⟩⟩, fun x h => by cases h⟩
  · obtain ⟨x0, hx0, _⟩ := each 0 (by omega)
    letI : Inhabited α := ⟨x0⟩
    obtain ⟨F, hF⟩ := Go.Deep.choose_lt each
    have hlen : ((List.range len).map F).length = len := by simp
    have hfl := flatLen0 f z hz ((List.range len).map F)
    rw [hlen] at hfl
    have hcell : ∀ i u, (((List.range len).map F).flatMap f)[i]? = some u → w.cell? (a.add i) = some u := fun i u hu => by
      have hi : i < len * z := by
        rw [← hfl]; exact (List.getElem?_eq_some_iff.1 hu).1
      have hq : i / z < len := Nat.div_lt_of_lt_mul (by rw [Nat.mul_comm]; exact hi)
      have hr : i % z < z := Nat.mod_lt _ hz0
      have hd : i / z * z + i % z = i := by rw [Nat.mul_comm]; exact Nat.div_add_mod i z
      have hat := flatAt f z hz ((List.range len).map F) (i / z) (i % z) (F (i / z)) (by simp [hq]) hr
      rw [hd, hu] at hat
      have := (hF (i / z) (by omega)).2 (i % z) u hat.symm
      rwa [hd] at this
    refine ⟨(List.range len).map F, hlen, ⟨hfl, .inr ?_⟩, fun x hx => ?_⟩
    · obtain ⟨b, off, spot⟩ := a
      have hne : ((List.range len).map F).flatMap f ≠ [] := fun e => by
        rw [e] at hfl
        have : 0 < len * z := Nat.mul_pos (by omega) hz0
        simp at hfl; omega
      obtain ⟨u0, hu0⟩ : ∃ u, (((List.range len).map F).flatMap f)[0]? = some u := ⟨_, List.getElem?_eq_getElem (List.length_pos_iff.2 hne)⟩
      have h1 := hcell 0 u0 hu0
      have hspot : spot = none := by simpa [Addr.add] using World.cell?_spot h1
      subst hspot
      refine ⟨b, off, cap, rfl, ?_, fun i u hu => ?_⟩
      · have h2 := World.block_lt_of_cell? w _ h1
        simpa [Addr.add] using h2
      · have h2 := hcell i u hu
        rwa [add_plain] at h2
    · obtain ⟨i, hi, rfl⟩ := List.mem_map.1 hx
      exact (hF i (by have := List.mem_range.1 hi; omega)).1

theorem list13 {α : Type} {cs : List α} (h : cs.length = 13) : ∃ c0 c1 c2 c3 c4 c5 c6 c7 c8 c9 c10 c11 c12, cs = [c0, c1, c2, c3, c4, c5, c6, c7, c8, c9, c10, c11, c12] := by
  match cs, h with
  | [c0, c1, c2, c3, c4, c5, c6, c7, c8, c9, c10, c11, c12], _ => exact ⟨c0, c1, c2, c3, c4, c5, c6, c7, c8, c9, c10, c11, c12, rfl⟩
theorem list3 {α : Type} {cs : List α} (h : cs.length = 3) : ∃ c0 c1 c2, cs = [c0, c1, c2] := by
  match cs, h with
  | [c0, c1, c2], _ => exact ⟨c0, c1, c2, rfl⟩
theorem list2 {α : Type} {cs : List α} (h : cs.length = 2) : ∃ c0 c1, cs = [c0, c1] := by
  match cs, h with
  | [c0, c1], _ => exact ⟨c0, c1, rfl⟩

section
variable {H : Type} {enc : TypeId × Value → H} {w : World} {sp : Nat → Bool} {held : Bool}
theorem cells_int : Try.prog.cellsOf 3 = 1 := by kernel_rfl
theorem cells_u64 : Try.prog.cellsOf 46 = 1 := by kernel_rfl
theorem cells_bool : Try.prog.cellsOf 4 = 1 := by kernel_rfl
theorem cells_str : Try.prog.cellsOf 9 = 1 := by kernel_rfl
theorem cells_arg : Try.prog.cellsOf 82 = 2 := by kernel_rfl
theorem cells_ins : Try.prog.cellsOf 84 = 13 := by kernel_rfl
theorem cells_init : Try.prog.cellsOf 80 = 2 := by kernel_rfl
theorem cells_atom : Try.prog.cellsOf 90 = 3 := by kernel_rfl
theorem cells_thr : Try.prog.cellsOf 81 = 1 := by kernel_rfl
theorem cells_test : Try.prog.cellsOf 26 = 3 := by kernel_rfl
theorem at_some {β : Type} {ys : List β} {n i : Nat} (h : ys.length = n) (hi : i < n) : ∃ y, ys[i]? = some y := ⟨_, List.getElem?_eq_getElem (by rw [h]; exact hi)⟩
theorem open_arg {n : Nat} {cs : List Value} {y : DataW H × List MemPlace} (h : DataW.trod enc Try.prog w 0 sp held n 82 cs = some y) : ∃ r m, cs = [.bool r, .int .u64 m] ∧ U64 m := by
  obtain ⟨ys, n', _, _, hlen, hyl, hfs⟩ := DataW.trod_struct Try.underlying82 h
  have f0 : DataW.trod enc Try.prog w 0 sp held n' 4 ((cs.drop 0).take (Try.prog.cellsOf 4)) = ys[0]? := hfs 0 _ rfl
  have f1 : DataW.trod enc Try.prog w 0 sp held n' 46 ((cs.drop 1).take (Try.prog.cellsOf 46)) = ys[1]? := hfs 1 _ rfl
  obtain ⟨c0, c1, rfl⟩ := list2 (hlen.trans cells_arg)
  obtain ⟨y0, e0⟩ := at_some (i := 0) hyl (by decide)
  obtain ⟨y1, e1⟩ := at_some (i := 1) hyl (by decide)
  rw [cells_bool, e0] at f0
  rw [cells_u64, e1] at f1
  obtain ⟨z0, g0, _⟩ := DataW.trod_bool Try.underlying4 f0
  obtain ⟨z1, g1, _, w1⟩ := DataW.trod_int Try.underlying46 f1
  simp at g0 g1
  subst g0 g1
  exact ⟨z0, z1, rfl, wf_u64 w1⟩

theorem open_ins {n : Nat} {cs : List Value} {y : DataW H × List MemPlace} (h : DataW.trod enc Try.prog w 0 sp held n 84 cs = some y) : ∃ x : Ins, cs = insC x ∧ insWf x := by
  obtain ⟨ys, n', _, _, hlen, hyl, hfs⟩ := DataW.trod_struct Try.underlying84 h
  have f0 : DataW.trod enc Try.prog w 0 sp held n' 3 ((cs.drop 0).take (Try.prog.cellsOf 3)) = ys[0]? := hfs 0 _ rfl
  have f1 : DataW.trod enc Try.prog w 0 sp held n' 3 ((cs.drop 1).take (Try.prog.cellsOf 3)) = ys[1]? := hfs 1 _ rfl
  have f2 : DataW.trod enc Try.prog w 0 sp held n' 3 ((cs.drop 2).take (Try.prog.cellsOf 3)) = ys[2]? := hfs 2 _ rfl
  have f3 : DataW.trod enc Try.prog w 0 sp held n' 82 ((cs.drop 3).take (Try.prog.cellsOf 82)) = ys[3]? := hfs 3 _ rfl
  have f4 : DataW.trod enc Try.prog w 0 sp held n' 82 ((cs.drop 5).take (Try.prog.cellsOf 82)) = ys[4]? := hfs 4 _ rfl
  have f5 : DataW.trod enc Try.prog w 0 sp held n' 4 ((cs.drop 7).take (Try.prog.cellsOf 4)) = ys[5]? := hfs 5 _ rfl
  have f6 : DataW.trod enc Try.prog w 0 sp held n' 4 ((cs.drop 8).take (Try.prog.cellsOf 4)) = ys[6]? := hfs 6 _ rfl
  have f7 : DataW.trod enc Try.prog w 0 sp held n' 3 ((cs.drop 9).take (Try.prog.cellsOf 3)) = ys[7]? := hfs 7 _ rfl
  have f8 : DataW.trod enc Try.prog w 0 sp held n' 3 ((cs.drop 10).take (Try.prog.cellsOf 3)) = ys[8]? := hfs 8 _ rfl
  have f9 : DataW.trod enc Try.prog w 0 sp held n' 3 ((cs.drop 11).take (Try.prog.cellsOf 3)) = ys[9]? := hfs 9 _ rfl
  have f10 : DataW.trod enc Try.prog w 0 sp held n' 3 ((cs.drop 12).take (Try.prog.cellsOf 3)) = ys[10]? := hfs 10 _ rfl
  obtain ⟨c0, c1, c2, c3, c4, c5, c6, c7, c8, c9, c10, c11, c12, rfl⟩ := list13 (hlen.trans cells_ins)
  obtain ⟨y0, e0⟩ := at_some (i := 0) hyl (by decide)
  rw [cells_int, e0] at f0
  obtain ⟨z0, g0, _, w0⟩ := DataW.trod_int Try.underlying3 f0
  obtain ⟨y1, e1⟩ := at_some (i := 1) hyl (by decide)
  rw [cells_int, e1] at f1
  obtain ⟨z1, g1, _, w1⟩ := DataW.trod_int Try.underlying3 f1
  obtain ⟨y2, e2⟩ := at_some (i := 2) hyl (by decide)
  rw [cells_int, e2] at f2
  obtain ⟨z2, g2, _, w2⟩ := DataW.trod_int Try.underlying3 f2
  obtain ⟨y3, e3⟩ := at_some (i := 3) hyl (by decide)
  rw [cells_arg, e3] at f3
  obtain ⟨r3, z3, g3, w3⟩ := open_arg f3
  obtain ⟨y4, e4⟩ := at_some (i := 4) hyl (by decide)
  rw [cells_arg, e4] at f4
  obtain ⟨r4, z4, g4, w4⟩ := open_arg f4
  obtain ⟨y5, e5⟩ := at_some (i := 5) hyl (by decide)
  rw [cells_bool, e5] at f5
  obtain ⟨z5, g5, _⟩ := DataW.trod_bool Try.underlying4 f5
  obtain ⟨y6, e6⟩ := at_some (i := 6) hyl (by decide)
  rw [cells_bool, e6] at f6
  obtain ⟨z6, g6, _⟩ := DataW.trod_bool Try.underlying4 f6
  obtain ⟨y7, e7⟩ := at_some (i := 7) hyl (by decide)
  rw [cells_int, e7] at f7
  obtain ⟨z7, g7, _, w7⟩ := DataW.trod_int Try.underlying3 f7
  obtain ⟨y8, e8⟩ := at_some (i := 8) hyl (by decide)
  rw [cells_int, e8] at f8
  obtain ⟨z8, g8, _, w8⟩ := DataW.trod_int Try.underlying3 f8
  obtain ⟨y9, e9⟩ := at_some (i := 9) hyl (by decide)
  rw [cells_int, e9] at f9
  obtain ⟨z9, g9, _, w9⟩ := DataW.trod_int Try.underlying3 f9
  obtain ⟨y10, e10⟩ := at_some (i := 10) hyl (by decide)
  rw [cells_int, e10] at f10
  obtain ⟨z10, g10, _, w10⟩ := DataW.trod_int Try.underlying3 f10
  simp at g0 g1 g2 g3 g4 g5 g6 g7 g8 g9 g10
  obtain ⟨g3, g3b⟩ := g3
  obtain ⟨g4, g4b⟩ := g4
  subst g0 g1 g2 g3 g4 g5 g6 g7 g8 g9 g10 g3b g4b
  exact ⟨⟨z0, z1, z2, r3, z3, r4, z4, z5, z6, z7, z8, z9, z10⟩, rfl, wf_i64 w0, wf_i64 w1, wf_i64 w2, w3, w4, wf_i64 w7, wf_i64 w8, wf_i64 w9, wf_i64 w10⟩

theorem open_init {n : Nat} {cs : List Value} {y : DataW H × List MemPlace} (h : DataW.trod enc Try.prog w 0 sp held n 80 cs = some y) : ∃ x : List UInt8 × Int, cs = locC x ∧ x.1.length ≤ 9223372036854775807 ∧ U64 x.2 := by
  obtain ⟨ys, n', _, _, hlen, hyl, hfs⟩ := DataW.trod_struct Try.underlying80 h
  have f0 : DataW.trod enc Try.prog w 0 sp held n' 9 ((cs.drop 0).take (Try.prog.cellsOf 9)) = ys[0]? := hfs 0 _ rfl
  have f1 : DataW.trod enc Try.prog w 0 sp held n' 46 ((cs.drop 1).take (Try.prog.cellsOf 46)) = ys[1]? := hfs 1 _ rfl
  obtain ⟨c0, c1, rfl⟩ := list2 (hlen.trans cells_init)
  obtain ⟨y0, e0⟩ := at_some (i := 0) hyl (by decide)
  obtain ⟨y1, e1⟩ := at_some (i := 1) hyl (by decide)
  rw [cells_str, e0] at f0
  rw [cells_u64, e1] at f1
  obtain ⟨z0, g0, _, w0⟩ := DataW.trod_string Try.underlying9 f0
  obtain ⟨z1, g1, _, w1⟩ := DataW.trod_int Try.underlying46 f1
  simp at g0 g1
  subst g0 g1
  exact ⟨(by' z0, z1), by unfold locC; rw [st_by], by rw [by_size]; unfold maxLen at w0; omega, wf_u64 w1⟩
theorem open_atom {n : Nat} {cs : List Value} {y : DataW H × List MemPlace} (h : DataW.trod enc Try.prog w 0 sp held n 90 cs = some y) : ∃ x : Int × Int × Int, cs = askC x ∧ I64 x.1 ∧ I64 x.2.1 ∧ U64 x.2.2 := by
  obtain ⟨ys, n', _, _, hlen, hyl, hfs⟩ := DataW.trod_struct Try.underlying90 h
  have f0 : DataW.trod enc Try.prog w 0 sp held n' 3 ((cs.drop 0).take (Try.prog.cellsOf 3)) = ys[0]? := hfs 0 _ rfl
  have f1 : DataW.trod enc Try.prog w 0 sp held n' 3 ((cs.drop 1).take (Try.prog.cellsOf 3)) = ys[1]? := hfs 1 _ rfl
  have f2 : DataW.trod enc Try.prog w 0 sp held n' 46 ((cs.drop 2).take (Try.prog.cellsOf 46)) = ys[2]? := hfs 2 _ rfl
  obtain ⟨c0, c1, c2, rfl⟩ := list3 (hlen.trans cells_atom)
  obtain ⟨y0, e0⟩ := at_some (i := 0) hyl (by decide)
  obtain ⟨y1, e1⟩ := at_some (i := 1) hyl (by decide)
  obtain ⟨y2, e2⟩ := at_some (i := 2) hyl (by decide)
  rw [cells_int, e0] at f0
  rw [cells_int, e1] at f1
  rw [cells_u64, e2] at f2
  obtain ⟨z0, g0, _, w0⟩ := DataW.trod_int Try.underlying3 f0
  obtain ⟨z1, g1, _, w1⟩ := DataW.trod_int Try.underlying3 f1
  obtain ⟨z2, g2, _, w2⟩ := DataW.trod_int Try.underlying46 f2
  simp at g0 g1 g2
  subst g0 g1 g2
  exact ⟨(z0, z1, z2), rfl, wf_i64 w0, wf_i64 w1, wf_u64 w2⟩
/-- a slice of structs whose elements open as f says -/
theorem open_rows {α : Type} (f : α → List Value) (z : Nat) (hz : ∀ x, (f x).length = z) (hz0 : 0 < z) (ok : α → Prop) {t e : TypeId} (ht : Try.prog.underlying t = some (.slice e)) (hc : Try.prog.cellsOf e = z)
    (hel : ∀ n cs y, DataW.trod enc Try.prog w 0 (fun _ => true) held n e cs = some y → ∃ x, cs = f x ∧ ok x) {n : Nat} {v : Value} {y : DataW H × List MemPlace} (h : DataW.trod enc Try.prog w 0 (fun _ => true) held n t [v] = some y) :
    ∃ X : List α, SlIn w v z X.length (X.flatMap f) ∧ (∀ x ∈ X, ok x) ∧ X.length ≤ maxLen ∧ SlCap v := by
  rcases Go.Deep.open_slice ht h with ⟨hcs, _⟩ | ⟨a, len, cap, m, nn, D, Pl, hcs, _, hl, hm, hmm, _, hi⟩
  · simp at hcs
    subst hcs
    exact ⟨[], ⟨by simp, .inl ⟨rfl, _, _, rfl⟩⟩, (fun x h => nomatch h), Nat.zero_le _, _, _, _, rfl, Nat.le_refl _⟩
  · simp at hcs
    subst hcs
    have hm' : m = cap := by simpa using hmm
    obtain ⟨X, hX, hS, hok⟩ := slin_mk f z hz hz0 ok (w := w) (a := a) (len := len) (cap := cap) (m := m) (by omega) (fun i him => by
      obtain ⟨cs', hcc, ht'⟩ := hi i him
      rw [hc] at hcc
      obtain ⟨x, rfl, hx⟩ := hel _ _ _ ht'
      obtain ⟨_, hcl, hat⟩ := World.cells?_some hcc
      refine ⟨x, hx, fun j u hu => ?_⟩
      have hj : j < z := by rw [← hz x]; exact (List.getElem?_eq_some_iff.1 hu).1
      have h1 := hat j hj
      rw [Go.Deep.add_add] at h1
      rw [h1, hu])
    exact ⟨X, by rw [hX]; exact hS, hok, by omega, _, _, _, rfl, hl⟩
theorem flatOne : ∀ T : List (Value × List Ins), (T.flatMap fun x => [x.1]) = T.map (·.1)
  | [] => rfl
  | a :: r => by rw [List.flatMap_cons, flatOne r]; rfl
theorem open_test {b0 : Nat} {r : Reach} {v : Value} {d : DataW H} {p : List MemPlace}
    (hv : Value.okWide Try.prog w r b0 26 v) (h : DataW.Trod enc Try.prog w 0 (fun _ => true) held 26 v d p) :
    ∃ (lv tv av : Value) (t : TestM), v = .agg #[lv, tv, av] ∧ CapIn w lv tv av t ∧ TestWf t ∧ t.locs.length ≤ maxLen ∧ t.thr.length ≤ maxLen ∧ (∀ l ∈ t.thr, l.length ≤ maxLen) ∧ t.asks.length ≤ maxLen := by
  obtain ⟨v0, v1, v2, y0, y1, y2, n, rfl, _, _, h0, h1, h2⟩ := Go.Joins.open_agg3 Try.underlying26 (by kernel_rfl) cells_test hv h
  obtain ⟨L, hL, okL, mL, cL⟩ := open_rows locC 2 (fun _ => rfl) (by decide) _ Try.underlying22 cells_init (fun _ _ _ h => open_init h) h0
  obtain ⟨A, hA, okA, mA, cA⟩ := open_rows askC 3 (fun _ => rfl) (by decide) _ Try.underlying24 cells_atom (fun _ _ _ h => open_atom h) h2
  obtain ⟨T, hT, okT, mT, cT⟩ := open_rows (fun x : Value × List Ins => [x.1]) 1 (fun _ => rfl) (by decide) (fun x => SlIn w x.1 13 x.2.length (x.2.flatMap insC) ∧ (∀ y ∈ x.2, insWf y) ∧ x.2.length ≤ maxLen ∧ SlCap x.1) Try.underlying23 cells_thr (fun n cs y h => by
    obtain ⟨q, l, c, rfl⟩ := Go.Joins.slice_form Try.underlying81 h
    obtain ⟨X, hX, ok, m, cc⟩ := open_rows insC 13 (fun _ => rfl) (by decide) _ Try.underlying81 cells_ins (fun _ _ _ h => open_ins h) h
    exact ⟨(_, X), rfl, hX, ok, m, cc⟩) h1
  refine ⟨v0, v1, v2, ⟨L, T.map (·.2), A⟩, rfl, ⟨hL, cL, ⟨T.map (·.1), by simp, ?_, fun i u hu => ?_⟩, cT, hA, cA⟩, ⟨okL, fun l hl => ?_, okA⟩, mL, by simpa using mT, fun l hl => ?_, mA⟩
  · rw [flatOne] at hT
    simpa using hT
  · rw [List.getElem?_map] at hu
    obtain ⟨x, hx, rfl⟩ := Option.map_eq_some_iff.1 hu
    exact ⟨(okT x (List.mem_of_getElem? hx)).2.2.2, x.2, by simp [hx], (okT x (List.mem_of_getElem? hx)).1⟩
  · obtain ⟨x, hx, rfl⟩ := List.mem_map.1 hl
    exact (okT x hx).2.1
  · obtain ⟨x, hx, rfl⟩ := List.mem_map.1 hl
    exact (okT x hx).2.2.1
end
end Go.Proofs.Ytccjekgbhablpaa
namespace Go.Proofs.Ytccjekgbhablpaa
set_option maxRecDepth 100000
open Go.ChangeShapes Go.WideShapes Go.RowKit

section
variable {H : Type} {enc : TypeId × Value → H} {w : World} {sp : Nat → Bool} {held : Bool}
theorem flatSing : ∀ X : List Int, (X.flatMap fun x => [Value.int .u64 x]) = X.map (Value.int .u64)
  | [] => rfl
  | a :: r => by rw [List.flatMap_cons, flatSing r]; rfl
theorem open_u64s {b0 : Nat} {r : Reach} {v : Value} {d : DataW H} {p : List MemPlace}
    (hv : Value.okWide Try.prog w r b0 65 v) (h : DataW.Trod enc Try.prog w 0 (fun _ => true) held 65 v d p) :
    ∃ X : List Int, SlIn w v 1 X.length (X.map (Value.int .u64)) ∧ (∀ x ∈ X, U64 x) ∧ X.length ≤ maxLen ∧ SlCap v := by
  obtain ⟨a0, len, cap, rfl⟩ := okWide_slice Try.underlying65 hv
  obtain ⟨fuel, hf⟩ := h
  obtain ⟨X, h1, h2, h3, h4⟩ := open_rows (fun x : Int => [Value.int .u64 x]) 1 (fun _ => rfl) (by decide) U64 Try.underlying65 cells_u64 (fun n cs y h => by
    obtain ⟨z, g, _, wf⟩ := DataW.trod_int Try.underlying46 h
    exact ⟨z, g, wf_u64 wf⟩) hf
  rw [flatSing] at h1
  exact ⟨X, h1, h2, h3, h4⟩
end
end Go.Proofs.Ytccjekgbhablpaa
namespace Go.Proofs.Ytccjekgbhablpaa
set_option maxRecDepth 100000
open Go.ChangeShapes Go.WideShapes Go.RowKit

section
variable {H : Type} {enc : TypeId × Value → H} {w : World} {sp : Nat → Bool} {held : Bool}
theorem cells_val : Try.prog.cellsOf 74 = 2 := by kernel_rfl
theorem open_val {n : Nat} {cs : List Value} {y : DataW H × List MemPlace} (h : DataW.trod enc Try.prog w 0 sp held n 74 cs = some y) : ∃ x : Bool × Nat, cs = vC x ∧ x.2 < 18446744073709551616 := by
  obtain ⟨ys, n', _, _, hlen, hyl, hfs⟩ := DataW.trod_struct Try.underlying74 h
  have f0 : DataW.trod enc Try.prog w 0 sp held n' 4 ((cs.drop 0).take (Try.prog.cellsOf 4)) = ys[0]? := hfs 0 _ rfl
  have f1 : DataW.trod enc Try.prog w 0 sp held n' 46 ((cs.drop 1).take (Try.prog.cellsOf 46)) = ys[1]? := hfs 1 _ rfl
  obtain ⟨c0, c1, rfl⟩ := list2 (hlen.trans cells_val)
  obtain ⟨y0, e0⟩ := at_some (i := 0) hyl (by decide)
  obtain ⟨y1, e1⟩ := at_some (i := 1) hyl (by decide)
  rw [cells_bool, e0] at f0
  rw [cells_u64, e1] at f1
  obtain ⟨z0, g0, _⟩ := DataW.trod_bool Try.underlying4 f0
  obtain ⟨z1, g1, _, w1⟩ := DataW.trod_int Try.underlying46 f1
  simp at g0 g1
  subst g0 g1
  have hu := wf_u64 w1
  unfold U64 at hu
  obtain ⟨m, rfl⟩ := Int.eq_ofNat_of_zero_le hu.1
  exact ⟨(z0, m), rfl, by have := hu.2; dsimp only; omega⟩
theorem open_vals {b0 : Nat} {r : Reach} {v : Value} {d : DataW H} {p : List MemPlace}
    (hv : Value.okWide Try.prog w r b0 27 v) (h : DataW.Trod enc Try.prog w 0 (fun _ => true) held 27 v d p) :
    ∃ X : List (Bool × Nat), SlIn w v 2 X.length (nV X) ∧ (∀ x ∈ X, x.2 < 18446744073709551616) ∧ X.length ≤ maxLen := by
  obtain ⟨a0, len, cap, rfl⟩ := okWide_slice Try.underlying27 hv
  obtain ⟨fuel, hf⟩ := h
  obtain ⟨X, h1, h2, h3, _⟩ := open_rows vC 2 (fun _ => rfl) (by decide) (fun x => x.2 < 18446744073709551616) Try.underlying27 cells_val (fun n cs y h => open_val h) hf
  exact ⟨X, h1, h2, h3⟩
theorem open_nats {b0 : Nat} {r : Reach} {v : Value} {d : DataW H} {p : List MemPlace}
    (hv : Value.okWide Try.prog w r b0 65 v) (h : DataW.Trod enc Try.prog w 0 (fun _ => true) held 65 v d p) :
    ∃ M : List Nat, SlIn w v 1 M.length (nU M) ∧ (∀ x ∈ M, x < 18446744073709551616) ∧ M.length ≤ maxLen := by
  obtain ⟨X, h1, h2, h3, _⟩ := open_u64s hv h
  have e : nU (X.map Int.toNat) = X.map (Value.int .u64) := by
    unfold nU
    rw [List.map_map]
    apply List.map_congr_left
    intro x hx
    have := h2 x hx
    unfold U64 at this
    show Value.int .u64 ((x.toNat : Nat) : Int) = _
    rw [Int.toNat_of_nonneg this.1]
  refine ⟨X.map Int.toNat, by rw [e, List.length_map]; exact h1, fun x hx => ?_, by rw [List.length_map]; exact h3⟩
  obtain ⟨y, hy, rfl⟩ := List.mem_map.1 hx
  have := h2 y hy
  unfold U64 at this
  omega
theorem flatSingB : ∀ X : List Bool, (X.flatMap fun x => [Value.bool x]) = X.map Value.bool
  | [] => rfl
  | a :: r => by rw [List.flatMap_cons, flatSingB r]; rfl
theorem open_bools {b0 : Nat} {r : Reach} {v : Value} {d : DataW H} {p : List MemPlace}
    (hv : Value.okWide Try.prog w r b0 28 v) (h : DataW.Trod enc Try.prog w 0 (fun _ => true) held 28 v d p) :
    ∃ X : List Bool, SlIn w v 1 X.length (X.map Value.bool) ∧ X.length ≤ maxLen := by
  obtain ⟨a0, len, cap, rfl⟩ := okWide_slice Try.underlying28 hv
  obtain ⟨fuel, hf⟩ := h
  obtain ⟨X, h1, _, h3, _⟩ := open_rows (fun x : Bool => [Value.bool x]) 1 (fun _ => rfl) (by decide) (fun _ => True) Try.underlying28 cells_bool (fun n cs y h => by
    obtain ⟨z, g, _⟩ := DataW.trod_bool Try.underlying4 h
    exact ⟨z, g, trivial⟩) hf
  rw [flatSingB] at h1
  exact ⟨X, h1, h3⟩
end
end Go.Proofs.Ytccjekgbhablpaa
