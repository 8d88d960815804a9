/- A litmus test in the heap. -/
import Derived.Test.YteeicedhnojdaaaLitC
namespace Go.Proofs.Yteeicedhnojdaaa
set_option maxRecDepth 100000
open Go.RowKit

/-- a test: locations (name, value), threads, atoms (thread, at, value) -/
structure TestM where
  locs : List (List UInt8 × Int)
  thr : List (List Ins)
  asks : List (Int × Int × Int)

def locC (l : List UInt8 × Int) : List Value := [.string (st l.1), .int .u64 l.2]
def askC (a : Int × Int × Int) : List Value := [.int .i64 a.1, .int .i64 a.2.1, .int .u64 a.2.2]
/-- a slice whose cells can be read -/
def SlIn (w : World) (v : Value) (z n : Nat) (cs : List Value) : Prop :=
  cs.length = n * z ∧ ((n = 0 ∧ ∃ p c, v = .slice p 0 c) ∨ ∃ b off c, v = .slice (some ⟨b, off, none⟩) n c ∧ b < w.heap.size ∧ ∀ i u, cs[i]? = some u → w.cell? ⟨b, off + i, none⟩ = some u)
theorem SlIn.below {w w' : World} {v : Value} {z n : Nat} {cs : List Value} (h : SlIn w v z n cs) (hb : Below w.heap.size w w') : SlIn w' v z n cs := by
  refine ⟨h.1, ?_⟩
  rcases h.2 with h | ⟨b, off, c, hv, hlt, hc⟩
  · exact .inl h
  · exact .inr ⟨b, off, c, hv, Nat.lt_of_lt_of_le hlt hb.size, fun i u hu => by rw [hb.cell hlt]; exact hc i u hu⟩
theorem SlIn.slice {w : World} {v : Value} {z n : Nat} {cs : List Value} (h : SlIn w v z n cs) : ∃ p c, v = .slice p n c := by
  rcases h.2 with ⟨rfl, p, c, rfl⟩ | ⟨b, off, c, rfl, _⟩
  · exact ⟨_, _, rfl⟩
  · exact ⟨_, _, rfl⟩
theorem SlIn.at {w : World} {v : Value} {z n : Nat} {cs : List Value} (h : SlIn w v z n cs) (hn : 0 < n) : ∃ b off c, v = .slice (some ⟨b, off, none⟩) n c ∧ b < w.heap.size ∧ ∀ i u, cs[i]? = some u → w.cell? ⟨b, off + i, none⟩ = some u := by
  rcases h.2 with ⟨rfl, _⟩ | h
  · omega
  · exact h

/-- a test that lies in the heap: three slices, and the threads' own -/
structure TestIn (w : World) (lv tv av : Value) (t : TestM) : Prop where
  locs : SlIn w lv 2 t.locs.length (t.locs.flatMap locC)
  thr : ∃ vs : List Value, vs.length = t.thr.length ∧ SlIn w tv 1 t.thr.length vs ∧ ∀ (i : Nat) (v : Value), vs[i]? = some v → ∃ l : List Ins, t.thr[i]? = some l ∧ SlIn w v 13 l.length (l.flatMap insC)
  asks : SlIn w av 3 t.asks.length (t.asks.flatMap askC)
theorem TestIn.below {w w' : World} {lv tv av : Value} {t : TestM} (h : TestIn w lv tv av t) (hb : Below w.heap.size w w') : TestIn w' lv tv av t := by
  obtain ⟨vs, h1, h2, h3⟩ := h.thr
  exact ⟨h.locs.below hb, ⟨vs, h1, h2.below hb, fun i v hv => by
    obtain ⟨l, hl, hs⟩ := h3 i v hv
    exact ⟨l, hl, hs.below hb⟩⟩, h.asks.below hb⟩
/-- a test variable at a block -/
structure TestAt (w : World) (b : Nat) (t : TestM) : Prop where
  test : ∃ lv tv av, w.cell? ⟨b, 0, none⟩ = some lv ∧ w.cell? ⟨b, 1, none⟩ = some tv ∧ w.cell? ⟨b, 2, none⟩ = some av ∧ TestIn w lv tv av t
theorem TestAt.below {w w' : World} {b : Nat} {t : TestM} (h : TestAt w b t) (hb : Below w.heap.size w w') : TestAt w' b t := by
  obtain ⟨lv, tv, av, h0, h1, h2, h3⟩ := h.test
  exact ⟨lv, tv, av, cBel h0 hb, cBel h1 hb, cBel h2 hb, h3.below hb⟩

/-- sizes that an int holds -/
structure TestOk (t : TestM) : Prop where
  locs : t.locs.length ≤ 1000000
  thr : t.thr.length ≤ 1000000
  ins : ∀ l ∈ t.thr, l.length ≤ 1000000
  asks : t.asks.length ≤ 1000000

theorem flatAt {α β : Type} (f : α → List β) (z : Nat) (hf : ∀ x, (f x).length = z) : ∀ (X : List α) (i j : Nat) (x : α), X[i]? = some x → j < z → (X.flatMap f)[i * z + j]? = (f x)[j]?
  | [], i, j, x, h, _ => by simp at h
  | y :: X, 0, j, x, h, hj => by
    simp at h; subst h
    rw [List.flatMap_cons, Nat.zero_mul, Nat.zero_add, List.getElem?_append_left (by rw [hf]; exact hj)]
  | y :: X, i + 1, j, x, h, hj => by
    rw [List.flatMap_cons, List.getElem?_append_right (by rw [hf, Nat.succ_mul]; omega), hf, show (i + 1) * z + j - z = i * z + j by rw [Nat.succ_mul]; omega]
    exact flatAt f z hf X i j x (by simpa using h) hj

/-- how many loads and stores -/
def evI (x : Ins) : Nat := (if krd x.op then 1 else 0) + (if kwr x.op then 1 else 0)
def evL (l : List Ins) : Nat := (l.map evI).sum
def evM (t : List (List Ins)) : Nat := (t.map evL).sum
theorem evI_le (x : Ins) : evI x ≤ 2 := by unfold evI; split <;> split <;> omega
theorem evL_le : ∀ l : List Ins, evL l ≤ 2 * l.length
  | [] => by simp [evL]
  | x :: l => by
    have h1 := evI_le x
    have h2 := evL_le l
    unfold evL at *
    simp only [List.map_cons, List.sum_cons, List.length_cons]
    omega
theorem evL_take {l : List Ins} {k : Nat} {x : Ins} (h : l[k]? = some x) : evL (l.take (k + 1)) = evL (l.take k) + evI x := by
  have e : l.take (k + 1) = l.take k ++ [x] := by rw [List.take_add_one, h]; rfl
  rw [e]; simp [evL]
theorem evM_take {t : List (List Ins)} {k : Nat} {l : List Ins} (h : t[k]? = some l) : evM (t.take (k + 1)) = evM (t.take k) + evL l := by
  have e : t.take (k + 1) = t.take k ++ [l] := by rw [List.take_add_one, h]; rfl
  rw [e]; simp [evM]
theorem evM_le (M : Nat) : ∀ t : List (List Ins), (∀ l ∈ t, l.length ≤ M) → evM t ≤ 2 * M * t.length
  | [], _ => by simp [evM]
  | l :: t, h => by
    have h1 := evL_le l
    have h2 := evM_le M t (fun x hx => h x (by simp [hx]))
    have h3 := h l (by simp)
    unfold evM at *
    simp only [List.map_cons, List.sum_cons, List.length_cons, Nat.mul_add, Nat.mul_one]
    omega
end Go.Proofs.Yteeicedhnojdaaa
