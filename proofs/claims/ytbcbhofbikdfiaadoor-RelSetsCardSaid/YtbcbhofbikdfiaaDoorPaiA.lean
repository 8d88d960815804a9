/- Pairs in slices: the reference's relations. -/
import Derived.Test.YtbcbhofbikdfiaaDoorRelK
import Derived.Deep.AppendLies
import Derived.Deep.AppendSrc
import Derived.Deep.RegionHeld3
namespace Go.Proofs.YtbcbhofbikdfiaaDoor
set_option maxRecDepth 100000
open Go.RowKit M

/-- a slice of n elements of z cells -/
def SlIn (w : World) (v : Value) (z n : Nat) (cs : List Value) : Prop :=
  cs.length = n * z ∧ ((n = 0 ∧ ∃ p c, v = .slice p 0 c) ∨ ∃ b off c, v = .slice (some ⟨b, off, none⟩) n c ∧ b < w.heap.size ∧ ∀ i u, cs[i]? = some u → w.cell? ⟨b, off + i, none⟩ = some u)
theorem SlIn.below {w w' : World} {v : Value} {z n : Nat} {cs : List Value} (h : SlIn w v z n cs) (hb : Below w.heap.size w w') : SlIn w' v z n cs := by
  refine ⟨h.1, ?_⟩
  rcases h.2 with h | ⟨b, off, c, hv, hlt, hc⟩
  · exact .inl h
  · exact .inr ⟨b, off, c, hv, Nat.lt_of_lt_of_le hlt hb.size, fun i u hu => by rw [hb.cell hlt]; exact hc i u hu⟩
theorem SlIn.slice {w : World} {v : Value} {z n : Nat} {cs : List Value} (h : SlIn w v z n cs) : ∃ p c, v = .slice p n c := by
  rcases h.2 with ⟨rfl, p, c, rfl⟩ | ⟨b, off, c, rfl, _⟩
  · exact ⟨_, _, rfl⟩
  · exact ⟨_, _, rfl⟩
theorem SlIn.at {w : World} {v : Value} {z n : Nat} {cs : List Value} (h : SlIn w v z n cs) (hn : 0 < n) : ∃ b off c, v = .slice (some ⟨b, off, none⟩) n c ∧ b < w.heap.size ∧ ∀ i u, cs[i]? = some u → w.cell? ⟨b, off + i, none⟩ = some u := by
  rcases h.2 with ⟨rfl, _⟩ | h
  · omega
  · exact h
theorem flatAt {α β : Type} (f : α → List β) (z : Nat) (hf : ∀ x, (f x).length = z) : ∀ (X : List α) (i j : Nat) (x : α), X[i]? = some x → j < z → (X.flatMap f)[i * z + j]? = (f x)[j]?
  | [], i, j, x, h, _ => by simp at h
  | y :: X, 0, j, x, h, hj => by
    simp at h; subst h
    rw [List.flatMap_cons, Nat.zero_mul, Nat.zero_add, List.getElem?_append_left (by rw [hf]; exact hj)]
  | y :: X, i + 1, j, x, h, hj => by
    rw [List.flatMap_cons, List.getElem?_append_right (by rw [hf, Nat.succ_mul]; omega), hf, show (i + 1) * z + j - z = i * z + j by rw [Nat.succ_mul]; omega]
    exact flatAt f z hf X i j x (by simpa using h) hj

theorem cOf' {w : World} {b : Nat} {C : Array Value} {t : TypeId} {fr : Nat × Nat} (h : w.heap[b]? = some (.cells C t fr)) (o : Nat) : w.cell? ⟨b, o, none⟩ = C[o]? := by simp [World.cell?, h]
theorem keepC' {w w' : World} {p o : Nat} {v : Value} (hk : w'.heap[p]? = w.heap[p]?) (h : w.cell? ⟨p, o, none⟩ = some v) : w'.cell? ⟨p, o, none⟩ = some v := by rw [World.cell?_of_block (a := ⟨p, o, none⟩) hk]; exact h
theorem rowSlIn {w : World} {B e z n : Nat} {v : Value} {xs : List Value} (h : w.ownsRow B e z v n xs) : SlIn w v z n xs := by
  have hl := h.1
  rcases h.2 with ⟨rfl, rfl⟩ | ⟨g, cap, cur, rfl, hg, hh, hn, _, hs, ht⟩
  · exact ⟨hl, .inl ⟨rfl, _, _, rfl⟩⟩
  · refine ⟨hl, .inr ⟨g, 0, cap, rfl, ?_, fun i u hu => ?_⟩⟩
    · rcases Nat.lt_or_ge g w.heap.size with e | e
      · exact e
      · rw [Array.getElem?_eq_none e] at hh; cases hh
    · have hi : i < n * z := by rw [← hl]; exact (List.getElem?_eq_some_iff.1 hu).1
      rw [cOf' hh, Nat.zero_add]
      have h1 : (cur.toList.take (n * z))[i]? = xs[i]? := by rw [ht]
      rw [List.getElem?_take_of_lt hi, hu] at h1
      simpa using h1
theorem newRow (w : World) (B : Nat) (e : TypeId) (z : Nat) (h : B ≤ w.heap.size) : (w.alloc (.cells #[] e)).ownsRow B e z (.slice (some ⟨w.heap.size, 0, none⟩) 0 0) 0 [] :=
  ⟨by simp, .inr ⟨_, 0, #[], rfl, h, heap_alloc_new _ _, Nat.le_refl _, Nat.zero_le _, by simp, by simp⟩⟩
theorem SlIn.keep {w w' : World} {v : Value} {z n : Nat} {cs : List Value} (hz : 0 < z) (h : SlIn w v z n cs) (hk : ∀ k, 0 < n → v.ownBlock = some k → k < w.heap.size → w'.heap[k]? = w.heap[k]?) : SlIn w' v z n cs := by
  by_cases hn : n = 0
  · obtain ⟨p, c, e⟩ := h.slice
    rw [hn] at e
    exact ⟨h.1, .inl ⟨hn, p, c, e⟩⟩
  · obtain ⟨b, off, c, hv, hb, hc⟩ := h.at (by omega)
    subst hv
    have e := hk b (by omega) rfl hb
    have hl : 0 < cs.length := by rw [h.1]; exact Nat.mul_pos (by omega) hz
    obtain ⟨u0, hu0⟩ : ∃ u, cs[0]? = some u := ⟨_, List.getElem?_eq_getElem hl⟩
    have hc' : ∀ i u, cs[i]? = some u → w'.cell? ⟨b, off + i, none⟩ = some u := fun i u hu => keepC' e (hc i u hu)
    exact ⟨h.1, .inr ⟨b, off, c, rfl, World.block_lt_of_cell? _ _ (hc' 0 u0 hu0), hc'⟩⟩
theorem SlIn.lt {w : World} {v : Value} {z n : Nat} {cs : List Value} (h : SlIn w v z n cs) (hn : 0 < n) : ∀ k, v.ownBlock = some k → k < w.heap.size := by
  obtain ⟨b, off, c, hv, hb, hc⟩ := h.at hn
  subst hv
  intro k hk
  have : b = k := by simpa [Value.ownBlock] using hk
  omega
theorem wpList_append_nil {P : Program} {ops : Array Oper} {rest : List Oper} {o : Oper} {a : Act} {w : World} {Q : Exit → Act → World → Prop}
    (hg : o.guard = none) (s x : Operand) (t : TypeId) (hop : o.op = Op.call { callee := Callee.builtin Builtin.append, args := #[s, x], argTypes := #[t, t] })
    (e : TypeId) (i : TypeInfo) (h1 : P.underlying t = some (.slice e)) (h2 : P.info? e = some i) (b off n cap : Nat) (hn : n ≤ cap) (hs : a.eval s = .slice (some ⟨b, off, none⟩) n cap) (p : Option Addr) (c : Nat) (hx : a.eval x = .slice p 0 c)
    (h : wpList P ops Q rest (a.put o.dst (.slice (some ⟨b, off, none⟩) n cap)) w) : wpList P ops Q (o :: rest) a w := by
  refine wpList_plain hg fun K hK => ?_
  have src : Src P i.size t (.slice p 0 c) 0 [] w := by
    cases p with
    | none => exact Src.ofNil w h1 c
    | some ad => exact Src.ofSlice w h1 ad 0 c [] (by simp) (by simp) (by simp)
  have hrun := run_append_room_src (P := P) (w := w) t t o.type e i h1 h2 b off n cap (.slice p 0 c) 0 [] src (by omega) (by simp) (by simp)
  have e0 : w.setCells b (off + n * i.size) [] = w := rfl
  rw [e0] at hrun
  unfold Oper.wp
  simp [execOp, hop, resolve, invoke, builtin, hs, hx, hrun, Result.andThen]
  exact hK _ _ h
/-- a row goes behind one's own -/
theorem wpList_append_rows {ops : Array Oper} {rest : List Oper} {o : Oper} {a : Act} {Q : Exit → Act → World → Prop} {w : World} (B : Nat) (hB : B ≤ w.heap.size) (hg : o.guard = none) (s x : Operand) (t e : TypeId) (z by' : Nat) (zv : Value)
    (hop : o.op = Op.call { callee := Callee.builtin Builtin.append, args := #[s, x], argTypes := #[t, t] }) (ht : Tryd.prog.underlying t = some (.slice e)) (hi : (Tryd.prog.info? e).map (fun i => (i.zero, i.size, i.bytes)) = some (some zv, z, by')) (hz : zv.cells.size = z) (hz0 : 0 < z) (hby : by' ≤ 1000)
    (g n cap : Nat) (xs : List Value) (hs : a.eval s = .slice (some ⟨g, 0, none⟩) n cap) (hrow : w.ownsRow B e z (.slice (some ⟨g, 0, none⟩) n cap) n xs)
    (v : Value) (m : Nat) (ys : List Value) (hx : a.eval x = v) (hv : SlIn w v z m ys) (h1 : ∀ u ∈ ys, u.oneCell' = true) (hnm : n + m ≤ 1000000)
    (h : ∀ g' cap' w', w'.ownsRow B e z (.slice (some ⟨g', 0, none⟩) (n + m) cap') (n + m) (xs ++ ys) → Below B w w' → (g' = g ∨ g' = w.heap.size) → wpList Tryd.prog ops Q rest (a.put o.dst (.slice (some ⟨g', 0, none⟩) (n + m) cap')) w') :
    wpList Tryd.prog ops Q (o :: rest) a w := by
  obtain ⟨i0, hi1, hz1, hz2, hz3⟩ := info_parts hi
  have hcap : n ≤ cap := by
    rcases hrow.2 with ⟨hv, _⟩ | ⟨_, _, _, hv, _, _, h2, _⟩
    · cases hv
    · obtain ⟨_, _, e3⟩ := Value.slice.inj hv; omega
  by_cases hm : m = 0
  · subst hm
    obtain ⟨p, c, rfl⟩ := hv.slice
    have hy : ys = [] := List.eq_nil_of_length_eq_zero (by have := hv.1; omega)
    subst hy
    refine wpList_append_nil hg s x t hop e i0 ht hi1 g 0 n cap hcap hs p c hx ?_
    have := h g cap w (by simpa using hrow) ⟨rfl, rfl, rfl, Nat.le_refl _, fun _ _ => rfl⟩ (.inl rfl)
    simpa using this
  · obtain ⟨b, off, c, rfl, hbl, hcl⟩ := hv.at (by omega)
    have hbytes : (n + m) * by' ≤ 1000000 * 1000 := Nat.mul_le_mul hnm hby
    refine wpList_append_lies (w := w) hg s x t hop B e i0 zv z by' ht hi1 hz1 hz2 hz3 hz hz0 _ n xs hs hrow ⟨b, off, none⟩ m c ys hx hv.1 (fun j u hu => ?_) h1 (by omega) (by unfold maxLen; omega) (by omega) hB w.heap.size rfl (fun g' cap' w' r1 r2 r3 r4 => ?_)
    · rw [Addr.add_mid]; exact hcl j u hu
    · refine h g' cap' w' r1 (Below.grown ⟨rfl, rfl, rfl, Nat.le_refl _, fun _ _ => rfl⟩ r2 hB (fun k hk => (rowLt hrow k hk).1)) ?_
      rcases r3 with r3 | r3
      · left
        have : g = g' := by simpa [Value.ownBlock] using r3
        exact this.symm
      · exact .inr r3

/-- the cells of a pair -/
def prC (p : Nat × Nat) : List Value := [.int .i64 (p.1 : Int), .int .i64 (p.2 : Int)]
def prs (l : List (Nat × Nat)) : List Value := l.flatMap prC
theorem prs_length (l : List (Nat × Nat)) : (prs l).length = l.length * 2 := by
  induction l with
  | nil => rfl
  | cons a l ih => unfold prs at *; rw [List.flatMap_cons, List.length_append, ih, List.length_cons, Nat.succ_mul]; simp [prC]; omega
theorem prs_one (l : List (Nat × Nat)) : ∀ u ∈ prs l, u.oneCell' = true := by
  intro u hu
  obtain ⟨p, _, hp⟩ := List.mem_flatMap.1 hu
  simp only [prC, List.mem_cons, List.not_mem_nil, or_false] at hp
  rcases hp with rfl | rfl <;> rfl
theorem prs_app (a b : List (Nat × Nat)) : prs a ++ prs b = prs (a ++ b) := by simp [prs]
def PIn (w : World) (v : Value) (l : List (Nat × Nat)) : Prop := SlIn w v 2 l.length (prs l)
theorem PIn.below {w w' : World} {v : Value} {l : List (Nat × Nat)} (h : PIn w v l) (hb : Below w.heap.size w w') : PIn w' v l := SlIn.below h hb
theorem PIn.nil (w : World) : PIn w (.slice none 0 0) [] := ⟨rfl, .inl ⟨rfl, _, _, rfl⟩⟩
theorem PIn.at {w : World} {v : Value} {l : List (Nat × Nat)} (h : PIn w v l) {k : Nat} {p : Nat × Nat} (hk : l[k]? = some p) : ∃ b off c, v = .slice (some ⟨b, off, none⟩) l.length c ∧ b < w.heap.size ∧ w.cell? ⟨b, off + k * 2, none⟩ = some (.int .i64 (p.1 : Int)) ∧ w.cell? ⟨b, off + k * 2 + 1, none⟩ = some (.int .i64 (p.2 : Int)) := by
  have hkl := (List.getElem?_eq_some_iff.1 hk).1
  obtain ⟨b, off, c, hv, hbl, hcl⟩ := SlIn.at h (by omega)
  refine ⟨b, off, c, hv, hbl, ?_, ?_⟩
  · exact hcl _ _ (flatAt prC 2 (fun _ => rfl) l k 0 p hk (by decide))
  · rw [Nat.add_assoc]; exact hcl _ _ (flatAt prC 2 (fun _ => rfl) l k 1 p hk (by decide))
theorem info_pair : (Tryd.prog.info? 36).map (fun i => (i.zero, i.size, i.bytes)) = some (some (.agg #[.int .i64 0, .int .i64 0]), 2, 16) := by kernel_rfl
end Go.Proofs.YtbcbhofbikdfiaaDoor
