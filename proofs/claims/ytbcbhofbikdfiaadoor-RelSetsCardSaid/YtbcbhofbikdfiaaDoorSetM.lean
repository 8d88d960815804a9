/- Cross and Chain, as lists of pairs: mathematics. -/
import Derived.Test.YtbcbhofbikdfiaaDoorSetC
namespace Go.Proofs.YtbcbhofbikdfiaaDoor
set_option maxRecDepth 100000
open Go.RowKit M

def prodQ (l m : List Nat) : List (Nat × Nat) := l.flatMap fun a => m.map fun b => (a, b)
theorem mem_prodQ {l m : List Nat} {a b : Nat} : (a, b) ∈ prodQ l m ↔ a ∈ l ∧ b ∈ m := by
  unfold prodQ
  rw [List.mem_flatMap]
  constructor
  · rintro ⟨c, hc, h⟩
    obtain ⟨d, hd, e⟩ := List.mem_map.1 h
    cases e
    exact ⟨hc, hd⟩
  · rintro ⟨h1, h2⟩
    exact ⟨a, h1, List.mem_map.2 ⟨b, h2, rfl⟩⟩
theorem prodQ_nd : ∀ (l m : List Nat), l.Nodup → m.Nodup → (prodQ l m).Nodup
  | [], _, _, _ => List.Pairwise.nil
  | a :: l, m, hl, hm => by
    have h1 := prodQ_nd l m (List.nodup_cons.1 hl).2 hm
    have e : prodQ (a :: l) m = (m.map fun b => (a, b)) ++ prodQ l m := rfl
    rw [e, List.nodup_append]
    refine ⟨?_, h1, ?_⟩
    · exact List.Pairwise.map _ (fun x y hxy e => hxy (by injection e)) hm
    · rintro x hx y hy rfl
      obtain ⟨b, _, rfl⟩ := List.mem_map.1 hx
      exact (List.nodup_cons.1 hl).1 (mem_prodQ.1 hy).1
theorem cross_rp (s v : Nat) (hv : v < 65536) : Rp (R.crossM s v) (prodQ (R.els s) (R.els v)) :=
  ⟨cross_wf s hv, ⟨prodQ_nd _ _ (R.els_nodup _) (R.els_nodup _), fun p hp => by
    obtain ⟨a, b⟩ := p
    obtain ⟨h1, h2⟩ := mem_prodQ.1 hp
    exact ⟨(R.mem_els.1 h1).1, (R.mem_els.1 h2).1⟩⟩, fun a b => by
    rw [has_cross hv, mem_prodQ, Bool.and_eq_true, decide_eq_true_eq]
    constructor
    · rintro ⟨h1, h2⟩
      refine ⟨h1, R.mem_els.2 ⟨?_, h2⟩⟩
      rcases Nat.lt_or_ge b 16 with k | k
      · exact k
      · have h3 := Nat.ge_two_pow_of_testBit h2
        have h4 : 2 ^ 16 ≤ 2 ^ b := Nat.pow_le_pow_right (by decide) k
        omega
    · rintro ⟨h1, h2⟩
      exact ⟨h1, (R.mem_els.1 h2).2⟩⟩
/-- a stands ahead of b -/
def Ahead (l : List Nat) (a b : Nat) : Prop := [a, b].Sublist l
theorem ahead_cons {l : List Nat} {x a b : Nat} : Ahead (x :: l) a b ↔ Ahead l a b ∨ (a = x ∧ b ∈ l) := by
  unfold Ahead
  rw [List.sublist_cons_iff]
  constructor
  · rintro (h | ⟨r, h1, h2⟩)
    · exact .inl h
    · injection h1 with h1 h3
      subst h1 h3
      exact .inr ⟨rfl, List.singleton_sublist.1 h2⟩
  · rintro (h | ⟨rfl, h⟩)
    · exact .inl h
    · exact .inr ⟨[b], rfl, List.singleton_sublist.2 h⟩
theorem ahead_snoc {l : List Nat} {x a b : Nat} : Ahead (l ++ [x]) a b ↔ Ahead l a b ∨ (b = x ∧ a ∈ l) := by
  have h1 : ∀ (m : List Nat) (c d : Nat), Ahead m c d ↔ Ahead m.reverse d c := fun m c d => by
    unfold Ahead
    rw [show [d, c] = [c, d].reverse from rfl, List.reverse_sublist]
  rw [h1, List.reverse_append, List.reverse_singleton, List.singleton_append, ahead_cons, ← h1, List.mem_reverse]
theorem ahead_nil {a b : Nat} : ¬ Ahead [] a b := fun h => by cases h
theorem chain_bit : ∀ (l : List Nat) (b : Nat), (chainL l).2.testBit b = decide (b ∈ l)
  | [], b => by simp [chainL]
  | a :: l, b => by
    show ((chainL l).2 ||| 2 ^ a).testBit b = _
    rw [Nat.testBit_or, Nat.testBit_two_pow, chain_bit l b]
    by_cases e : a = b
    · subst e; simp
    · have e' : ¬ b = a := Ne.symm e
      simp [e, e']
theorem chain_has : ∀ (l : List Nat), (∀ a ∈ l, a < 16) → ∀ a b, R.has (chainL l).1 a b = true ↔ Ahead l a b
  | [], _, a, b => by
    show R.has R.zeroM a b = true ↔ _
    rw [R.has_zero]
    exact ⟨fun h => (by cases h), fun h => absurd h ahead_nil⟩
  | x :: l, h, a, b => by
    have ih := chain_has l (fun c hc => h c (List.mem_cons_of_mem _ hc)) a b
    obtain ⟨i1, _⟩ := chain_ok l (fun c hc => h c (List.mem_cons_of_mem _ hc))
    have hx := h x (by simp)
    rw [ahead_cons, ← ih]
    show (R.g ((chainL l).1.set x (R.g (chainL l).1 x ||| (chainL l).2)) a).testBit b = true ↔ _
    rw [R.g_set (by rw [i1.len]; exact hx)]
    by_cases e : a = x
    · subst e
      rw [if_pos rfl, Nat.testBit_or, Bool.or_eq_true, chain_bit, decide_eq_true_eq]
      simp [R.has]
    · rw [if_neg e]
      simp [R.has, e]
theorem chain_rp {l : List Nat} (h : ∀ a ∈ l, a < 16) {X : List (Nat × Nat)} (hq : PQ X) (hX : ∀ a b, (a, b) ∈ X ↔ Ahead l a b) : Rp (chainL l).1 X :=
  ⟨(chain_ok l h).1, hq, fun a b => by rw [chain_has l h, hX]⟩
/-- the pairs, part of the way -/
structure Ch (X : List (Nat × Nat)) (l : List Nat) (k : Nat) (b : Nat) : Prop where
  pq : PQ X
  eq : ∀ c d, (c, d) ∈ X ↔ Ahead l c d ∨ (d = b ∧ c ∈ l.take k)
theorem Ch.start {X : List (Nat × Nat)} {l : List Nat} {b : Nat} (hq : PQ X) (h : ∀ c d, (c, d) ∈ X ↔ Ahead l c d) : Ch X l 0 b := ⟨hq, fun c d => by rw [h]; simp⟩
theorem Ch.step {X : List (Nat × Nat)} {l : List Nat} {b k a : Nat} (h : Ch X l k b) (hk : l[k]? = some a) (ha : a < 16) (hb : b < 16) : Ch (withQ X (a : Int) (b : Int)) l (k + 1) b :=
  ⟨h.pq.with _ _, fun c d => by
    rw [mem_withQ, h.eq, List.take_add_one, hk, List.mem_append]
    constructor
    · rintro ((h1 | ⟨h1, h2⟩) | ⟨h1, _⟩)
      · exact .inl h1
      · exact .inr ⟨h1, .inl h2⟩
      · cases h1; exact .inr ⟨rfl, .inr (by simp)⟩
    · rintro (h1 | ⟨h1, h2 | h2⟩)
      · exact .inl (.inl h1)
      · exact .inl (.inr ⟨h1, h2⟩)
      · have : c = a := by simpa using h2
        subst this h1
        exact .inr ⟨rfl, ha, hb⟩⟩
theorem Ch.stop {X : List (Nat × Nat)} {l : List Nat} {b k : Nat} (h : Ch X l k b) (hk : k = l.length) : ∀ c d, (c, d) ∈ X ↔ Ahead (l ++ [b]) c d := fun c d => by
  subst hk
  rw [h.eq, ahead_snoc, List.take_length]
/-- a row goes behind one's own -/
theorem wpList_append_grown {ops : Array Oper} {rest : List Oper} {o : Oper} {a : Act} {Q : Exit → Act → World → Prop} {w : World} (B : Nat) (hB : B ≤ w.heap.size) (hg : o.guard = none) (s x : Operand) (t e : TypeId) (z by' : Nat) (zv : Value)
    (hop : o.op = Op.call { callee := Callee.builtin Builtin.append, args := #[s, x], argTypes := #[t, t] }) (ht : Tryd.prog.underlying t = some (.slice e)) (hi : (Tryd.prog.info? e).map (fun i => (i.zero, i.size, i.bytes)) = some (some zv, z, by')) (hz : zv.cells.size = z) (hz0 : 0 < z) (hby : by' ≤ 1000)
    (g n cap : Nat) (xs : List Value) (hs : a.eval s = .slice (some ⟨g, 0, none⟩) n cap) (hrow : w.ownsRow B e z (.slice (some ⟨g, 0, none⟩) n cap) n xs)
    (v : Value) (m : Nat) (ys : List Value) (hx : a.eval x = v) (hv : SlIn w v z m ys) (h1 : ∀ u ∈ ys, u.oneCell' = true) (hnm : n + m ≤ 1000000)
    (h : ∀ g' cap' w', w'.ownsRow B e z (.slice (some ⟨g', 0, none⟩) (n + m) cap') (n + m) (xs ++ ys) → Below B w w' → (g' = g ∨ g' = w.heap.size) → w.grownBy w' (some g) → wpList Tryd.prog ops Q rest (a.put o.dst (.slice (some ⟨g', 0, none⟩) (n + m) cap')) w') :
    wpList Tryd.prog ops Q (o :: rest) a w := by
  obtain ⟨i0, hi1, hz1, hz2, hz3⟩ := info_parts hi
  have hcap : n ≤ cap := by
    rcases hrow.2 with ⟨hv, _⟩ | ⟨_, _, _, hv, _, _, h2, _⟩
    · cases hv
    · obtain ⟨_, _, e3⟩ := Value.slice.inj hv; omega
  by_cases hm : m = 0
  · subst hm
    obtain ⟨p, c, rfl⟩ := hv.slice
    have hy : ys = [] := List.eq_nil_of_length_eq_zero (by have := hv.1; omega)
    subst hy
    refine wpList_append_nil hg s x t hop e i0 ht hi1 g 0 n cap hcap hs p c hx ?_
    have := h g cap w (by simpa using hrow) ⟨rfl, rfl, rfl, Nat.le_refl _, fun _ _ => rfl⟩ (.inl rfl) ⟨rfl, rfl, rfl, Nat.le_refl _, fun _ _ _ => rfl⟩
    simpa using this
  · obtain ⟨b, off, c, rfl, hbl, hcl⟩ := hv.at (by omega)
    have hbytes : (n + m) * by' ≤ 1000000 * 1000 := Nat.mul_le_mul hnm hby
    refine wpList_append_lies (w := w) hg s x t hop B e i0 zv z by' ht hi1 hz1 hz2 hz3 hz hz0 _ n xs hs hrow ⟨b, off, none⟩ m c ys hx hv.1 (fun j u hu => ?_) h1 (by omega) (by unfold maxLen; omega) (by omega) hB w.heap.size rfl (fun g' cap' w' r1 r2 r3 r4 => ?_)
    · rw [Addr.add_mid]; exact hcl j u hu
    · refine h g' cap' w' r1 (Below.grown ⟨rfl, rfl, rfl, Nat.le_refl _, fun _ _ => rfl⟩ r2 hB (fun k hk => (rowLt hrow k hk).1)) ?_ r2
      rcases r3 with r3 | r3
      · left
        have : g = g' := by simpa [Value.ownBlock] using r3
        exact this.symm
      · exact .inr r3

theorem prodQ_take {E T : List Nat} {i a : Nat} (h : E[i]? = some a) : prodQ (E.take (i + 1)) T = prodQ (E.take i) T ++ T.map fun b => (a, b) := by
  rw [List.take_add_one, h]
  unfold prodQ
  rw [List.flatMap_append]
  simp
theorem map_take {T : List Nat} {j a b : Nat} (h : T[j]? = some b) : (T.take (j + 1)).map (fun b => (a, b)) = (T.take j).map (fun b => (a, b)) ++ [(a, b)] := by
  rw [List.take_add_one, h, List.map_append]; rfl
theorem OrdV.in {w w' : World} {o : Option (List Nat)} {e : Ending} (h : OrdV w o e w') : ∃ p c, e = .returned (.tuple #[.slice p (o.getD []).length c, .bool o.isSome]) ∧ IIn w' (.slice p (o.getD []).length c) (o.getD []) ∧ Below w.heap.size w w' := by
  obtain ⟨hb, hm⟩ := h
  cases o with
  | none => exact ⟨none, 0, hm, ⟨rfl, .inl ⟨rfl, _, _, rfl⟩⟩, hb⟩
  | some l =>
    obtain ⟨v, he, hr⟩ := hm
    obtain ⟨p, c, rfl⟩ := rowSlice hr
    exact ⟨p, c, he, rowSlIn hr, hb⟩
/-- any numbers in a slice -/
def ZIn (w : World) (v : Value) (l : List Int) : Prop := SlIn w v 1 l.length (l.map fun x => Value.int .i64 x)
theorem ZIn.below {w w' : World} {v : Value} {l : List Int} (h : ZIn w v l) (hb : Below w.heap.size w w') : ZIn w' v l := SlIn.below h hb
theorem ZIn.at {w : World} {v : Value} {l : List Int} (h : ZIn w v l) {k : Nat} {a : Int} (hk : l[k]? = some a) : ∃ b off c, v = .slice (some ⟨b, off, none⟩) l.length c ∧ b < w.heap.size ∧ w.cell? ⟨b, off + k, none⟩ = some (.int .i64 a) := by
  have hkl := (List.getElem?_eq_some_iff.1 hk).1
  obtain ⟨b, off, c, hv, hbl, hcl⟩ := SlIn.at h (by omega)
  exact ⟨b, off, c, hv, hbl, hcl k _ (by simp [hk])⟩
end Go.Proofs.YtbcbhofbikdfiaaDoor
