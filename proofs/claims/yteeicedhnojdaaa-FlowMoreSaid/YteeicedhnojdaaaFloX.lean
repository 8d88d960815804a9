/- FlowMore: its rows, its mathematics. -/
import Derived.Test.YteeicedhnojdaaaFloW
import Derived.Test.YteeicedhnojdaaaFloN
import Derived.Test.YteeicedhnojdaaaLitY2
namespace Go.Proofs.Yteeicedhnojdaaa
set_option maxRecDepth 100000
open Go.RowKit

theorem wpList_append_zero {P : Program} {ops : Array Oper} {rest : List Oper} {o : Oper} {a : Act} {w : World} {Q : Exit → Act → World → Prop}
    (hg : o.guard = none) (s x : Operand) (t : TypeId) (hop : o.op = Op.call { callee := Callee.builtin Builtin.append, args := #[s, x], argTypes := #[t, t] })
    (e : TypeId) (i : TypeInfo) (h1 : P.underlying t = some (.slice e)) (h2 : P.info? e = some i) (b off cap : Nat) (hs : a.eval s = .slice (some ⟨b, off, none⟩) 0 cap) (p : Option Addr) (c : Nat) (hx : a.eval x = .slice p 0 c)
    (h : wpList P ops Q rest (a.put o.dst (.slice (some ⟨b, off, none⟩) 0 cap)) w) : wpList P ops Q (o :: rest) a w := by
  refine wpList_plain hg fun K hK => ?_
  have := step_append_zero (P := P) (ops := ops) (K := K) (Q := Q) (E := True) hg s x t hop e i h1 h2 b off cap hs p c hx (hK _ _ h)
  have hw : Region.wanted o (yielded ops a.tmps) = true := by simp [Region.wanted, hg]
  rwa [if_pos hw] at this
/-- a row that is copied into an empty one -/
theorem wpList_append_copy {ops : Array Oper} {rest : List Oper} {o : Oper} {a : Act} {Q : Exit → Act → World → Prop} (w0 : World) (hg : o.guard = none) (s x : Operand)
    (hop : o.op = Op.call { callee := Callee.builtin Builtin.append, args := #[s, x], argTypes := #[27, 27] })
    (hs : a.eval s = .slice (some ⟨w0.heap.size, 0, none⟩) 0 0) (b m : Nat) (hm : m ≤ 1000000) (A : List (Bool × Nat)) (hx : a.eval x = .slice (some ⟨b, 0, none⟩) m m) (hA : A.length = m) (hb : w0.heap[b]? = some (.cells (nV A).toArray 74 (0, 0)))
    (h : ∀ g cap w', w'.ownsRow w0.heap.size 74 2 (.slice (some ⟨g, 0, none⟩) m cap) m (nV A) → Below w0.heap.size w0 w' → wpList Try.prog ops Q rest (a.put o.dst (.slice (some ⟨g, 0, none⟩) m cap)) w') :
    wpList Try.prog ops Q (o :: rest) a (w0.alloc (.cells #[] 74)) := by
  obtain ⟨i0, hi, hz0, hz1, hz2⟩ := info_parts info_mv
  have hrow := newRow w0 w0.heap.size 74 2 (Nat.le_refl _)
  by_cases hm0 : m = 0
  · subst hm0
    obtain rfl : A = [] := List.eq_nil_of_length_eq_zero hA
    refine wpList_append_zero hg s x _ hop 74 i0 Try.underlying27 hi w0.heap.size 0 0 hs _ _ hx ?_
    exact h _ _ _ hrow (aset _ _)
  · refine wpList_append_lies (w := w0.alloc (.cells #[] 74)) hg s x _ hop w0.heap.size 74 i0 _ 2 16 Try.underlying27 hi hz0 hz1 hz2 rfl (by omega) _ 0 [] hs hrow ⟨b, 0, none⟩ m m (nV A) hx (by rw [nV_len, hA]) (fun j u hu => ?_) (nV_one A) (by omega) (by unfold maxLen; omega) (by omega) (by simp) (w0.heap.size + 1) (by simp) (fun g cap w' h1 h2 h3 h4 => ?_)
    · rw [Addr.add_mid, Nat.zero_add]
      refine cBel (w := w0) ?_ (aset _ _)
      rw [cOf hb]; simpa using hu
    · rw [Nat.zero_add, List.nil_append] at h1
      rw [Nat.zero_add]
      exact h g cap w' h1 ((aset _ _).grown h2 (by simp) (fun k hk => (rowLt hrow k hk).1))
/-- where a row lies, with what is behind it -/
theorem rowHeap {w : World} {B g n cap : Nat} {A : List (Bool × Nat)} (h : w.ownsRow B 74 2 (.slice (some ⟨g, 0, none⟩) n cap) n (nV A)) : ∃ T : List Value, w.heap[g]? = some (.cells (nV A ++ T).toArray 74 (0, 0)) ∧ B ≤ g := by
  rcases h.2 with ⟨hv, _⟩ | ⟨g', cap', cur, hv, hB, hh, _, _, hs, ht⟩
  · cases hv
  · obtain ⟨e1, _, _⟩ := Value.slice.inj hv
    obtain rfl : g = g' := by injection e1 with e1; injection e1
    refine ⟨cur.toList.drop (n * 2), ?_, hB⟩
    have hl : (nV A).length = n * 2 := h.1
    rw [hh]
    have e : cur.toList = nV A ++ cur.toList.drop (n * 2) := by
      conv => lhs; rw [← List.take_append_drop (n * 2) cur.toList]
      congr 1
    rw [← e]
theorem nVT_set (L : List (Bool × Nat)) (T : List Value) (k : Nat) (v : Value) (j : Nat) (hk : k < L.length) (hj : j < 2) : (nV L ++ T).toArray.setIfInBounds (k * 2 + j) v = ((nV L).set (k * 2 + j) v ++ T).toArray := by
  have hl := nV_len L
  simp only [List.setIfInBounds_toArray]
  rw [List.set_append_left _ _ (by omega)]
theorem nVT_set2 (L : List (Bool × Nat)) (T : List Value) (k : Nat) (p : Bool × Nat) (hk : k < L.length) : ((nV L ++ T).toArray.setIfInBounds (k * 2) (.bool p.1)).setIfInBounds (k * 2 + 1) (.int .u64 (p.2 : Int)) = (nV (L.set k p) ++ T).toArray := by
  have hl := nV_len L
  rw [← nV_set_list L k p]
  simp only [List.setIfInBounds_toArray]
  rw [List.set_append_left _ _ (by omega), List.set_append_left _ _ (by simp; omega)]
/-- what is known of all -/
def mv (A : List (Bool × Nat)) (M : List Nat) (i : Nat) : Bool × Nat := if (A.getD i (false, 0)).1 then A.getD i (false, 0) else (true, if i < M.length then M.getD i 0 else (A.getD i (false, 0)).2)
def pL (n : Nat) (A : List (Bool × Nat)) (M : List Nat) (j : Nat) : List (Bool × Nat) := (List.range n).map fun i => if i < j then mv A M i else A.getD i (false, 0)
theorem pL_len (n : Nat) (A : List (Bool × Nat)) (M : List Nat) (j : Nat) : (pL n A M j).length = n := by simp [pL]
theorem pL_zero (n : Nat) (A : List (Bool × Nat)) (M : List Nat) (h : A.length = n) : pL n A M 0 = A := by
  apply List.ext_getElem?
  intro i
  unfold pL
  by_cases hi : i < n
  · rw [List.getElem?_map, List.getElem?_range hi]
    simp [List.getD_eq_getElem?_getD, List.getElem?_eq_getElem (show i < A.length by omega)]
  · rw [List.getElem?_eq_none (by simp; omega), List.getElem?_eq_none (by omega)]
theorem pL_set (n : Nat) (A : List (Bool × Nat)) (M : List Nat) (j : Nat) : (pL n A M j).set j (mv A M j) = pL n A M (j + 1) := by
  apply List.ext_getElem?
  intro i
  unfold pL
  rw [List.getElem?_set]
  by_cases hi : i < n
  · simp only [List.getElem?_map, List.getElem?_range hi, Option.map_some, List.length_map, List.length_range]
    by_cases hij : j = i
    · subst hij; simp [hi]
    · rw [if_neg hij]
      by_cases h1 : i < j
      · rw [if_pos h1, if_pos (by omega)]
      · rw [if_neg h1, if_neg (by omega)]
  · have e : ∀ g : Nat → Bool × Nat, ((List.range n).map g)[i]? = none := fun g => List.getElem?_eq_none (by simp; omega)
    rw [e, e]
    split
    · rw [if_neg (by simp; omega)]
    · rfl
theorem pL_at (n : Nat) (A : List (Bool × Nat)) (M : List Nat) (j : Nat) (h : j < n) : (pL n A M j)[j]? = some (A.getD j (false, 0)) := by
  unfold pL
  rw [List.getElem?_map, List.getElem?_range h]; simp
theorem pL_stay (n : Nat) (A : List (Bool × Nat)) (M : List Nat) (j : Nat) (h : j < n) (hk : (A.getD j (false, 0)).1 = true) : pL n A M (j + 1) = pL n A M j := by
  rw [← pL_set]
  refine set_same ?_
  rw [pL_at n A M j h]
  unfold mv
  rw [if_pos hk]
theorem pL_get (n : Nat) (A : List (Bool × Nat)) (M : List Nat) (k : Nat) : (pL n A M n).getD k (false, 0) = if k < n then mv A M k else (false, 0) := by
  unfold pL
  rw [List.getD_eq_getElem?_getD]
  by_cases h : k < n
  · rw [List.getElem?_map, List.getElem?_range h, if_pos h]; simp [h]
  · rw [List.getElem?_eq_none (by simp; omega), if_neg h]; rfl
theorem more_le (n : Nat) (A : List (Bool × Nat)) (B : List Bool) (M : List Nat) (hA : A.length = n) : CtxLe ⟨A, B⟩ ⟨pL n A M n, B⟩ := by
  refine ⟨fun k => rfl, fun k h => ?_⟩
  unfold readM at h ⊢
  dsimp only at h ⊢
  rw [pL_get]
  by_cases hk : (A.getD k (false, 0)).1 = true
  · have hkn : k < n := by
      rcases Nat.lt_or_ge k n with h | h
      · exact h
      · rw [List.getD_eq_getElem?_getD, List.getElem?_eq_none (by omega)] at hk; cases hk
    rw [if_pos hkn, if_pos hk]
    have : mv A M k = A.getD k (false, 0) := by unfold mv; rw [if_pos hk]
    rw [this, if_pos hk]
  · rw [if_neg hk] at h; cases h
theorem more_all (n : Nat) (A : List (Bool × Nat)) (B : List Bool) (M : List Nat) (k : Nat) (hk : k < n) : (readM ⟨pL n A M n, B⟩ k).1 = true := by
  unfold readM
  dsimp only
  rw [pL_get, if_pos hk]
  have : (mv A M k).1 = true := by
    unfold mv
    split
    · assumption
    · rfl
  rw [if_pos this, this]
theorem gv_ok {R : List (Bool × Nat)} (h : ∀ x ∈ R, x.2 < 18446744073709551616) (i : Nat) : (gv R i).2 < 18446744073709551616 := by
  unfold gv
  split
  · rw [List.getD_eq_getElem?_getD]
    cases hc : R[i]? with
    | none => simp
    | some p => exact h p (List.mem_of_getElem? hc)
  · simp
theorem pA_ok {R : List (Bool × Nat)} (h : ∀ x ∈ R, x.2 < 18446744073709551616) (n j : Nat) : ∀ x ∈ pA n R j, x.2 < 18446744073709551616 := by
  intro x hx
  unfold pA at hx
  obtain ⟨i, _, rfl⟩ := List.mem_map.1 hx
  split
  · exact gv_ok h i
  · simp
theorem pL_ok {A : List (Bool × Nat)} {M : List Nat} (h : ∀ x ∈ A, x.2 < 18446744073709551616) (hM : ∀ x ∈ M, x < 18446744073709551616) (n j : Nat) : ∀ x ∈ pL n A M j, x.2 < 18446744073709551616 := by
  have ha : ∀ i, (A.getD i (false, 0)).2 < 18446744073709551616 := fun i => by
    rw [List.getD_eq_getElem?_getD]
    cases hc : A[i]? with
    | none => simp
    | some p => exact h p (List.mem_of_getElem? hc)
  intro x hx
  unfold pL at hx
  obtain ⟨i, _, rfl⟩ := List.mem_map.1 hx
  split
  · unfold mv
    split
    · exact ha i
    · dsimp only
      split
      · rename_i hi
        rw [List.getD_eq_getElem?_getD, List.getElem?_eq_getElem hi]
        exact hM _ (List.getElem_mem hi)
      · exact ha i
  · exact ha i
theorem slHeap {w : World} {b z n : Nat} {C : List Value} {T : TypeId} {X : List Value} (h : w.heap[b]? = some (.cells (C ++ X).toArray T (0, 0))) (hl : C.length = n * z) (c : Nat) : SlIn w (.slice (some ⟨b, 0, none⟩) n c) z n C :=
  ⟨hl, .inr ⟨_, _, _, rfl, ltOf h, fun i u hu => by
    rw [Nat.zero_add, cOf h]
    have hi := (List.getElem?_eq_some_iff.1 hu).1
    rw [List.getElem?_toArray, List.getElem?_append_left hi]; exact hu⟩⟩
theorem few_okF (t : TestM) : TestOk (fewM t) ∧ (∀ l ∈ (fewM t).locs, l.1.length ≤ 1000000000) := by
  refine ⟨⟨?_, ?_, ?_, ?_⟩, ?_⟩
  · show ((t.locs.take 12).map cutL).length ≤ _
    rw [List.length_map, List.length_take]; omega
  · show ((t.thr.take 6).map (·.take 12)).length ≤ _
    rw [List.length_map, List.length_take]; omega
  · intro l hl
    obtain ⟨x, _, rfl⟩ := List.mem_map.1 hl
    rw [List.length_take]; omega
  · show (t.asks.take 50).length ≤ _
    rw [List.length_take]; omega
  · intro l hl
    obtain ⟨x, _, rfl⟩ := List.mem_map.1 hl
    show (x.1.take 20).length ≤ _
    rw [List.length_take]; omega
theorem few_num {t : TestM} (h : ∀ l ∈ t.thr, ∀ x ∈ l, (0 ≤ x.an ∧ x.an < 18446744073709551616) ∧ (0 ≤ x.bn ∧ x.bn < 18446744073709551616)) : NumOk (fewM t) := by
  intro l hl x hx
  have hl' : l ∈ (t.thr.take 6).map (·.take 12) := hl
  obtain ⟨k, hk, rfl⟩ := List.mem_map.1 hl'
  exact h k (List.mem_of_mem_take hk) x (List.mem_of_mem_take hx)
theorem nV_set1 : ∀ (l : List (Bool × Nat)) (k : Nat) (b pk : Bool) (pv : Nat), l[k]? = some (pk, pv) → (nV l).set (k * 2) (.bool b) = nV (l.set k (b, pv))
  | [], k, b, pk, pv, h => by simp at h
  | a :: l, 0, b, pk, pv, h => by simp at h; subst h; simp [nV, vC]
  | a :: l, k + 1, b, pk, pv, h => by
    have ih := nV_set1 l k b pk pv (by simpa using h)
    have e : nV (a :: l) = .bool a.1 :: .int .u64 (a.2 : Int) :: nV l := by simp [nV, vC]
    rw [e, show (k + 1) * 2 = k * 2 + 1 + 1 by omega]
    simp only [List.set_cons_succ]
    rw [ih]
    simp [nV, vC]
theorem nVT_set1 (L : List (Bool × Nat)) (T : List Value) (k : Nat) (b pk : Bool) (pv : Nat) (h : L[k]? = some (pk, pv)) : (nV L ++ T).toArray.setIfInBounds (k * 2) (.bool b) = (nV (L.set k (b, pv)) ++ T).toArray := by
  have hl := nV_len L
  have hk := (List.getElem?_eq_some_iff.1 h).1
  rw [← nV_set1 L k b pk pv h]
  simp only [List.setIfInBounds_toArray]
  rw [List.set_append_left _ _ (by omega)]
theorem nVT_get {W : World} {g : Nat} {L : List (Bool × Nat)} {T : List Value} {k : Nat} {p : Bool × Nat} (hh : W.heap[g]? = some (.cells (nV L ++ T).toArray 74 (0, 0))) (h : L[k]? = some p) : W.cell? ⟨g, k * 2, none⟩ = some (.bool p.1) ∧ W.cell? ⟨g, k * 2 + 1, none⟩ = some (.int .u64 (p.2 : Int)) := by
  have hl := nV_len L
  have hk := (List.getElem?_eq_some_iff.1 h).1
  have h0 := nV_get h 0 (by decide)
  have h1 := nV_get h 1 (by decide)
  refine ⟨?_, ?_⟩
  · rw [cOf hh, List.getElem?_toArray, List.getElem?_append_left (by omega)]; simpa [vC] using h0
  · rw [cOf hh, List.getElem?_toArray, List.getElem?_append_left (by omega)]; simpa [vC] using h1
end Go.Proofs.Yteeicedhnojdaaa
