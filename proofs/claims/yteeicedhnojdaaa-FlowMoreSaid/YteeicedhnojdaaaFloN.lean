/- What is known stays, when more is known: mathematics. -/
import Derived.Test.YteeicedhnojdaaaFloM
namespace Go.Proofs.Yteeicedhnojdaaa
set_option maxRecDepth 100000
open Go.RowKit

def stAt (s : List Nat) (j : Nat) : Nat := s.getD j 0
def wrAt (s : List (Bool × Nat)) (j : Nat) : Bool × Nat := s.getD j (false, 0)
theorem stAt_set (s : List Nat) (k v j : Nat) : stAt (s.set k v) j = if j = k ∧ k < s.length then v else stAt s j := by
  unfold stAt
  simp only [List.getD_eq_getElem?_getD, List.getElem?_set]
  by_cases h : k = j
  · subst h
    by_cases hl : k < s.length
    · simp [hl]
    · simp [hl]
  · rw [if_neg h, if_neg (by omega)]
theorem wrAt_set (s : List (Bool × Nat)) (k : Nat) (v : Bool × Nat) (j : Nat) : wrAt (s.set k v) j = if j = k ∧ k < s.length then v else wrAt s j := by
  unfold wrAt
  simp only [List.getD_eq_getElem?_getD, List.getElem?_set]
  by_cases h : k = j
  · subst h
    by_cases hl : k < s.length
    · simp [hl]
    · simp [hl]
  · rw [if_neg h, if_neg (by omega)]
theorem cnAt_set (l : List Cn) (r : Nat) (c : Cn) (j : Nat) : cnAt (l.set r c) j = if j = r ∧ r < l.length then c else cnAt l j := by
  unfold cnAt
  simp only [List.getD_eq_getElem?_getD, List.getElem?_set]
  by_cases h : r = j
  · subst h
    by_cases hl : r < l.length
    · simp [hl]
    · simp [hl]
  · rw [if_neg h, if_neg (by omega)]

/-- one step of an Op: the parts that are asked for -/
theorem acc_state (c : CtxM) (s : WkM) (k : Nat) (x : Ins) : (accM c s k x).state = s.state.set k (if x.op = 14 ∧ worksM c k = false then 2 else 1) := by
  unfold accM goM lrM endM writeM runM pairM' setM
  by_cases h : x.op = 14
  · cases hw : worksM c k
    · simp [h]
    · simp [h]
      have e3 : krd 14 = false := by decide
      have e4 : kwr 14 = true := by decide
      simp [e3, e4]
  · simp only [h, if_false, false_and]
    cases krd x.op <;> cases kwr x.op <;> by_cases h13 : x.op = 13 <;> simp [h13]
theorem acc_wr (c : CtxM) (s : WkM) (k : Nat) (x : Ins) : (accM c s k x).wr = if kwr x.op = true ∧ ¬ (x.op = 14 ∧ worksM c k = false) then s.wr.set k (writeV c s k x) else s.wr := by
  unfold accM goM lrM endM writeM runM pairM' setM
  by_cases h : x.op = 14
  · cases hw : worksM c k
    · simp [h]
    · have e3 : krd 14 = false := by decide
      have e4 : kwr 14 = true := by decide
      simp [h, e3, e4]
      unfold writeV argM
      simp [h]
  · simp only [h, if_false, false_and]
    cases krd x.op <;> cases kwr x.op <;> by_cases h13 : x.op = 13 <;> simp [h13] <;> rfl
theorem acc_regs (c : CtxM) (s : WkM) (k : Nat) (x : Ins) : (accM c s k x).regs =
    if x.op = 14 then s.regs.set x.rd.toNat (if worksM c k then ⟨true, 0, bit1 k⟩ else numC0 1)
    else if krd x.op then s.regs.set x.rd.toNat ⟨(readM c k).1, (readM c k).2, bit1 k⟩ else s.regs := by
  unfold accM goM lrM endM writeM runM pairM' setM
  by_cases h : x.op = 14
  · cases hw : worksM c k
    · simp [h]
    · have e3 : krd 14 = false := by decide
      have e4 : kwr 14 = true := by decide
      simp [h, e3, e4]
  · simp only [h, if_false]
    cases krd x.op <;> cases kwr x.op <;> by_cases h13 : x.op = 13 <;> simp [h13]

/-- Ops of other numbers are left alone -/
theorem walk_frame (c : CtxM) (i : Nat) : ∀ (l : List Ins) (at' k skip : Nat) (s : WkM) (j : Nat), (j < k ∨ k + memL l ≤ j) →
    stAt (walkM c i l at' k skip s).state j = stAt s.state j ∧ wrAt (walkM c i l at' k skip s).wr j = wrAt s.wr j
  | [], at', k, skip, s, j, _ => ⟨rfl, rfl⟩
  | x :: l, at', k, skip, s, j, hj => by
    have hm : memL (x :: l) = (if isMem x.op then 1 else 0) + memL l := by
      unfold memL
      rw [List.filter_cons]
      split <;> simp <;> omega
    rw [hm] at hj
    rw [walkM]
    split
    · cases hx : isMem x.op
      · rw [hx] at hj
        simp only [Bool.false_eq_true, if_false]
        have := walk_frame c i l (at' + 1) k (skip - 1) (leaveM s i at' k false) j (by simp at hj; omega)
        rw [this.1, this.2]
        exact ⟨rfl, rfl⟩
      · rw [hx] at hj
        simp only [if_true] at hj ⊢
        have := walk_frame c i l (at' + 1) (k + 1) (skip - 1) (leaveM s i at' k true) j (by omega)
        rw [this.1, this.2]
        unfold leaveM
        simp only [if_true]
        rw [stAt_set, if_neg (by omega)]
        exact ⟨rfl, trivial⟩
    · split
      · rename_i h0 hx
        rw [hx] at hj
        simp only [if_true] at hj
        have := walk_frame c i l (at' + 1) (k + 1) 0 (accM c s k x) j (by omega)
        rw [this.1, this.2, acc_state, acc_wr, stAt_set, if_neg (by omega)]
        refine ⟨rfl, ?_⟩
        split
        · rw [wrAt_set, if_neg (by omega)]
        · rfl
      · rename_i h0 hx
        have hx' : isMem x.op = false := by simpa using hx
        rw [hx'] at hj
        simp only [Bool.false_eq_true, if_false, Nat.zero_add] at hj
        split
        · split
          · have := walk_frame c i l (at' + 1) k (if (brVal s x).2 = 1 then x.skip.toNat else 0) (brPath s x) j hj
            rw [this.1, this.2]; exact ⟨rfl, rfl⟩
          · exact ⟨rfl, rfl⟩
        · split
          · have := walk_frame c i l (at' + 1) k 0 (compM s x) j hj
            rw [this.1, this.2]
            unfold compM setM
            dsimp only
            split <;> exact ⟨rfl, rfl⟩
          · exact walk_frame c i l (at' + 1) k 0 s j hj
theorem len_frame (c : CtxM) (i : Nat) : ∀ (l : List Ins) (at' k skip : Nat) (s : WkM),
    (walkM c i l at' k skip s).state.length = s.state.length ∧ (walkM c i l at' k skip s).wr.length = s.wr.length ∧ (walkM c i l at' k skip s).regs.length = s.regs.length
  | [], at', k, skip, s => ⟨rfl, rfl, rfl⟩
  | x :: l, at', k, skip, s => by
    rw [walkM]
    split
    · obtain ⟨h1, h2, h3⟩ := len_frame c i l (at' + 1) (if isMem x.op then k + 1 else k) (skip - 1) (leaveM s i at' k (isMem x.op))
      rw [h1, h2, h3]
      unfold leaveM
      cases isMem x.op <;> simp
    · split
      · obtain ⟨h1, h2, h3⟩ := len_frame c i l (at' + 1) (k + 1) 0 (accM c s k x)
        rw [h1, h2, h3, acc_state, acc_wr, acc_regs]
        refine ⟨by simp, by split <;> simp, ?_⟩
        split
        · simp
        · split <;> simp
      · split
        · split
          · obtain ⟨h1, h2, h3⟩ := len_frame c i l (at' + 1) k (if (brVal s x).2 = 1 then x.skip.toNat else 0) (brPath s x)
            rw [h1, h2, h3]; exact ⟨rfl, rfl, rfl⟩
          · exact ⟨rfl, rfl, rfl⟩
        · split
          · obtain ⟨h1, h2, h3⟩ := len_frame c i l (at' + 1) k 0 (compM s x)
            rw [h1, h2, h3]
            unfold compM setM
            dsimp only
            split <;> simp
          · exact len_frame c i l (at' + 1) k 0 s

/-- all registers are known -/
def AllKn (l : List Cn) : Prop := ∀ j, (cnAt l j).k = true
theorem arg_kn {s : WkM} (h : AllKn s.regs) (r : Bool) (n : Nat) : (argM s r n).k = true := by
  unfold argM
  cases r
  · rfl
  · exact h n
theorem kn_set {l : List Cn} (h : AllKn l) (r : Nat) (c : Cn) (hc : c.k = true) : AllKn (l.set r c) := fun j => by
  rw [cnAt_set]; split
  · exact hc
  · exact h j
theorem walk_full (c : CtxM) (n i : Nat) (hc : ∀ k, k < n → (readM c k).1 = true) : ∀ (l : List Ins) (at' k skip : Nat) (s : WkM), AllKn s.regs → s.state.length = n → k + memL l ≤ n →
    AllKn (walkM c i l at' k skip s).regs ∧ ∀ j, k ≤ j → j < k + memL l → stAt (walkM c i l at' k skip s).state j ≠ 0
  | [], at', k, skip, s, h, _, _ => ⟨h, fun j h1 h2 => by simp [memL] at h2; omega⟩
  | x :: l, at', k, skip, s, h, hn, hk => by
    have hm : memL (x :: l) = (if isMem x.op then 1 else 0) + memL l := by
      unfold memL
      rw [List.filter_cons]
      split <;> simp <;> omega
    rw [hm] at hk ⊢
    rw [walkM]
    split
    · cases hx : isMem x.op
      · rw [hx] at hk
        simp only [Bool.false_eq_true, if_false, Nat.zero_add] at hk ⊢
        exact walk_full c n i hc l (at' + 1) k (skip - 1) (leaveM s i at' k false) h hn hk
      · rw [hx] at hk
        simp only [if_true] at hk ⊢
        obtain ⟨h1, h2⟩ := walk_full c n i hc l (at' + 1) (k + 1) (skip - 1) (leaveM s i at' k true) h (by unfold leaveM; simp [hn]) (by omega)
        refine ⟨h1, fun j hj1 hj2 => ?_⟩
        by_cases hjk : j = k
        · subst hjk
          rw [(walk_frame c i l (at' + 1) (j + 1) (skip - 1) (leaveM s i at' j true) j (.inl (by omega))).1]
          unfold leaveM
          simp only [if_true]
          rw [stAt_set, if_pos ⟨rfl, by omega⟩]
          decide
        · exact h2 j (by omega) (by omega)
    · split
      · rename_i h0 hx
        rw [hx] at hk
        simp only [if_true] at hk ⊢
        have hr : AllKn (accM c s k x).regs := by
          rw [acc_regs]
          split
          · refine kn_set h _ _ ?_
            split <;> rfl
          · split
            · exact kn_set h _ _ (hc k (by omega))
            · exact h
        obtain ⟨h1, h2⟩ := walk_full c n i hc l (at' + 1) (k + 1) 0 (accM c s k x) hr (by rw [acc_state]; simp [hn]) (by omega)
        refine ⟨h1, fun j hj1 hj2 => ?_⟩
        by_cases hjk : j = k
        · subst hjk
          rw [(walk_frame c i l (at' + 1) (j + 1) 0 (accM c s j x) j (.inl (by omega))).1, acc_state, stAt_set, if_pos ⟨rfl, by omega⟩]
          split <;> decide
        · exact h2 j (by omega) (by omega)
      · rename_i h0 hx
        have hx' : isMem x.op = false := by simpa using hx
        rw [hx'] at hk
        simp only [Bool.false_eq_true, if_false, Nat.zero_add] at hk ⊢
        split
        · have hb : (brVal s x).1 = true := by
            unfold brVal combM
            rw [arg_kn h, arg_kn h]; rfl
          rw [if_pos hb]
          exact walk_full c n i hc l (at' + 1) k _ (brPath s x) h hn hk
        · split
          · refine walk_full c n i hc l (at' + 1) k 0 (compM s x) ?_ ?_ hk
            · unfold compM
              dsimp only
              split
              · exact kn_set h _ _ (arg_kn h _ _)
              · refine kn_set h _ _ ?_
                unfold combM
                rw [arg_kn h, arg_kn h]; rfl
            · unfold compM setM
              dsimp only
              split <;> exact hn
          · exact walk_full c n i hc l (at' + 1) k 0 s h hn hk

/-- what is known is the same in the other -/
def cle (a b : Cn) : Prop := a.k = true → b.k = true ∧ b.v = a.v
def RegLe (l m : List Cn) : Prop := l.length = m.length ∧ ∀ j, cle (cnAt l j) (cnAt m j)
theorem le_set {l m : List Cn} (h : RegLe l m) (r : Nat) {a b : Cn} (hc : cle a b) : RegLe (l.set r a) (m.set r b) := ⟨by simp [h.1], fun j => by
  rw [cnAt_set, cnAt_set, h.1]; split
  · exact hc
  · exact h.2 j⟩
theorem arg_le {s s' : WkM} (h : RegLe s.regs s'.regs) (r : Bool) (n : Nat) : cle (argM s r n) (argM s' r n) := by
  unfold argM
  cases r
  · exact fun _ => ⟨rfl, rfl⟩
  · exact h.2 n
theorem comb_le {a b a' b' : Cn} (ha : cle a a') (hb : cle b b') (f : Nat → Nat → Nat) (h : (combM (a.k, a.v) (b.k, b.v) f).1 = true) :
    combM (a'.k, a'.v) (b'.k, b'.v) f = combM (a.k, a.v) (b.k, b.v) f := by
  unfold combM at h ⊢
  cases hak : a.k <;> cases hbk : b.k <;> simp [hak, hbk] at h
  obtain ⟨h1, h2⟩ := ha hak
  obtain ⟨h3, h4⟩ := hb hbk
  simp [h1, h2, h3, h4]
structure CtxLe (c c' : CtxM) : Prop where
  works : ∀ k, worksM c k = worksM c' k
  reads : ∀ k, (readM c k).1 = true → readM c' k = readM c k
/-- what the facts of one have of the other's, up to k; behind that nothing is known -/
structure FactLe (s s' : WkM) (k : Nat) : Prop where
  st : ∀ j, j < k → stAt s.state j ≠ 0 → stAt s.state j = stAt s'.state j
  wr : ∀ j, j < k → (wrAt s.wr j).1 = true → wrAt s.wr j = wrAt s'.wr j
  st0 : ∀ j, k ≤ j → stAt s.state j = 0
  wr0 : ∀ j, k ≤ j → wrAt s.wr j = (false, 0)
  len : s.state.length = s'.state.length
  len2 : s.wr.length = s'.wr.length
theorem writeV_le {c c' : CtxM} (hc : CtxLe c c') {s s' : WkM} (hr : RegLe s.regs s'.regs) (k : Nat) (x : Ins) (h : (writeV c s k x).1 = true) : writeV c s k x = writeV c' s' k x := by
  unfold writeV at h ⊢
  have ha := arg_le hr x.ar x.an.toNat
  by_cases h12 : x.op = 12
  · simp only [h12, if_true] at h ⊢
    unfold combM at h ⊢
    cases hak : (argM s x.ar x.an.toNat).k <;> cases hbk : (readM c k).1 <;> simp [hak, hbk] at h
    obtain ⟨h1, h2⟩ := ha hak
    rw [hc.reads k hbk, hbk, h1, h2]
  · simp only [h12, if_false] at h ⊢
    obtain ⟨h1, h2⟩ := ha h
    rw [h1, h2, h]
theorem comp_le {s s' : WkM} (hr : RegLe s.regs s'.regs) (x : Ins) : RegLe (compM s x).regs (compM s' x).regs := by
  unfold compM setM
  dsimp only
  split
  · exact le_set hr _ (arg_le hr _ _)
  · refine le_set hr _ fun h => ?_
    have := comb_le (arg_le hr x.ar x.an.toNat) (arg_le hr x.br x.bn.toNat) (reckM x.op) h
    dsimp only
    rw [this]
    exact ⟨h, rfl⟩
theorem acc_le {c c' : CtxM} (hc : CtxLe c c') {s s' : WkM} (hr : RegLe s.regs s'.regs) (k : Nat) (x : Ins) : RegLe (accM c s k x).regs (accM c' s' k x).regs := by
  rw [acc_regs, acc_regs, ← hc.works]
  split
  · exact le_set hr _ fun h => ⟨by revert h; split <;> simp [numC0], by split <;> rfl⟩
  · split
    · refine le_set hr _ fun h => ?_
      dsimp only at h ⊢
      rw [hc.reads k h]
      exact ⟨h, rfl⟩
    · exact hr
theorem acc_fact {c c' : CtxM} (hc : CtxLe c c') {s s' : WkM} (hr : RegLe s.regs s'.regs) {k : Nat} (hf : FactLe s s' k) (x : Ins) : FactLe (accM c s k x) (accM c' s' k x) (k + 1) := by
  refine ⟨fun j hj h => ?_, fun j hj h => ?_, fun j hj => ?_, fun j hj => ?_, ?_, ?_⟩
  · rw [acc_state, stAt_set] at h ⊢
    rw [acc_state, stAt_set, ← hc.works, ← hf.len]
    split
    · rfl
    · rename_i hn
      rw [if_neg hn] at h
      by_cases hjk : j < k
      · exact hf.st j hjk h
      · exact absurd (hf.st0 j (by omega)) h
  · rw [acc_wr] at h ⊢
    rw [acc_wr, ← hc.works]
    by_cases hw : kwr x.op = true ∧ ¬ (x.op = 14 ∧ worksM c k = false)
    · rw [if_pos hw] at h ⊢
      rw [if_pos hw]
      rw [wrAt_set] at h ⊢
      rw [wrAt_set, ← hf.len2]
      by_cases hjk : j = k ∧ k < s.wr.length
      · rw [if_pos hjk] at h ⊢
        rw [if_pos hjk]
        exact writeV_le hc hr k x h
      · rw [if_neg hjk] at h ⊢
        rw [if_neg hjk]
        by_cases hj2 : j < k
        · exact hf.wr j hj2 h
        · rw [hf.wr0 j (by omega)] at h; cases h
    · rw [if_neg hw] at h ⊢
      rw [if_neg hw]
      by_cases hj2 : j < k
      · exact hf.wr j hj2 h
      · rw [hf.wr0 j (by omega)] at h; cases h
  · rw [acc_state, stAt_set, if_neg (by omega)]; exact hf.st0 j (by omega)
  · rw [acc_wr]
    split
    · rw [wrAt_set, if_neg (by omega)]; exact hf.wr0 j (by omega)
    · exact hf.wr0 j (by omega)
  · rw [acc_state, acc_state]; simp [hf.len]
  · rw [acc_wr, acc_wr, ← hc.works]; split <;> simp [hf.len2]
theorem leave_fact {s s' : WkM} {k : Nat} (hf : FactLe s s' k) (i at' : Nat) : FactLe (leaveM s i at' k true) (leaveM s' i at' k true) (k + 1) := by
  unfold leaveM
  simp only [if_true]
  refine ⟨fun j hj h => ?_, fun j hj h => ?_, fun j hj => ?_, fun j hj => ?_, ?_, ?_⟩
  · dsimp only at h ⊢
    rw [stAt_set] at h ⊢
    rw [stAt_set, ← hf.len]
    split
    · rfl
    · rename_i hn
      rw [if_neg hn] at h
      by_cases hjk : j < k
      · exact hf.st j hjk h
      · exact absurd (hf.st0 j (by omega)) h
  · by_cases hj2 : j < k
    · exact hf.wr j hj2 h
    · have := hf.wr0 j (by omega)
      dsimp only at h
      rw [this] at h; cases h
  · dsimp only; rw [stAt_set, if_neg (by omega)]; exact hf.st0 j (by omega)
  · exact hf.wr0 j (by omega)
  · simp [hf.len]
  · exact hf.len2
/-- what is asked for, of two walks -/
structure Known2 (s s' : WkM) (b : Nat) : Prop where
  st : ∀ j, j < b → stAt s.state j ≠ 0 → stAt s.state j = stAt s'.state j
  wr : ∀ j, j < b → (wrAt s.wr j).1 = true → wrAt s.wr j = wrAt s'.wr j
theorem walk_le {c c' : CtxM} (hc : CtxLe c c') (i : Nat) : ∀ (l : List Ins) (at' k skip : Nat) (s s' : WkM), RegLe s.regs s'.regs → FactLe s s' k →
    Known2 (walkM c i l at' k skip s) (walkM c' i l at' k skip s') (k + memL l)
  | [], at', k, skip, s, s', _, hf => ⟨fun j hj h => hf.st j (by simpa [memL] using hj) h, fun j hj h => hf.wr j (by simpa [memL] using hj) h⟩
  | x :: l, at', k, skip, s, s', hr, hf => by
    have hm : memL (x :: l) = (if isMem x.op then 1 else 0) + memL l := by
      unfold memL
      rw [List.filter_cons]
      split <;> simp <;> omega
    rw [hm, walkM, walkM]
    split
    · cases hx : isMem x.op
      · simp only [Bool.false_eq_true, if_false, Nat.zero_add]
        exact walk_le hc i l (at' + 1) k (skip - 1) (leaveM s i at' k false) (leaveM s' i at' k false) hr ⟨hf.st, hf.wr, hf.st0, hf.wr0, hf.len, hf.len2⟩
      · simp only [if_true]
        rw [show k + (1 + memL l) = k + 1 + memL l by omega]
        exact walk_le hc i l (at' + 1) (k + 1) (skip - 1) (leaveM s i at' k true) (leaveM s' i at' k true) hr (leave_fact hf i at')
    · split
      · rename_i h0 hx
        rw [show k + (1 + memL l) = k + 1 + memL l by omega]
        exact walk_le hc i l (at' + 1) (k + 1) 0 _ _ (acc_le hc hr k x) (acc_fact hc hr hf x)
      · rename_i h0 hx
        simp only [Nat.zero_add]
        split
        · by_cases hb : (brVal s x).1 = true
          · have e : brVal s' x = brVal s x := by
              unfold brVal at hb ⊢
              exact comb_le (arg_le hr x.ar x.an.toNat) (arg_le hr x.br x.bn.toNat) _ hb
            rw [if_pos hb, e, if_pos hb]
            exact walk_le hc i l (at' + 1) k _ (brPath s x) (brPath s' x) hr ⟨hf.st, hf.wr, hf.st0, hf.wr0, hf.len, hf.len2⟩
          · rw [if_neg hb]
            have key : ∀ r : WkM, (∀ j, j < k → stAt r.state j = stAt s'.state j ∧ wrAt r.wr j = wrAt s'.wr j) → Known2 (brPath s x) r (k + memL l) := fun r hr' =>
              ⟨fun j hj h => by
                by_cases hjk : j < k
                · rw [(hr' j hjk).1]; exact hf.st j hjk h
                · exact absurd (hf.st0 j (by omega)) h,
               fun j hj h => by
                by_cases hjk : j < k
                · rw [(hr' j hjk).2]; exact hf.wr j hjk h
                · have e := hf.wr0 j (by omega)
                  have h' : (wrAt s.wr j).1 = true := h
                  rw [e] at h'; cases h'⟩
            split
            · exact key _ fun j hj => walk_frame c' i l (at' + 1) k _ (brPath s' x) j (.inl hj)
            · exact key _ fun j _ => ⟨rfl, rfl⟩
        · split
          · have e : ∀ z : WkM, (compM z x).state = z.state ∧ (compM z x).wr = z.wr := fun z => by
              unfold compM setM
              dsimp only
              split <;> exact ⟨rfl, rfl⟩
            refine walk_le hc i l (at' + 1) k 0 _ _ (comp_le hr x) ?_
            obtain ⟨e1, e2⟩ := e s
            obtain ⟨e3, e4⟩ := e s'
            exact ⟨by rw [e1, e3]; exact hf.st, by rw [e2, e4]; exact hf.wr, by rw [e1]; exact hf.st0, by rw [e2]; exact hf.wr0, by rw [e1, e3]; exact hf.len, by rw [e2, e4]; exact hf.len2⟩
          · exact walk_le hc i l (at' + 1) k 0 s s' hr hf

/-- all threads: facts of both -/
structure FlLe (n : Nat) (f g : FlM) (k : Nat) : Prop where
  st : ∀ j, j < k → stAt f.state j ≠ 0 → stAt f.state j = stAt g.state j
  wr : ∀ j, j < k → (wrAt f.wr j).1 = true → wrAt f.wr j = wrAt g.wr j
  st0 : ∀ j, k ≤ j → stAt f.state j = 0
  wr0 : ∀ j, k ≤ j → wrAt f.wr j = (false, 0)
  len : f.state.length = n
  len2 : f.wr.length = n
  glen : g.state.length = n
  glen2 : g.wr.length = n
  gst : ∀ j, j < k → stAt g.state j ≠ 0
  whole : g.whole = true
theorem regs0_kn : AllKn regs0 := fun j => by
  unfold cnAt regs0
  rw [List.getD_eq_getElem?_getD, List.getElem?_replicate]
  split <;> rfl
theorem vals_kn {l : List Cn} (h : AllKn l) : allK (valsM l) = true := by
  unfold allK valsM
  rw [List.all_eq_true]
  intro p hp
  obtain ⟨c, hc, rfl⟩ := List.mem_map.1 hp
  obtain ⟨j, hj, rfl⟩ := List.mem_iff_getElem.1 hc
  have := h j
  unfold cnAt at this
  rw [List.getD_eq_getElem?_getD, List.getElem?_eq_getElem hj] at this
  exact this
theorem thr_le {c c' : CtxM} (hc : CtxLe c c') (n : Nat) (hf : ∀ k, k < n → (readM c' k).1 = true) (i k : Nat) (l : List Ins) (f g : FlM) (h : FlLe n f g k) (hk : k + memL l ≤ n) :
    FlLe n (thrM c i k l f) (thrM c' i k l g) (k + memL l) := by
  have h1 := walk_le hc i l 0 k 0 (startM f) (startM g) ⟨rfl, fun j h => ⟨h, rfl⟩⟩ ⟨h.st, h.wr, h.st0, h.wr0, h.len.trans h.glen.symm, h.len2.trans h.glen2.symm⟩
  have h2 := walk_full c' n i hf l 0 k 0 (startM g) regs0_kn h.glen hk
  have h3 := len_frame c i l 0 k 0 (startM f)
  have h4 := len_frame c' i l 0 k 0 (startM g)
  refine ⟨h1.st, h1.wr, fun j hj => ?_, fun j hj => ?_, h3.1.trans h.len, h3.2.1.trans h.len2, h4.1.trans h.glen, h4.2.1.trans h.glen2, fun j hj => ?_, ?_⟩
  · show stAt (walkM c i l 0 k 0 (startM f)).state j = 0
    rw [(walk_frame c i l 0 k 0 (startM f) j (.inr hj)).1]
    exact h.st0 j (by omega)
  · show wrAt (walkM c i l 0 k 0 (startM f)).wr j = _
    rw [(walk_frame c i l 0 k 0 (startM f) j (.inr hj)).2]
    exact h.wr0 j (by omega)
  · show stAt (walkM c' i l 0 k 0 (startM g)).state j ≠ 0
    by_cases hjk : j < k
    · rw [(walk_frame c' i l 0 k 0 (startM g) j (.inl hjk)).1]
      exact h.gst j hjk
    · exact h2.2 j (by omega) hj
  · show (g.whole && allK (valsM (walkM c' i l 0 k 0 (startM g)).regs)) = true
    rw [h.whole, vals_kn h2.1]; rfl
theorem thrs_le {c c' : CtxM} (hc : CtxLe c c') (n : Nat) (hf : ∀ k, k < n → (readM c' k).1 = true) : ∀ (t : List (List Ins)) (i k : Nat) (f g : FlM), FlLe n f g k → k + memT t ≤ n →
    FlLe n (thrsM c t i k f) (thrsM c' t i k g) (k + memT t)
  | [], i, k, f, g, h, _ => by simpa [memT, thrsM] using h
  | l :: r, i, k, f, g, h, hk => by
    have e : memT (l :: r) = memL l + memT r := by simp [memT]
    rw [e] at hk ⊢
    rw [thrsM, thrsM, show k + (memL l + memT r) = k + memL l + memT r by omega]
    exact thrs_le hc n hf r (i + 1) (k + memL l) _ _ (thr_le hc n hf i k l f g h (by omega)) (by omega)
theorem stAt_rep (n j : Nat) : stAt (List.replicate n 0) j = 0 := by
  unfold stAt
  rw [List.getD_eq_getElem?_getD, List.getElem?_replicate]
  split <;> rfl
theorem wrAt_rep (n j : Nat) : wrAt (List.replicate n (false, 0)) j = (false, 0) := by
  unfold wrAt
  rw [List.getD_eq_getElem?_getD, List.getElem?_replicate]
  split <;> rfl
/-- what is known stays, and all is known when all that is read is -/
theorem flow_le {c c' : CtxM} (hc : CtxLe c c') (t : List (List Ins)) (hf : ∀ k, k < memT t → (readM c' k).1 = true) : FlLe (memT t) (flowM c t) (flowM c' t) (memT t) := by
  have h := thrs_le hc (memT t) hf t 0 0 (blankM (memT t) t.length true) (blankM (memT t) t.length true)
    ⟨fun j h => by omega, fun j h => by omega, fun j _ => stAt_rep _ j, fun j _ => wrAt_rep _ j, by simp [blankM], by simp [blankM], by simp [blankM], by simp [blankM], fun j h => by omega, rfl⟩ (by omega)
  rw [Nat.zero_add] at h
  exact h
end Go.Proofs.Yteeicedhnojdaaa
