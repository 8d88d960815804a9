/- A region that draws its order: several operations that may come up in whatever order, done at one stroke: what holds behind each set of them is said once. -/
import Derived.Test.YtccjekgbhablpaaRows
import Derived.Deep.RegionHeld
namespace Go.Proofs.Ytccjekgbhablpaa
set_option maxRecDepth 100000
open Go

section
variable {P : Program} {ops : Array Oper} {Q : Exit → Act → World → Prop} {md : Region.Mode} {S : World → Prop}

def topoOk (md : Region.Mode) (ops : Array Oper) (L : Array Bool) : List Nat → List Nat → Bool
  | [], _ => true
  | b :: r, past => (match ops[b]? with | none => false | some o => o.after.all (fun e => !(Region.binds md e) || L.getD e.on false || past.contains e.on)) && topoOk md ops L r (b :: past)
/-- all else waits for all of them -/
def batchOk (md : Region.Mode) (ops : Array Oper) (L : Array Bool) (B : List Nat) : Bool :=
  (List.range ops.size).all (fun j => L.getD j true || B.contains j || (match ops[j]? with
    | none => true
    | some o => B.all (fun b => o.after.any fun e => Region.binds md e && e.on == b) || o.after.any fun e => Region.binds md e && (!(L.getD e.on true) && !(B.contains e.on))))
  && topoOk md ops L B [] && B.all (fun b => !(L.getD b true))
def fillL (L : Array Bool) (B : List Nat) : Array Bool := B.foldl (fun l i => l.setIfInBounds i true) L

theorem getD_fill (B : List Nat) : ∀ (L : Array Bool), (fillL L B).size = L.size ∧ ∀ j, (fillL L B).getD j true = (L.getD j true || B.contains j) := by
  induction B with
  | nil => intro L; exact ⟨rfl, fun j => by simp [fillL]⟩
  | cons b r ih =>
    intro L
    obtain ⟨h1, h2⟩ := ih (L.setIfInBounds b true)
    refine ⟨by unfold fillL at h1 ⊢; simpa using h1, fun j => ?_⟩
    have := h2 j
    unfold fillL at this ⊢
    rw [List.foldl_cons, this]
    by_cases hb : b = j
    · subst hb
      by_cases hl : b < L.size
      · simp [hl]
      · simp [hl]
    · have e : (L.setIfInBounds b true).getD j true = L.getD j true := getD_set_ne true hb
      rw [e]
      have : (b :: r).contains j = r.contains j := by
        simp [Ne.symm hb]
      rw [this]
theorem topo_ready (L L' : Array Bool) (R : Nat → Bool) : ∀ (B past : List Nat), topoOk md ops L B past = true → (∀ b ∈ past, L'.getD b false = true) → (∀ j, L.getD j false = true → L'.getD j false = true) →
    (∀ b ∈ B, R b = false → L'.getD b false = true) → (∀ b ∈ B, R b = true → L'.getD b true = false) → (∃ b ∈ B, R b = true) → Region.ready md ops L' ≠ []
  | [], _, _, _, _, _, _, h => by obtain ⟨b, hb, _⟩ := h; cases hb
  | b :: r, past, ht, hp, hL, h0, h1, h => by
    rw [topoOk, Bool.and_eq_true] at ht
    cases hb : R b with
    | true =>
      have hm : b ∈ Region.ready md ops L' := by
        rw [mem_ready]
        refine ⟨h1 b (by simp) hb, ?_⟩
        cases ho : ops[b]? with
        | none => rw [ho] at ht; exact absurd ht.1 (by simp)
        | some o =>
          refine ⟨o, rfl, fun e he hbe => ?_⟩
          rw [ho] at ht
          have := ht.1
          simp only [Array.all_eq_true_iff_forall_mem] at this
          have := this e he
          simp only [Bool.or_eq_true, Bool.not_eq_true', hbe, Bool.true_eq_false, false_or] at this
          rcases this with h | h
          · exact hL _ h
          · exact hp _ (by simpa using h)
      intro e; rw [e] at hm; cases hm
    | false =>
      obtain ⟨c, hc, hcR⟩ := h
      refine topo_ready L L' R r (b :: past) ht.2 (fun x hx => ?_) hL (fun x hx => h0 x (by simp [hx])) (fun x hx => h1 x (by simp [hx])) ⟨c, ?_, hcR⟩
      · rcases List.mem_cons.1 hx with rfl | hx
        · exact h0 _ (by simp) hb
        · exact hp x hx
      · rcases List.mem_cons.1 hc with rfl | hc
        · rw [hb] at hcR; cases hcR
        · exact hc

/-- the rule -/
theorem wpAnyH_batch {L : Array Bool} (B : List Nat) (Lf : Array Bool) (fuel : Nat) (J : (Nat → Bool) → Act → World → Prop) (hok : batchOk md ops L B = true) (hLf : fillL L B = Lf) (hnd : B.Nodup)
    (hJ : ∀ i ∈ B, ∀ (R : Nat → Bool) (a : Act) (w : World), J R a w → R i = true → wpOp P ops Q i (fun a' w' => S w' ∧ J (fun j => R j && j != i) a' w') a w)
    (hend : ∀ R a w, J R a w → (∀ b ∈ B, R b = false) → wpAnyH P md ops Q S fuel Lf a w) :
    ∀ (n : Nat) (R : Nat → Bool) (L' : Array Bool) (a : Act) (w : World), (B.filter R).length = n → L'.size = L.size → (∀ j, L'.getD j true = (L.getD j true || (B.contains j && !(R j)))) → J R a w →
      wpAnyH P md ops Q S (fuel + n) L' a w := by
  unfold batchOk at hok
  simp only [Bool.and_eq_true] at hok
  obtain ⟨⟨hblk, htop⟩, hun⟩ := hok
  have hun' : ∀ b ∈ B, L.getD b true = false := fun b hb => by
    have := List.all_eq_true.1 hun b hb
    simpa using this
  have lt_of : ∀ (A : Array Bool) j, A.getD j true = false → j < A.size := fun A j h => by
    rcases Nat.lt_or_ge j A.size with e | e
    · exact e
    · simp [Array.getElem?_eq_none e] at h
  have two : ∀ (A : Array Bool) j, A.getD j false = true ↔ (j < A.size ∧ A.getD j true = true) := fun A j => by
    rcases Nat.lt_or_ge j A.size with e | e
    · simp [e]
    · simp [Nat.not_lt.2 e]
  intro n
  induction n with
  | zero =>
    intro R L' a w hn hs hl hJR
    have h0 : ∀ b ∈ B, R b = false := fun b hb => by
      cases h : R b with
      | false => rfl
      | true =>
        have : b ∈ B.filter R := List.mem_filter.2 ⟨hb, h⟩
        rw [List.eq_nil_of_length_eq_zero hn] at this
        cases this
    have e : L' = Lf := by
      rw [← hLf]
      obtain ⟨f1, f2⟩ := getD_fill B L
      apply Array.ext
      · rw [f1, hs]
      · intro i hi1 hi2
        have a1 := hl i
        have a2 := f2 i
        have : (B.contains i && !(R i)) = B.contains i := by
          cases hc : B.contains i with
          | false => rfl
          | true => rw [h0 i (by simpa using hc)]; rfl
        rw [this] at a1
        rw [← a2] at a1
        simpa [hi1, hi2] using a1
    rw [e]
    exact hend R a w hJR h0
  | succ n ih =>
    intro R L' a w hn hs hl hJR
    obtain ⟨c, hc, hcR⟩ : ∃ b ∈ B, R b = true := by
      have : 0 < (B.filter R).length := by omega
      obtain ⟨c, hc⟩ := List.exists_mem_of_length_pos this
      exact ⟨c, (List.mem_filter.1 hc).1, (List.mem_filter.1 hc).2⟩
    have hB1 : ∀ b ∈ B, R b = true → L'.getD b true = false := fun b hb hr => by
      rw [hl b, hun' b hb, hr]; simp
    have hB0 : ∀ b ∈ B, R b = false → L'.getD b false = true := fun b hb hr => by
      rw [two]
      refine ⟨?_, ?_⟩
      · rw [hs]; exact lt_of L b (hun' b hb)
      · rw [hl b, hr]; simp [hb]
    have hL' : ∀ j, L.getD j false = true → L'.getD j false = true := fun j hj => by
      rw [two] at hj ⊢
      exact ⟨by rw [hs]; exact hj.1, by rw [hl j, hj.2]; rfl⟩
    have hne := topo_ready (md := md) (ops := ops) L L' R B [] htop (fun _ h => by cases h) hL' hB0 hB1 ⟨c, hc, hcR⟩
    rw [show fuel + (n + 1) = fuel + n + 1 by omega]
    refine ⟨fun h => absurd h hne, fun i hi => ?_⟩
    rw [mem_ready] at hi
    obtain ⟨hi0, o, ho, hall⟩ := hi
    have hiL : L.getD i true = false := by
      have := hl i
      rw [hi0] at this
      cases h : L.getD i true with
      | false => rfl
      | true => rw [h] at this; simp at this
    have hsz : i < ops.size := (Array.getElem?_eq_some_iff.1 ho).1
    have hiB : i ∈ B := by
      have := List.all_eq_true.1 hblk i (List.mem_range.2 hsz)
      rw [hiL, ho] at this
      cases hcB : B.contains i with
      | true => simpa using hcB
      | false =>
        rw [hcB] at this
        simp only [Bool.false_or, Bool.or_eq_true] at this
        rcases this with h | h
        · have h2 := List.all_eq_true.1 h c hc
          obtain ⟨e, he, h3⟩ := Array.any_eq_true'.1 h2
          simp only [Bool.and_eq_true, beq_iff_eq] at h3
          have h4 := hall e he h3.1
          rw [h3.2, two] at h4
          rw [hB1 c hc hcR] at h4
          exact absurd h4.2 (by simp)
        · obtain ⟨e, he, h3⟩ := Array.any_eq_true'.1 h
          simp only [Bool.and_eq_true, Bool.not_eq_true'] at h3
          have h4 := hall e he h3.1
          rw [two] at h4
          have h5 := hl e.on
          rw [h4.2, h3.2.1, h3.2.2] at h5
          exact absurd h5 (by simp)
    have hiR : R i = true := by
      have := hl i
      rw [hi0, hiL] at this
      cases h : R i with
      | true => rfl
      | false => rw [h] at this; simp [hiB] at this
    refine wpOp_mono (fun a' w' h => ⟨h.1, ih (fun j => R j && j != i) (L'.setIfInBounds i true) a' w' ?_ (by simp [hs]) (fun j => ?_) h.2⟩) (hJ i hiB R a w hJR hiR)
    · have e : B.filter (fun j => R j && j != i) = (B.filter R).erase i := by
        rw [List.Nodup.erase_eq_filter (hnd.filter _), List.filter_filter]
        apply List.filter_congr
        intro x _
        rw [Bool.and_comm]
      rw [e, List.length_erase_of_mem (List.mem_filter.2 ⟨hiB, hiR⟩), hn]
      omega
    · by_cases hj : i = j
      · subst hj
        have hlt : i < L'.size := by rw [hs]; exact lt_of L i hiL
        simp [hlt, hiB]
      · have e : (L'.setIfInBounds i true).getD j true = L'.getD j true := getD_set_ne true hj
        rw [e, hl j]
        have : (j != i) = true := by simp [Ne.symm hj]
        rw [this, Bool.and_true]
/-- the rule, at its beginning -/
theorem wpAnyH_batch0 {L : Array Bool} {a : Act} {w : World} {F : Nat} (B : List Nat) (Lf : Array Bool) (fuel : Nat) (J : (Nat → Bool) → Act → World → Prop) (hF : F = fuel + B.length) (hok : batchOk md ops L B = true) (hLf : fillL L B = Lf) (hnd : B.Nodup)
    (hJ0 : J (fun _ => true) a w)
    (hJ : ∀ i ∈ B, ∀ (R : Nat → Bool) (a : Act) (w : World), J R a w → R i = true → wpOp P ops Q i (fun a' w' => S w' ∧ J (fun j => R j && j != i) a' w') a w)
    (hend : ∀ R a w, J R a w → (∀ b ∈ B, R b = false) → wpAnyH P md ops Q S fuel Lf a w) : wpAnyH P md ops Q S F L a w := by
  rw [hF]
  exact wpAnyH_batch B Lf fuel J hok hLf hnd hJ hend B.length (fun _ => true) L a w (by simp) rfl (fun j => by simp) hJ0
/-- one of them comes up; what follows is kept from the walk -/
theorem wpOp_stepS {i : Nat} {o : Oper} {a : Act} {w : World} {K : Act → World → Prop} (ho : ops[i]? = some o)
    (h : ∀ K' : Act → World → Prop, Shut (∀ a w, K a w → K' a w) → if Region.wanted o (yielded ops a.tmps) = true then Oper.wp P o a w K' Q else K' (a.put o.dst undef) w) : wpOp P ops Q i K a w :=
  wpOp_step ho (fun K' hK => h K' hK)
end
end Go.Proofs.Ytccjekgbhablpaa
