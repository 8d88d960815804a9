/- Relations as rows of bits and as lists of pairs: the same, as mathematics. -/
import Derived.Test.YtbcbhofbikdfiaaDoorPaiJ
namespace Go.Proofs.YtbcbhofbikdfiaaDoor
set_option maxRecDepth 100000
open Go.RowKit M

/-- r and x have the same pairs -/
structure Rp (r : List Nat) (x : List (Nat × Nat)) : Prop where
  wf : R.Wf r
  pq : PQ x
  eq : ∀ a b, R.has r a b = true ↔ (a, b) ∈ x
theorem Rp.zero : Rp R.zeroM [] := ⟨R.zero_wf, PQ.nil, fun a b => by rw [R.has_zero]; simp⟩
theorem Rp.with {r : List Nat} {x : List (Nat × Nat)} (h : Rp r x) {a b : Nat} (ha : a < 16) (hb : b < 16) : Rp (R.withM r a b) (withQ x (a : Int) (b : Int)) :=
  ⟨R.with_wf h.wf ha hb, h.pq.with _ _, fun c d => by
    rw [R.has_with h.wf ha, mem_withQ, ← h.eq, Bool.or_eq_true, Bool.and_eq_true, decide_eq_true_eq, decide_eq_true_eq]
    constructor
    · rintro (h1 | ⟨rfl, rfl⟩)
      · exact .inl h1
      · exact .inr ⟨rfl, ha, hb⟩
    · rintro (h1 | ⟨h1, _⟩)
      · exact .inl h1
      · cases h1; exact .inr ⟨rfl, rfl⟩⟩
theorem Rp.withI {r : List Nat} {x : List (Nat × Nat)} (h : Rp r x) (a b : Int) : Rp (withI r a b) (withQ x a b) := by
  by_cases hab : (0 ≤ a ∧ a < 16) ∧ (0 ≤ b ∧ b < 16)
  · have e : Go.Proofs.YtbcbhofbikdfiaaDoor.withI r a b = R.withM r a.toNat b.toNat := if_pos hab
    rw [e]
    obtain ⟨⟨h1, h2⟩, h3, h4⟩ := hab
    obtain ⟨u, rfl⟩ := Int.eq_ofNat_of_zero_le h1
    obtain ⟨v, rfl⟩ := Int.eq_ofNat_of_zero_le h3
    exact h.with (by omega) (by omega)
  · have e : Go.Proofs.YtbcbhofbikdfiaaDoor.withI r a b = r := if_neg hab
    have e2 : withQ x a b = x := if_neg (fun k => hab ⟨k.1, k.2.1⟩)
    rw [e, e2]; exact h
theorem grow_rp (l : List (Int × Int)) : Rp (growR l) (growX l) := by
  have : ∀ (l : List (Int × Int)) r x, Rp r x → Rp (l.foldl (fun r p => R.withM r (modN p.1) (modN p.2)) r) (l.foldl (fun x p => withQ x ((modN p.1 : Nat) : Int) ((modN p.2 : Nat) : Int)) x) := by
    intro l
    induction l with
    | nil => intro r x h; exact h
    | cons p l ih => intro r x h; exact ih _ _ (h.with (modN_lt _) (modN_lt _))
  exact this l _ _ Rp.zero
theorem mem_tellRow {r : List Nat} {a n : Nat} {p : Nat × Nat} : p ∈ tellRow r a n ↔ p.1 = a ∧ p.2 < n ∧ R.has r a p.2 = true := by
  unfold tellRow
  rw [List.mem_map]
  constructor
  · rintro ⟨b, hb, rfl⟩
    rw [List.mem_filter, List.mem_range] at hb
    exact ⟨rfl, hb.1, hb.2⟩
  · rintro ⟨rfl, h2, h3⟩
    exact ⟨p.2, by rw [List.mem_filter, List.mem_range]; exact ⟨h2, h3⟩, rfl⟩
theorem mem_tellQ {r : List Nat} (hr : R.Wf r) {a b : Nat} : (a, b) ∈ tellQ r ↔ R.has r a b = true := by
  unfold tellQ tellTo
  rw [List.mem_flatMap]
  constructor
  · rintro ⟨c, _, hc⟩
    obtain ⟨h1, _, h3⟩ := mem_tellRow.1 hc
    have e : a = c := h1
    subst e; exact h3
  · intro h
    obtain ⟨h1, h2⟩ := R.has_lt hr h
    exact ⟨a, by simpa using h1, mem_tellRow.2 ⟨rfl, h2, h⟩⟩
theorem tell_nd (r : List Nat) : ∀ k, (tellTo r k).Nodup
  | 0 => by simp [tellTo]
  | k + 1 => by
    rw [tellTo_succ, List.nodup_append]
    refine ⟨tell_nd r k, ?_, fun p hp q hq => ?_⟩
    · unfold tellRow
      rw [List.nodup_iff_pairwise_ne, List.pairwise_map]
      exact (List.nodup_iff_pairwise_ne.1 (List.Nodup.sublist List.filter_sublist List.nodup_range)).imp (fun hne e => hne (by injection e))
    · unfold tellTo at hp
      obtain ⟨c, hc, hp⟩ := List.mem_flatMap.1 hp
      have h1 := (mem_tellRow.1 hp).1
      have h2 := (mem_tellRow.1 hq).1
      have h3 : c < k := by simpa using hc
      intro e
      subst e
      omega
theorem tell_count (r : List Nat) : ∀ k, (tellTo r k).length = countTo r k
  | 0 => by simp [tellTo, countTo]
  | k + 1 => by
    rw [tellTo_succ, List.length_append, countTo_succ, tell_count r k]
    congr 1
    unfold tellRow
    rw [List.length_map]
    rfl
theorem Rp.count {r : List Nat} {x : List (Nat × Nat)} (h : Rp r x) : countTo r 16 = x.length := by
  rw [← tell_count]
  exact ((List.perm_ext_iff_of_nodup (tell_nd r 16) h.pq.nd).2 (fun ⟨a, b⟩ => by rw [← h.eq]; exact mem_tellQ h.wf)).length_eq
theorem same_of {l m : List (Nat × Nat)} (h : ∀ p, p ∈ l ↔ p ∈ m) : sameQ l m = true := by
  have : ∀ {l m : List (Nat × Nat)}, (∀ p, p ∈ l → p ∈ m) → (lessQ l m).length = 0 := fun {l m} h => by
    rw [List.length_eq_zero_iff]
    unfold lessQ
    rw [List.filter_eq_nil_iff]
    intro p hp
    rw [hasQ_iff.2 (h p hp)]; simp
  unfold sameQ
  rw [this (fun p hp => (h p).1 hp), this (fun p hp => (h p).2 hp)]; rfl
theorem Rp.same {r : List Nat} {x : List (Nat × Nat)} (h : Rp r x) : sameQ (tellQ r) x = true := same_of fun ⟨a, b⟩ => by rw [mem_tellQ h.wf]; exact h.eq a b
theorem Rp.has {r : List Nat} {x : List (Nat × Nat)} (h : Rp r x) (a b : Int) : hasI r a b = hasQ x a b := by
  by_cases hab : 0 ≤ a ∧ 0 ≤ b
  · obtain ⟨h1, h2⟩ := hab
    obtain ⟨u, rfl⟩ := Int.eq_ofNat_of_zero_le h1
    obtain ⟨v, rfl⟩ := Int.eq_ofNat_of_zero_le h2
    have e1 : hasI r (u : Int) (v : Int) = R.has r u v := hasI_nat r u v
    show hasI r (u : Int) (v : Int) = hasQ x (u : Int) (v : Int)
    rw [e1, Bool.eq_iff_iff, hasQ_iff]; exact h.eq u v
  · have e1 : hasI r a b = false := by unfold hasI; rw [decide_eq_false hab]; rfl
    rw [e1]
    symm
    apply hasQ_no
    intro i p _ hp
    omega
theorem mem_orQ {m : List (Nat × Nat)} : ∀ {l : List (Nat × Nat)}, PQ m → ∀ p, p ∈ orQ l m ↔ p ∈ l ∨ p ∈ m := by
  induction m with
  | nil => intro l _ p; simp [orQ]
  | cons q m ih =>
    intro l hm p
    have h1 : PQ m := ⟨(List.nodup_cons.1 hm.nd).2, fun p hp => hm.lt p (List.mem_cons_of_mem _ hp)⟩
    have e : orQ l (q :: m) = orQ (withQ l (q.1 : Int) (q.2 : Int)) m := rfl
    rw [e, ih h1, mem_withQ, List.mem_cons]
    have h2 := hm.lt q (by simp)
    constructor
    · rintro ((h | ⟨h, _⟩) | h)
      · exact .inl h
      · exact .inr (.inl h)
      · exact .inr (.inr h)
    · rintro (h | h | h)
      · exact .inl (.inl h)
      · exact .inl (.inr ⟨h, h2⟩)
      · exact .inr h
theorem Rp.or {r s : List Nat} {x y : List (Nat × Nat)} (h : Rp r x) (k : Rp s y) : Rp (R.orM r s) (orQ x y) :=
  ⟨R.or_wf h.wf k.wf, h.pq.or y, fun a b => by rw [R.has_or h.wf k.wf, Bool.or_eq_true, h.eq, k.eq, mem_orQ k.pq]⟩
theorem PQ.filter {l : List (Nat × Nat)} (h : PQ l) (f : Nat × Nat → Bool) : PQ (l.filter f) := ⟨h.nd.sublist List.filter_sublist, fun p hp => h.lt p (List.mem_filter.1 hp).1⟩
theorem Rp.and {r s : List Nat} {x y : List (Nat × Nat)} (h : Rp r x) (k : Rp s y) : Rp (R.andM r s) (andQ x y) :=
  ⟨R.and_wf h.wf, h.pq.filter _, fun a b => by rw [R.has_and h.wf, Bool.and_eq_true, h.eq, k.eq]; unfold andQ; rw [List.mem_filter, hasQ_iff]⟩
theorem Rp.less {r s : List Nat} {x y : List (Nat × Nat)} (h : Rp r x) (k : Rp s y) : Rp (R.lessM r s) (lessQ x y) :=
  ⟨R.less_wf h.wf, h.pq.filter _, fun a b => by
    rw [R.has_less h.wf, Bool.and_eq_true, h.eq]
    unfold lessQ
    rw [List.mem_filter, Bool.not_eq_true', Bool.not_eq_true', ← Bool.not_eq_true, ← Bool.not_eq_true, k.eq, hasQ_iff]⟩
theorem Rp.turn {r : List Nat} {x : List (Nat × Nat)} (h : Rp r x) : Rp (R.turnM r) (turnQ x) :=
  ⟨R.turn_wf h.wf, ⟨by
    unfold turnQ
    rw [List.nodup_iff_pairwise_ne, List.pairwise_map]
    exact (List.nodup_iff_pairwise_ne.1 h.pq.nd).imp (fun {a b} hne e => hne (by injection e with e1 e2; exact Prod.ext e2 e1)), fun p hp => by
    obtain ⟨q, hq, rfl⟩ := List.mem_map.1 hp
    have := h.pq.lt q hq
    exact ⟨this.2, this.1⟩⟩, fun a b => by
    rw [R.has_turn h.wf, h.eq]
    unfold turnQ
    rw [List.mem_map]
    constructor
    · intro hh; exact ⟨(b, a), hh, rfl⟩
    · rintro ⟨q, hq, e⟩
      injection e with e1 e2
      subst e1 e2
      exact hq⟩
theorem mem_thenRow {m : List (Nat × Nat)} (hm : ∀ q ∈ m, q.2 < 16) {p : Nat × Nat} (hp : p.1 < 16) : ∀ {out : List (Nat × Nat)} (z : Nat × Nat), z ∈ thenRow m out p ↔ z ∈ out ∨ (z.1 = p.1 ∧ (p.2, z.2) ∈ m) := by
  induction m with
  | nil => intro out z; simp [thenRow]
  | cons q m ih =>
    intro out z
    have e : thenRow (q :: m) out p = thenRow m (thenStep p out q) p := rfl
    rw [e, ih (fun q hq => hm q (List.mem_cons_of_mem _ hq)), List.mem_cons]
    have h2 := hm q (by simp)
    unfold thenStep
    split
    · rename_i hc
      rw [mem_withQ]
      constructor
      · rintro ((h | ⟨rfl, _⟩) | h)
        · exact .inl h
        · exact .inr ⟨rfl, .inl (Prod.ext hc rfl)⟩
        · exact .inr ⟨h.1, .inr h.2⟩
      · rintro (h | ⟨h, (h1 | h1)⟩)
        · exact .inl (.inl h)
        · refine .inl (.inr ⟨?_, hp, h2⟩)
          have h3 : z.2 = q.2 := by rw [← h1]
          exact Prod.ext h h3
        · exact .inr ⟨h, h1⟩
    · rename_i hc
      constructor
      · rintro (h | h)
        · exact .inl h
        · exact .inr ⟨h.1, .inr h.2⟩
      · rintro (h | ⟨h, (h1 | h1)⟩)
        · exact .inl h
        · exfalso; apply hc; rw [← h1]
        · exact .inr ⟨h, h1⟩
theorem mem_thenQ {l m : List (Nat × Nat)} (hl : ∀ p ∈ l, p.1 < 16) (hm : ∀ q ∈ m, q.2 < 16) (z : Nat × Nat) : z ∈ thenQ l m ↔ ∃ b, (z.1, b) ∈ l ∧ (b, z.2) ∈ m := by
  have : ∀ (l out : List (Nat × Nat)), (∀ p ∈ l, p.1 < 16) → (z ∈ l.foldl (thenRow m) out ↔ z ∈ out ∨ ∃ b, (z.1, b) ∈ l ∧ (b, z.2) ∈ m) := by
    intro l
    induction l with
    | nil => intro out _; simp
    | cons p l ih =>
      intro out h
      rw [List.foldl_cons, ih _ (fun p hp => h p (List.mem_cons_of_mem _ hp)), mem_thenRow hm (h p (by simp))]
      constructor
      · rintro ((h1 | ⟨h1, h2⟩) | ⟨b, h1, h2⟩)
        · exact .inl h1
        · exact .inr ⟨p.2, by rw [h1]; exact List.mem_cons_self, h2⟩
        · exact .inr ⟨b, List.mem_cons_of_mem _ h1, h2⟩
      · rintro (h1 | ⟨b, h1, h2⟩)
        · exact .inl (.inl h1)
        · rcases List.mem_cons.1 h1 with h1 | h1
          · have e1 : z.1 = p.1 := by rw [← h1]
            have e2 : b = p.2 := by rw [← h1]
            exact .inl (.inr ⟨e1, by rw [← e2]; exact h2⟩)
          · exact .inr ⟨b, h1, h2⟩
  unfold thenQ
  rw [this l [] hl]; simp
theorem Rp.then {r s : List Nat} {x y : List (Nat × Nat)} (h : Rp r x) (k : Rp s y) : Rp (R.thenM r s) (thenQ x y) :=
  ⟨R.then_wf h.wf k.wf, PQ.then x y, fun a b => by
    rw [R.has_then h.wf k.wf, mem_thenQ (fun p hp => (h.pq.lt p hp).1) (fun q hq => (k.pq.lt q hq).2)]
    constructor
    · rintro ⟨c, h1, h2⟩; exact ⟨c, (h.eq a c).1 h1, (k.eq c b).1 h2⟩
    · rintro ⟨c, h1, h2⟩; exact ⟨c, (h.eq a c).2 h1, (k.eq c b).2 h2⟩⟩
/-! ### closed -/
theorem mem_closeT {x : List (Nat × Nat)} (h : PQ x) (n : Nat) (z : Nat × Nat) : z ∈ closeT x (n + 1) ↔ z ∈ closeT x n ∨ ∃ b, (z.1, b) ∈ closeT x n ∧ (b, z.2) ∈ x := by
  rw [closeT_succ, mem_orQ (PQ.then _ _), mem_thenQ (fun p hp => ((PQ.close h n).lt p hp).1) (fun q hq => (h.lt q hq).2)]
def reachN (x : List (Nat × Nat)) (a n : Nat) : Nat := ((List.range 16).filter fun c => decide ((a, c) ∈ closeT x n)).length
theorem filter_more {p q : Nat → Bool} {l : List Nat} (h : ∀ c, p c = true → q c = true) {c : Nat} (hc : c ∈ l) (h1 : q c = true) (h2 : p c = false) : (l.filter p).length < (l.filter q).length := by
  have e : l.filter p = (l.filter q).filter p := by
    rw [List.filter_filter]
    apply List.filter_congr
    intro b _
    cases hp : p b with
    | false => simp
    | true => rw [h b hp]; rfl
  rw [e]
  exact List.length_filter_lt_length_iff_exists.2 ⟨c, List.mem_filter.2 ⟨hc, h1⟩, by rw [h2]; simp⟩
theorem reach_closed {x : List (Nat × Nat)} (h : PQ x) (a : Nat) : ∀ n, (∀ b c, (a, b) ∈ closeT x n → (b, c) ∈ x → (a, c) ∈ closeT x n) ∨ n + 1 ≤ reachN x a n
  | 0 => by
    rcases Classical.em (∃ b, (a, b) ∈ closeT x 0) with ⟨b, hb⟩ | hn
    · right
      have hb16 := ((PQ.close h 0).lt _ hb).2
      have : b ∈ (List.range 16).filter fun c => decide ((a, c) ∈ closeT x 0) := List.mem_filter.2 ⟨by simpa using hb16, by simpa using hb⟩
      exact List.length_pos_of_mem this
    · exact .inl fun b c hb => absurd ⟨b, hb⟩ hn
  | n + 1 => by
    rcases Classical.em (∀ b c, (a, b) ∈ closeT x n → (b, c) ∈ x → (a, c) ∈ closeT x n) with hc | hc
    · left
      have same : ∀ c, (a, c) ∈ closeT x (n + 1) → (a, c) ∈ closeT x n := fun c hcc => by
        rcases (mem_closeT h n (a, c)).1 hcc with h1 | ⟨b, h1, h2⟩
        · exact h1
        · exact hc b c h1 h2
      intro b c hb hbc
      exact (mem_closeT h n (a, c)).2 (.inl (hc b c (same b hb) hbc))
    · right
      rcases reach_closed h a n with h1 | h1
      · exact absurd h1 hc
      · have ⟨b, c, hb, hbc, hno⟩ : ∃ b c, (a, b) ∈ closeT x n ∧ (b, c) ∈ x ∧ (a, c) ∉ closeT x n := by
          apply Classical.byContradiction
          intro hne
          apply hc
          intro b c hb hbc
          apply Classical.byContradiction
          intro hno
          exact hne ⟨b, c, hb, hbc, hno⟩
        have hin : (a, c) ∈ closeT x (n + 1) := (mem_closeT h n (a, c)).2 (.inr ⟨b, hb, hbc⟩)
        have hc16 := ((PQ.close h (n + 1)).lt _ hin).2
        have := filter_more (p := fun c => decide ((a, c) ∈ closeT x n)) (q := fun c => decide ((a, c) ∈ closeT x (n + 1))) (l := List.range 16) (fun d hd => by
          simp at hd ⊢
          exact (mem_closeT h n (a, d)).2 (.inl hd)) (by simpa using hc16) (by simpa using hin) (by simpa using hno)
        unfold reachN at h1 ⊢
        omega
theorem close_steps {x : List (Nat × Nat)} (h : PQ x) (a b c : Nat) (hb : (a, b) ∈ closeQ x) (hbc : (b, c) ∈ x) : (a, c) ∈ closeQ x := by
  rcases reach_closed h a 16 with h1 | h1
  · exact h1 b c hb hbc
  · have : reachN x a 16 ≤ 16 := by unfold reachN; exact Nat.le_trans (List.length_filter_le _ _) (by simp)
    omega
theorem Rp.close {r : List Nat} {x : List (Nat × Nat)} (h : Rp r x) : Rp (R.closeM r) (closeQ x) := by
  have hc := R.close_is h.wf
  have up : ∀ n z, z ∈ x → z ∈ closeT x n := by
    intro n
    induction n with
    | zero => intro z hz; exact hz
    | succ n ih => intro z hz; exact (mem_closeT h.pq n z).2 (.inl (ih z hz))
  refine ⟨R.close_wf h.wf, h.pq.close 16, fun a b => ⟨fun hab => ?_, fun hab => ?_⟩⟩
  · refine hc.least (fun a b => (a, b) ∈ closeQ x) (fun a b hh => up 16 _ ((h.eq a b).1 hh)) (fun a b d h1 h2 => ?_) a b hab
    have : ∀ n a b d, (a, b) ∈ closeQ x → (b, d) ∈ closeT x n → (a, d) ∈ closeQ x := by
      intro n
      induction n with
      | zero => intro a b d h1 h2; exact close_steps h.pq a b d h1 h2
      | succ n ih =>
        intro a b d h1 h2
        rcases (mem_closeT h.pq n (b, d)).1 h2 with h3 | ⟨e, h3, h4⟩
        · exact ih a b d h1 h3
        · exact close_steps h.pq a e d (ih a b e h1 h3) h4
    exact this 16 a b d h1 h2
  · have : ∀ n a b, (a, b) ∈ closeT x n → R.has (R.closeM r) a b = true := by
      intro n
      induction n with
      | zero => intro a b h1; exact hc.sub a b ((h.eq a b).2 h1)
      | succ n ih =>
        intro a b h1
        rcases (mem_closeT h.pq n (a, b)).1 h1 with h2 | ⟨d, h2, h3⟩
        · exact ih a b h2
        · exact hc.tr a d b (ih a d h2) (hc.sub d b ((h.eq d b).2 h3))
    exact this 16 a b hab
theorem Rp.round {r : List Nat} {x : List (Nat × Nat)} (h : Rp r x) : R.roundM r = roundQ x := by
  rw [Bool.eq_iff_iff, R.round_iff h.wf]
  unfold roundQ
  rw [List.any_eq_true]
  constructor
  · rintro ⟨a, ha⟩; exact ⟨(a, a), (h.close.eq a a).1 ha, by simp⟩
  · rintro ⟨⟨a, b⟩, h1, h2⟩
    have e : a = b := by simpa using h2
    subst e
    exact ⟨a, (h.close.eq a a).2 h1⟩
end Go.Proofs.YtbcbhofbikdfiaaDoor
