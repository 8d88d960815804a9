/- WalC, WalD, in one text. -/
import Derived.Test.YtdffpbfllekcgaaGreatDoorHj
import Derived.Test.YtdffpbfllekcgaaGreatDoorHo
namespace Go.Proofs.YtdffpbfllekcgaaGreatDoor
set_option maxRecDepth 100000
open Go.RowKit M

/-- a file: the number of its first record, which file it is, its records -/
structure Seg where
  q : Nat
  f : Nat
  rs : List (List Nat)
def ents (l : List Seg) : KL := l.map fun g => (nameM g.q, g.f)
def recs (l : List Seg) : List (List Nat) := l.flatMap (·.rs)
/-- files one behind the other, none without records -/
def ChainQ : Nat → List Seg → Prop
  | _, [] => True
  | q, g :: l => g.q = q ∧ g.rs ≠ [] ∧ ChainQ (q + g.rs.length) l
theorem chain_cons (q : Nat) (g : Seg) (l : List Seg) : ChainQ q (g :: l) ↔ (g.q = q ∧ g.rs ≠ [] ∧ ChainQ (q + g.rs.length) l) := Iff.rfl
def foldP (S : DS) (p : Nat) : KL := (S.chg.take p).foldl (fun l c => c.app l) S.safe

theorem ents_append (a b : List Seg) : ents (a ++ b) = ents a ++ ents b := by simp [ents]
theorem recs_append (a b : List Seg) : recs (a ++ b) = recs a ++ recs b := by simp [recs]
theorem recs_cons (g : Seg) (b : List Seg) : recs (g :: b) = g.rs ++ recs b := by simp [recs]
theorem recs_nil : recs [] = [] := rfl
theorem chain_append (a b : List Seg) : ∀ q, ChainQ q (a ++ b) ↔ ChainQ q a ∧ ChainQ (q + (recs a).length) b := by
  induction a with
  | nil => intro q; simp [ChainQ, recs_nil]
  | cons g a ih =>
    intro q
    rw [List.cons_append, chain_cons, chain_cons, ih, recs_cons, List.length_append, and_assoc, and_assoc, show q + g.rs.length + (recs a).length = q + (g.rs.length + (recs a).length) by omega]
theorem chain_mem {l : List Seg} : ∀ {q : Nat}, ChainQ q l → ∀ g ∈ l, q ≤ g.q ∧ g.q + g.rs.length ≤ q + (recs l).length ∧ 0 < g.rs.length := by
  induction l with
  | nil => intro q _ g hg; exact nomatch hg
  | cons x l ih =>
    intro q h g hg
    obtain ⟨h1, h2, h3⟩ := h
    have hx : 0 < x.rs.length := by
      cases e : x.rs with
      | nil => exact absurd e h2
      | cons _ _ => simp
    rw [recs_cons, List.length_append]
    rcases List.mem_cons.1 hg with rfl | hg
    · omega
    · obtain ⟨a, b, c⟩ := ih h3 g hg
      omega
/-- the numbers of a chain rise -/
theorem chain_rise {l : List Seg} : ∀ {q : Nat}, ChainQ q l → l.Pairwise (fun a b => a.q < b.q) := by
  induction l with
  | nil => intro q _; exact List.Pairwise.nil
  | cons x l ih =>
    intro q h
    obtain ⟨h1, h2, h3⟩ := h
    have hx : 0 < x.rs.length := by
      cases e : x.rs with
      | nil => exact absurd e h2
      | cons _ _ => simp
    exact List.pairwise_cons.2 ⟨fun g hg => by have := (chain_mem h3 g hg).1; omega, ih h3⟩

/-- files of which the last one has no records yet, or none that are whole -/
def ExtOk (S : DS) (q0 : Nat) (base : List Seg) (n : Nat) (ext : List Seg) : Prop :=
  ext = [] ∨ ∃ g, ext = [g] ∧ g.rs = [] ∧ HoldsR (S.file g.f).data g.q [] ∧ (base ≠ [] ∨ q0 = 1 → g.q = q0 + (recs base).length) ∧ 1 ≤ g.q ∧ g.q ≤ n ∧ g.f ≤ S.made ∧ ∀ x ∈ base, x.f ≠ g.f
structure Inv (S : DS) (q0 : Nat) (base : List Seg) (n : Nat) : Prop where
  n1 : n ≤ bigQ
  q1 : 1 ≤ q0
  chain : ChainQ q0 base
  small : ∀ g ∈ base, Small g.rs
  holds : ∀ g ∈ base, HoldsR (S.file g.f).data g.q g.rs
  fs : (base.map (·.f)).Nodup
  fle : ∀ g ∈ base, g.f ≤ S.made
  bound : q0 + (recs base).length ≤ n
  views : ∀ p, p ≤ S.chg.length → ∃ ext, (foldP S p).Perm (ents (base ++ ext)) ∧ ExtOk S q0 base n ext
structure Now (S : DS) (q0 : Nat) (base : List Seg) (n : Nat) (ext : List Seg) : Prop where
  names : S.names.Perm (ents (base ++ ext))
  last : (foldP S S.chg.length).Perm (ents (base ++ ext))
  ok : ExtOk S q0 base n ext
  named : ∀ g ∈ base ++ ext, (S.file g.f).named = true
/-- all records are safe -/
def Full (S : DS) (l : List Seg) : Prop := ∀ g ∈ l, (frs g.q g.rs).length ≤ (S.file g.f).safe

/-! ### lists of files -/
theorem ext_rise {S : DS} {q0 : Nat} {base : List Seg} {n : Nat} {ext : List Seg} (hc : ChainQ q0 base) (hx : ExtOk S q0 base n ext) : (base ++ ext).Pairwise (fun a b => a.q < b.q) := by
  rcases hx with rfl | ⟨g, rfl, _, _, hg, _⟩
  · rw [List.append_nil]; exact chain_rise hc
  · refine List.pairwise_append.2 ⟨chain_rise hc, List.pairwise_singleton _ _, fun a ha b hb => ?_⟩
    rw [List.mem_singleton] at hb
    subst hb
    have := chain_mem hc a ha
    rw [hg (.inl (fun e => by rw [e] at ha; exact nomatch ha))]
    omega
theorem ext_small {S : DS} {q0 : Nat} {base : List Seg} {n : Nat} {ext : List Seg} (hc : ChainQ q0 base) (hb : q0 + (recs base).length ≤ n) (hx : ExtOk S q0 base n ext) : ∀ g ∈ base ++ ext, g.q ≤ n := by
  intro g hg
  rcases List.mem_append.1 hg with hg | hg
  · have := chain_mem hc g hg; omega
  · rcases hx with rfl | ⟨x, rfl, _, _, _, _, h, _⟩
    · exact nomatch hg
    · rw [List.mem_singleton] at hg; rw [hg]; exact h
theorem ext_fs {S : DS} {q0 : Nat} {base : List Seg} {n : Nat} {ext : List Seg} (hf : (base.map (·.f)).Nodup) (hx : ExtOk S q0 base n ext) : ((base ++ ext).map (·.f)).Nodup := by
  rcases hx with rfl | ⟨g, rfl, _, _, _, _, _, _, hg⟩
  · rw [List.append_nil]; exact hf
  · rw [List.map_append]
    refine List.nodup_append.2 ⟨hf, by simp, fun a ha b hb => ?_⟩
    simp only [List.map_cons, List.map_nil, List.mem_singleton] at hb
    subst hb
    obtain ⟨x, hx, rfl⟩ := List.mem_map.1 ha
    exact hg x hx
theorem ents_keys {l : List Seg} {n : Nat} (hn : n ≤ bigQ) (h : l.Pairwise (fun a b => a.q < b.q)) (hl : ∀ g ∈ l, g.q ≤ n) : ((ents l).map (·.1)).Nodup := by
  unfold ents
  rw [List.map_map]
  have : (l.map fun g => nameM g.q).Nodup := by
    refine (List.pairwise_map.2 ?_ : List.Pairwise (fun a b => a ≠ b) _)
    refine List.Pairwise.imp_of_mem (fun {a b} ha hb hab e => ?_) h
    have := nameM_inj (by have := hl a ha; unfold bigQ at hn; omega) (by have := hl b hb; unfold bigQ at hn; omega) e
    omega
  exact this
theorem kget_ents {N : KL} {l : List Seg} (hp : N.Perm (ents l)) (hk : ((ents l).map (·.1)).Nodup) {g : Seg} (hg : g ∈ l) : kget N (nameM g.q) = some g.f :=
  kget_mem ((hp.map (·.1)).nodup_iff.2 hk) (hp.mem_iff.2 (List.mem_map.2 ⟨g, hg, rfl⟩))
theorem kget_away {N : KL} {l : List Seg} (hp : N.Perm (ents l)) {k : ByteArray} (h : ∀ g ∈ l, nameM g.q ≠ k) : kget N k = none :=
  kget_none.2 fun n hn => by
    obtain ⟨g, hg, e⟩ := List.mem_map.1 (hp.mem_iff.1 hn)
    exact h g hg (congrArg Prod.fst e)
theorem kget_empty {N : KL} {l : List Seg} (hp : N.Perm (ents l)) : kget N ⟨#[]⟩ = none :=
  kget_away hp fun g _ e => by have := congrArg ByteArray.size e; rw [nameM_size] at this; cases this
/-- a name goes -/
theorem kdel_ents {N : KL} {a b : List Seg} {g : Seg} {n : Nat} (hn : n ≤ bigQ) (hp : N.Perm (ents (a ++ g :: b))) (hr : (a ++ g :: b).Pairwise (fun a b => a.q < b.q)) (hl : ∀ x ∈ a ++ g :: b, x.q ≤ n) : (kdel N (nameM g.q)).Perm (ents (a ++ b)) := by
  have h1 : (kdel N (nameM g.q)).Perm (kdel (ents (a ++ g :: b)) (nameM g.q)) := hp.filter _
  have hne : ∀ x ∈ a ++ b, nameM x.q ≠ nameM g.q := fun x hx e => by
    have hx' : x ∈ a ++ g :: b := by
      rcases List.mem_append.1 hx with h | h
      · exact List.mem_append.2 (.inl h)
      · exact List.mem_append.2 (.inr (List.mem_cons_of_mem _ h))
    have hg' : g ∈ a ++ g :: b := List.mem_append.2 (.inr List.mem_cons_self)
    have e' := nameM_inj (by have := hl x hx'; unfold bigQ at hn; omega) (by have := hl g hg'; unfold bigQ at hn; omega) e
    obtain ⟨_, p2, p3⟩ := List.pairwise_append.1 hr
    obtain ⟨p4, _⟩ := List.pairwise_cons.1 p2
    rcases List.mem_append.1 hx with h | h
    · have := p3 x h g List.mem_cons_self; omega
    · have := p4 x h; omega
  have h2 : kdel (ents (a ++ g :: b)) (nameM g.q) = ents (a ++ b) := by
    unfold kdel ents
    rw [List.map_append, List.filter_append, List.map_cons, List.filter_cons, if_neg (by simp [ba_self]), List.map_append]
    congr 1
    · refine List.filter_eq_self.2 fun p hp => ?_
      obtain ⟨x, hx, rfl⟩ := List.mem_map.1 hp
      have := hne x (List.mem_append.2 (.inl hx))
      simp [(ba_bne _ _).2 this]
    · refine List.filter_eq_self.2 fun p hp => ?_
      obtain ⟨x, hx, rfl⟩ := List.mem_map.1 hp
      have := hne x (List.mem_append.2 (.inr hx))
      simp [(ba_bne _ _).2 this]
  rw [h2] at h1
  exact h1
/-- a name comes -/
theorem kput_ents {N : KL} {a : List Seg} {g : Seg} (hp : N.Perm (ents a)) (h : ∀ x ∈ a, nameM x.q ≠ nameM g.q) : (kput N (nameM g.q) g.f).Perm (ents (a ++ [g])) := by
  unfold kput
  rw [kdel_absent (kget_away hp h), ents_append]
  exact (List.Perm.cons _ hp).trans (List.perm_append_comm (l₁ := [(nameM g.q, g.f)]) (l₂ := ents a))
theorem app_create {N : KL} {a : List Seg} {g : Seg} {o : Option Nat} (hp : N.Perm (ents a)) (h : ∀ x ∈ a, nameM x.q ≠ nameM g.q) : ((⟨⟨#[]⟩, nameM g.q, g.f, o⟩ : Chg).app N).Perm (ents (a ++ [g])) := by
  unfold Chg.app
  rw [if_neg (by show ¬ (nameM g.q).size = 0; rw [nameM_size]; decide)]
  show (kput (kdel N ⟨#[]⟩) (nameM g.q) g.f).Perm _
  rw [kdel_absent (kget_empty hp)]
  exact kput_ents hp h
theorem app_remove {N : KL} {a b : List Seg} {g : Seg} {n f : Nat} {o : Option Nat} (hn : n ≤ bigQ) (hp : N.Perm (ents (a ++ g :: b))) (hr : (a ++ g :: b).Pairwise (fun a b => a.q < b.q)) (hl : ∀ x ∈ a ++ g :: b, x.q ≤ n) : ((⟨nameM g.q, ⟨#[]⟩, f, o⟩ : Chg).app N).Perm (ents (a ++ b)) := by
  unfold Chg.app
  rw [if_pos (by rfl)]
  exact kdel_ents hn hp hr hl

theorem foldP_snoc {S S' : DS} {c : Chg} (hs : S'.safe = S.safe) (hc : S'.chg = S.chg ++ [c]) : (∀ p, p ≤ S.chg.length → foldP S' p = foldP S p) ∧ foldP S' S'.chg.length = c.app (foldP S S.chg.length) := by
  refine ⟨fun p hp => ?_, ?_⟩
  · unfold foldP; rw [hs, hc, List.take_append_of_le_length hp]
  · unfold foldP; rw [hs, hc, List.take_length, List.take_length, List.foldl_append]; rfl

/-! ### files change, names don't -/
theorem ExtOk.move {S S' : DS} {q0 : Nat} {base : List Seg} {n n' : Nat} {ext : List Seg} (h : ExtOk S q0 base n ext) (hd : ∀ i, i ≤ S.made → (S'.file i).data = (S.file i).data) (hm : S.made ≤ S'.made) (hn : n ≤ n') : ExtOk S' q0 base n' ext := by
  rcases h with h | ⟨g, a1, a2, a3, a4, a5, a6, a7, a8⟩
  · exact .inl h
  · exact .inr ⟨g, a1, a2, by rw [hd _ a7]; exact a3, a4, a5, Nat.le_trans a6 hn, Nat.le_trans a7 hm, a8⟩
/-- what only touches switches and what is safe of a file -/
structure SameN (S S' : DS) : Prop where
  names : S'.names = S.names
  safe : S'.safe = S.safe
  chg : S'.chg = S.chg
  made : S'.made = S.made
  data : ∀ i, (S'.file i).data = (S.file i).data
  named : ∀ i, (S'.file i).named = (S.file i).named
  more : ∀ i m, m ≤ (S.file i).data.length → m ≤ (S.file i).safe → m ≤ (S'.file i).safe
theorem Inv.same {S S' : DS} {q0 : Nat} {base : List Seg} {n n' : Nat} (h : Inv S q0 base n) (k : SameN S S') (hn : n ≤ n') (hn' : n' ≤ bigQ) : Inv S' q0 base n' := by
  refine ⟨hn', h.q1, h.chain, h.small, fun g hg => by rw [k.data]; exact h.holds g hg, h.fs, fun g hg => by rw [k.made]; exact h.fle g hg, Nat.le_trans h.bound hn, fun p hp => ?_⟩
  rw [k.chg] at hp
  obtain ⟨ext, a, b⟩ := h.views p hp
  exact ⟨ext, by unfold foldP; rw [k.safe, k.chg]; exact a, b.move (fun i _ => k.data i) (Nat.le_of_eq k.made.symm) hn⟩
theorem Now.same {S S' : DS} {q0 : Nat} {base : List Seg} {n n' : Nat} {ext : List Seg} (h : Now S q0 base n ext) (k : SameN S S') (hn : n ≤ n') : Now S' q0 base n' ext := by
  refine ⟨by rw [k.names]; exact h.names, ?_, h.ok.move (fun i _ => k.data i) (Nat.le_of_eq k.made.symm) hn, fun g hg => by rw [k.named]; exact h.named g hg⟩
  have := h.last
  unfold foldP at this ⊢
  rw [k.safe, k.chg]; exact this
theorem Full.same {S S' : DS} {l : List Seg} (h : Full S l) (k : SameN S S') (hd : ∀ g ∈ l, (frs g.q g.rs).length ≤ (S.file g.f).data.length) : Full S' l := fun g hg => by
  exact k.more g.f _ (hd g hg) (h g hg)
theorem Inv.frs_le {S : DS} {q0 : Nat} {base : List Seg} {n : Nat} (h : Inv S q0 base n) : ∀ g ∈ base, (frs g.q g.rs).length ≤ (S.file g.f).data.length := fun g hg => by
  obtain ⟨t, e, _⟩ := h.holds g hg
  rw [e, List.length_append]; omega
theorem same_begin (S : DS) : SameN S (beginS S) := by
  obtain ⟨a, b, c, d, e⟩ := beginS_keeps S
  exact ⟨a, b, c, d, fun i => by rw [e], fun i => by rw [e], fun i m _ h => by rw [e]; exact h⟩
theorem SameN.trans {a b c : DS} (h : SameN a b) (k : SameN b c) : SameN a c :=
  ⟨k.names.trans h.names, k.safe.trans h.safe, k.chg.trans h.chg, k.made.trans h.made, fun i => (k.data i).trans (h.data i), fun i => (k.named i).trans (h.named i), fun i m h1 h2 => k.more i m (by rw [h.data]; exact h1) (h.more i m h1 h2)⟩
theorem SameN.refl (a : DS) : SameN a a := ⟨rfl, rfl, rfl, rfl, fun _ => rfl, fun _ => rfl, fun _ _ _ h => h⟩
theorem same_syncF (S : DS) (f : Nat) : SameN S (syncF S f) := by
  refine ⟨rfl, rfl, rfl, rfl, fun i => ?_, fun i => ?_, fun i m h1 h2 => ?_⟩
  · show (if i = f then (⟨(S.file f).data, (S.file f).data.length, (S.file f).named⟩ : FileS) else S.file i).data = _
    by_cases e : i = f
    · rw [if_pos e, e]
    · rw [if_neg e]
  · show (if i = f then (⟨(S.file f).data, (S.file f).data.length, (S.file f).named⟩ : FileS) else S.file i).named = _
    by_cases e : i = f
    · rw [if_pos e, e]
    · rw [if_neg e]
  · show m ≤ (if i = f then (⟨(S.file f).data, (S.file f).data.length, (S.file f).named⟩ : FileS) else S.file i).safe
    by_cases e : i = f
    · rw [if_pos e]; show m ≤ (S.file f).data.length; rw [← e]; exact h1
    · rw [if_neg e]; exact h2
end Go.Proofs.YtdffpbfllekcgaaGreatDoor
namespace Go.Proofs.YtdffpbfllekcgaaGreatDoor
set_option maxRecDepth 100000
open Go.RowKit M

/-- the first s records are safe -/
def SafeN (S : DS) (base : List Seg) (s : Nat) : Prop :=
  (Full S base ∧ s ≤ (recs base).length) ∨
  (S.chg = [] ∧ S.names.length = base.length ∧ ∃ init g j, base = init ++ [g] ∧ Full S init ∧ j ≤ g.rs.length ∧ s ≤ (recs init).length + j ∧ (frs g.q (g.rs.take j)).length ≤ (S.file g.f).safe)
theorem SafeN.le {S : DS} {base : List Seg} {s s' : Nat} (h : SafeN S base s) (hs : s' ≤ s) : SafeN S base s' := by
  rcases h with ⟨a, b⟩ | ⟨a, b, init, g, j, c1, c2, c3, c4, c5⟩
  · exact .inl ⟨a, by omega⟩
  · exact .inr ⟨a, b, init, g, j, c1, c2, c3, by omega, c5⟩
theorem SafeN.bound {S : DS} {base : List Seg} {s : Nat} (h : SafeN S base s) : s ≤ (recs base).length := by
  rcases h with ⟨a, b⟩ | ⟨a, b, init, g, j, c1, c2, c3, c4, c5⟩
  · exact b
  · rw [c1, recs_append, List.length_append, recs_cons, List.length_append]; omega
theorem SafeN.same {S S' : DS} {q0 n : Nat} {base : List Seg} {s : Nat} (h : SafeN S base s) (hi : Inv S q0 base n) (k : SameN S S') : SafeN S' base s := by
  have fl := hi.frs_le
  rcases h with ⟨a, b⟩ | ⟨a, b, init, g, j, c1, c2, c3, c4, c5⟩
  · exact .inl ⟨a.same k fl, b⟩
  · refine .inr ⟨by rw [k.chg]; exact a, by rw [k.names]; exact b, init, g, j, c1, c2.same k (fun x hx => fl x (by rw [c1]; exact List.mem_append.2 (.inl hx))), c3, c4, k.more _ _ ?_ c5⟩
    have e := frs_take_le g.rs g.q j g.rs.length c3
    rw [List.take_length] at e
    exact Nat.le_trans e (fl g (by rw [c1]; simp))

/-! ### a new file -/
theorem ren_free (S : DS) (src dst : ByteArray) (f : Nat) (he : kget S.names dst = none) (i : Nat) : (renS S src dst f).file i = if i = f then { S.file f with named := decide (dst.size ≠ 0) } else S.file i := by
  unfold renS
  have e : S.unname (kget S.names dst) = S := by rw [he]; rfl
  show ((S.unname (kget S.names dst)).setF f _).file i = _
  rw [e]
  rfl
theorem new_file (S : DS) (name : ByteArray) (hn : kget S.names name = none) (hs : name.size ≠ 0) (i : Nat) : (newF S name).file i = if i = S.made + 1 then ⟨[], 0, true⟩ else S.file i := by
  unfold newF
  refine (ren_free ({ S with made := S.made + 1 }.setF (S.made + 1) ⟨[], 0, false⟩) ⟨#[]⟩ name (S.made + 1) hn i).trans ?_
  show (if i = S.made + 1 then (⟨(if S.made + 1 = S.made + 1 then (⟨[], 0, false⟩ : FileS) else S.file (S.made + 1)).data, (if S.made + 1 = S.made + 1 then (⟨[], 0, false⟩ : FileS) else S.file (S.made + 1)).safe, decide (name.size ≠ 0)⟩ : FileS) else if i = S.made + 1 then ⟨[], 0, false⟩ else S.file i) = _
  by_cases h : i = S.made + 1
  · rw [if_pos h, if_pos rfl, if_pos h, decide_eq_true hs]
  · rw [if_neg h, if_neg h, if_neg h]
theorem inv_create {S : DS} {q0 n nx : Nat} {base : List Seg} (h : Inv S q0 base n) (hw : Now S q0 base n []) (hf : Full S base) (h1 : 1 ≤ nx) (h2 : nx ≤ n) (h3 : base ≠ [] ∨ q0 = 1 → nx = q0 + (recs base).length) :
    kget S.names (nameM nx) = none ∧ Inv (newF S (nameM nx)) q0 base n ∧ Now (newF S (nameM nx)) q0 base n [⟨nx, S.made + 1, []⟩] ∧ Full (newF S (nameM nx)) base ∧ (newF S (nameM nx)).file (S.made + 1) = ⟨[], 0, true⟩ ∧ (newF S (nameM nx)).chg ≠ [] := by
  have nb := h.n1
  have away : ∀ x ∈ base, nameM x.q ≠ nameM nx := fun x hx e => by
    have c := chain_mem h.chain x hx
    have b := h.bound
    have e' := nameM_inj (by unfold bigQ at nb; omega) (by unfold bigQ at nb; omega) e
    have := h3 (.inl (fun e => by rw [e] at hx; exact nomatch hx))
    omega
  have pn := hw.names
  have pl := hw.last
  rw [List.append_nil] at pn pl
  have kn : kget S.names (nameM nx) = none := kget_away pn away
  have fl := new_file S (nameM nx) kn (by rw [nameM_size]; decide)
  have em : (newF S (nameM nx)).made = S.made + 1 := (ren_same _ _ _ _).1
  have es : (newF S (nameM nx)).safe = S.safe := (ren_same _ _ _ _).2.2.2.2.2.2.1
  have ec : (newF S (nameM nx)).chg = S.chg ++ [⟨⟨#[]⟩, nameM nx, S.made + 1, kget S.names (nameM nx)⟩] := rfl
  have en : (newF S (nameM nx)).names = (⟨⟨#[]⟩, nameM nx, S.made + 1, kget S.names (nameM nx)⟩ : Chg).app S.names := rfl
  have old : ∀ i, i ≤ S.made → (newF S (nameM nx)).file i = S.file i := fun i hi => by rw [fl, if_neg (by omega)]
  obtain ⟨fp, fpl⟩ := foldP_snoc es ec
  have ok : ExtOk (newF S (nameM nx)) q0 base n [⟨nx, S.made + 1, []⟩] := .inr ⟨_, rfl, rfl, by rw [fl, if_pos rfl]; exact HoldsR.exact' rfl, h3, h1, h2, by rw [em]; exact Nat.le_refl _, fun x hx => by have := h.fle x hx; show x.f ≠ S.made + 1; omega⟩
  have last : (foldP (newF S (nameM nx)) (newF S (nameM nx)).chg.length).Perm (ents (base ++ [⟨nx, S.made + 1, []⟩])) := by
    rw [fpl]; exact app_create (g := ⟨nx, S.made + 1, []⟩) pl away
  refine ⟨kn, ⟨nb, h.q1, h.chain, h.small, fun g hg => by rw [old _ (h.fle g hg)]; exact h.holds g hg, h.fs, fun g hg => by rw [em]; have := h.fle g hg; omega, h.bound, fun p hp => ?_⟩, ⟨?_, last, ok, fun g hg => ?_⟩, fun g hg => by rw [old _ (h.fle g hg)]; exact hf g hg, by rw [fl, if_pos rfl], by rw [ec]; simp⟩
  · rcases Nat.lt_or_ge S.chg.length p with hl | hg
    · have e : p = (newF S (nameM nx)).chg.length := by rw [ec, List.length_append] at hp ⊢; simp only [List.length_singleton] at hp ⊢; omega
      rw [e]
      exact ⟨_, last, ok⟩
    · obtain ⟨ext, a, b⟩ := h.views p hg
      exact ⟨ext, by rw [fp p hg]; exact a, b.move (fun i hi => by rw [old i hi]) (by rw [em]; omega) (Nat.le_refl _)⟩
  · rw [en]; exact app_create (g := ⟨nx, S.made + 1, []⟩) pn away
  · rcases List.mem_append.1 hg with hg | hg
    · rw [old _ (h.fle g hg)]; exact hw.named g (List.mem_append.2 (.inl hg))
    · rw [List.mem_singleton] at hg; subst hg; rw [fl, if_pos rfl]

/-! ### a file without records goes -/
theorem gone_file (S : DS) (name : ByteArray) (f : Nat) (he : kget S.names ⟨#[]⟩ = none) (i : Nat) : (renS S name ⟨#[]⟩ f).file i = if i = f then { S.file f with named := false } else S.file i := by
  refine (ren_free S name ⟨#[]⟩ f he i).trans ?_
  rfl
theorem inv_remove {S : DS} {q0 n : Nat} {base : List Seg} {g : Seg} (h : Inv S q0 base n) (hw : Now S q0 base n [g]) (hf : Full S base) :
    kget S.names (nameM g.q) = some g.f ∧ Inv (renS S (nameM g.q) ⟨#[]⟩ g.f) q0 base n ∧ Now (renS S (nameM g.q) ⟨#[]⟩ g.f) q0 base n [] ∧ Full (renS S (nameM g.q) ⟨#[]⟩ g.f) base := by
  have nb := h.n1
  have pn := hw.names
  have pl := hw.last
  have rise := ext_rise h.chain hw.ok
  have low := ext_small h.chain h.bound hw.ok
  have kn : kget S.names (nameM g.q) = some g.f := kget_ents pn (ents_keys nb rise low) (by simp)
  obtain ⟨x, ex, _, _, _, _, _, g7, g8⟩ : ∃ x, [g] = [x] ∧ x.rs = [] ∧ HoldsR (S.file x.f).data x.q [] ∧ (base ≠ [] ∨ q0 = 1 → x.q = q0 + (recs base).length) ∧ 1 ≤ x.q ∧ x.q ≤ n ∧ x.f ≤ S.made ∧ ∀ y ∈ base, y.f ≠ x.f := by
    rcases hw.ok with e | e
    · cases e
    · exact e
  obtain rfl : g = x := by simpa using ex
  have he : kget S.names ⟨#[]⟩ = none := kget_empty pn
  have fl := gone_file S (nameM g.q) g.f he
  obtain ⟨em, _, _, _, _, _, es, _⟩ := ren_same S (nameM g.q) ⟨#[]⟩ g.f
  have ec : (renS S (nameM g.q) ⟨#[]⟩ g.f).chg = S.chg ++ [⟨nameM g.q, ⟨#[]⟩, g.f, kget S.names ⟨#[]⟩⟩] := rfl
  have en : (renS S (nameM g.q) ⟨#[]⟩ g.f).names = (⟨nameM g.q, ⟨#[]⟩, g.f, kget S.names ⟨#[]⟩⟩ : Chg).app S.names := rfl
  have dat : ∀ i, ((renS S (nameM g.q) ⟨#[]⟩ g.f).file i).data = (S.file i).data := fun i => by
    rw [fl]
    by_cases e : i = g.f
    · rw [if_pos e, e]
    · rw [if_neg e]
  have old : ∀ y ∈ base, (renS S (nameM g.q) ⟨#[]⟩ g.f).file y.f = S.file y.f := fun y hy => by rw [fl, if_neg (g8 y hy)]
  obtain ⟨fp, fpl⟩ := foldP_snoc es ec
  have last : (foldP (renS S (nameM g.q) ⟨#[]⟩ g.f) (renS S (nameM g.q) ⟨#[]⟩ g.f).chg.length).Perm (ents (base ++ [])) := by
    rw [fpl]; exact app_remove (b := []) nb pl rise low
  refine ⟨kn, ⟨nb, h.q1, h.chain, h.small, fun y hy => by rw [old y hy]; exact h.holds y hy, h.fs, fun y hy => by rw [em]; exact h.fle y hy, h.bound, fun p hp => ?_⟩, ⟨?_, last, .inl rfl, fun y hy => ?_⟩, fun y hy => by rw [old y hy]; exact hf y hy⟩
  · rcases Nat.lt_or_ge S.chg.length p with hl | hg
    · have e : p = (renS S (nameM g.q) ⟨#[]⟩ g.f).chg.length := by rw [ec, List.length_append] at hp ⊢; simp only [List.length_singleton] at hp ⊢; omega
      rw [e]
      exact ⟨_, last, .inl rfl⟩
    · obtain ⟨ext, a, b⟩ := h.views p hg
      exact ⟨ext, by rw [fp p hg]; exact a, b.move (fun i _ => dat i) (by rw [em]; exact Nat.le_refl _) (Nat.le_refl _)⟩
  · rw [en]; exact app_remove (b := []) nb pn rise low
  · rw [List.append_nil] at hy
    rw [old y hy]; exact hw.named y (List.mem_append.2 (.inl hy))

/-! ### names become safe -/
theorem relF_named (S : DS) (n i : Nat) (h : (S.file i).named = true) : (relF S n).file i = S.file i := by
  unfold relF
  split
  · rfl
  · rename_i hn
    show (if i = n then _ else S.file i) = _
    rw [if_neg (fun e => by rw [e] at h; exact hn h)]
theorem relAll_named (l : List Chg) (i : Nat) : ∀ (S : DS), (S.file i).named = true → (relAll S l).file i = S.file i := by
  induction l with
  | nil => intro S _; rfl
  | cons c l ih =>
    intro S h
    have e1 : (relF S c.file).file i = S.file i := relF_named S c.file i h
    have e2 : (relC S c).file i = S.file i := by
      unfold relC relO
      split
      · rw [relF_named _ _ _ (by rw [e1]; exact h), e1]
      · exact e1
    show (relAll (relC S c) l).file i = _
    rw [ih _ (by rw [e2]; exact h), e2]
theorem inv_names {S : DS} {q0 n : Nat} {base ext : List Seg} (h : Inv S q0 base n) (hw : Now S q0 base n ext) :
    Inv (settleS (relAll S S.chg) S.chg.length) q0 base n ∧ Now (settleS (relAll S S.chg) S.chg.length) q0 base n ext ∧ (settleS (relAll S S.chg) S.chg.length).chg = [] ∧ (∀ g ∈ base ++ ext, (settleS (relAll S S.chg) S.chg.length).file g.f = S.file g.f) ∧ (settleS (relAll S S.chg) S.chg.length).names = S.names := by
  obtain ⟨r1, r2, r3, r4⟩ := relAll_keeps S S.chg
  obtain ⟨Z, hZ⟩ : ∃ Z, Z = settleS (relAll S S.chg) S.chg.length := ⟨_, rfl⟩
  rw [← hZ]
  have z1 : Z.names = S.names := by rw [hZ]; exact r1
  have z2 : Z.safe = foldP S S.chg.length := by
    rw [hZ]; show ((relAll S S.chg).chg.take S.chg.length).foldl _ (relAll S S.chg).safe = _
    rw [r2, r3]; rfl
  have z3 : Z.chg = [] := by rw [hZ]; rfl
  have z4 : Z.made = S.made := by rw [hZ]; exact r4
  have z5 : ∀ g ∈ base ++ ext, Z.file g.f = S.file g.f := fun g hg => by rw [hZ]; exact relAll_named S.chg g.f S (hw.named g hg)
  have f0 : ∀ p, foldP Z p = foldP S S.chg.length := fun p => by
    show (Z.chg.take p).foldl (fun l c => c.app l) Z.safe = _
    rw [z3, List.take_nil, z2]; rfl
  have ok : ExtOk Z q0 base n ext := by
    rcases hw.ok with e | ⟨g, e, a2, a3, a4, a5, a6, a7, a8⟩
    · exact .inl e
    · exact .inr ⟨g, e, a2, by rw [z5 g (by rw [e]; simp)]; exact a3, a4, a5, a6, by rw [z4]; exact a7, a8⟩
  refine ⟨⟨h.n1, h.q1, h.chain, h.small, fun g hg => by rw [z5 g (List.mem_append.2 (.inl hg))]; exact h.holds g hg, h.fs, fun g hg => by rw [z4]; exact h.fle g hg, h.bound, fun p _ => ⟨ext, by rw [f0]; exact hw.last, ok⟩⟩, ⟨by rw [z1]; exact hw.names, by rw [f0]; exact hw.last, ok, fun g hg => by rw [z5 g hg]; exact hw.named g hg⟩, z3, z5, z1⟩
end Go.Proofs.YtdffpbfllekcgaaGreatDoor
