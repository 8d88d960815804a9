/- WalC, WalD, in one text. -/
import Derived.Test.YtacfdnjdjgdbcaaGreatDoorHj
import Derived.Test.YtacfdnjdjgdbcaaGreatDoorHo
namespace Go.Proofs.YtacfdnjdjgdbcaaGreatDoor
set_option maxRecDepth 100000
open Go.RowKit M

/-- a file: the number of its first record, which file it is, its records -/
structure Seg where
  q : Nat
  f : Nat
  rs : List (List Nat)
def ents (l : List Seg) : KL := l.map fun g => (nameM g.q, g.f)
def recs (l : List Seg) : List (List Nat) := l.flatMap (·.rs)
/-- files one behind the other, none without records -/
def ChainQ : Nat → List Seg → Prop
  | _, [] => True
  | q, g :: l => g.q = q ∧ g.rs ≠ [] ∧ ChainQ (q + g.rs.length) l
def foldP (S : DS) (p : Nat) : KL := (S.chg.take p).foldl (fun l c => c.app l) S.safe

theorem recs_append (a b : List Seg) : recs (a ++ b) = recs a ++ recs b := by simp [recs]
theorem recs_cons (g : Seg) (b : List Seg) : recs (g :: b) = g.rs ++ recs b := by simp [recs]
theorem chain_mem {l : List Seg} : ∀ {q : Nat}, ChainQ q l → ∀ g ∈ l, q ≤ g.q ∧ g.q + g.rs.length ≤ q + (recs l).length ∧ 0 < g.rs.length := by
  induction l with
  | nil => intro q _ g hg; exact nomatch hg
  | cons x l ih =>
    intro q h g hg
    obtain ⟨h1, h2, h3⟩ := h
    have hx : 0 < x.rs.length := by
      cases e : x.rs with
      | nil => exact absurd e h2
      | cons _ _ => simp
    rw [recs_cons, List.length_append]
    rcases List.mem_cons.1 hg with rfl | hg
    · omega
    · obtain ⟨a, b, c⟩ := ih h3 g hg
      omega
/-- the numbers of a chain rise -/
theorem chain_rise {l : List Seg} : ∀ {q : Nat}, ChainQ q l → l.Pairwise (fun a b => a.q < b.q) := by
  induction l with
  | nil => intro q _; exact List.Pairwise.nil
  | cons x l ih =>
    intro q h
    obtain ⟨h1, h2, h3⟩ := h
    have hx : 0 < x.rs.length := by
      cases e : x.rs with
      | nil => exact absurd e h2
      | cons _ _ => simp
    exact List.pairwise_cons.2 ⟨fun g hg => by have := (chain_mem h3 g hg).1; omega, ih h3⟩

/-- files of which the last one has no records yet, or none that are whole -/
def ExtOk (S : DS) (q0 : Nat) (base : List Seg) (n : Nat) (ext : List Seg) : Prop :=
  ext = [] ∨ ∃ g, ext = [g] ∧ g.rs = [] ∧ HoldsR (S.file g.f).data g.q [] ∧ (base ≠ [] ∨ q0 = 1 → g.q = q0 + (recs base).length) ∧ 1 ≤ g.q ∧ g.q ≤ n ∧ g.f ≤ S.made ∧ ∀ x ∈ base, x.f ≠ g.f
structure Inv (S : DS) (q0 : Nat) (base : List Seg) (n : Nat) : Prop where
  n1 : n ≤ bigQ
  q1 : 1 ≤ q0
  chain : ChainQ q0 base
  small : ∀ g ∈ base, Small g.rs
  holds : ∀ g ∈ base, HoldsR (S.file g.f).data g.q g.rs
  fs : (base.map (·.f)).Nodup
  fle : ∀ g ∈ base, g.f ≤ S.made
  bound : q0 + (recs base).length ≤ n
  views : ∀ p, p ≤ S.chg.length → ∃ ext, (foldP S p).Perm (ents (base ++ ext)) ∧ ExtOk S q0 base n ext
structure Now (S : DS) (q0 : Nat) (base : List Seg) (n : Nat) (ext : List Seg) : Prop where
  names : S.names.Perm (ents (base ++ ext))
  last : (foldP S S.chg.length).Perm (ents (base ++ ext))
  ok : ExtOk S q0 base n ext
  named : ∀ g ∈ base ++ ext, (S.file g.f).named = true
/-- all records are safe -/
def Full (S : DS) (l : List Seg) : Prop := ∀ g ∈ l, (frs g.q g.rs).length ≤ (S.file g.f).safe

/-! ### lists of files -/
theorem ext_rise {S : DS} {q0 : Nat} {base : List Seg} {n : Nat} {ext : List Seg} (hc : ChainQ q0 base) (hx : ExtOk S q0 base n ext) : (base ++ ext).Pairwise (fun a b => a.q < b.q) := by
  rcases hx with rfl | ⟨g, rfl, _, _, hg, _⟩
  · rw [List.append_nil]; exact chain_rise hc
  · refine List.pairwise_append.2 ⟨chain_rise hc, List.pairwise_singleton _ _, fun a ha b hb => ?_⟩
    rw [List.mem_singleton] at hb
    subst hb
    have := chain_mem hc a ha
    rw [hg (.inl (fun e => by rw [e] at ha; exact nomatch ha))]
    omega
theorem ext_small {S : DS} {q0 : Nat} {base : List Seg} {n : Nat} {ext : List Seg} (hc : ChainQ q0 base) (hb : q0 + (recs base).length ≤ n) (hx : ExtOk S q0 base n ext) : ∀ g ∈ base ++ ext, g.q ≤ n := by
  intro g hg
  rcases List.mem_append.1 hg with hg | hg
  · have := chain_mem hc g hg; omega
  · rcases hx with rfl | ⟨x, rfl, _, _, _, _, h, _⟩
    · exact nomatch hg
    · rw [List.mem_singleton] at hg; rw [hg]; exact h
theorem ents_keys {l : List Seg} {n : Nat} (hn : n ≤ bigQ) (h : l.Pairwise (fun a b => a.q < b.q)) (hl : ∀ g ∈ l, g.q ≤ n) : ((ents l).map (·.1)).Nodup := by
  unfold ents
  rw [List.map_map]
  have : (l.map fun g => nameM g.q).Nodup := by
    refine (List.pairwise_map.2 ?_ : List.Pairwise (fun a b => a ≠ b) _)
    refine List.Pairwise.imp_of_mem (fun {a b} ha hb hab e => ?_) h
    have := nameM_inj (by have := hl a ha; unfold bigQ at hn; omega) (by have := hl b hb; unfold bigQ at hn; omega) e
    omega
  exact this
theorem kget_ents {N : KL} {l : List Seg} (hp : N.Perm (ents l)) (hk : ((ents l).map (·.1)).Nodup) {g : Seg} (hg : g ∈ l) : kget N (nameM g.q) = some g.f :=
  kget_mem ((hp.map (·.1)).nodup_iff.2 hk) (hp.mem_iff.2 (List.mem_map.2 ⟨g, hg, rfl⟩))
theorem foldP_snoc {S S' : DS} {c : Chg} (hs : S'.safe = S.safe) (hc : S'.chg = S.chg ++ [c]) : (∀ p, p ≤ S.chg.length → foldP S' p = foldP S p) ∧ foldP S' S'.chg.length = c.app (foldP S S.chg.length) := by
  refine ⟨fun p hp => ?_, ?_⟩
  · unfold foldP; rw [hs, hc, List.take_append_of_le_length hp]
  · unfold foldP; rw [hs, hc, List.take_length, List.take_length, List.foldl_append]; rfl

/-! ### files change, names don't -/
theorem ExtOk.move {S S' : DS} {q0 : Nat} {base : List Seg} {n n' : Nat} {ext : List Seg} (h : ExtOk S q0 base n ext) (hd : ∀ i, i ≤ S.made → (S'.file i).data = (S.file i).data) (hm : S.made ≤ S'.made) (hn : n ≤ n') : ExtOk S' q0 base n' ext := by
  rcases h with h | ⟨g, a1, a2, a3, a4, a5, a6, a7, a8⟩
  · exact .inl h
  · exact .inr ⟨g, a1, a2, by rw [hd _ a7]; exact a3, a4, a5, Nat.le_trans a6 hn, Nat.le_trans a7 hm, a8⟩
/-- what only touches switches and what is safe of a file -/
structure SameN (S S' : DS) : Prop where
  names : S'.names = S.names
  safe : S'.safe = S.safe
  chg : S'.chg = S.chg
  made : S'.made = S.made
  data : ∀ i, (S'.file i).data = (S.file i).data
  named : ∀ i, (S'.file i).named = (S.file i).named
  more : ∀ i m, m ≤ (S.file i).data.length → m ≤ (S.file i).safe → m ≤ (S'.file i).safe
theorem Inv.same {S S' : DS} {q0 : Nat} {base : List Seg} {n n' : Nat} (h : Inv S q0 base n) (k : SameN S S') (hn : n ≤ n') (hn' : n' ≤ bigQ) : Inv S' q0 base n' := by
  refine ⟨hn', h.q1, h.chain, h.small, fun g hg => by rw [k.data]; exact h.holds g hg, h.fs, fun g hg => by rw [k.made]; exact h.fle g hg, Nat.le_trans h.bound hn, fun p hp => ?_⟩
  rw [k.chg] at hp
  obtain ⟨ext, a, b⟩ := h.views p hp
  exact ⟨ext, by unfold foldP; rw [k.safe, k.chg]; exact a, b.move (fun i _ => k.data i) (Nat.le_of_eq k.made.symm) hn⟩
theorem Now.same {S S' : DS} {q0 : Nat} {base : List Seg} {n n' : Nat} {ext : List Seg} (h : Now S q0 base n ext) (k : SameN S S') (hn : n ≤ n') : Now S' q0 base n' ext := by
  refine ⟨by rw [k.names]; exact h.names, ?_, h.ok.move (fun i _ => k.data i) (Nat.le_of_eq k.made.symm) hn, fun g hg => by rw [k.named]; exact h.named g hg⟩
  have := h.last
  unfold foldP at this ⊢
  rw [k.safe, k.chg]; exact this
theorem Full.same {S S' : DS} {l : List Seg} (h : Full S l) (k : SameN S S') (hd : ∀ g ∈ l, (frs g.q g.rs).length ≤ (S.file g.f).data.length) : Full S' l := fun g hg => by
  exact k.more g.f _ (hd g hg) (h g hg)
theorem Inv.frs_le {S : DS} {q0 : Nat} {base : List Seg} {n : Nat} (h : Inv S q0 base n) : ∀ g ∈ base, (frs g.q g.rs).length ≤ (S.file g.f).data.length := fun g hg => by
  obtain ⟨t, e, _⟩ := h.holds g hg
  rw [e, List.length_append]; omega
theorem SameN.trans {a b c : DS} (h : SameN a b) (k : SameN b c) : SameN a c :=
  ⟨k.names.trans h.names, k.safe.trans h.safe, k.chg.trans h.chg, k.made.trans h.made, fun i => (k.data i).trans (h.data i), fun i => (k.named i).trans (h.named i), fun i m h1 h2 => k.more i m (by rw [h.data]; exact h1) (h.more i m h1 h2)⟩
theorem SameN.refl (a : DS) : SameN a a := ⟨rfl, rfl, rfl, rfl, fun _ => rfl, fun _ => rfl, fun _ _ _ h => h⟩
end Go.Proofs.YtacfdnjdjgdbcaaGreatDoor
namespace Go.Proofs.YtacfdnjdjgdbcaaGreatDoor
set_option maxRecDepth 100000
open Go.RowKit M

/-- the first s records are safe -/
def SafeN (S : DS) (base : List Seg) (s : Nat) : Prop :=
  (Full S base ∧ s ≤ (recs base).length) ∨
  (S.chg = [] ∧ S.names.length = base.length ∧ ∃ init g j, base = init ++ [g] ∧ Full S init ∧ j ≤ g.rs.length ∧ s ≤ (recs init).length + j ∧ (frs g.q (g.rs.take j)).length ≤ (S.file g.f).safe)
theorem SafeN.le {S : DS} {base : List Seg} {s s' : Nat} (h : SafeN S base s) (hs : s' ≤ s) : SafeN S base s' := by
  rcases h with ⟨a, b⟩ | ⟨a, b, init, g, j, c1, c2, c3, c4, c5⟩
  · exact .inl ⟨a, by omega⟩
  · exact .inr ⟨a, b, init, g, j, c1, c2, c3, by omega, c5⟩
theorem SafeN.bound {S : DS} {base : List Seg} {s : Nat} (h : SafeN S base s) : s ≤ (recs base).length := by
  rcases h with ⟨a, b⟩ | ⟨a, b, init, g, j, c1, c2, c3, c4, c5⟩
  · exact b
  · rw [c1, recs_append, List.length_append, recs_cons, List.length_append]; omega
theorem SafeN.same {S S' : DS} {q0 n : Nat} {base : List Seg} {s : Nat} (h : SafeN S base s) (hi : Inv S q0 base n) (k : SameN S S') : SafeN S' base s := by
  have fl := hi.frs_le
  rcases h with ⟨a, b⟩ | ⟨a, b, init, g, j, c1, c2, c3, c4, c5⟩
  · exact .inl ⟨a.same k fl, b⟩
  · refine .inr ⟨by rw [k.chg]; exact a, by rw [k.names]; exact b, init, g, j, c1, c2.same k (fun x hx => fl x (by rw [c1]; exact List.mem_append.2 (.inl hx))), c3, c4, k.more _ _ ?_ c5⟩
    have e := frs_take_le g.rs g.q j g.rs.length c3
    rw [List.take_length] at e
    exact Nat.le_trans e (fl g (by rw [c1]; simp))

/-! ### a new file -/
theorem ren_free (S : DS) (src dst : ByteArray) (f : Nat) (he : kget S.names dst = none) (i : Nat) : (renS S src dst f).file i = if i = f then { S.file f with named := decide (dst.size ≠ 0) } else S.file i := by
  unfold renS
  have e : S.unname (kget S.names dst) = S := by rw [he]; rfl
  show ((S.unname (kget S.names dst)).setF f _).file i = _
  rw [e]
  rfl
theorem new_file (S : DS) (name : ByteArray) (hn : kget S.names name = none) (hs : name.size ≠ 0) (i : Nat) : (newF S name).file i = if i = S.made + 1 then ⟨[], 0, true⟩ else S.file i := by
  unfold newF
  refine (ren_free ({ S with made := S.made + 1 }.setF (S.made + 1) ⟨[], 0, false⟩) ⟨#[]⟩ name (S.made + 1) hn i).trans ?_
  show (if i = S.made + 1 then (⟨(if S.made + 1 = S.made + 1 then (⟨[], 0, false⟩ : FileS) else S.file (S.made + 1)).data, (if S.made + 1 = S.made + 1 then (⟨[], 0, false⟩ : FileS) else S.file (S.made + 1)).safe, decide (name.size ≠ 0)⟩ : FileS) else if i = S.made + 1 then ⟨[], 0, false⟩ else S.file i) = _
  by_cases h : i = S.made + 1
  · rw [if_pos h, if_pos rfl, if_pos h, decide_eq_true hs]
  · rw [if_neg h, if_neg h, if_neg h]
/-! ### a file without records goes -/
theorem gone_file (S : DS) (name : ByteArray) (f : Nat) (he : kget S.names ⟨#[]⟩ = none) (i : Nat) : (renS S name ⟨#[]⟩ f).file i = if i = f then { S.file f with named := false } else S.file i := by
  refine (ren_free S name ⟨#[]⟩ f he i).trans ?_
  rfl
/-! ### names become safe -/
theorem relF_named (S : DS) (n i : Nat) (h : (S.file i).named = true) : (relF S n).file i = S.file i := by
  unfold relF
  split
  · rfl
  · rename_i hn
    show (if i = n then _ else S.file i) = _
    rw [if_neg (fun e => by rw [e] at h; exact hn h)]
end Go.Proofs.YtacfdnjdjgdbcaaGreatDoor
