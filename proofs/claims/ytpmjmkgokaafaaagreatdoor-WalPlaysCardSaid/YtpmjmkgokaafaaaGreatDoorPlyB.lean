/- A log in any state, as mathematics: the calls of a law that plays. -/
import Derived.Test.YtpmjmkgokaafaaaGreatDoorPlyA
namespace Go.Proofs.YtpmjmkgokaafaaaGreatDoor
set_option maxRecDepth 100000
open Go.ChangeShapes Go.WideShapes Go.RowKit M

theorem Wk.upn {S : DS} {q0 n n' s : Nat} {base ext : List Seg} (h : Wk S q0 base ext n s) (hn : n ≤ n') (hn' : n' ≤ bigQ) : Wk S q0 base ext n' s := by
  have k : SameN S S := ⟨rfl, rfl, rfl, rfl, fun _ => rfl, fun _ => rfl, fun _ _ _ h => h⟩
  exact ⟨h.inv.same k hn hn', h.now.same k hn, h.safe, h.pend⟩
theorem St.upn {S : DS} {L : LS} {q0 n n' s : Nat} {base ext : List Seg} (h : St S L q0 base ext n s) (hn : n ≤ n') (hn' : n' ≤ bigQ) : St S L q0 base ext n' s :=
  ⟨h.toWk.upn hn hn', h.next1, Nat.le_trans h.next2 hn, h.nextb, h.nexte, h.none, h.some⟩
theorem Wk.count {S : DS} {q0 n s : Nat} {base ext : List Seg} (h : Wk S q0 base ext n s) : (base ++ ext).length ≤ (recs base).length + 1 := by
  have hc : ∀ (l : List Seg) (q : Nat), ChainQ q l → l.length ≤ (recs l).length := by
    intro l
    induction l with
    | nil => intro _ _; exact Nat.le_refl _
    | cons g l ih =>
      intro q hc
      obtain ⟨_, c2, c3⟩ := hc
      have := ih _ c3
      rw [recs_cons, List.length_append, List.length_cons]
      have : 0 < g.rs.length := List.length_pos_iff.2 c2
      omega
  have h1 := hc base q0 h.inv.chain
  have : ext.length ≤ 1 := by rcases h.now.ok with e | ⟨g, e, _⟩ <;> rw [e] <;> simp
  rw [List.length_append]; omega

/-- sizes behind t calls -/
def SzQ (S : DS) (t : Nat) : Prop := Sz S (40 * t) (20000 * t)
theorem SzQ.fine {S : DS} {t : Nat} (h : SzQ S t) (ht : t ≤ 100) : Fine S := Sz.fine h (by omega) (by omega)
theorem SzQ.up {S : DS} {t t' : Nat} (h : SzQ S t) (ht : t ≤ t') : SzQ S t' := Sz.up h (by omega) (by omega)
theorem SzQ.restOk {S : DS} {t : Nat} (z : SzQ S t) (ht : t ≤ 100) (ch : List Int) : RestOk S ch := by
  obtain ⟨C, zz⟩ := z
  refine wrestOk_small (100 * (40 * t)) (40 * t) ?_ ?_ (by omega) (by omega) ?_ (fun n => ⟨zz.data n, zz.dsafe n⟩)
  · rw [wrest0_names]
    have := foldl_length (S.chg.take (pickN ch 0 S.chg.length)) S.safe
    have ht' : (S.chg.take (pickN ch 0 S.chg.length)).length ≤ S.chg.length := List.length_take_le' _ _
    have sc := zz.sc
    unfold foldP
    omega
  · have : 100 * (40 * t) * (40 * t) ≤ 400000 * 4000 := Nat.mul_le_mul (by omega) (by omega)
    omega
  · rw [wrest0_names]
    exact wfold_mem (P := fun n => 1 ≤ n ∧ n ≤ S.made) (S.chg.take (pickN ch 0 S.chg.length)) S.safe (fun p hp => ⟨(zz.sref p hp).1, (zz.sref p hp).2.1⟩) (fun c hc => ⟨(zz.cref c (List.mem_of_mem_take hc)).1.1, (zz.cref c (List.mem_of_mem_take hc)).1.2.1⟩)
/-- a disk that holds a log's records X, of which the first s are safe -/
def DWq (S : DS) (X : List (List Nat)) (t s : Nat) : Prop := (∃ q0 base ext, Wk S q0 base ext (t + 1) s ∧ recs base = X) ∧ SzQ S t
def FieldsQ (L : LS) (t : Nat) : Prop := NamesOk L ∧ L.found.length ≤ 40 * t ∧ L.size ≤ 100 * t ∧ L.limit ≤ 9223372036854775807
/-- and a log that goes on with them -/
def DLq (S : DS) (L : LS) (X : List (List Nat)) (t s : Nat) : Prop := (∃ q0 base ext, St S L q0 base ext (t + 1) s ∧ recs base = X) ∧ SzQ S t ∧ FieldsQ L t
/-- a disk behind a Retire that was broken off -/
def BKq (S : DS) (t : Nat) : Prop := BRK S (t + 1) ∧ SzQ S t
theorem DLq.dw {S : DS} {L : LS} {X : List (List Nat)} {t s : Nat} (h : DLq S L X t s) : DWq S X t s := by
  obtain ⟨⟨q0, base, ext, st, e⟩, z, _⟩ := h
  exact ⟨⟨q0, base, ext, st.toWk, e⟩, z⟩
theorem DWq.bk {S : DS} {X : List (List Nat)} {t s : Nat} (h : DWq S X t s) : BKq S t := by
  obtain ⟨⟨q0, base, ext, wk, _⟩, z⟩ := h
  exact ⟨wk.brk, z⟩
theorem DWq.safe_le {S : DS} {X : List (List Nat)} {t s : Nat} (h : DWq S X t s) : s ≤ X.length := by
  obtain ⟨⟨q0, base, ext, wk, e⟩, _⟩ := h
  rw [← e]; exact wk.safe.bound
theorem DWq.few {S : DS} {X : List (List Nat)} {t s : Nat} (h : DWq S X t s) : X.length ≤ t := by
  obtain ⟨⟨q0, base, ext, wk, e⟩, _⟩ := h
  have b := wk.inv.bound
  have q := wk.inv.q1
  rw [← e]; omega
theorem DLq.next {S : DS} {L : LS} {X : List (List Nat)} {t s : Nat} (h : DLq S L X t s) : 1 ≤ L.next ∧ L.next ≤ t + 1 := by
  obtain ⟨⟨q0, base, ext, st, e⟩, _⟩ := h
  exact ⟨st.next1, st.next2⟩
theorem DWq.up {S : DS} {X : List (List Nat)} {t t' s : Nat} (h : DWq S X t s) (ht : t ≤ t') (ht' : t' ≤ 1000) : DWq S X t' s := by
  obtain ⟨⟨q0, base, ext, wk, e⟩, z⟩ := h
  exact ⟨⟨q0, base, ext, wk.upn (by omega) (by unfold bigQ; omega), e⟩, z.up ht⟩
theorem FieldsQ.up {L : LS} {t t' : Nat} (h : FieldsQ L t) (ht : t ≤ t') : FieldsQ L t' := by
  obtain ⟨a, b, c, d⟩ := h
  exact ⟨a, by omega, by omega, d⟩
theorem DLq.up {S : DS} {L : LS} {X : List (List Nat)} {t t' s : Nat} (h : DLq S L X t s) (ht : t ≤ t') (ht' : t' ≤ 1000) : DLq S L X t' s := by
  obtain ⟨⟨q0, base, ext, st, e⟩, z, f⟩ := h
  exact ⟨⟨q0, base, ext, st.upn (by omega) (by unfold bigQ; omega), e⟩, z.up ht, f.up ht⟩
theorem BKq.up {S : DS} {t t' : Nat} (h : BKq S t) (ht : t ≤ t') (ht' : t' ≤ 1000) : BKq S t' :=
  ⟨⟨by omega, by unfold bigQ; omega, fun p hp => (h.1.views p hp).move (fun _ => ⟨rfl, rfl⟩) rfl (by omega)⟩, h.2.up ht⟩
theorem DWq.le {S : DS} {X : List (List Nat)} {t s s' : Nat} (h : DWq S X t s) (hs : s' ≤ s) : DWq S X t s' := by
  obtain ⟨⟨q0, base, ext, wk, e⟩, z⟩ := h
  exact ⟨⟨q0, base, ext, wk.le hs, e⟩, z⟩
theorem DLq.le {S : DS} {L : LS} {X : List (List Nat)} {t s s' : Nat} (h : DLq S L X t s) (hs : s' ≤ s) : DLq S L X t s' := by
  obtain ⟨⟨q0, base, ext, st, e⟩, z⟩ := h
  exact ⟨⟨q0, base, ext, ⟨st.toWk.le hs, st.next1, st.next2, st.nextb, st.nexte, st.none, st.some⟩, e⟩, z⟩

/-! ### a disk's settings -/
/-- only what is armed, or how much room there is, is another -/
structure SetQ (S S' : DS) : Prop where
  names : S'.names = S.names
  safe : S'.safe = S.safe
  chg : S'.chg = S.chg
  made : S'.made = S.made
  file : S'.file = S.file
theorem SetQ.same {S S' : DS} (k : SetQ S S') : SameN S S' := ⟨k.names, k.safe, k.chg, k.made, fun i => by rw [k.file], fun i => by rw [k.file], fun i m _ h => by rw [k.file]; exact h⟩
theorem Full.set {S S' : DS} {l : List Seg} (h : Full S l) (k : SetQ S S') : Full S' l := fun g hg => by rw [k.file]; exact h g hg
theorem DWq.set {S S' : DS} {X : List (List Nat)} {t s : Nat} (h : DWq S X t s) (k : SetQ S S') (z' : SzQ S' t) : DWq S' X t s := by
  obtain ⟨⟨q0, base, ext, wk, e⟩, z⟩ := h
  exact ⟨⟨q0, base, ext, wk.same k.same, e⟩, z'⟩
theorem DLq.set {S S' : DS} {L : LS} {X : List (List Nat)} {t s : Nat} (h : DLq S L X t s) (k : SetQ S S') (z' : SzQ S' t) : DLq S' L X t s := by
  obtain ⟨⟨q0, base, ext, st, e⟩, z, f⟩ := h
  refine ⟨⟨q0, base, ext, ⟨st.toWk.same k.same, st.next1, st.next2, st.nextb, st.nexte, fun e => ?_, fun e => ?_⟩, e⟩, z', f⟩
  · obtain ⟨a, b, c⟩ := st.none e
    exact ⟨a, b, c.imp (fun h => h.set k) id⟩
  · obtain ⟨a, b, init, g, c1, c2, c3, c4, c5, c6⟩ := st.some e
    exact ⟨a, by rw [k.chg]; exact b, init, g, c1, c2, by rw [k.file]; exact c3, c4, c5.set k, fun e => (c6 e).set k⟩
theorem BKq.set {S S' : DS} {t : Nat} (h : BKq S t) (k : SetQ S S') (z' : SzQ S' t) : BKq S' t := ⟨h.1.same k.safe k.chg k.made k.file, z'⟩
theorem SetQ.crash (S : DS) (n : Int) : SetQ S { S with crash := max n (-1) } := ⟨rfl, rfl, rfl, rfl, rfl⟩
theorem SetQ.fail (S : DS) (n : Int) : SetQ S { S with fail := max n (-1) } := ⟨rfl, rfl, rfl, rfl, rfl⟩
theorem SetQ.room (S : DS) (n : Int) : SetQ S { S with room := max n 0 } := ⟨rfl, rfl, rfl, rfl, rfl⟩
theorem SzQ.crash {S : DS} {t : Nat} (h : SzQ S t) {n : Int} (hn : n ≤ 9223372036854775807) : SzQ { S with crash := max n (-1) } t := Sz.crash h hn
theorem SzQ.fail {S : DS} {t : Nat} (h : SzQ S t) {n : Int} (hn : n ≤ 9223372036854775807) : SzQ { S with fail := max n (-1) } t := Sz.fail h hn
theorem SzQ.room {S : DS} {t : Nat} (h : SzQ S t) {n : Int} (hn : n ≤ 9223372036854775807) : SzQ { S with room := max n 0 } t := Sz.room h hn

/-! ### the calls -/
theorem DWq.begun (room : Int) (h : room ≤ 9223372036854775807) : DWq (newS room) [] 0 0 := by
  have f0 : ∀ p, foldP (newS room) p = [] := fun p => by unfold foldP; show List.foldl _ [] (List.take p ([] : List Chg)) = _; rw [List.take_nil]; rfl
  have fl : Full (newS room) [] := fun g hg => nomatch hg
  exact ⟨⟨1, [], [], ⟨⟨by unfold bigQ; omega, Nat.le_refl _, trivial, fun g hg => (nomatch hg), fun g hg => (nomatch hg), List.nodup_nil, fun g hg => (nomatch hg), by show 1 + 0 ≤ 0 + 1; omega, fun p _ => ⟨[], by rw [f0]; exact List.Perm.refl _, .inl rfl⟩⟩, ⟨List.Perm.refl _, by rw [f0]; exact List.Perm.refl _, .inl rfl, fun g hg => (nomatch hg)⟩, .inl ⟨fl, Nat.le_refl _⟩, fun _ => fl⟩, rfl⟩, Sz.begun room h⟩
theorem FieldsQ.sync {S : DS} {L : LS} {t : Nat} (h : FieldsQ L t) : FieldsQ (lsync S L).2.2 (t + 1) := by
  obtain ⟨f1, f2, f3, f4⟩ := lsync_fields S L
  obtain ⟨⟨a1, a2⟩, b, c, d⟩ := h
  refine ⟨⟨fun x hx => ?_, by rw [f3]; exact a2⟩, ?_, by omega, by rw [f4]; exact d⟩
  · rcases f1 with e | e
    · rw [e] at hx; exact a1 x hx
    · rw [e] at hx; exact nomatch hx
  · rcases f1 with e | e
    · rw [e]; omega
    · rw [e]; exact Nat.zero_le _
theorem FieldsQ.append {S : DS} {L : LS} {t : Nat} {r : List Nat} (h : FieldsQ L t) (hr : r.length ≤ 60) (hl : (lappend S L r).2.2.limit = L.limit) : FieldsQ (lappend S L r).2.2 (t + 1) := by
  obtain ⟨f1, f2, f3⟩ := ahead_fields S L (frN L.next r)
  have f4 := ahead_found S L (frN L.next r)
  obtain ⟨⟨a1, a2⟩, b, c, d⟩ := h
  have fl : (frN L.next r).length = 18 + r.length := frN_length _ _
  have ff : ((lappend S L r).2.2.found = (ahead S L (frN L.next r)).2.2.found) ∧ (lappend S L r).2.2.file = (ahead S L (frN L.next r)).2.2.file ∧ ((lappend S L r).2.2.size = (ahead S L (frN L.next r)).2.2.size ∨ (lappend S L r).2.2.size = (ahead S L (frN L.next r)).2.2.size + (frN L.next r).length) := by
    unfold lappend
    split
    · exact ⟨rfl, rfl, .inl rfl⟩
    · split
      · exact ⟨rfl, rfl, .inl rfl⟩
      · exact ⟨rfl, rfl, .inr rfl⟩
  obtain ⟨g1, g2, g3⟩ := ff
  refine ⟨⟨fun x hx => ?_, by rw [g2]; exact f3 a2⟩, ?_, ?_, by rw [hl]; exact d⟩
  · rw [g1] at hx
    rcases f4 with e | e
    · rw [e] at hx; exact a1 x hx
    · rw [e] at hx; exact nomatch hx
  · rw [g1]
    rcases f4 with e | e
    · rw [e]; omega
    · rw [e]; exact Nat.zero_le _
  · rcases g3 with e | e <;> rcases f2 with e' | e' <;> omega
theorem DLq.append {S : DS} {L : LS} {X : List (List Nat)} {t s : Nat} {r : List Nat} (h : DLq S L X t s) (ht : t ≤ 100) (hr : r.length ≤ 60 ∧ ∀ d ∈ r, d < 2 ^ 8) :
    (∃ X', (X' = X ∨ ((lappend S L r).1 = 0 ∨ (lappend S L r).1 = 9) ∧ X' = X ++ [r]) ∧ DWq (lappend S L r).2.1 X' (t + 1) s) ∧ ((lappend S L r).1 = 0 → DLq (lappend S L r).2.1 (lappend S L r).2.2 (X ++ [r]) (t + 1) s) := by
  obtain ⟨⟨q0, base, ext, st, e⟩, z, f⟩ := h
  have st2 := st.upn (show t + 1 ≤ t + 2 by omega) (by unfold bigQ; omega)
  obtain ⟨⟨q1, base', ext', _, wk, rec, ok⟩, lim, _, _⟩ := lappend_spec st2 (by have := st.next2; omega) hr
  have z' : SzQ (lappend S L r).2.1 (t + 1) := (Sz.lappend z L hr.1).up (by omega) (by have := f.2.1; omega)
  refine ⟨⟨recs base', ?_, ⟨q1, base', ext', wk, rfl⟩, z'⟩, fun h0 => ?_⟩
  · rw [← e]; exact rec
  · obtain ⟨o1, _, o3⟩ := ok h0
    exact ⟨⟨q1, base', ext', o3, by rw [o1, e]⟩, z', f.append hr.1 lim⟩
theorem DLq.sync {S : DS} {L : LS} {X : List (List Nat)} {t s : Nat} (h : DLq S L X t s) (ht : t ≤ 100) :
    DWq (lsync S L).2.1 X (t + 1) s ∧ ((lsync S L).1 = 0 → DLq (lsync S L).2.1 (lsync S L).2.2 X (t + 1) X.length) := by
  obtain ⟨⟨q0, base, ext, st, e⟩, z, f⟩ := h
  have st2 := st.upn (show t + 1 ≤ t + 2 by omega) (by unfold bigQ; omega)
  obtain ⟨_, w, _, _, _, _, dn, _⟩ := lsync_spec st2
  have z' : SzQ (lsync S L).2.1 (t + 1) := (Sz.lsync z L).up (by omega) (by have := f.2.1; omega)
  refine ⟨⟨⟨q0, base, ext, w, e⟩, z'⟩, fun h0 => ?_⟩
  obtain ⟨_, _, _, d4⟩ := dn h0
  rw [e] at d4
  exact ⟨⟨q0, base, ext, d4, e⟩, z', f.sync⟩
/-- Retire: on a disk that is alive -/
theorem DLq.retire {S : DS} {L : LS} {X : List (List Nat)} {t s : Nat} (h : DLq S L X t s) (hd : S.dead = false) (ht : t ≤ 38) :
    ∃ l : List Seg, S.names.Perm (ents l) ∧ l.Pairwise (fun a b => a.q < b.q) ∧ (∀ g ∈ l, g.q ≤ bigQ) ∧ l.length ≤ 39 ∧ BKq (retS l S).2 (t + 1) ∧ ((retS l S).1 = 0 → DLq (retS l S).2 (goneL L) [] (t + 1) 0) := by
  obtain ⟨⟨q0, base, ext, st, e⟩, z, f⟩ := h
  have st2 := st.upn (show t + 1 ≤ t + 2 by omega) (by unfold bigQ; omega)
  have cn := st.toWk.count
  have bd := st.inv.bound
  have q1 := st.inv.q1
  have lq := ext_small st.inv.chain st.inv.bound st.now.ok
  have bq := st.inv.n1
  obtain ⟨a1, a2⟩ := retS_any st2 hd
  have z' : SzQ (retS (base ++ ext) S).2 (t + 1) := (retS_sz (base ++ ext) z).up (by omega) (by omega)
  refine ⟨base ++ ext, st.now.names, ext_rise st.inv.chain st.now.ok, fun g hg => by have := lq g hg; omega, by omega, ⟨a1, z'⟩, fun h0 => ?_⟩
  obtain ⟨q2, o⟩ := a2 h0
  exact ⟨⟨q2, [], [], o, rfl⟩, z', ⟨fun x hx => (nomatch hx), Nat.zero_le _⟩, Nat.zero_le _, Nat.zero_le _, f.2.2.2⟩
theorem DWq.restart {S : DS} {X : List (List Nat)} {t s : Nat} (h : DWq S X t s) (ht : t ≤ 100) (ch : List Int) :
    RestOk S ch ∧ Calm (restartI S ch) ∧ ∃ m, s ≤ m ∧ m ≤ X.length ∧ DWq (restartI S ch) (X.take m) t m := by
  obtain ⟨⟨q0, base, ext, wk, e⟩, z⟩ := h
  have hd := view_vals wk.inv (pickN_le ch 0 S.chg.length)
  obtain ⟨base', ext', i1, i2, i3, i4, m, m1, m2, m3⟩ := inv_restart wk.inv wk.now wk.safe ch
  have z' : SzQ (restartI S ch) t := Sz.restart z ch hd
  exact ⟨z.restOk ht ch, ⟨rfl, rfl, rfl⟩, m, m1, by rw [← e]; exact m2, ⟨q0, base', ext', ⟨i1, i2, .inl ⟨i3, by rw [m3, List.length_take]; omega⟩, fun _ => i3⟩, by rw [m3, e]⟩, z'⟩
theorem BKq.restart {S : DS} {t : Nat} (h : BKq S t) (ht : t ≤ 100) (ch : List Int) :
    RestOk S ch ∧ Calm (restartI S ch) ∧ ∃ X, DWq (restartI S ch) X t X.length := by
  obtain ⟨b, z⟩ := h
  obtain ⟨q, base, ext, wk⟩ := b.restart ch
  have z' : SzQ (restartI S ch) t := Sz.restart z ch (b.vals (pickN_le _ _ _))
  exact ⟨z.restOk ht ch, ⟨rfl, rfl, rfl⟩, recs base, ⟨q, base, ext, wk, rfl⟩, z'⟩
theorem DWq.opened {S : DS} {X : List (List Nat)} {t s : Nat} (h : DWq S X t s) (limit : Int) (hl : limit ≤ 9223372036854775807) :
    ∃ q0 base ext, Wk S q0 base ext (t + 1) s ∧ recs (base ++ ext) = X ∧ DLq S (openL limit (base ++ ext)) X t s := by
  obtain ⟨⟨q0, base, ext, wk, e⟩, z⟩ := h
  refine ⟨q0, base, ext, wk, (wk_recs wk).trans e, ⟨q0, base, ext, open_st wk limit, e⟩, z, ⟨fun x hx => ?_, Nat.zero_le _⟩, ?_, Nat.zero_le _, by show max limit 1 ≤ _; omega⟩
  · obtain ⟨g, _, rfl⟩ := List.mem_map.1 hx
    rw [nameM_size]; omega
  · show (List.map _ _).length ≤ _
    rw [List.length_map, wk_len wk]
    obtain ⟨C, zz⟩ := z
    exact zz.names
end Go.Proofs.YtpmjmkgokaafaaaGreatDoor
