/- FrameE, WalV, WalW, in one text. -/
import Derived.Test.YtdffpbfllekcgaaGreatDoorHw
import Derived.Test.YtdffpbfllekcgaaGreatDoorIa
import Derived.BigQuiet
namespace Go.Proofs.YtdffpbfllekcgaaGreatDoor
set_option maxRecDepth 100000
open Go.RowKit M

/-- a slice of strings that came in -/
structure SIn (w : World) (v : Value) (n : Nat) (ss : Nat → ByteArray) : Prop where
  shape : ∃ p c, v = .slice p n c
  cells : 0 < n → ∃ b off c, v = .slice (some ⟨b, off, none⟩) n c ∧ b < w.heap.size ∧ ∀ i, i < n → w.cell? ⟨b, off + i, none⟩ = some (.string (ss i))
theorem SIn.below {w w' : World} {v : Value} {n : Nat} {ss : Nat → ByteArray} (h : SIn w v n ss) (hb : Below w.heap.size w w') : SIn w' v n ss :=
  ⟨h.shape, fun hn => by
    obtain ⟨b, off, c, hv, hlt, hc⟩ := h.cells hn
    exact ⟨b, off, c, hv, Nat.lt_of_lt_of_le hlt hb.size, fun i hi => by rw [hb.cell hlt]; exact hc i hi⟩⟩

/-- the record -/
def rcN (ss : Nat → ByteArray) (i : Nat) : List Nat := sb ((ss i).extract 0 60)
theorem rcN_length (ss : Nat → ByteArray) (i : Nat) : (rcN ss i).length ≤ 60 := by unfold rcN; rw [sb_length]; exact cut_le _ _
theorem rcN_lt (ss : Nat → ByteArray) (i : Nat) : ∀ d ∈ rcN ss i, d < 2 ^ 8 := sb_lt _
/-- frames, one behind the other -/
def lay (q : Nat) (f : Nat → List Nat) : Nat → List Nat
  | 0 => []
  | k + 1 => lay q f k ++ frN ((q + k) % 18446744073709551616) (f k)
theorem lay_lt {q : Nat} {f : Nat → List Nat} (hf : ∀ i, ∀ d ∈ f i, d < 2 ^ 8) : ∀ k, ∀ d ∈ lay q f k, d < 2 ^ 8
  | 0, d, h => by cases h
  | k + 1, d, h => by
    rcases List.mem_append.1 h with h | h
    · exact lay_lt hf k d h
    · exact frN_lt (hf k) d h
theorem lay_length {q : Nat} {f : Nat → List Nat} (hf : ∀ i, (f i).length ≤ 60) : ∀ k, (lay q f k).length ≤ 78 * k
  | 0 => by simp [lay]
  | k + 1 => by
    have := lay_length hf k (q := q)
    have h2 := hf k
    simp only [lay, List.length_append, frN_length]; omega
theorem lay_succ (q : Nat) (f : Nat → List Nat) (k : Nat) : (lay q f (k + 1)).length = (lay q f k).length + (18 + (f k).length) := by
  simp only [lay, List.length_append, frN_length]
/-- where each ends -/
def endsN (q : Nat) (f : Nat → List Nat) (k : Nat) : List Nat := (List.range k).map fun i => (lay q f (i + 1)).length
theorem endsN_succ (q : Nat) (f : Nat → List Nat) (k : Nat) : endsN q f (k + 1) = endsN q f k ++ [(lay q f (k + 1)).length] := by
  simp [endsN, List.range_succ]
theorem endsN_length (q : Nat) (f : Nat → List Nat) (k : Nat) : (endsN q f k).length = k := by simp [endsN]

/-- what Laid answers -/
def LaidP (q : Nat) (f : Nat → List Nat) (k : Nat) (w : World) (e : Ending) (w' : World) : Prop :=
  ∃ v, e = .returned (.tuple #[.string (bs (lay q f k)), v]) ∧ w'.ownsRow w.heap.size 3 1 v k (ints (endsN q f k)) ∧ Below w.heap.size w w'

end Go.Proofs.YtdffpbfllekcgaaGreatDoor
namespace Go.Proofs.YtdffpbfllekcgaaGreatDoor
set_option maxRecDepth 100000
open Go.ChangeShapes Go.WideShapes Go.RowKit M

/-- a disk that holds a log's records X, of which the first s are safe; t calls of the log so far -/
def DW (S : DS) (X : List (List Nat)) (t s : Nat) : Prop := (∃ base ext, Wk S 1 base ext 1000 s ∧ recs base = X) ∧ Sz S (7 * t) (8000 * t)
def Fields (L : LS) (t : Nat) : Prop := NamesOk L ∧ L.found.length ≤ 7 * t ∧ L.size ≤ 100 * t ∧ L.limit ≤ 9223372036854775807
/-- and a log that goes on with them -/
def DL (S : DS) (L : LS) (X : List (List Nat)) (t s : Nat) : Prop := (∃ base ext, St S L 1 base ext 1000 s ∧ recs base = X) ∧ Sz S (7 * t) (8000 * t) ∧ Fields L t

theorem DL.dw {S : DS} {L : LS} {X : List (List Nat)} {t s : Nat} (h : DL S L X t s) : DW S X t s := by
  obtain ⟨⟨base, ext, st, e⟩, z, _⟩ := h
  exact ⟨⟨base, ext, st.toWk, e⟩, z⟩
theorem DL.next {S : DS} {L : LS} {X : List (List Nat)} {t s : Nat} (h : DL S L X t s) : L.next = X.length + 1 := by
  obtain ⟨⟨base, ext, st, e⟩, _⟩ := h
  rw [st.nextb (.inr rfl), e]; omega
theorem DW.safe_le {S : DS} {X : List (List Nat)} {t s : Nat} (h : DW S X t s) : s ≤ X.length := by
  obtain ⟨⟨base, ext, wk, e⟩, _⟩ := h
  rw [← e]; exact wk.safe.bound
theorem DW.up {S : DS} {X : List (List Nat)} {t s t' : Nat} (h : DW S X t s) (ht : t ≤ t') : DW S X t' s := ⟨h.1, h.2.up (by omega) (by omega)⟩
theorem DL.up {S : DS} {L : LS} {X : List (List Nat)} {t s t' : Nat} (h : DL S L X t s) (ht : t ≤ t') : DL S L X t' s := by
  obtain ⟨a, b, c, d, e, f⟩ := h
  exact ⟨a, b.up (by omega) (by omega), c, by omega, by omega, f⟩
theorem DL.le {S : DS} {L : LS} {X : List (List Nat)} {t s s' : Nat} (h : DL S L X t s) (hs : s' ≤ s) : DL S L X t s' := by
  obtain ⟨⟨base, ext, st, e⟩, z⟩ := h
  exact ⟨⟨base, ext, ⟨st.toWk.le hs, st.next1, st.next2, st.nextb, st.nexte, st.none, st.some⟩, e⟩, z⟩
theorem DW.le {S : DS} {X : List (List Nat)} {t s s' : Nat} (h : DW S X t s) (hs : s' ≤ s) : DW S X t s' := by
  obtain ⟨⟨base, ext, st, e⟩, z⟩ := h
  exact ⟨⟨base, ext, st.le hs, e⟩, z⟩

theorem DW.begun (room : Int) (h : room ≤ 9223372036854775807) : DW (newS room) [] 0 0 := by
  have f0 : ∀ p, foldP (newS room) p = [] := fun p => by unfold foldP; show List.foldl _ [] (List.take p ([] : List Chg)) = _; rw [List.take_nil]; rfl
  have fl : Full (newS room) [] := fun g hg => nomatch hg
  refine ⟨⟨[], [], ⟨⟨by unfold bigQ; omega, Nat.le_refl _, trivial, fun g hg => (nomatch hg), fun g hg => (nomatch hg), List.nodup_nil, fun g hg => (nomatch hg), by show 1 + 0 ≤ 1000; omega, fun p _ => ⟨[], by rw [f0]; exact List.Perm.refl _, .inl rfl⟩⟩, ⟨List.Perm.refl _, by rw [f0]; exact List.Perm.refl _, .inl rfl, fun g hg => (nomatch hg)⟩, .inl ⟨fl, Nat.le_refl _⟩, fun _ => fl⟩, rfl⟩, Sz.begun room h⟩
theorem Calm.begun (room : Int) : Calm (newS room) := ⟨rfl, rfl, rfl⟩

theorem lsync_fields (S : DS) (L : LS) : ((lsync S L).2.2.found = L.found ∨ (lsync S L).2.2.found = []) ∧ (lsync S L).2.2.size = L.size ∧ (lsync S L).2.2.file = L.file ∧ (lsync S L).2.2.limit = L.limit := by
  unfold lsync
  split
  · exact ⟨.inl rfl, rfl, rfl, rfl⟩
  · split <;> exact ⟨.inr rfl, rfl, rfl, rfl⟩
theorem turn_found (S : DS) (L : LS) : (turnM S L).2.2.found = L.found ∨ (turnM S L).2.2.found = [] := by
  have f := (lsync_fields S L).1
  unfold turnM
  split
  · exact f
  · split
    · exact f
    · split <;> exact f
theorem ahead_found (S : DS) (L : LS) (fr : List Nat) : (ahead S L fr).2.2.found = L.found ∨ (ahead S L fr).2.2.found = [] := by
  unfold ahead
  split
  · exact turn_found S L
  · exact .inl rfl
theorem Fields.sync {S : DS} {L : LS} {t : Nat} (h : Fields L t) : Fields (lsync S L).2.2 (t + 1) := by
  obtain ⟨f1, f2, f3, f4⟩ := lsync_fields S L
  obtain ⟨⟨a1, a2⟩, b, c, d⟩ := h
  refine ⟨⟨fun x hx => ?_, by rw [f3]; exact a2⟩, ?_, by omega, by rw [f4]; exact d⟩
  · rcases f1 with e | e
    · rw [e] at hx; exact a1 x hx
    · rw [e] at hx; exact nomatch hx
  · rcases f1 with e | e
    · rw [e]; omega
    · rw [e]; exact Nat.zero_le _
theorem Fields.append {S : DS} {L : LS} {t : Nat} {r : List Nat} (h : Fields L t) (hr : r.length ≤ 60) (hl : (lappend S L r).2.2.limit = L.limit) : Fields (lappend S L r).2.2 (t + 1) := by
  obtain ⟨f1, f2, f3⟩ := ahead_fields S L (frN L.next r)
  have f4 := ahead_found S L (frN L.next r)
  obtain ⟨⟨a1, a2⟩, b, c, d⟩ := h
  have fl : (frN L.next r).length = 18 + r.length := frN_length _ _
  have ff : ((lappend S L r).2.2.found = (ahead S L (frN L.next r)).2.2.found) ∧ (lappend S L r).2.2.file = (ahead S L (frN L.next r)).2.2.file ∧ ((lappend S L r).2.2.size = (ahead S L (frN L.next r)).2.2.size ∨ (lappend S L r).2.2.size = (ahead S L (frN L.next r)).2.2.size + (frN L.next r).length) := by
    unfold lappend
    split
    · exact ⟨rfl, rfl, .inl rfl⟩
    · split
      · exact ⟨rfl, rfl, .inl rfl⟩
      · exact ⟨rfl, rfl, .inr rfl⟩
  obtain ⟨g1, g2, g3⟩ := ff
  refine ⟨⟨fun x hx => ?_, by rw [g2]; exact f3 a2⟩, ?_, ?_, by rw [hl]; exact d⟩
  · rw [g1] at hx
    rcases f4 with e | e
    · rw [e] at hx; exact a1 x hx
    · rw [e] at hx; exact nomatch hx
  · rw [g1]
    rcases f4 with e | e
    · rw [e]; omega
    · rw [e]; exact Nat.zero_le _
  · rcases g3 with e | e <;> rcases f2 with e' | e' <;> omega

theorem DL.append {S : DS} {L : LS} {X : List (List Nat)} {t s : Nat} {r : List Nat} (h : DL S L X t s) (ht : t ≤ 1000) (hX : X.length ≤ 900) (hr : r.length ≤ 60 ∧ ∀ d ∈ r, d < 2 ^ 8) :
    (∃ X', (X' = X ∨ ((lappend S L r).1 = 0 ∨ (lappend S L r).1 = 9) ∧ X' = X ++ [r]) ∧ DW (lappend S L r).2.1 X' (t + 1) s) ∧ ((lappend S L r).1 = 0 → DL (lappend S L r).2.1 (lappend S L r).2.2 (X ++ [r]) (t + 1) s) ∧
      (lappend S L r).2.1.room = S.room ∧ (Calm S → (700 * t : Nat) + 78 ≤ S.room → (lappend S L r).1 = 0 ∧ Calm (lappend S L r).2.1) := by
  have hnx := h.next
  obtain ⟨⟨base, ext, st, e⟩, z, f⟩ := h
  obtain ⟨⟨q1, base', ext', hq, wk, rec, ok⟩, lim, rm, cm⟩ := lappend_spec st (by omega) hr
  have z' := (z.lappend L hr.1).up (k' := 7 * (t + 1)) (c' := 8000 * (t + 1)) (by omega) (by have := f.2.1; omega)
  obtain rfl := hq rfl
  refine ⟨⟨recs base', ?_, ⟨base', ext', wk, rfl⟩, z'⟩, fun h0 => ?_, rm, fun c hu => cm c ?_⟩
  · rw [← e]; exact rec
  · obtain ⟨o1, o2, o3⟩ := ok h0
    exact ⟨⟨base', ext', o3, by rw [o1, e]⟩, z', f.append hr.1 lim⟩
  · obtain ⟨C, zz⟩ := z
    have := zz.used1
    omega
theorem DL.sync {S : DS} {L : LS} {X : List (List Nat)} {t s : Nat} (h : DL S L X t s) (ht : t ≤ 1000) :
    DW (lsync S L).2.1 X (t + 1) s ∧ ((lsync S L).1 = 0 → DL (lsync S L).2.1 (lsync S L).2.2 X (t + 1) X.length) ∧ (lsync S L).2.1.room = S.room ∧ (Calm S → (lsync S L).1 = 0 ∧ Calm (lsync S L).2.1) := by
  obtain ⟨⟨base, ext, st, e⟩, z, f⟩ := h
  obtain ⟨k, w, _, _, _, _, dn, cm⟩ := lsync_spec st
  have z' := (z.lsync L).up (k' := 7 * (t + 1)) (c' := 8000 * (t + 1)) (by omega) (by have := f.2.1; omega)
  refine ⟨⟨⟨base, ext, w, e⟩, z'⟩, fun h0 => ?_, (lsync_size S L).1, cm⟩
  obtain ⟨_, _, _, d4⟩ := dn h0
  rw [e] at d4
  exact ⟨⟨base, ext, d4, e⟩, z', f.sync⟩
theorem wcutF_le (ch : List Int) (k : Nat) (f : FileS) : (cutF ch k f).data.length ≤ f.data.length ∧ (cutF ch k f).safe ≤ f.data.length := by
  have : (cutF ch k f).data.length ≤ f.data.length := by
    unfold cutF
    simp only
    split
    · rw [List.length_take]; omega
    · exact Nat.le_refl _
  exact ⟨this, this⟩
theorem wfold_small (ch : List Int) (m : Nat) (l : List Nat) : ∀ (q : Nat × DS), (∀ n, (q.2.file n).data.length ≤ m ∧ (q.2.file n).safe ≤ m) →
    (∀ n, ((l.foldl (cutStep ch) q).2.file n).data.length ≤ m ∧ ((l.foldl (cutStep ch) q).2.file n).safe ≤ m) ∧ q.2.used ≤ (l.foldl (cutStep ch) q).2.used ∧ (l.foldl (cutStep ch) q).2.used ≤ q.2.used + (m * l.length : Nat) := by
  induction l with
  | nil => intro q h; exact ⟨h, Int.le_refl _, by simp⟩
  | cons n l ih =>
    intro q h
    rw [List.foldl_cons]
    have hc := wcutF_le ch q.1 (q.2.file n)
    have hm := h n
    obtain ⟨a, b, c⟩ := ih (cutStep ch q n) (fun i => by
      show ((if i = n then cutF ch q.1 (q.2.file n) else q.2.file i).data.length ≤ m) ∧ (if i = n then cutF ch q.1 (q.2.file n) else q.2.file i).safe ≤ m
      by_cases e : i = n
      · rw [if_pos e]; omega
      · rw [if_neg e]; exact h i)
    have hu : (cutStep ch q n).2.used = q.2.used + ((cutF ch q.1 (q.2.file n)).data.length : Int) := rfl
    rw [hu] at b c
    refine ⟨a, by omega, ?_⟩
    have e : m * (n :: l).length = m * l.length + m := by rw [List.length_cons, Nat.mul_succ]
    rw [e]
    omega
theorem wrestOk_small {S : DS} {ch : List Int} (m k : Nat) (hk : (rest0 S ch).names.length ≤ k) (hmk : m * k ≤ 1099511627776) (hm : m ≤ 1099511627776) (hk2 : k ≤ 1099511627776) (hr : ∀ p ∈ (rest0 S ch).names, 1 ≤ p.2 ∧ p.2 ≤ S.made) (hd : ∀ n, (S.file n).data.length ≤ m ∧ (S.file n).safe ≤ m) : RestOk S ch := by
  refine ⟨by omega, hr, fun j n hn => ?_⟩
  obtain ⟨a, b, c⟩ := wfold_small ch m ((oldest (rest0 S ch).names).take j) (1, rest0 S ch) hd
  have u0 : (rest0 S ch).used = 0 := rfl
  have hl : ((oldest (rest0 S ch).names).take j).length ≤ k := by
    rw [oldest_eq, List.length_take, isort_length, List.length_map]; omega
  have hx : m * ((oldest (rest0 S ch).names).take j).length ≤ m * k := Nat.mul_le_mul_left m hl
  simp only [u0] at b c
  obtain ⟨a1, a2⟩ := a n
  exact ⟨b, by omega, by omega, by omega⟩
theorem DW.restart {S : DS} {X : List (List Nat)} {t s : Nat} (h : DW S X t s) (ht : t ≤ 1000) (ch : List Int) :
    RestOk S ch ∧ Calm (restartI S ch) ∧ (restartI S ch).room = S.room ∧ ∃ m, s ≤ m ∧ m ≤ X.length ∧ DW (restartI S ch) (X.take m) t m := by
  obtain ⟨⟨base, ext, wk, e⟩, z⟩ := h
  have hd := view_vals wk.inv (pickN_le ch 0 S.chg.length)
  obtain ⟨_, _, _, _, _, _, a7, _, _⟩ := restart_spec S ch hd
  obtain ⟨base', ext', i1, i2, i3, i4, m, m1, m2, m3⟩ := inv_restart wk.inv wk.now wk.safe ch
  have z' := z.restart ch hd
  refine ⟨?_, ⟨rfl, rfl, rfl⟩, a7, m, m1, by rw [← e]; exact m2, ⟨base', ext', ⟨i1, i2, .inl ⟨i3, by rw [m3, List.length_take]; omega⟩, fun _ => i3⟩, by rw [m3, e]⟩, z'⟩
  obtain ⟨C, zz⟩ := z
  refine wrestOk_small (700 * t) (7 * t) ?_ ?_ (by omega) (by omega) ?_ (fun n => ⟨by have := zz.data n; omega, by have := zz.dsafe n; omega⟩)
  · rw [wrest0_names]
    have := foldl_length (S.chg.take (pickN ch 0 S.chg.length)) S.safe
    have ht' : (S.chg.take (pickN ch 0 S.chg.length)).length ≤ S.chg.length := List.length_take_le' _ _
    have sc := zz.sc
    unfold foldP
    omega
  · have : 700 * t * (7 * t) ≤ 700000 * 7000 := Nat.mul_le_mul (by omega) (by omega)
    omega
  · rw [wrest0_names]
    exact wfold_mem (P := fun n => 1 ≤ n ∧ n ≤ S.made) (S.chg.take (pickN ch 0 S.chg.length)) S.safe (fun p hp => ⟨(zz.sref p hp).1, (zz.sref p hp).2.1⟩) (fun c hc => ⟨(zz.cref c (List.mem_of_mem_take hc)).1.1, (zz.cref c (List.mem_of_mem_take hc)).1.2.1⟩)
theorem open_st {S : DS} {q0 n s : Nat} {base ext : List Seg} (h : Wk S q0 base ext n s) (limit : Int) : St S (openL limit (base ++ ext)) q0 base ext n s := by
  have endq : ∀ (l : List Seg) (q d : Nat), ChainQ q l → l ≠ [] → nextL l d = q + (recs l).length := by
    intro l
    induction l with
    | nil => intro q d _ h; exact absurd rfl h
    | cons y l ih =>
      intro q d hc _
      obtain ⟨c1, c2, c3⟩ := hc
      show nextL l (y.q + y.rs.length) = _
      rw [recs_cons, List.length_append]
      by_cases e : l = []
      · subst e
        show y.q + y.rs.length = _
        rw [c1, recs_nil, List.length_nil]; omega
      · rw [ih _ _ c3 e]; omega
  have b1 := h.inv.bound
  have b2 := h.inv.q1
  have nx : 1 ≤ nextL (base ++ ext) 1 ∧ nextL (base ++ ext) 1 ≤ n ∧ (base ≠ [] ∨ q0 = 1 → nextL (base ++ ext) 1 = q0 + (recs base).length) ∧ ∀ g ∈ ext, nextL (base ++ ext) 1 = g.q := by
    rcases h.now.ok with e | ⟨x, e, x2, _, x4, x5, x6, _⟩
    · subst e
      rw [List.append_nil]
      by_cases e : base = []
      · subst e
        exact ⟨Nat.le_refl _, by show 1 ≤ n; omega, fun h => by rcases h with h | h; exact absurd rfl h; rw [h]; rfl, fun g hg => nomatch hg⟩
      · have := endq base q0 1 h.inv.chain e
        exact ⟨by omega, by omega, fun _ => this, fun g hg => nomatch hg⟩
    · subst e
      have e2 : nextL (base ++ [x]) 1 = x.q := by rw [nextL_snoc, x2]; rfl
      rw [e2]
      exact ⟨x5, x6, x4, fun g hg => by rw [List.mem_singleton] at hg; rw [hg]⟩
  refine ⟨h, nx.1, nx.2.1, nx.2.2.1, nx.2.2.2, fun _ => ⟨rfl, fun x hx => ?_, .inr fun g hg => ?_⟩, fun e => absurd rfl e⟩
  · obtain ⟨g, hg, rfl⟩ := List.mem_map.1 hx
    exact ⟨g, hg, rfl⟩
  · exact List.mem_map.2 ⟨g, List.mem_append.2 (.inl hg), rfl⟩
theorem DW.opened {S : DS} {X : List (List Nat)} {t s : Nat} (h : DW S X t s) (limit : Int) (hl : limit ≤ 9223372036854775807) :
    ∃ l q0 base ext, l = base ++ ext ∧ Wk S q0 base ext 1000 s ∧ recs l = X ∧ DL S (openL limit l) X t s := by
  obtain ⟨⟨base, ext, wk, e⟩, z⟩ := h
  refine ⟨base ++ ext, 1, base, ext, rfl, wk, (wk_recs wk).trans e, ⟨base, ext, open_st wk limit, e⟩, z, ⟨fun x hx => ?_, Nat.zero_le _⟩, ?_, Nat.zero_le _, by show max limit 1 ≤ _; omega⟩
  · obtain ⟨g, _, rfl⟩ := List.mem_map.1 hx
    rw [nameM_size]; omega
  · show (List.map _ _).length ≤ _
    rw [List.length_map, wk_len wk]
    obtain ⟨C, zz⟩ := z
    exact zz.names

/-! ### the calls -/
theorem append_c {w : World} {lb b : Nat} {F D : Nat → Prop} {S : DS} {L : LS} {X : List (List Nat)} {t s : Nat} (h : HasL w lb b F D S L) (hd : DL S L X t s) (ht : t ≤ 1000) (hX : X.length ≤ 900) (r : ByteArray) (hr : r.size ≤ 60) (hH : Halves w) :
    Calls Tryz.prog 15 #[.pointer (some ⟨lb, 0, none⟩), .string r] w (LP lb b F D w (.int .i64 (lappend S L (sb r)).1) (lappend S L (sb r)).2.1 (lappend S L (sb r)).2.2) := by
  have hn := hd.next
  obtain ⟨_, z, f1, f2, f3, f4⟩ := hd
  exact lappend_any lb b F D S L r w _ _ h z (by omega) (by omega) f1 (by omega) hr (by omega) f4 hH
theorem sync_c {w : World} {lb b : Nat} {F D : Nat → Prop} {S : DS} {L : LS} {X : List (List Nat)} {t s : Nat} (h : HasL w lb b F D S L) (hd : DL S L X t s) (ht : t ≤ 1000) :
    Calls Tryz.prog 16 #[.pointer (some ⟨lb, 0, none⟩)] w (LP lb b F D w (.int .i64 (lsync S L).1) (lsync S L).2.1 (lsync S L).2.2) := by
  obtain ⟨_, z, f1, f2, f3, f4⟩ := hd
  exact lsync_any lb b F D S L w _ _ h z (by omega) (by omega) f1
/-- what Open leaves, to a law -/
def OpenQ (b : Nat) (F : Nat → Prop) (S : DS) (X : List (List Nat)) (t s : Nat) (w : World) (e : Ending) (w' : World) : Prop :=
  ∃ lb p c L, e = .returned (.tuple #[.pointer (some ⟨lb, 0, none⟩), .slice p X.length c, .int .i64 0]) ∧ HasL w' lb b (fun k => F k ∨ (w.heap.size ≤ k ∧ k < w'.heap.size)) (fun k => w.heap.size ≤ k ∧ k < w'.heap.size) S L ∧ w.heap.size ≤ lb ∧ (∀ k, (Value.slice p X.length c).ownBlock = some k → k ≠ lb) ∧
    w'.ownsRow w.heap.size 9 1 (.slice p X.length c) X.length (strs X) ∧ Below w.heap.size w w' ∧ DL S L X t s
theorem open_c {w : World} {b : Nat} {F : Nat → Prop} {S : DS} {X : List (List Nat)} {t s : Nat} (h : HasF w b F S) (hd : S.dead = false) (hw : DW S X t s) (ht : t ≤ 700) (limit : Int) (hl : limit ≤ 9223372036854775807) (hL : LibW w) (hH : Halves w) :
    Calls Tryz.prog 11 #[.pointer (some ⟨b, 0, none⟩), .int .i64 limit] w (OpenQ b F S X t s w) := by
  obtain ⟨l, q0, base, ext, rfl, wk, er, dl⟩ := hw.opened limit hl
  have c := open_any b F S limit w _ _ q0 1000 s base ext h hd wk hw.2 (by omega) (by omega) (by omega) hL hH
  refine c.mono fun e w' ⟨lb, v, he, hL, h1, h2, row, hb⟩ => ?_
  rw [er] at row
  obtain ⟨p, cp, rfl⟩ := own_len row
  exact ⟨lb, p, cp, _, he, hL, h1, h2, row, hb, dl⟩
end Go.Proofs.YtdffpbfllekcgaaGreatDoor
namespace Go.Proofs.YtdffpbfllekcgaaGreatDoor
set_option maxRecDepth 100000
open Go.ChangeShapes Go.WideShapes Go.RowKit M

/-- a law holds a disk and a log of it since world w0 -/
structure Run (w0 w : World) (lb b : Nat) (F D : Nat → Prop) (S : DS) (L : LS) (X : List (List Nat)) (t s : Nat) : Prop where
  log : HasL w lb b F D S L
  st : DL S L X t s
  old : ∀ k, k < w0.heap.size → F k
  lbB : w0.heap.size ≤ lb
  bel : Below w0.heap.size w0 w
/-- a law holds a disk since world w0 -/
structure RunD (w0 w : World) (b : Nat) (F : Nat → Prop) (S : DS) (X : List (List Nat)) (t s : Nat) : Prop where
  disk : HasF w b F S
  st : DW S X t s
  old : ∀ k, k < w0.heap.size → F k
  bel : Below w0.heap.size w0 w
theorem Run.d {w0 w : World} {lb b : Nat} {F D : Nat → Prop} {S : DS} {L : LS} {X : List (List Nat)} {t s : Nat} (h : Run w0 w lb b F D S L X t s) : RunD w0 w b F S X t s := ⟨h.log.disk, h.st.dw, h.old, h.bel⟩
theorem keep_below {w0 w w' : World} {F : Nat → Prop} {lb : Nat} (h : Below w0.heap.size w0 w) (ho : ∀ k, k < w0.heap.size → F k) (hl : w0.heap.size ≤ lb) (hk : KeepF (fun k => F k ∧ k ≠ lb) w w') : Below w0.heap.size w0 w' :=
  h.trans (hk.below h.size (fun k hlt => ⟨ho k hlt, by omega⟩))

/-- an append that goes well -/
def AppQ (w0 : World) (lb b : Nat) (F D : Nat → Prop) (S : DS) (X : List (List Nat)) (r : List Nat) (t s : Nat) (w : World) (e : Ending) (w' : World) : Prop :=
  e = .returned (.int .i64 0) ∧ ∃ S' L', Run w0 w' lb b F D S' L' (X ++ [r]) (t + 1) s ∧ KeepF (fun k => F k ∧ k ≠ lb) w w' ∧ Calm S' ∧ S'.room = S.room
theorem append_calm {w0 w : World} {lb b : Nat} {F D : Nat → Prop} {S : DS} {L : LS} {X : List (List Nat)} {t s : Nat} (h : Run w0 w lb b F D S L X t s) (hc : Calm S) (hr : (700 * t : Nat) + 78 ≤ S.room) (ht : t ≤ 600) (hX : X.length ≤ 900) (r : ByteArray) (hs : r.size ≤ 60) (hH : Halves w0) :
    Calls Tryz.prog 15 #[.pointer (some ⟨lb, 0, none⟩), .string r] w (AppQ w0 lb b F D S X (sb r) t s w) := by
  have c := append_c h.log h.st (by omega) hX r hs (halves_below hH h.bel)
  obtain ⟨_, a2, a3, a4⟩ := h.st.append (r := sb r) (by omega) hX ⟨by rw [sb_length]; exact hs, sb_lt r⟩
  obtain ⟨a5, a6⟩ := a4 hc hr
  rw [a5] at c
  exact c.mono fun e w' ⟨he, hl, hk⟩ => ⟨he, _, _, ⟨hl, a2 a5, h.old, h.lbB, keep_below h.bel h.old h.lbB hk⟩, hk, a6, a3⟩
def SyncQ (w0 : World) (lb b : Nat) (F D : Nat → Prop) (S : DS) (X : List (List Nat)) (t : Nat) (w : World) (e : Ending) (w' : World) : Prop :=
  e = .returned (.int .i64 0) ∧ ∃ S' L', Run w0 w' lb b F D S' L' X (t + 1) X.length ∧ KeepF (fun k => F k ∧ k ≠ lb) w w' ∧ Calm S' ∧ S'.room = S.room
theorem sync_calm' {w0 w : World} {lb b : Nat} {F D : Nat → Prop} {S : DS} {L : LS} {X : List (List Nat)} {t s : Nat} (h : Run w0 w lb b F D S L X t s) (hc : Calm S) (ht : t ≤ 600) :
    Calls Tryz.prog 16 #[.pointer (some ⟨lb, 0, none⟩)] w (SyncQ w0 lb b F D S X t w) := by
  have c := sync_c h.log h.st (by omega)
  obtain ⟨_, a2, a3, a4⟩ := h.st.sync (by omega)
  obtain ⟨a5, a6⟩ := a4 hc
  rw [a5] at c
  exact c.mono fun e w' ⟨he, hl, hk⟩ => ⟨he, _, _, ⟨hl, a2 a5, h.old, h.lbB, keep_below h.bel h.old h.lbB hk⟩, hk, a6, a3⟩
def NewQ (w0 w : World) (e : Ending) (w' : World) (room : Int) : Prop :=
  ∃ b, e = .returned (.pointer (some ⟨b, 0, none⟩)) ∧ RunD w0 w' b (fun k => k < w.heap.size) (newS room) [] 0 0 ∧ Below w.heap.size w w'
theorem new_run {w0 w : World} (hb : Below w0.heap.size w0 w) (room : Int) (h1 : -9223372036854775808 ≤ room) (h2 : room ≤ 9223372036854775807) :
    Calls Tryz.prog 4 #[.int .i64 room] w fun e w' => NewQ w0 w e w' room :=
  (dnew_f room w h1 h2).mono fun e w' ⟨b, he, hf, hb'⟩ => ⟨b, he, ⟨hf, DW.begun room h2, fun k hk => by have := hb.size; omega, hb.trans (hb'.mono hb.size)⟩, hb'⟩
/-- the log is opened -/
def OpenR (w0 : World) (b : Nat) (F : Nat → Prop) (S : DS) (X : List (List Nat)) (t s : Nat) (w : World) (e : Ending) (w' : World) : Prop :=
  ∃ lb p c L, e = .returned (.tuple #[.pointer (some ⟨lb, 0, none⟩), .slice p X.length c, .int .i64 0]) ∧ Run w0 w' lb b (fun k => F k ∨ (w.heap.size ≤ k ∧ k < w'.heap.size)) (fun k => w.heap.size ≤ k ∧ k < w'.heap.size) S L X t s ∧ w.heap.size ≤ lb ∧ (∀ k, (Value.slice p X.length c).ownBlock = some k → k ≠ lb) ∧
    w'.ownsRow w.heap.size 9 1 (.slice p X.length c) X.length (strs X) ∧ Below w.heap.size w w'
theorem open_run {w0 w : World} {b : Nat} {F : Nat → Prop} {S : DS} {X : List (List Nat)} {t s : Nat} (h : RunD w0 w b F S X t s) (hd : S.dead = false) (ht : t ≤ 600) (limit : Int) (hl : limit ≤ 9223372036854775807) (hL : LibW w0) (hH : Halves w0) :
    Calls Tryz.prog 11 #[.pointer (some ⟨b, 0, none⟩), .int .i64 limit] w (OpenR w0 b F S X t s w) :=
  (open_c h.disk hd h.st (by omega) limit hl (hL.below h.bel) (halves_below hH h.bel)).mono fun e w' ⟨lb, p, c, L, he, hl, h1, h2, row, hb, dl⟩ =>
    ⟨lb, p, c, L, he, ⟨hl, dl, fun k hk => .inl (h.old k hk), Nat.le_trans h.bel.size h1, h.bel.trans (hb.mono h.bel.size)⟩, h1, h2, row, hb⟩
/-- the disk restarts -/
def RestQ (w0 : World) (b : Nat) (F : Nat → Prop) (S : DS) (X : List (List Nat)) (t s : Nat) (w : World) (e : Ending) (w' : World) : Prop :=
  e = .returned (.tuple #[]) ∧ ∃ S' m, s ≤ m ∧ m ≤ X.length ∧ RunD w0 w' b F S' (X.take m) t m ∧ KeepF F w w' ∧ Calm S' ∧ S'.room = S.room
theorem restart_run {w0 w : World} {b : Nat} {F : Nat → Prop} {S : DS} {X : List (List Nat)} {t s : Nat} (h : RunD w0 w b F S X t s) (ht : t ≤ 600) (v : Value) (choice : List Int) (hv : IntsIn w v choice) (hvo : ∀ k, 0 < choice.length → v.ownBlock = some k → F k) :
    Calls Tryz.prog 17 #[.pointer (some ⟨b, 0, none⟩), v] w (RestQ w0 b F S X t s w) := by
  obtain ⟨r1, r2, r3, m, m1, m2, m3⟩ := h.st.restart (by omega) choice
  exact (restart_f b F S v choice w h.disk (h.st.2.fine (by omega) (by omega)) r1 hv hvo).mono fun e w' ⟨he, hf, hk⟩ =>
    ⟨he, _, m, m1, m2, ⟨hf, m3, h.old, h.bel.trans (hk.below h.bel.size h.old)⟩, hk, r2, r3⟩

set_option maxRecDepth 100000 in
set_option maxHeartbeats 4000000 in
theorem awake7_any (w : World) (hL : LibW w) (hH : Halves w) : Calls Tryz.prog 5 #[] w fun e w' => e = .returned (.bool true) ∧ Below w.heap.size w w' := by
  have c0 := new_run (Below.refl w.heap.size w) 1000 (by omega) (by omega)
  have nm : nameM 3 = ⟨#[119, 97, 108, 45, 48, 48, 48, 48, 48, 48, 48, 48, 48, 48, 48, 48, 48, 48, 48, 51]⟩ := by decide +kernel
  have sa : sb ⟨#[97]⟩ = [97] := by decide
  have sb' : sb ⟨#[98]⟩ = [98] := by decide
  have t1 : bs [97] = ⟨#[97]⟩ := by decide +kernel
  have t2 : bs [98] = ⟨#[98]⟩ := by decide +kernel
  have HL := Box.mk hL; have HH := Box.mk hH; have C0 := Box.mk c0; have NM := Box.mk nm; have SA := Box.mk sa; have SB := Box.mk sb'; have T1 := Box.mk t1; have T2 := Box.mk t2; have CN := Box.mk (fun W => name_any 3 (by decide) W)
  clear hL hH c0 nm sa sb' t1 t2
  go_enter Tryz.func5, Tryz.ntmps5
  go_wp2_with (first
    | (go_at_call 4; ((with_reducible refine C0.out.mono ?_); rintro e w1 ⟨b, rfl, rd, b1⟩; have RD := Box.mk rd; have K1 := Box.mk (open_run rd rfl (by omega) 100 (by omega) HL.out HH.out); clear rd b1 C0))
    | (go_at_call 11; ((with_reducible refine K1.out.mono ?_); rintro e w2 ⟨lb, p, c, L, rfl, rn, _, _, _, _⟩; have K2 := Box.mk (append_calm rn (Calm.begun 1000) (by show (0 : Int) + 78 ≤ max 1000 0; omega) (by omega) (by decide) ⟨#[97]⟩ (by decide) HH.out); clear rn K1))
    | (go_at_call 15; ((with_reducible refine K2.out.mono ?_); rintro e w3 ⟨rfl, S1, L1, rn, _, cm, rm⟩; have K3 := Box.mk (append_calm rn cm (by rw [rm]; show ((700 * (0 + 1) : Nat) : Int) + 78 ≤ max 1000 0; omega) (by omega) (by decide) ⟨#[98]⟩ (by decide) HH.out); clear rn cm rm K2))
    | (go_at_call 15; ((with_reducible refine K3.out.mono ?_); rintro e w4 ⟨rfl, S2, L2, rn, _, cm, rm⟩; have K4 := Box.mk (sync_calm' rn cm (by omega)); clear rn cm rm K3))
    | (go_at_call 16; ((with_reducible refine K4.out.mono ?_); rintro e w5 ⟨rfl, S3, L3, rn, _, cm, rm⟩; have K5 := Box.mk (restart_run rn.d (by omega) (.slice none 0 0) [] (ints_nil _) (fun k h0 _ => absurd h0 (Nat.lt_irrefl _))); clear rn cm rm K4))
    | (go_at_call 17; ((with_reducible refine K5.out.mono ?_); rintro e w6 ⟨rfl, S4, m, m1, m2, rd, _, cm, _⟩; have em : m = 2 := (by rw [SA.out, SB.out] at m1 m2; simp at m1 m2; omega); rw [em, SA.out, SB.out] at rd; have K6 := Box.mk (open_run rd cm.1 (by omega) 100 (by omega) HL.out HH.out); clear rd cm em m1 m2 K5))
    | (go_at_call 11; ((with_reducible refine K6.out.mono ?_); rintro e w7 ⟨lb2, p2, c2, L4, rfl, rn, _, _, row, _⟩; obtain ⟨g, cap, hv, _, _⟩ := row.form (by decide); obtain ⟨rfl, _, rfl⟩ := Value.slice.inj hv; have q0 : w7.cell? ⟨g, 0, none⟩ = some (.string ⟨#[97]⟩) := (row.cellAt 0 (by decide)).trans (by rw [← T1.out]; rfl); have q1 : w7.cell? ⟨g, 1, none⟩ = some (.string ⟨#[98]⟩) := (row.cellAt 1 (by decide)).trans (by rw [← T2.out]; rfl); have nx : L4.next = 3 := rn.st.next; have nc := next_any _ _ _ _ _ _ _ rn.log; rw [nx] at nc; have NC := Box.mk nc; have BW := Box.mk rn.bel; clear rn row hv nx nc K6))
    | (go_at_call 13; ((refine NC.out.mono ?_); rintro e w8 ⟨rfl, rfl⟩))
    | (go_at_call 18; ((refine (CN.out _).mono ?_); rintro e w9 ⟨rfl, b9⟩; have B9 := Box.mk (BW.out.trans (b9.mono BW.out.size)); have e9 := NM.out; rw [e9]; clear b9)))
  go_ret
  exact ⟨rfl, B9.out⟩
end Go.Proofs.YtdffpbfllekcgaaGreatDoor
