/- WalE, WalF, WalG, WalH, WalI, in one text. -/
import Derived.Test.YtacfdnjdjgdbcaaGreatDoorHp
import Derived.Test.YtacfdnjdjgdbcaaGreatDoorHs
namespace Go.Proofs.YtacfdnjdjgdbcaaGreatDoor
set_option maxRecDepth 100000
open Go.RowKit M

/-! ### a restart -/
theorem cut_spec (ch : List Int) (k : Nat) (f : FileS) : ∃ m, (cutF ch k f).data = f.data.take m ∧ f.safe ≤ m ∧ (cutF ch k f).safe = (cutF ch k f).data.length ∧ (cutF ch k f).named = true := by
  unfold cutF
  by_cases h : f.safe < f.data.length
  · simp only [if_pos h]
    exact ⟨_, rfl, Nat.le_add_right _ _, trivial, trivial⟩
  · simp only [if_neg h]
    exact ⟨max f.safe f.data.length, by rw [List.take_of_length_le (by omega)], by omega, trivial, trivial⟩
theorem cut_fold (ch : List Int) (l : List Nat) : ∀ (q : Nat × DS), l.Nodup → (∀ i, i ∉ l → (l.foldl (cutStep ch) q).2.file i = q.2.file i) ∧ (∀ i, i ∈ l → ∃ k, (l.foldl (cutStep ch) q).2.file i = cutF ch k (q.2.file i)) ∧
    (l.foldl (cutStep ch) q).2.names = q.2.names ∧ (l.foldl (cutStep ch) q).2.safe = q.2.safe ∧ (l.foldl (cutStep ch) q).2.chg = q.2.chg ∧ (l.foldl (cutStep ch) q).2.made = q.2.made ∧ (l.foldl (cutStep ch) q).2.room = q.2.room ∧ (l.foldl (cutStep ch) q).2.calls = q.2.calls ∧
    (∀ C : Nat → Bool, (∀ i, C i = decide (i ∈ l)) → (∀ i ∈ l, 1 ≤ i ∧ i ≤ q.2.made) → (l.foldl (cutStep ch) q).2.used = q.2.used + (sumC C (l.foldl (cutStep ch) q).2.file q.2.made : Nat)) := by
  induction l with
  | nil =>
    intro q _
    refine ⟨fun _ _ => rfl, fun i h => (nomatch h), rfl, rfl, rfl, rfl, rfl, rfl, fun C hC _ => ?_⟩
    have z : ∀ n, sumC C q.2.file n = 0 := fun n => by
      induction n with
      | zero => rfl
      | succ n ih => unfold sumC; rw [ih, hC]; simp
    show q.2.used = q.2.used + ((sumC C q.2.file q.2.made : Nat) : Int)
    rw [z]; simp
  | cons n l ih =>
    intro q hn
    obtain ⟨n1, n2⟩ := List.nodup_cons.1 hn
    rw [List.foldl_cons]
    obtain ⟨a, b, c1, c2, c3, c4, c5, c6, d⟩ := ih (cutStep ch q n) n2
    have fq : ∀ i, (cutStep ch q n).2.file i = if i = n then cutF ch q.1 (q.2.file n) else q.2.file i := fun _ => rfl
    refine ⟨fun i hi => ?_, fun i hi => ?_, c1, c2, c3, c4, c5, c6, fun C hC hl => ?_⟩
    · rw [a i (fun h => hi (List.mem_cons_of_mem _ h)), fq, if_neg (fun e => hi (by rw [e]; exact List.mem_cons_self))]
    · rcases List.mem_cons.1 hi with rfl | hi
      · exact ⟨q.1, by rw [a i n1, fq, if_pos rfl]⟩
      · obtain ⟨k, e⟩ := b i hi
        exact ⟨k, by rw [e, fq, if_neg (fun e => n1 (by rw [← e]; exact hi))]⟩
    · have hd := d (fun i => decide (i ∈ l)) (fun _ => rfl) (fun i hi => hl i (List.mem_cons_of_mem _ hi))
      rw [hd]
      have hm : (cutStep ch q n).2.made = q.2.made := rfl
      have hu : (cutStep ch q n).2.used = q.2.used + ((cutF ch q.1 (q.2.file n)).data.length : Int) := rfl
      rw [hm, hu]
      obtain ⟨m1, m2⟩ := hl n List.mem_cons_self
      have ad := sumC_add (fun i => decide (i ∈ l)) (l.foldl (cutStep ch) (cutStep ch q n)).2.file q.2.made n m1 m2 (decide_eq_false n1)
      have cc : sumC C (l.foldl (cutStep ch) (cutStep ch q n)).2.file q.2.made = sumC (fun i => decide (i = n) || decide (i ∈ l)) (l.foldl (cutStep ch) (cutStep ch q n)).2.file q.2.made := sumC_congr _ (fun i _ _ => by
        have : C i = (decide (i = n) || decide (i ∈ l)) := by rw [hC]; by_cases e : i = n <;> simp [e]
        rw [this])
      rw [cc, ad, a n n1, fq, if_pos rfl]
      omega
end Go.Proofs.YtacfdnjdjgdbcaaGreatDoor
namespace Go.Proofs.YtacfdnjdjgdbcaaGreatDoor
set_option maxRecDepth 100000
open Go.RowKit M

theorem wrest0_names (S : DS) (ch : List Int) : (rest0 S ch).names = foldP S (pickN ch 0 S.chg.length) := rfl
/-- what a restart leaves of each file that has a name then -/
theorem restart_spec (S : DS) (ch : List Int) (hd : ((foldP S (pickN ch 0 S.chg.length)).map (·.2)).Nodup) :
    (restartI S ch).names = foldP S (pickN ch 0 S.chg.length) ∧ (restartI S ch).safe = foldP S (pickN ch 0 S.chg.length) ∧ (restartI S ch).chg = [] ∧ (restartI S ch).made = S.made ∧
    (∀ x ∈ foldP S (pickN ch 0 S.chg.length), ∃ m, ((restartI S ch).file x.2).data = (S.file x.2).data.take m ∧ (S.file x.2).safe ≤ m ∧ ((restartI S ch).file x.2).safe = ((restartI S ch).file x.2).data.length ∧ ((restartI S ch).file x.2).named = true) ∧
    (∀ i, ((restartI S ch).file i).data.length ≤ (S.file i).data.length ∧ (((restartI S ch).file i).safe ≤ (S.file i).safe ∨ ((restartI S ch).file i).safe ≤ (S.file i).data.length)) ∧
    (restartI S ch).room = S.room ∧ (restartI S ch).calls = S.calls ∧
    (∀ C : Nat → Bool, (∀ i, C i = decide (i ∈ (foldP S (pickN ch 0 S.chg.length)).map (·.2))) → (∀ x ∈ foldP S (pickN ch 0 S.chg.length), 1 ≤ x.2 ∧ x.2 ≤ S.made) → (restartI S ch).used = (sumC C (restartI S ch).file S.made : Nat)) := by
  obtain ⟨l, hl⟩ : ∃ l, l = isort ((rest0 S ch).names.map (·.2)) := ⟨_, rfl⟩
  have pm : l.Perm ((foldP S (pickN ch 0 S.chg.length)).map (·.2)) := by rw [hl, wrest0_names]; exact isort_perm _
  have nd : l.Nodup := pm.nodup_iff.2 hd
  obtain ⟨a, b, c1, c2, c3, c4, c5, c6, d⟩ := cut_fold ch l (1, rest0 S ch) nd
  have er : restartI S ch = { (l.foldl (cutStep ch) (1, rest0 S ch)).2 with crash := -1, fail := -1, dead := false } := by rw [hl]; rfl
  have ef : (restartI S ch).file = (l.foldl (cutStep ch) (1, rest0 S ch)).2.file := by rw [er]
  have f0 : (rest0 S ch).file = S.file := rfl
  have u0 : (rest0 S ch).used = 0 := rfl
  have m0 : (rest0 S ch).made = S.made := rfl
  refine ⟨by rw [er]; exact c1, by rw [er]; exact c2, by rw [er]; exact c3, by rw [er]; exact c4, fun x hx => ?_, fun i => ?_, by rw [er]; exact c5, by rw [er]; exact c6, fun C hC hb => ?_⟩
  · obtain ⟨k, e⟩ := b x.2 (pm.mem_iff.2 (List.mem_map.2 ⟨x, hx, rfl⟩))
    obtain ⟨m, m1, m2, m3, m4⟩ := cut_spec ch k (S.file x.2)
    rw [ef, e]
    exact ⟨m, m1, m2, m3, m4⟩
  · rw [ef]
    by_cases hi : i ∈ l
    · obtain ⟨k, e⟩ := b i hi
      obtain ⟨m, m1, m2, m3, m4⟩ := cut_spec ch k (S.file i)
      rw [e]
      have le : (cutF ch k (S.file i)).data.length ≤ (S.file i).data.length := by rw [m1]; exact List.length_take_le' _ _
      exact ⟨le, .inr (by show (cutF ch k (S.file i)).safe ≤ _; rw [m3]; exact le)⟩
    · rw [a i hi]
      exact ⟨Nat.le_refl _, .inl (Nat.le_refl _)⟩
  · have := d C (fun i => by rw [hC]; exact decide_eq_decide.2 pm.mem_iff.symm) (fun i hi => by
      obtain ⟨x, hx, rfl⟩ := List.mem_map.1 (pm.mem_iff.1 hi)
      exact hb x hx)
    rw [er]
    show (l.foldl (cutStep ch) (1, rest0 S ch)).2.used = _
    rw [this]
    show (0 : Int) + _ = _
    rw [Int.zero_add]
    rfl
theorem Sz.restart {S : DS} {k c : Nat} (h : Sz S k c) (ch : List Int) (hd : ((foldP S (pickN ch 0 S.chg.length)).map (·.2)).Nodup) : Sz (restartI S ch) k c := by
  obtain ⟨C, h⟩ := h
  obtain ⟨p, hp⟩ : ∃ p, p = pickN ch 0 S.chg.length := ⟨_, rfl⟩
  obtain ⟨a1, a2, a3, a4, a5, a6, a7, a8, a9⟩ := restart_spec S ch hd
  rw [← hp] at a1 a2 a5 a9
  have refs : ∀ x ∈ foldP S p, RefC S C x.2 := wfold_mem (P := RefC S C) (S.chg.take p) S.safe h.sref (fun d hdm => (h.cref d (List.mem_of_mem_take hdm)).1)
  have len : (foldP S p).length ≤ k := by
    have := foldl_length (S.chg.take p) S.safe
    have ht : (S.chg.take p).length ≤ S.chg.length := List.length_take_le' _ _
    have sc := h.sc
    unfold foldP
    omega
  have us := a9 (fun i => decide (i ∈ (foldP S p).map (·.2))) (fun _ => rfl) (fun x hx => ⟨(refs x hx).1, (refs x hx).2.1⟩)
  have le : sumC (fun i => decide (i ∈ (foldP S p).map (·.2))) (restartI S ch).file S.made ≤ sumC C S.file S.made := sumC_le _ (fun i _ _ => by
    by_cases hi : i ∈ (foldP S p).map (·.2)
    · obtain ⟨x, hx, rfl⟩ := List.mem_map.1 hi
      rw [decide_eq_true hi, (refs x hx).2.2]
      exact (a6 x.2).1
    · rw [decide_eq_false hi]; exact Nat.zero_le _)
  have uu := h.used; have u1 := h.used1
  have nr : ∀ x ∈ foldP S p, RefC (restartI S ch) (fun i => decide (i ∈ (foldP S p).map (·.2))) x.2 := fun x hx => ⟨(refs x hx).1, by rw [a4]; exact (refs x hx).2.1, decide_eq_true (List.mem_map.2 ⟨x, hx, rfl⟩)⟩
  refine ⟨_, by rw [a7]; exact h.room0, by rw [a7]; exact h.room1, by show (-1 : Int) ≤ -1; omega, by show (-1 : Int) ≤ _; omega, by show (-1 : Int) ≤ -1; omega, by show (-1 : Int) ≤ _; omega, by rw [a4]; exact h.made, by rw [a8]; exact h.calls, by rw [a1]; exact len, by rw [a2, a3]; exact len, fun i => Nat.le_trans (a6 i).1 (h.data i), fun i => ?_, by rw [us]; omega, by rw [a4]; exact us, by rw [a1]; exact nr, by rw [a2]; exact nr, by rw [a3]; exact fun d hdm => (nomatch hdm)⟩
  rcases (a6 i).2 with e | e
  · exact Nat.le_trans e (h.dsafe i)
  · exact Nat.le_trans e (h.data i)

end Go.Proofs.YtacfdnjdjgdbcaaGreatDoor
namespace Go.Proofs.YtacfdnjdjgdbcaaGreatDoor
set_option maxRecDepth 100000
open Go.RowKit M

/-- a log's own fields -/
structure LS where
  limit : Int
  next : Nat
  found : List ByteArray
  file : ByteArray
  size : Nat
  dirty : Bool
def noName : ByteArray := ⟨#[]⟩

def syncL : List ByteArray → DS → Int × DS
  | [], S => (0, S)
  | x :: l, S => if syncC S x = 0 then syncL l (syncS S x) else (syncC S x, syncS S x)
def lsync (S : DS) (L : LS) : Int × DS × LS :=
  if (syncL L.found S).1 ≠ 0 then ((syncL L.found S).1, (syncL L.found S).2, L)
  else if L.dirty = false then (0, (syncL L.found S).2, { L with found := [] })
  else (syncC (syncL L.found S).2 L.file, syncS (syncL L.found S).2 L.file, { L with found := [], dirty := decide (syncC (syncL L.found S).2 L.file ≠ 0) })

/-- nothing is to go wrong -/
def Calm (S : DS) : Prop := S.dead = false ∧ S.fail = -1 ∧ S.crash = -1
theorem Calm.begin {S : DS} (h : Calm S) : beginC S = 0 ∧ Calm (beginS S) := by
  obtain ⟨a, b, c⟩ := h
  have n1 : ¬ S.fail = 0 := by rw [b]; decide
  have n2 : ¬ S.crash = 0 := by rw [c]; decide
  unfold beginC beginS
  rw [if_neg n1, if_neg n2, if_neg n1, if_neg n2]
  exact ⟨rfl, a, by show max (S.fail - 1) (-1) = -1; omega, by show max (S.crash - 1) (-1) = -1; omega⟩

/-! ### one file is synced -/
theorem sync_calm {S : DS} (h : Calm S) {x : ByteArray} {f : Nat} (hk : kget S.names x = some f) : syncC S x = 0 ∧ Calm (syncS S x) := by
  obtain ⟨b, c⟩ := h.begin
  have hf : findC S x = 0 := by unfold findC; rw [h.1, hk]; rfl
  have hn : findN S x = some f := by unfold findN; rw [h.1]; exact hk
  unfold syncC syncS
  rw [hf, if_neg (fun e => e rfl), hn]
  refine ⟨b, ?_⟩
  show Calm (if beginC S = 0 then syncF (beginS S) f else beginS S)
  rw [if_pos b]
  exact c
/-! ### what a disk and a log hold together -/
structure Wk (S : DS) (q0 : Nat) (base ext : List Seg) (n s : Nat) : Prop where
  inv : Inv S q0 base n
  now : Now S q0 base n ext
  safe : SafeN S base s
  pend : S.chg ≠ [] ∨ ext ≠ [] → Full S base
theorem Wk.le {S : DS} {q0 n s s' : Nat} {base ext : List Seg} (h : Wk S q0 base ext n s) (hs : s' ≤ s) : Wk S q0 base ext n s' := ⟨h.inv, h.now, h.safe.le hs, h.pend⟩
theorem Wk.same {S S' : DS} {q0 n s : Nat} {base ext : List Seg} (h : Wk S q0 base ext n s) (k : SameN S S') : Wk S' q0 base ext n s :=
  ⟨h.inv.same k (Nat.le_refl _) h.inv.n1, h.now.same k (Nat.le_refl _), h.safe.same h.inv k, fun e => (h.pend (by rw [k.chg] at e; exact e)).same k h.inv.frs_le⟩
theorem Wk.kget {S : DS} {q0 n s : Nat} {base ext : List Seg} (h : Wk S q0 base ext n s) {g : Seg} (hg : g ∈ base ++ ext) : kget S.names (nameM g.q) = some g.f :=
  kget_ents h.now.names (ents_keys h.inv.n1 (ext_rise h.inv.chain h.now.ok) (ext_small h.inv.chain h.inv.bound h.now.ok)) hg

end Go.Proofs.YtacfdnjdjgdbcaaGreatDoor
namespace Go.Proofs.YtacfdnjdjgdbcaaGreatDoor
set_option maxRecDepth 100000
open Go.RowKit M

def replaceM (S : DS) (x : ByteArray) : Int × DS :=
  if createC S x ≠ 6 then (createC S x, createS S x)
  else if removeC (createS S x) x ≠ 0 then (removeC (createS S x) x, removeS (createS S x) x)
  else (createC (removeS (createS S x) x) x, createS (removeS (createS S x) x) x)
def turnM (S : DS) (L : LS) : Int × DS × LS :=
  if (lsync S L).1 ≠ 0 then lsync S L
  else if (replaceM (lsync S L).2.1 (nameM (lsync S L).2.2.next)).1 ≠ 0 then ((replaceM (lsync S L).2.1 (nameM (lsync S L).2.2.next)).1, (replaceM (lsync S L).2.1 (nameM (lsync S L).2.2.next)).2, (lsync S L).2.2)
  else if syncNamesC (replaceM (lsync S L).2.1 (nameM (lsync S L).2.2.next)).2 ≠ 0 then (syncNamesC (replaceM (lsync S L).2.1 (nameM (lsync S L).2.2.next)).2, syncNamesS (replaceM (lsync S L).2.1 (nameM (lsync S L).2.2.next)).2, (lsync S L).2.2)
  else (0, syncNamesS (replaceM (lsync S L).2.1 (nameM (lsync S L).2.2.next)).2, { (lsync S L).2.2 with file := nameM (lsync S L).2.2.next, size := 0 })
def mustTurn (L : LS) (s : List Nat) : Prop := L.file = noName ∨ (0 < L.size ∧ L.limit < (L.size : Int) + s.length)
instance (L : LS) (s : List Nat) : Decidable (mustTurn L s) := by unfold mustTurn; exact inferInstance
def ahead (S : DS) (L : LS) (s : List Nat) : Int × DS × LS := if mustTurn L s then turnM S L else (0, S, L)
theorem Full.begin {S : DS} {base : List Seg} (h : Full S base) : Full (beginS S) base := fun g hg => by rw [(beginS_keeps S).2.2.2.2]; exact h g hg
end Go.Proofs.YtacfdnjdjgdbcaaGreatDoor
namespace Go.Proofs.YtacfdnjdjgdbcaaGreatDoor
set_option maxRecDepth 100000
open Go.RowKit M

end Go.Proofs.YtacfdnjdjgdbcaaGreatDoor
