/- A disk that may crash beside one that doesn't: the same, or dead. -/
import Derived.Test.YtinhddggbckmpaaGreatDoorGonA
namespace Go.Proofs.YtinhddggbckmpaaGreatDoor
set_option maxRecDepth 100000
open Go.RowKit M

def setc (S : DS) (k : Int) : DS := { S with crash := k }
/-- the same outcome, but for the crash that is set; or dead -/
def Sim (A B : Int × DS) : Prop := Calm B.2 ∧ ((A.1 = B.1 ∧ ∃ k, A.2 = setc B.2 k) ∨ (A.1 = 9 ∧ A.2.dead = true))
theorem begin_sim {T : DS} (hT : Calm T) (k : Int) : (beginC (setc T k) = 0 ∧ ∃ k', beginS (setc T k) = setc (beginS T) k') ∨ (beginC (setc T k) = 9 ∧ (beginS (setc T k)).dead = true) := by
  obtain ⟨h1, h2, h3⟩ := hT
  have n1 : ¬ T.fail = 0 := by rw [h2]; decide
  have n2 : ¬ T.crash = 0 := by rw [h3]; decide
  have n3 : ¬ (setc T k).fail = 0 := n1
  unfold beginC beginS
  rw [if_neg n3, if_neg n3]
  by_cases hk : k = 0
  · have n4 : (setc T k).crash = 0 := hk
    rw [if_pos n4, if_pos n4]
    exact .inr ⟨rfl, rfl⟩
  · have n4 : ¬ (setc T k).crash = 0 := hk
    rw [if_neg n4, if_neg n4, if_neg n1, if_neg n2]
    exact .inl ⟨rfl, max (k - 1) (-1), rfl⟩
theorem ren_setc (S : DS) (k : Int) (a b : ByteArray) (n : Nat) : renS (setc S k) a b n = setc (renS S a b n) k := by
  unfold renS
  have e : kget (setc S k).names b = kget S.names b := rfl
  rw [e]
  cases kget S.names b <;> rfl
theorem ren_calm {S : DS} (h : Calm S) (a b : ByteArray) (n : Nat) : Calm (renS S a b n) := by
  obtain ⟨_, _, _, r4, r5, _, _, r8⟩ := ren_same S a b n
  exact ⟨r8.trans h.1, r5.trans h.2.1, r4.trans h.2.2⟩
theorem ren_dead {S : DS} (h : S.dead = true) (a b : ByteArray) (n : Nat) : (renS S a b n).dead = true := by
  obtain ⟨_, _, _, _, _, _, _, r8⟩ := ren_same S a b n
  exact r8.trans h
theorem newF_setc (S : DS) (k : Int) (x : ByteArray) : newF (setc S k) x = setc (newF S x) k := by
  unfold newF
  exact ren_setc ({ S with made := S.made + 1 }.setF (S.made + 1) ⟨[], 0, false⟩) k ⟨#[]⟩ x (S.made + 1)
theorem newF_calm {S : DS} (h : Calm S) (x : ByteArray) : Calm (newF S x) := by
  unfold newF
  exact ren_calm (S := { S with made := S.made + 1 }.setF (S.made + 1) ⟨[], 0, false⟩) h _ _ _
theorem newF_dead {S : DS} (h : S.dead = true) (x : ByteArray) : (newF S x).dead = true := by
  unfold newF
  exact ren_dead (S := { S with made := S.made + 1 }.setF (S.made + 1) ⟨[], 0, false⟩) h _ _ _
theorem sim_create {T : DS} (hT : Calm T) (k : Int) (x : ByteArray) : Sim (createC (setc T k) x, createS (setc T k) x) (createC T x, createS T x) := by
  have d1 : ¬ T.dead = true := by rw [hT.1]; decide
  have d2 : ¬ (setc T k).dead = true := d1
  obtain ⟨c1, c2⟩ := hT.begin
  unfold createC createS Sim
  rw [if_neg d1, if_neg d1, if_neg d2, if_neg d2]
  have e : kget (setc T k).names x = kget T.names x := rfl
  rw [e]
  by_cases hx : x.size = 0
  · rw [if_pos hx, if_pos hx, if_pos hx, if_pos hx]; exact ⟨hT, .inl ⟨rfl, k, rfl⟩⟩
  · rw [if_neg hx, if_neg hx, if_neg hx, if_neg hx]
    by_cases hs : (kget T.names x).isSome = true
    · rw [if_pos hs, if_pos hs, if_pos hs, if_pos hs]; exact ⟨hT, .inl ⟨rfl, k, rfl⟩⟩
    · rw [if_neg hs, if_neg hs, if_neg hs, if_neg hs, c1, if_neg (show ¬ (0 : Int) = 8 by decide)]
      refine ⟨newF_calm c2 x, ?_⟩
      rcases begin_sim hT k with ⟨a, k', b⟩ | ⟨a, b⟩
      · rw [a, b, if_neg (show ¬ (0 : Int) = 8 by decide)]
        exact .inl ⟨rfl, k', newF_setc _ _ _⟩
      · rw [a, if_neg (show ¬ (9 : Int) = 8 by decide)]
        exact .inr ⟨rfl, newF_dead b x⟩
theorem find_none {T : DS} (hT : Calm T) {x : ByteArray} (h : findN T x = none) : findC T x ≠ 0 := by
  unfold findN at h; unfold findC
  rw [hT.1] at h ⊢
  have h : kget T.names x = none := h
  rw [h]; decide
theorem find_some {T : DS} (hT : Calm T) {x : ByteArray} {n : Nat} (h : findN T x = some n) : ¬ findC T x ≠ 0 := by
  unfold findN at h; unfold findC
  rw [hT.1] at h ⊢
  have h : kget T.names x = some n := h
  rw [h]; exact fun e => e rfl
theorem sim_sync {T : DS} (hT : Calm T) (k : Int) (x : ByteArray) : Sim (syncC (setc T k) x, syncS (setc T k) x) (syncC T x, syncS T x) := by
  have fc : findC (setc T k) x = findC T x := rfl
  have fn : findN (setc T k) x = findN T x := rfl
  obtain ⟨c1, c2⟩ := hT.begin
  unfold syncC syncS Sim
  rw [fc, fn]
  cases h : findN T x with
  | none =>
    have e := find_none hT h
    dsimp only
    rw [if_pos e, if_pos e]; exact ⟨hT, .inl ⟨rfl, k, rfl⟩⟩
  | some n =>
    have e := find_some hT h
    dsimp only
    rw [if_neg e, if_neg e, c1, if_pos rfl]
    refine ⟨c2, ?_⟩
    rcases begin_sim hT k with ⟨a, k', b⟩ | ⟨a, b⟩
    · rw [a, b, if_pos rfl]; exact .inl ⟨rfl, k', rfl⟩
    · rw [a, if_neg (show ¬ (9 : Int) = 0 by decide)]; exact .inr ⟨rfl, b⟩
theorem sim_remove {T : DS} (hT : Calm T) (k : Int) (x : ByteArray) : Sim (removeC (setc T k) x, removeS (setc T k) x) (removeC T x, removeS T x) := by
  have fc : findC (setc T k) x = findC T x := rfl
  have fn : findN (setc T k) x = findN T x := rfl
  obtain ⟨c1, c2⟩ := hT.begin
  unfold removeC removeS Sim
  rw [fc, fn]
  cases h : findN T x with
  | none =>
    have e := find_none hT h
    dsimp only
    rw [if_pos e, if_pos e]; exact ⟨hT, .inl ⟨rfl, k, rfl⟩⟩
  | some n =>
    have e := find_some hT h
    dsimp only
    rw [if_neg e, if_neg e, c1, if_neg (show ¬ (0 : Int) = 8 by decide)]
    refine ⟨ren_calm c2 _ _ _, ?_⟩
    rcases begin_sim hT k with ⟨a, k', b⟩ | ⟨a, b⟩
    · rw [a, b, if_neg (show ¬ (0 : Int) = 8 by decide)]; exact .inl ⟨rfl, k', ren_setc _ _ _ _ _⟩
    · rw [a, if_neg (show ¬ (9 : Int) = 8 by decide)]; exact .inr ⟨rfl, ren_dead b _ _ _⟩
theorem sim_append {T : DS} (hT : Calm T) (k : Int) (x : ByteArray) (s : List Nat) : Sim (appendC (setc T k) x s, appendS (setc T k) x s) (appendC T x s, appendS T x s) := by
  have fc : findC (setc T k) x = findC T x := rfl
  have fn : findN (setc T k) x = findN T x := rfl
  have fr : (setc T k).free = T.free := rfl
  obtain ⟨c1, c2⟩ := hT.begin
  unfold appendC appendS Sim
  rw [fc, fn, fr]
  cases h : findN T x with
  | none =>
    have e := find_none hT h
    dsimp only
    rw [if_pos e, if_pos e]; exact ⟨hT, .inl ⟨rfl, k, rfl⟩⟩
  | some n =>
    have e := find_some hT h
    dsimp only
    rw [if_neg e, if_neg e]
    by_cases hf : T.free < s.length
    · rw [if_pos hf, if_pos hf, if_pos hf, if_pos hf]; exact ⟨hT, .inl ⟨rfl, k, rfl⟩⟩
    · rw [if_neg hf, if_neg hf, if_neg hf, if_neg hf, c1, if_neg (show ¬ (0 : Int) = 8 by decide)]
      refine ⟨c2, ?_⟩
      rcases begin_sim hT k with ⟨a, k', b⟩ | ⟨a, b⟩
      · rw [a, b, if_neg (show ¬ (0 : Int) = 8 by decide)]; exact .inl ⟨rfl, k', rfl⟩
      · rw [a, if_neg (show ¬ (9 : Int) = 8 by decide)]; exact .inr ⟨rfl, b⟩
theorem relF_setc (S : DS) (k : Int) (n : Nat) : relF (setc S k) n = setc (relF S n) k := by
  unfold relF
  have e : ((setc S k).file n).named = (S.file n).named := rfl
  rw [e]
  split <;> rfl
theorem relO_setc (S : DS) (k : Int) (o : Option Nat) : relO (setc S k) o = setc (relO S o) k := by
  cases o with
  | none => rfl
  | some n => exact relF_setc S k n
theorem relAll_setc (l : List Chg) (k : Int) : ∀ (S : DS), relAll (setc S k) l = setc (relAll S l) k := by
  induction l with
  | nil => intro S; rfl
  | cons c l ih =>
    intro S
    show relAll (relC (setc S k) c) l = _
    unfold relC
    rw [relF_setc, relO_setc, ih]
    rfl
theorem relF_calm {S : DS} (h : Calm S) (n : Nat) : Calm (relF S n) := by unfold relF; split <;> exact h
theorem relO_calm {S : DS} (h : Calm S) (o : Option Nat) : Calm (relO S o) := by
  cases o with
  | none => exact h
  | some n => exact relF_calm h n
theorem relAll_calm (l : List Chg) : ∀ {S : DS}, Calm S → Calm (relAll S l) := by
  induction l with
  | nil => intro S h; exact h
  | cons c l ih => intro S h; exact ih (relO_calm (relF_calm h c.file) c.over)
theorem sim_syncNames {T : DS} (hT : Calm T) (k : Int) : Sim (syncNamesC (setc T k), syncNamesS (setc T k)) (syncNamesC T, syncNamesS T) := by
  have d1 : ¬ T.dead = true := by rw [hT.1]; decide
  have d2 : ¬ (setc T k).dead = true := d1
  have ec : (setc T k).chg = T.chg := rfl
  obtain ⟨c1, c2⟩ := hT.begin
  unfold syncNamesC syncNamesS Sim
  rw [if_neg d1, if_neg d1, if_neg d2, if_neg d2, c1, if_pos rfl, ec]
  refine ⟨relAll_calm T.chg c2, ?_⟩
  rcases begin_sim hT k with ⟨a, k', b⟩ | ⟨a, b⟩
  · rw [a, b, if_pos rfl, relAll_setc]; exact .inl ⟨rfl, k', rfl⟩
  · rw [a, if_neg (show ¬ (9 : Int) = 0 by decide)]; exact .inr ⟨rfl, b⟩
/-! ### the log's -/
def Sim3 (A B : Int × DS × LS) : Prop := Calm B.2.1 ∧ ((A.1 = B.1 ∧ A.2.2 = B.2.2 ∧ ∃ k, A.2.1 = setc B.2.1 k) ∨ (A.1 = 9 ∧ A.2.1.dead = true))
theorem sim_syncL : ∀ (l : List ByteArray) {T : DS}, Calm T → ∀ k, Sim (syncL l (setc T k)) (syncL l T)
  | [], T, hT, k => ⟨hT, .inl ⟨rfl, k, rfl⟩⟩
  | x :: l, T, hT, k => by
    obtain ⟨c, h⟩ := sim_sync hT k x
    unfold syncL
    rcases h with ⟨a, k', b⟩ | ⟨a, b⟩
    · simp only at a b
      rw [a, b]
      by_cases h0 : syncC T x = 0
      · rw [if_pos h0, if_pos h0]; exact sim_syncL l c k'
      · rw [if_neg h0, if_neg h0]; exact ⟨c, .inl ⟨rfl, k', rfl⟩⟩
    · simp only at a b
      have c' : Calm (if syncC T x = 0 then syncL l (syncS T x) else (syncC T x, syncS T x)).2 := by
        by_cases h0 : syncC T x = 0
        · rw [if_pos h0]; exact (sim_syncL l c 0).1
        · rw [if_neg h0]; exact c
      rw [a, if_neg (show ¬ (9 : Int) = 0 by decide)]
      exact ⟨c', .inr ⟨rfl, b⟩⟩
theorem sim_lsync {T : DS} (hT : Calm T) (k : Int) (L : LS) : Sim3 (lsync (setc T k) L) (lsync T L) := by
  obtain ⟨c, h⟩ := sim_syncL L.found hT k
  unfold lsync
  rcases h with ⟨a, k', b⟩ | ⟨a, b⟩
  · rw [a, b]
    by_cases h0 : (syncL L.found T).1 ≠ 0
    · rw [if_pos h0, if_pos h0]; exact ⟨c, .inl ⟨rfl, rfl, k', rfl⟩⟩
    · rw [if_neg h0, if_neg h0]
      by_cases hd : L.dirty = false
      · rw [if_pos hd, if_pos hd]; exact ⟨c, .inl ⟨rfl, rfl, k', rfl⟩⟩
      · rw [if_neg hd, if_neg hd]
        obtain ⟨c2, h2⟩ := sim_sync c k' L.file
        rcases h2 with ⟨a2, k2, b2⟩ | ⟨a2, b2⟩
        · simp only at a2 b2
          rw [a2, b2]; exact ⟨c2, .inl ⟨rfl, rfl, k2, rfl⟩⟩
        · exact ⟨c2, .inr ⟨a2, b2⟩⟩
  · have c' : Calm (if (syncL L.found T).1 ≠ 0 then ((syncL L.found T).1, (syncL L.found T).2, L) else if L.dirty = false then (0, (syncL L.found T).2, { L with found := [] }) else (syncC (syncL L.found T).2 L.file, syncS (syncL L.found T).2 L.file, { L with found := [], dirty := decide (syncC (syncL L.found T).2 L.file ≠ 0) })).2.1 := by
      by_cases h0 : (syncL L.found T).1 ≠ 0
      · rw [if_pos h0]; exact c
      · rw [if_neg h0]
        by_cases hd : L.dirty = false
        · rw [if_pos hd]; exact c
        · rw [if_neg hd]; exact (sim_sync c 0 L.file).1
    rw [a, if_pos (show (9 : Int) ≠ 0 by decide)]
    exact ⟨c', .inr ⟨rfl, b⟩⟩
end Go.Proofs.YtinhddggbckmpaaGreatDoor
