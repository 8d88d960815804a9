/- A log's Append and Sync on a disk that may crash: as without, or the disk is dead. -/
import Derived.Test.YtinhddggbckmpaaGreatDoorSimA
namespace Go.Proofs.YtinhddggbckmpaaGreatDoor
set_option maxRecDepth 100000
open Go.RowKit M

theorem Sim.at {A B : Int × DS} (h : Sim A B) : Calm B.2 ∧ ((∃ k, A = (B.1, setc B.2 k)) ∨ (A.1 = 9 ∧ A.2.dead = true)) :=
  ⟨h.1, h.2.imp (fun ⟨a, k, b⟩ => ⟨k, Prod.ext a b⟩) id⟩
theorem Sim3.at {A B : Int × DS × LS} (h : Sim3 A B) : Calm B.2.1 ∧ ((∃ k, A = (B.1, setc B.2.1 k, B.2.2)) ∨ (A.1 = 9 ∧ A.2.1.dead = true)) :=
  ⟨h.1, h.2.imp (fun ⟨a, c, k, b⟩ => ⟨k, Prod.ext a (Prod.ext b c)⟩) id⟩
theorem replaceM_calm {T : DS} (hT : Calm T) (x : ByteArray) : Calm (replaceM T x).2 := by
  have c1 := (sim_create hT 0 x).1
  have c2 := (sim_remove c1 0 x).1
  have c3 := (sim_create c2 0 x).1
  unfold replaceM
  split
  · exact c1
  · split
    · exact c2
    · exact c3
theorem sim_replace {T : DS} (hT : Calm T) (k : Int) (x : ByteArray) : Sim (replaceM (setc T k) x) (replaceM T x) := by
  refine ⟨replaceM_calm hT x, ?_⟩
  obtain ⟨c1, h1⟩ := sim_create hT k x
  unfold replaceM
  rcases h1 with ⟨a1, k1, b1⟩ | ⟨a1, b1⟩
  · simp only at a1 b1
    rw [a1, b1]
    by_cases h0 : createC T x ≠ 6
    · rw [if_pos h0, if_pos h0]; exact .inl ⟨rfl, k1, rfl⟩
    · rw [if_neg h0, if_neg h0]
      obtain ⟨c2, h2⟩ := sim_remove c1 k1 x
      rcases h2 with ⟨a2, k2, b2⟩ | ⟨a2, b2⟩
      · simp only at a2 b2
        rw [a2, b2]
        by_cases h3 : removeC (createS T x) x ≠ 0
        · rw [if_pos h3, if_pos h3]; exact .inl ⟨rfl, k2, rfl⟩
        · rw [if_neg h3, if_neg h3]
          obtain ⟨c3, h4⟩ := sim_create c2 k2 x
          exact h4
      · simp only at a2 b2
        rw [a2, if_pos (show (9 : Int) ≠ 0 by decide)]
        exact .inr ⟨rfl, b2⟩
  · simp only at a1 b1
    rw [a1, if_pos (show (9 : Int) ≠ 6 by decide)]
    exact .inr ⟨rfl, b1⟩
theorem turnM_calm {T : DS} (hT : Calm T) (L : LS) : Calm (turnM T L).2.1 := by
  have c1 := (sim_lsync hT 0 L).1
  have c2 := replaceM_calm c1 (nameM (lsync T L).2.2.next)
  have c3 := (sim_syncNames c2 0).1
  unfold turnM
  split
  · exact c1
  · split
    · exact c2
    · split
      · exact c3
      · exact c3
theorem sim_turn {T : DS} (hT : Calm T) (k : Int) (L : LS) : Sim3 (turnM (setc T k) L) (turnM T L) := by
  refine ⟨turnM_calm hT L, ?_⟩
  obtain ⟨c1, h1⟩ := (sim_lsync hT k L).at
  unfold turnM
  generalize lsync (setc T k) L = A at *
  generalize lsync T L = B at *
  rcases h1 with ⟨k1, rfl⟩ | ⟨a1, b1⟩
  · dsimp only
    by_cases h0 : B.1 ≠ 0
    · rw [if_pos h0, if_pos h0]; exact .inl ⟨rfl, rfl, k1, rfl⟩
    · rw [if_neg h0, if_neg h0]
      obtain ⟨c2, h2⟩ := (sim_replace c1 k1 (nameM B.2.2.next)).at
      generalize replaceM (setc B.2.1 k1) (nameM B.2.2.next) = C at *
      generalize replaceM B.2.1 (nameM B.2.2.next) = E at *
      rcases h2 with ⟨k2, rfl⟩ | ⟨a2, b2⟩
      · dsimp only
        by_cases h3 : E.1 ≠ 0
        · rw [if_pos h3, if_pos h3]; exact .inl ⟨rfl, rfl, k2, rfl⟩
        · rw [if_neg h3, if_neg h3]
          obtain ⟨c3, h4⟩ := sim_syncNames c2 k2
          rcases h4 with ⟨a4, k4, b4⟩ | ⟨a4, b4⟩
          · simp only at a4 b4
            rw [a4, b4]
            by_cases h5 : syncNamesC E.2 ≠ 0
            · rw [if_pos h5, if_pos h5]; exact .inl ⟨rfl, rfl, k4, rfl⟩
            · rw [if_neg h5, if_neg h5]; exact .inl ⟨rfl, rfl, k4, rfl⟩
          · simp only at a4 b4
            rw [a4, if_pos (show (9 : Int) ≠ 0 by decide)]
            exact .inr ⟨rfl, b4⟩
      · rw [a2, if_pos (show (9 : Int) ≠ 0 by decide)]
        exact .inr ⟨rfl, b2⟩
  · rw [if_pos (show A.1 ≠ 0 by rw [a1]; decide)]
    exact .inr ⟨a1, b1⟩
theorem sim_ahead {T : DS} (hT : Calm T) (k : Int) (L : LS) (s : List Nat) : Sim3 (ahead (setc T k) L s) (ahead T L s) := by
  unfold ahead
  split
  · exact sim_turn hT k L
  · exact ⟨hT, .inl ⟨rfl, rfl, k, rfl⟩⟩
theorem sim_lappend {T : DS} (hT : Calm T) (k : Int) (L : LS) (r : List Nat) : Sim3 (lappend (setc T k) L r) (lappend T L r) := by
  obtain ⟨c1, h1⟩ := (sim_ahead hT k L (frN L.next r)).at
  unfold lappend
  generalize ahead (setc T k) L (frN L.next r) = A at *
  generalize ahead T L (frN L.next r) = B at *
  rcases h1 with ⟨k1, rfl⟩ | ⟨a1, b1⟩
  · dsimp only
    by_cases h0 : B.1 ≠ 0
    · rw [if_pos h0, if_pos h0]; exact ⟨c1, .inl ⟨rfl, rfl, k1, rfl⟩⟩
    · rw [if_neg h0, if_neg h0]
      obtain ⟨c2, h2⟩ := sim_append c1 k1 B.2.2.file (frN L.next r)
      rcases h2 with ⟨a2, k2, b2⟩ | ⟨a2, b2⟩
      · simp only at a2 b2
        rw [a2, b2]
        by_cases h3 : appendC B.2.1 B.2.2.file (frN L.next r) ≠ 0
        · rw [if_pos h3, if_pos h3]; exact ⟨c2, .inl ⟨rfl, rfl, k2, rfl⟩⟩
        · rw [if_neg h3, if_neg h3]; exact ⟨c2, .inl ⟨rfl, rfl, k2, rfl⟩⟩
      · simp only at a2 b2
        refine ⟨?_, ?_⟩
        · split <;> exact c2
        · rw [a2, if_pos (show (9 : Int) ≠ 0 by decide)]
          exact .inr ⟨rfl, b2⟩
  · refine ⟨?_, ?_⟩
    · have c2 := (sim_append c1 0 B.2.2.file (frN L.next r)).1
      split
      · exact c1
      · split <;> exact c2
    · rw [if_pos (show A.1 ≠ 0 by rw [a1]; decide)]
      exact .inr ⟨a1, b1⟩

/-- a disk that nothing fails but a crash -/
def Hale (S : DS) : Prop := S.dead = false ∧ S.fail = -1
theorem Hale.calm {S : DS} (h : Hale S) : ∃ T k, Calm T ∧ S = setc T k ∧ T = { S with crash := max (-1) (-1) } :=
  ⟨{ S with crash := max (-1) (-1) }, S.crash, ⟨h.1, h.2, rfl⟩, rfl, rfl⟩
theorem setc_hale {T : DS} (h : Calm T) (k : Int) : Hale (setc T k) := ⟨h.1, h.2.1⟩
/-- an append goes well, or the disk is dead -/
theorem DL.append_hale {S : DS} {L : LS} {X : List (List Nat)} {t s : Nat} {r : List Nat} (h : DL S L X t s) (hh : Hale S) (ht : t ≤ 1000) (hX : X.length ≤ 900) (hr : r.length ≤ 60 ∧ ∀ d ∈ r, d < 2 ^ 8) (hm : (700 * t : Nat) + 78 ≤ S.room) :
    ((lappend S L r).1 = 0 ∧ Hale (lappend S L r).2.1) ∨ ((lappend S L r).1 = 9 ∧ (lappend S L r).2.1.dead = true) := by
  obtain ⟨T, k, c, e, eT⟩ := hh.calm
  have hT : DL T L X t s := by rw [eT]; exact h.crash (by omega)
  obtain ⟨_, _, _, hc⟩ := hT.append (r := r) ht hX hr
  obtain ⟨c0, c1⟩ := hc c (by rw [eT]; exact hm)
  rw [e]
  obtain ⟨d1, d2⟩ := sim_lappend c k L r
  rcases d2 with ⟨a1, _, k', b1⟩ | d2
  · exact .inl ⟨a1.trans c0, by rw [b1]; exact setc_hale c1 k'⟩
  · exact .inr d2
theorem DL.sync_hale {S : DS} {L : LS} {X : List (List Nat)} {t s : Nat} (h : DL S L X t s) (hh : Hale S) (ht : t ≤ 1000) :
    ((lsync S L).1 = 0 ∧ Hale (lsync S L).2.1) ∨ ((lsync S L).1 = 9 ∧ (lsync S L).2.1.dead = true) := by
  obtain ⟨T, k, c, e, eT⟩ := hh.calm
  have hT : DL T L X t s := by rw [eT]; exact h.crash (by omega)
  obtain ⟨_, _, _, hc⟩ := hT.sync ht
  obtain ⟨c0, c1⟩ := hc c
  rw [e]
  obtain ⟨d1, d2⟩ := sim_lsync c k L
  rcases d2 with ⟨a1, _, k', b1⟩ | d2
  · exact .inl ⟨a1.trans c0, by rw [b1]; exact setc_hale c1 k'⟩
  · exact .inr d2
end Go.Proofs.YtinhddggbckmpaaGreatDoor
