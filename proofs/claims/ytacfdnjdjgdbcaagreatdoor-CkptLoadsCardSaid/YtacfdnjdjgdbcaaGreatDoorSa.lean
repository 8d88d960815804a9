/- RtbA, RtbD, in one text. -/
import Derived.Test.YtacfdnjdjgdbcaaGreatDoorTe
namespace Go.Proofs.YtacfdnjdjgdbcaaGreatDoor
set_option maxRecDepth 100000
open Go.RowKit Go.Maps Go.Sort M

/-- the error, the place and the text behind the next entry -/
def enX (T : ByteArray) (a : Nat) : Nat := txtX T (rawA T a 0 32) (rawX T a 0 32) 4194304
def enA (T : ByteArray) (a : Nat) : Nat := txtA T (rawA T a 0 32) (rawX T a 0 32) 4194304
def enS (T : ByteArray) (a : Nat) : ByteArray := txtS T (rawA T a 0 32) (rawX T a 0 32) 4194304
/-- y may come behind these -/
def Fol (l : List Ent) (y : Ent) : Prop := ∀ p z, l = p ++ [z] → cfE z y < 0
/-- y is what is read at a -/
def IsEn (T : ByteArray) (a : Nat) (y : Ent) : Prop := y.key = sb (rawS T a 0 32) ∧ y.text = enS T a
theorem IsEn.one {T : ByteArray} {a : Nat} {y z : Ent} (h : IsEn T a y) (k : IsEn T a z) : y = z := Ent.eq (h.1.trans k.1.symm) (h.2.trans k.2.symm)
/-- i entries have been read -/
def ReadsT (T : ByteArray) (a0 : Nat) : Nat → Nat → List Ent → Prop
  | 0, a, l => a = a0 ∧ l = []
  | i + 1, a, l => ∃ a' l' y, ReadsT T a0 i a' l' ∧ enX T a' = 0 ∧ IsEn T a' y ∧ Fol l' y ∧ a = enA T a' ∧ l = l' ++ [y]
theorem ReadsT.one {T : ByteArray} {a0 : Nat} : ∀ {i a b : Nat} {l m : List Ent}, ReadsT T a0 i a l → ReadsT T a0 i b m → a = b ∧ l = m
  | 0, _, _, _, _, h, k => ⟨h.1.trans k.1.symm, h.2.trans k.2.symm⟩
  | i + 1, a, b, l, m, h, k => by
    obtain ⟨a', l', y, h1, _, h3, _, h5, h6⟩ := h
    obtain ⟨b', m', z, k1, _, k3, _, k5, k6⟩ := k
    obtain ⟨e1, e2⟩ := ReadsT.one h1 k1
    subst e1; subst e2
    exact ⟨h5.trans k5.symm, by rw [h6, k6, h3.one k3]⟩
theorem ReadsT.pre {T : ByteArray} {a0 : Nat} {i : Nat} : ∀ {j a : Nat} {l : List Ent}, ReadsT T a0 j a l → i < j → ∃ a' l' y, ReadsT T a0 i a' l' ∧ enX T a' = 0 ∧ IsEn T a' y ∧ Fol l' y
  | 0, _, _, _, h => absurd h (by omega)
  | j + 1, a, l, h, hi => by
    obtain ⟨a', l', y, h1, h2, h3, h4, _, _⟩ := h
    by_cases e : i = j
    · subst e; exact ⟨a', l', y, h1, h2, h3, h4⟩
    · exact ReadsT.pre h1 (by omega)
theorem ReadsT.length {T : ByteArray} {a0 : Nat} : ∀ {i a : Nat} {l : List Ent}, ReadsT T a0 i a l → l.length = i
  | 0, _, _, h => by rw [h.2]; rfl
  | i + 1, a, l, h => by
    obtain ⟨a', l', y, h1, _, _, _, _, h6⟩ := h
    rw [h6, List.length_append, h1.length]; rfl
/-- of n entries some one is wrong -/
def FailsT (T : ByteArray) (a0 n x : Nat) : Prop :=
  ∃ i a l, i < n ∧ ReadsT T a0 i a l ∧ ((enX T a ≠ 0 ∧ x = enX T a) ∨ (enX T a = 0 ∧ x = 16 ∧ ∃ y, IsEn T a y ∧ ¬ Fol l y))
theorem FailsT.ne {T : ByteArray} {a0 n x : Nat} (h : FailsT T a0 n x) : x ≠ 0 := by
  obtain ⟨_, _, _, _, _, ⟨h, e⟩ | ⟨_, e, _⟩⟩ := h
  · rw [e]; exact h
  · omega
theorem FailsT.not {T : ByteArray} {a0 n x a j : Nat} {l : List Ent} (h : FailsT T a0 n x) (k : ReadsT T a0 j a l) (hj : n ≤ j) : False := by
  obtain ⟨i, b, m, hi, hr, hc⟩ := h
  obtain ⟨a', l', y, k1, k2, k3, k4⟩ := k.pre (i := i) (by omega)
  obtain ⟨e1, e2⟩ := hr.one k1
  subst e1; subst e2
  rcases hc with ⟨h, _⟩ | ⟨_, _, z, hz, hf⟩
  · exact h k2
  · rw [hz.one k3] at hf; exact hf k4
theorem FailsT.one {T : ByteArray} {a0 n x z : Nat} (h : FailsT T a0 n x) (k : FailsT T a0 n z) : x = z := by
  have h0 := h; have k0 := k
  obtain ⟨i, b, m, hi, hr, hc⟩ := h
  obtain ⟨j, c, o, hj, kr, kc⟩ := k
  rcases Nat.lt_trichotomy i j with e | e | e
  · obtain ⟨a', l', y, k1, k2, k3, k4⟩ := kr.pre e
    obtain ⟨e1, e2⟩ := hr.one k1
    subst e1; subst e2
    rcases hc with ⟨h, _⟩ | ⟨_, _, u, hu, hf⟩
    · exact absurd k2 h
    · rw [hu.one k3] at hf; exact absurd k4 hf
  · subst e
    obtain ⟨e1, e2⟩ := hr.one kr
    subst e1; subst e2
    rcases hc with ⟨h, e⟩ | ⟨h, e, _⟩ <;> rcases kc with ⟨k, f⟩ | ⟨k, f, _⟩
    · rw [e, f]
    · exact absurd k h
    · exact absurd h k
    · rw [e, f]
  · obtain ⟨a', l', y, k1, k2, k3, k4⟩ := hr.pre e
    obtain ⟨e1, e2⟩ := kr.one k1
    subst e1; subst e2
    rcases kc with ⟨h, _⟩ | ⟨_, _, u, hu, hf⟩
    · exact absurd k2 h
    · rw [hu.one k3] at hf; exact absurd k4 hf
/-- the error behind the eight letters -/
def magX (T : ByteArray) : Nat := if sb (rawS T 0 0 8) = magL then rawX T 0 0 8 else if rawX T 0 0 8 = 0 then 3 else rawX T 0 0 8
/-- what the entries of bytes are: x the error, a the place behind them -/
def OutT (T : ByteArray) (x a : Nat) (l : List Ent) : Prop :=
  (numX T (rawA T 0 0 8) (magX T) ≠ 0 ∧ x = numX T (rawA T 0 0 8) (magX T)) ∨
  (numX T (rawA T 0 0 8) (magX T) = 0 ∧ ((x = 0 ∧ ReadsT T (numA T (rawA T 0 0 8) (magX T)) (numV T (rawA T 0 0 8) (magX T)) a l) ∨ (x ≠ 0 ∧ FailsT T (numA T (rawA T 0 0 8) (magX T)) (numV T (rawA T 0 0 8) (magX T)) x)))
theorem OutT.one {T : ByteArray} {x z a b : Nat} {l m : List Ent} (h : OutT T x a l) (k : OutT T z b m) : x = z ∧ (x = 0 → a = b ∧ l = m) := by
  unfold OutT at h k
  generalize numX T (rawA T 0 0 8) (magX T) = X at h k
  generalize numV T (rawA T 0 0 8) (magX T) = N at h k
  generalize numA T (rawA T 0 0 8) (magX T) = A at h k
  rcases h with ⟨h1, h2⟩ | ⟨h1, h⟩ <;> rcases k with ⟨k1, k2⟩ | ⟨k1, k⟩
  · exact ⟨h2.trans k2.symm, fun e => absurd (h2.symm.trans e) h1⟩
  · exact absurd k1 h1
  · exact absurd h1 k1
  · rcases h with ⟨h2, h3⟩ | ⟨h2, h3⟩ <;> rcases k with ⟨k2, k3⟩ | ⟨k2, k3⟩
    · exact ⟨h2.trans k2.symm, fun _ => ReadsT.one h3 k3⟩
    · exact (FailsT.not k3 h3 (Nat.le_refl _)).elim
    · exact (FailsT.not h3 k3 (Nat.le_refl _)).elim
    · exact ⟨h3.one k3, fun e => absurd e h2⟩
/-- what all bytes say: k the error -/
def SaysT (s : ByteArray) (k : Nat) (l : List Ent) : Prop :=
  (s.size < 40 ∧ k = 2) ∨
  (40 ≤ s.size ∧ ((shaN (sb (s.extract 0 (s.size - 32))) ≠ sb (s.extract (s.size - 32) s.size) ∧ k = 4) ∨
    (shaN (sb (s.extract 0 (s.size - 32))) = sb (s.extract (s.size - 32) s.size) ∧ ∃ x a, OutT (s.extract 0 (s.size - 32)) x a l ∧ k = if x = 0 ∧ a < (s.extract 0 (s.size - 32)).size then 3 else x)))
theorem SaysT.one {s : ByteArray} {k j : Nat} {l m : List Ent} (h : SaysT s k l) (g : SaysT s j m) : k = j ∧ (k = 0 → l = m) := by
  rcases h with ⟨h1, h2⟩ | ⟨h1, h⟩ <;> rcases g with ⟨g1, g2⟩ | ⟨g1, g⟩
  · exact ⟨h2.trans g2.symm, fun e => by omega⟩
  · omega
  · omega
  · rcases h with ⟨h2, h3⟩ | ⟨h2, x, a, h3, h4⟩ <;> rcases g with ⟨g2, g3⟩ | ⟨g2, z, b, g3, g4⟩
    · exact ⟨h3.trans g3.symm, fun e => by omega⟩
    · exact absurd g2 h2
    · exact absurd h2 g2
    · obtain ⟨e1, e2⟩ := h3.one g3
      subst e1
      by_cases hx : x = 0
      · obtain ⟨e3, e4⟩ := e2 hx
        subst e3
        exact ⟨h4.trans g4.symm, fun _ => e4⟩
      · rw [if_neg (fun h => hx h.1)] at h4 g4
        exact ⟨h4.trans g4.symm, fun e => absurd (h4.symm.trans e) hx⟩
end Go.Proofs.YtacfdnjdjgdbcaaGreatDoor
namespace Go.Proofs.YtacfdnjdjgdbcaaGreatDoor
set_option maxRecDepth 100000
open Go.RowKit Go.Maps Go.Sort M

theorem rawA_le' {T : ByteArray} {a x : Nat} {n : Int} (h : a ≤ T.size) : rawA T a x n ≤ T.size := by unfold rawA; split <;> omega
theorem txtA_le' {T : ByteArray} {a x : Nat} {m : Int} (h : a ≤ T.size) : txtA T a x m ≤ T.size := by
  unfold txtA
  split
  · exact rawA_le' (numA_le h)
  · exact h
theorem enA_le {T : ByteArray} {a : Nat} (h : a ≤ T.size) : enA T a ≤ T.size := txtA_le' (rawA_le' h)
theorem mag8 {T : ByteArray} (h : 8 ≤ T.size) : rawX T 0 0 8 = 0 ∧ rawA T 0 0 8 = 8 ∧ rawS T 0 0 8 = T.extract 0 8 := by
  have c : (0 : Int) ≤ 8 ∧ (8 : Int) ≤ ((T.size - 0 : Nat) : Int) := by omega
  refine ⟨?_, ?_, ?_⟩
  · unfold rawX; rw [if_pos rfl, if_pos c]
  · unfold rawA; rw [if_pos ⟨rfl, c⟩]; rfl
  · unfold rawS; rw [if_pos ⟨rfl, c⟩]; rfl
theorem out3 {T : ByteArray} (h : 8 ≤ T.size) (hm : sb (T.extract 0 8) ≠ magL) : OutT T 3 0 [] := by
  obtain ⟨h1, h2, h3⟩ := mag8 h
  have e : magX T = 3 := by unfold magX; rw [h3, if_neg hm, h1, if_pos rfl]
  unfold OutT
  rw [e, (numV_err (T := T) (a := rawA T 0 0 8) (x := 3) (by decide)).2]
  exact .inl ⟨by decide, rfl⟩
theorem out0 {T : ByteArray} (h : 8 ≤ T.size) (hm : sb (T.extract 0 8) = magL) (x a : Nat) (l : List Ent)
    (ho : (numX T 8 0 ≠ 0 ∧ x = numX T 8 0) ∨ (numX T 8 0 = 0 ∧ ((x = 0 ∧ ReadsT T (numA T 8 0) (numV T 8 0) a l) ∨ (x ≠ 0 ∧ FailsT T (numA T 8 0) (numV T 8 0) x)))) : OutT T x a l := by
  obtain ⟨h1, h2, h3⟩ := mag8 h
  have e : magX T = 0 := by unfold magX; rw [h3, if_pos hm, h1]
  unfold OutT
  rw [e, h2]
  exact ho
theorem en_raw {T : ByteArray} {a : Nat} (h : enX T a = 0) : rawX T a 0 32 = 0 := Classical.byContradiction fun e => by
  unfold enX at h
  rw [txtX_err e] at h
  exact e h
/-- what has been read is a beginning of the bytes -/
theorem ReadsT.bytes {T : ByteArray} {a0 : Nat} {P : List Nat} (hT : T.size ≤ 1000000) (h0 : Pre T a0 P) : ∀ {i a : Nat} {l : List Ent}, ReadsT T a0 i a l → Pre T a (P ++ l.flatMap entL)
  | 0, a, l, h => by rw [h.1, h.2, List.flatMap_nil, List.append_nil]; exact h0
  | i + 1, a, l, h => by
    obtain ⟨a', l', y, h1, h2, h3, _, h5, h6⟩ := h
    have ih := ReadsT.bytes hT h0 h1
    have hx := en_raw h2
    have hz : rawX T a' 0 ((32 : Nat) : Int) = 0 := hx
    have r := (ih.raw (k := 32) hz).1
    have ht : txtX T (rawA T a' 0 32) 0 4194304 = 0 := by unfold enX at h2; rw [hx] at h2; exact h2
    have t := r.txt hT ht
    have e1 : enA T a' = txtA T (rawA T a' 0 32) 0 4194304 := by unfold enA; rw [hx]
    have e2 : enS T a' = txtS T (rawA T a' 0 32) 0 4194304 := by unfold enS; rw [hx]
    rw [h5, h6, e1, List.flatMap_append, show List.flatMap entL [y] = sb (rawS T a' 0 32) ++ txtL (sb (txtS T (rawA T a' 0 32) 0 4194304)) by
      rw [List.flatMap_cons, List.flatMap_nil, List.append_nil]; unfold entL; rw [h3.1, h3.2, e2]]
    simp only [List.append_assoc] at t ⊢
    exact t
theorem ReadsT.few {T : ByteArray} {a0 : Nat} (hT : T.size ≤ 1000000) (h0 : a0 ≤ T.size) {i a : Nat} {l : List Ent} (h : ReadsT T a0 i a l) : l.length * 32 ≤ T.size ∧ a ≤ T.size := by
  have p0 : Pre T a0 ((sb T).take a0) := ⟨rfl, h0⟩
  have p := h.bytes hT p0
  have e := p.len
  rw [List.length_append] at e
  have := flat_ge l
  have := p.2
  omega
/-- the entry that is read, where no error is -/
theorem en_ok {T : ByteArray} {a : Nat} (ha : a ≤ T.size) (h : enX T a = 0) : ∃ y, IsEn T a y := by
  have h5 := en_raw h
  have hz : rawX T a 0 ((32 : Nat) : Int) = 0 := h5
  have hp : Pre T a ((sb T).take a) := ⟨rfl, ha⟩
  have hs := (hp.raw (k := 32) hz).2
  rw [show ((32 : Nat) : Int) = 32 from rfl, ← sb_length] at hs
  obtain ⟨K, hK⟩ : ∃ K, K = sb (rawS T a 0 32) := ⟨_, rfl⟩
  rw [← hK] at hs
  have hb : ∀ d ∈ K, d < 256 := by rw [hK]; exact sb_lt _
  refine ⟨⟨K, enS T a, hs, hb⟩, ?_, ?_⟩
  · exact hK
  · rfl
theorem fol_last {p : List Ent} {z y : Ent} : Fol (p ++ [z]) y ↔ cfE z y < 0 := by
  constructor
  · intro h; exact h p z rfl
  · intro h q u e
    have e2 := List.append_inj_right' e rfl
    have : z = u := by simpa using e2
    rw [← this]; exact h
theorem fol_nil {y : Ent} : Fol [] y := fun p z e => by
  have := congrArg List.length e
  simp at this
end Go.Proofs.YtacfdnjdjgdbcaaGreatDoor
