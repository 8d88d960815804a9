/- What bytes say as a table, as the reference looks at them: mathematics. -/
import Derived.Test.YtacfdnjdjgdbcaaGreatDoorRtbA
namespace Go.Proofs.YtacfdnjdjgdbcaaGreatDoor
set_option maxRecDepth 100000
open Go.RowKit Go.Maps Go.Sort M

theorem rawA_le' {T : ByteArray} {a x : Nat} {n : Int} (h : a ≤ T.size) : rawA T a x n ≤ T.size := by unfold rawA; split <;> omega
theorem txtA_le' {T : ByteArray} {a x : Nat} {m : Int} (h : a ≤ T.size) : txtA T a x m ≤ T.size := by
  unfold txtA
  split
  · exact rawA_le' (numA_le h)
  · exact h
theorem enA_le {T : ByteArray} {a : Nat} (h : a ≤ T.size) : enA T a ≤ T.size := txtA_le' (rawA_le' h)
theorem mag8 {T : ByteArray} (h : 8 ≤ T.size) : rawX T 0 0 8 = 0 ∧ rawA T 0 0 8 = 8 ∧ rawS T 0 0 8 = T.extract 0 8 := by
  have c : (0 : Int) ≤ 8 ∧ (8 : Int) ≤ ((T.size - 0 : Nat) : Int) := by omega
  refine ⟨?_, ?_, ?_⟩
  · unfold rawX; rw [if_pos rfl, if_pos c]
  · unfold rawA; rw [if_pos ⟨rfl, c⟩]; rfl
  · unfold rawS; rw [if_pos ⟨rfl, c⟩]; rfl
theorem out3 {T : ByteArray} (h : 8 ≤ T.size) (hm : sb (T.extract 0 8) ≠ magL) : OutT T 3 0 [] := by
  obtain ⟨h1, h2, h3⟩ := mag8 h
  have e : magX T = 3 := by unfold magX; rw [h3, if_neg hm, h1, if_pos rfl]
  unfold OutT
  rw [e, (numV_err (T := T) (a := rawA T 0 0 8) (x := 3) (by decide)).2]
  exact .inl ⟨by decide, rfl⟩
theorem out0 {T : ByteArray} (h : 8 ≤ T.size) (hm : sb (T.extract 0 8) = magL) (x a : Nat) (l : List Ent)
    (ho : (numX T 8 0 ≠ 0 ∧ x = numX T 8 0) ∨ (numX T 8 0 = 0 ∧ ((x = 0 ∧ ReadsT T (numA T 8 0) (numV T 8 0) a l) ∨ (x ≠ 0 ∧ FailsT T (numA T 8 0) (numV T 8 0) x)))) : OutT T x a l := by
  obtain ⟨h1, h2, h3⟩ := mag8 h
  have e : magX T = 0 := by unfold magX; rw [h3, if_pos hm, h1]
  unfold OutT
  rw [e, h2]
  exact ho
theorem en_raw {T : ByteArray} {a : Nat} (h : enX T a = 0) : rawX T a 0 32 = 0 := Classical.byContradiction fun e => by
  unfold enX at h
  rw [txtX_err e] at h
  exact e h
/-- what has been read is a beginning of the bytes -/
theorem ReadsT.bytes {T : ByteArray} {a0 : Nat} {P : List Nat} (hT : T.size ≤ 1000000) (h0 : Pre T a0 P) : ∀ {i a : Nat} {l : List Ent}, ReadsT T a0 i a l → Pre T a (P ++ l.flatMap entL)
  | 0, a, l, h => by rw [h.1, h.2, List.flatMap_nil, List.append_nil]; exact h0
  | i + 1, a, l, h => by
    obtain ⟨a', l', y, h1, h2, h3, _, h5, h6⟩ := h
    have ih := ReadsT.bytes hT h0 h1
    have hx := en_raw h2
    have hz : rawX T a' 0 ((32 : Nat) : Int) = 0 := hx
    have r := (ih.raw (k := 32) hz).1
    have ht : txtX T (rawA T a' 0 32) 0 4194304 = 0 := by unfold enX at h2; rw [hx] at h2; exact h2
    have t := r.txt hT ht
    have e1 : enA T a' = txtA T (rawA T a' 0 32) 0 4194304 := by unfold enA; rw [hx]
    have e2 : enS T a' = txtS T (rawA T a' 0 32) 0 4194304 := by unfold enS; rw [hx]
    rw [h5, h6, e1, List.flatMap_append, show List.flatMap entL [y] = sb (rawS T a' 0 32) ++ txtL (sb (txtS T (rawA T a' 0 32) 0 4194304)) by
      rw [List.flatMap_cons, List.flatMap_nil, List.append_nil]; unfold entL; rw [h3.1, h3.2, e2]]
    simp only [List.append_assoc] at t ⊢
    exact t
theorem ReadsT.few {T : ByteArray} {a0 : Nat} (hT : T.size ≤ 1000000) (h0 : a0 ≤ T.size) {i a : Nat} {l : List Ent} (h : ReadsT T a0 i a l) : l.length * 32 ≤ T.size ∧ a ≤ T.size := by
  have p0 : Pre T a0 ((sb T).take a0) := ⟨rfl, h0⟩
  have p := h.bytes hT p0
  have e := p.len
  rw [List.length_append] at e
  have := flat_ge l
  have := p.2
  omega
/-- the entry that is read, where no error is -/
theorem en_ok {T : ByteArray} {a : Nat} (ha : a ≤ T.size) (h : enX T a = 0) : ∃ y, IsEn T a y := by
  have h5 := en_raw h
  have hz : rawX T a 0 ((32 : Nat) : Int) = 0 := h5
  have hp : Pre T a ((sb T).take a) := ⟨rfl, ha⟩
  have hs := (hp.raw (k := 32) hz).2
  rw [show ((32 : Nat) : Int) = 32 from rfl, ← sb_length] at hs
  obtain ⟨K, hK⟩ : ∃ K, K = sb (rawS T a 0 32) := ⟨_, rfl⟩
  rw [← hK] at hs
  have hb : ∀ d ∈ K, d < 256 := by rw [hK]; exact sb_lt _
  refine ⟨⟨K, enS T a, hs, hb⟩, ?_, ?_⟩
  · exact hK
  · rfl
theorem fol_last {p : List Ent} {z y : Ent} : Fol (p ++ [z]) y ↔ cfE z y < 0 := by
  constructor
  · intro h; exact h p z rfl
  · intro h q u e
    have e2 := List.append_inj_right' e rfl
    have : z = u := by simpa using e2
    rw [← this]; exact h
theorem fol_nil {y : Ent} : Fol [] y := fun p z e => by
  have := congrArg List.length e
  simp at this
end Go.Proofs.YtacfdnjdjgdbcaaGreatDoor
