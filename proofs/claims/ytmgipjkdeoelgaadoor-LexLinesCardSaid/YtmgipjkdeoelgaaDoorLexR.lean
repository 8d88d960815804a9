/- The reference's way through a line and a text, as mathematics. -/
import Derived.Test.YtmgipjkdeoelgaaDoorLexM
namespace Go.Proofs.YtmgipjkdeoelgaaDoor
set_option maxRecDepth 100000

theorem index1_ne {b c : UInt8} (l : List UInt8) (h : c ≠ b) : Lib.index (c :: l) [b] = if Lib.index l [b] = -1 then -1 else Lib.index l [b] + 1 := by
  have hp : ([b] : List UInt8).isPrefixOf (c :: l) = false := by simp [List.isPrefixOf, Ne.symm h]
  rw [Lib.index, hp]; simp
theorem index1_eq (b : UInt8) (l : List UInt8) : Lib.index (b :: l) [b] = 0 := by rw [Lib.index]; simp [List.isPrefixOf]
/-- a line up to its note -/
def noteL (p : List UInt8) : List UInt8 := p.takeWhile (fun c => c != 35)
theorem cut35 : ∀ p : List UInt8, (Lib.cut p [35]).1 = noteL p
  | [] => by simp [Lib.cut, Lib.index, noteL]
  | c :: l => by
    have ih := cut35 l
    by_cases h : c = 35
    · subst h
      simp [Lib.cut, index1_eq, noteL]
    · have hn : noteL (c :: l) = c :: noteL l := by simp [noteL, h]
      rw [hn, ← ih]
      have hge := Lib.index_ge l [35]
      unfold Lib.cut
      rw [index1_ne l h]
      by_cases h1 : Lib.index l [35] = -1
      · rw [if_pos h1, h1]; simp
      · rw [if_neg h1]
        obtain ⟨i, hi⟩ : ∃ i : Nat, Lib.index l [35] = i := ⟨(Lib.index l [35]).toNat, by omega⟩
        rw [hi, if_pos (by omega), if_pos (by omega)]
        have e : ((i : Int) + 1).toNat = i + 1 := by omega
        simp [e]
theorem bareL_note (p : List UInt8) : bareL p = noteL (Lib.trimSuffix p [13]) := cut35 _

/-- the tokens ahead of a note -/
def toksC (l : List UInt8) : Option (List Tok) := toks (noteL l)
theorem toks_congr {s t : List UInt8} (h : s.dropWhile blk = t.dropWhile blk) : toks s = toks t := by
  by_cases h0 : t.dropWhile blk = []
  · rw [toks_end h0, toks_end (h.trans h0)]
  · have h1 : s.dropWhile blk ≠ [] := by rw [h]; exact h0
    cases hf : firstL (t.dropWhile blk) with
    | none => rw [toks_bad h0 hf, toks_bad h1 (by rw [h]; exact hf)]
    | some k => rw [toks_more h0 hf, toks_more h1 (t := k) (by rw [h]; exact hf), h]
theorem toksC_nil : toksC [] = some [] := rfl
theorem toksC_note (l : List UInt8) : toksC (35 :: l) = some [] := rfl
theorem noteL_cons {c : UInt8} {l : List UInt8} (h : c ≠ 35) : noteL (c :: l) = c :: noteL l := by simp [noteL, h]
theorem toksC_blk {c : UInt8} {l : List UInt8} (h : blk c = true) : toksC (c :: l) = toksC l := by
  have hc : c ≠ 35 := fun e => by subst e; revert h; decide
  unfold toksC
  rw [noteL_cons hc]
  exact toks_congr (by rw [List.dropWhile_cons, if_pos h])
theorem not_blk {c : UInt8} (h : c = 61 ∨ c = 58 ∨ isA c = true) : blk c = false := by
  rcases h with rfl | rfl | h
  · decide
  · decide
  · simp only [isA, isL, isD, Bool.or_eq_true, Bool.and_eq_true, decide_eq_true_eq] at h
    simp only [blk, Bool.or_eq_false_iff, beq_eq_false_iff_ne]
    refine ⟨fun e => ?_, fun e => ?_⟩ <;> (subst e; revert h; decide)
theorem not_note {c : UInt8} (h : isA c = true) : c ≠ 35 := fun e => by subst e; revert h; decide
theorem toksC_sign {c : UInt8} {l : List UInt8} (h : c = 61 ∨ c = 58) : toksC (c :: l) = (toksC l).map (((3, [c], 0) : Tok) :: ·) := by
  have hc : c ≠ 35 := by rcases h with rfl | rfl <;> decide
  have hb : blk c = false := not_blk (by rcases h with h | h <;> simp [h])
  have hd : (c :: noteL l).dropWhile blk = c :: noteL l := by rw [List.dropWhile_cons, if_neg (by simp [hb])]
  have hf : firstL (c :: noteL l) = some (3, [c], 0) := by
    have : (c == 61 || c == 58) = true := by rcases h with rfl | rfl <;> decide
    simp [firstL, this]
  unfold toksC
  rw [noteL_cons hc, toks_more (t := (3, [c], 0)) (by rw [hd]; simp) (by rw [hd]; exact hf), hd]
  rfl
theorem toksC_bad {c : UInt8} {l : List UInt8} (h : c ≠ 35) (hb : blk c = false) (hs : c ≠ 61 ∧ c ≠ 58) (hA : isA c = false) : toksC (c :: l) = none := by
  have hd : (c :: noteL l).dropWhile blk = c :: noteL l := by rw [List.dropWhile_cons, if_neg (by simp [hb])]
  have h2 : isL c = false ∧ isD c = false := by simpa [isA] using hA
  have hf : firstL (c :: noteL l) = none := by
    simp [firstL, hs.1, hs.2, h2.1, h2.2]
  unfold toksC
  rw [noteL_cons h, toks_bad (by rw [hd]; simp) (by rw [hd]; exact hf)]
theorem noteL_word : ∀ l : List UInt8, (noteL l).takeWhile isA = l.takeWhile isA ∧ (noteL l).drop (l.takeWhile isA).length = noteL (l.drop (l.takeWhile isA).length)
  | [] => ⟨rfl, rfl⟩
  | c :: l => by
    have ih := noteL_word l
    by_cases h : isA c = true
    · rw [noteL_cons (not_note h), List.takeWhile_cons, List.takeWhile_cons, if_pos h, if_pos h, ih.1]
      exact ⟨rfl, by simpa using ih.2⟩
    · rw [List.takeWhile_cons, if_neg h]
      refine ⟨?_, by simp⟩
      by_cases h2 : c = 35
      · subst h2; rfl
      · rw [noteL_cons h2, List.takeWhile_cons, if_neg h]
/-- a word or a number at the beginning -/
theorem toksC_word {c : UInt8} {l : List UInt8} (hA : isA c = true) (n : Nat) (hn : n = ((c :: l).takeWhile isA).length) :
    (isD c = false → toksC (c :: l) = (toksC ((c :: l).drop n)).map (((1, (c :: l).take n, 0) : Tok) :: ·)) ∧
    (isD c = true → (numR ((c :: l).take n)).1 = 0 → toksC (c :: l) = (toksC ((c :: l).drop n)).map (((2, (c :: l).take n, (numR ((c :: l).take n)).2) : Tok) :: ·)) ∧
    (isD c = true → (numR ((c :: l).take n)).1 ≠ 0 → toksC (c :: l) = none) := by
  have hc := not_note hA
  have hb : blk c = false := not_blk (.inr (.inr hA))
  have hd : (c :: noteL l).dropWhile blk = c :: noteL l := by rw [List.dropWhile_cons, if_neg (by simp [hb])]
  have hs : c ≠ 61 ∧ c ≠ 58 := ⟨fun e => by subst e; revert hA; decide, fun e => by subst e; revert hA; decide⟩
  have hw := noteL_word (c :: l)
  rw [noteL_cons hc, ← hn] at hw
  have ht : (c :: noteL l).takeWhile isA = (c :: l).take n := by rw [hw.1, hn]; exact takeWhile_take _
  have hlen : ((c :: l).take n).length = n := by
    have := takeWhile_le (p := isA) (c :: l)
    rw [List.length_take]; omega
  have hfirst : firstL (c :: noteL l) = if isL c then some (1, (c :: l).take n, 0) else if isD c then (if (numR ((c :: l).take n)).1 = 0 then some (2, (c :: l).take n, (numR ((c :: l).take n)).2) else none) else none := by
    rw [firstL, ht]
    simp [hs.1, hs.2]
  have hLD : isL c = !isD c := by
    simp only [isA, isL, isD] at hA ⊢
    by_cases h1 : 97 ≤ c.toNat
    · have : ¬ c.toNat ≤ 57 := by omega
      simp [h1, this] at hA ⊢
      exact hA
    · simp [h1] at hA ⊢
      omega
  unfold toksC
  rw [noteL_cons hc]
  have more : ∀ t : Tok, firstL (c :: noteL l) = some t → t.2.1.length = n → toks (c :: noteL l) = (toks (noteL ((c :: l).drop n))).map (t :: ·) := fun t h hl => by
    rw [toks_more (t := t) (by rw [hd]; simp) (by rw [hd]; exact h), hd, hl, hw.2]
  refine ⟨fun h => more _ (by rw [hfirst, hLD, h]; rfl) hlen, fun h h2 => more _ (by rw [hfirst, hLD, h]; simp [h2]) hlen, fun h h2 => ?_⟩
  exact toks_bad (by rw [hd]; simp) (by rw [hd, hfirst, hLD, h]; simp [h2])

/-- what a byte is worth in the reference -/
def digR (c : UInt8) : Nat := if isD c then c.toNat - 48 else if 97 ≤ c.toNat ∧ c.toNat ≤ 102 then c.toNat - 87 else 16
theorem or32 {n : Nat} (h1 : 97 ≤ n) (h2 : n ≤ 122) : n ||| 32 = n := by
  have h : ∀ m : Fin 26, (97 + m.val) ||| 32 = 97 + m.val := by decide
  have e := h ⟨n - 97, by omega⟩
  rwa [show 97 + (n - 97) = n by omega] at e
theorem dig_same {c : UInt8} (h : isA c = true) (b : Nat) (hb : b ≤ 16) : (b ≤ digP c ↔ b ≤ digR c) ∧ (digR c < b → digP c = digR c) := by
  simp only [isA, isL, isD, Bool.or_eq_true, Bool.and_eq_true, decide_eq_true_eq] at h
  unfold digP digR isD
  by_cases h1 : 48 ≤ c.toNat ∧ c.toNat ≤ 57
  · rw [if_pos h1, if_pos (by simpa using h1)]
    exact ⟨Iff.rfl, fun _ => rfl⟩
  · have h2 : 97 ≤ c.toNat ∧ c.toNat ≤ 122 := by omega
    have e := or32 h2.1 h2.2
    rw [if_neg h1, e, if_pos h2, if_neg (by simpa using h1)]
    by_cases h3 : c.toNat ≤ 102
    · rw [if_pos ⟨h2.1, h3⟩]; exact ⟨Iff.rfl, fun _ => rfl⟩
    · rw [if_neg (by omega)]
      exact ⟨by omega, fun h => by omega⟩

/-- pieces, the first of which has begun -/
def pcsW (l rest : List UInt8) : List (List UInt8) := match pcs rest with
  | [] => [l]
  | p :: ps => (l ++ p) :: ps
theorem pcsW_start (s : List UInt8) : pcsW [] s = pcs s := by
  obtain ⟨p, ps, h⟩ := pcs_some s
  unfold pcsW; rw [h]; rfl
theorem pcsW_ne {c : UInt8} (l t : List UInt8) (h : c ≠ 10) : pcsW l (c :: t) = pcsW (l ++ [c]) t := by
  obtain ⟨p, ps, hp⟩ := pcs_some t
  unfold pcsW; rw [pcs_ne h hp, hp]; simp
theorem pcsW_nl (l t : List UInt8) : pcsW l (10 :: t) = l :: pcs t := by unfold pcsW; rw [pcs_nl]; simp
theorem pcsW_end (l : List UInt8) : pcsW l [] = [l] := by simp [pcsW, pcs]
end Go.Proofs.YtmgipjkdeoelgaaDoor
