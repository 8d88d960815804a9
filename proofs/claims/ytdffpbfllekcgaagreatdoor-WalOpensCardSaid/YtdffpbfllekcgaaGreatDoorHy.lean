/- Base, LexM, in one text. -/
import Derived.Test.YtdffpbfllekcgaaGreatDoorRows
import Derived.Lib.Hide
import Derived.WalkKit
import Derived.WalkSpells
import Derived.WalkLawsBesides
import Derived.Deep.AppendLies
import Derived.RegionTactic
import Derived.Deep.RegionHeld3
import Derived.Lib.Strings
import Derived.Lib.TrimByte
import Derived.Lib.ConvBytes
import Derived.Lib.SplitLaws
import Derived.Lib.IndexMore
import Derived.Lib.SlTrimSet
namespace Go.Proofs.YtdffpbfllekcgaaGreatDoor
set_option maxRecDepth 100000
open Go.RowKit

/-- a fact that the walk is not to use -/
structure Bx (p : Prop) : Prop where
  out : p

/-- the string of a list of bytes -/
def st (l : List UInt8) : ByteArray := ⟨l.toArray⟩
/-- the bytes of a string -/
def by' (s : ByteArray) : List UInt8 := s.data.toList
theorem st_by (s : ByteArray) : st (by' s) = s := Lib.mk_data s
theorem by_st (l : List UInt8) : by' (st l) = l := by simp [by', st]
theorem st_size (l : List UInt8) : (st l).size = l.length := Lib.size_mk l
theorem by_size (s : ByteArray) : (by' s).length = s.size := (Lib.size_eq s).symm
theorem st_part (l : List UInt8) (a b : Nat) : (st l).extract a b = st ((l.drop a).take (b - a)) := Lib.extract_mk l a b
theorem st_app (a b : List UInt8) : st a ++ st b = st (a ++ b) := by
  apply ByteArray.ext
  simp [st]
theorem st_inj {a b : List UInt8} (h : st a = st b) : a = b := by
  have e := congrArg by' h
  rwa [by_st, by_st] at e

theorem bel {w a b : World} (h : Below w.heap.size w a) (k : Below a.heap.size a b) : Below w.heap.size w b := h.trans (k.mono h.size)
theorem bel' {B : Nat} {w a b : World} (h : Below B w a) (hB : B ≤ a.heap.size) (k : Below a.heap.size a b) : Below B w b := h.trans (k.mono hB)
theorem bel_drewN {w w' : World} (n : Nat) (h : w' = w.drewN n) : w'.heap = w.heap := by subst h; simp [World.drewN]

theorem rowKeep {w w' : World} {B e z : Nat} {v : Value} {n : Nat} {xs : List Value} (h : w.ownsRow B e z v n xs) (hk : ∀ k, v.ownBlock = some k → w'.heap[k]? = w.heap[k]?) : w'.ownsRow B e z v n xs := by
  obtain ⟨h1, h2⟩ := h
  refine ⟨h1, ?_⟩
  rcases h2 with h2 | ⟨g, cap, cur, hv, hg, hh, r⟩
  · exact .inl h2
  · subst hv
    exact .inr ⟨g, cap, cur, rfl, hg, (hk g rfl).trans hh, r⟩
theorem rowLt {w : World} {B e z : Nat} {v : Value} {n : Nat} {xs : List Value} (h : w.ownsRow B e z v n xs) : ∀ k, v.ownBlock = some k → B ≤ k ∧ k < w.heap.size := by
  intro k hk
  rcases h.2 with ⟨rfl, _⟩ | ⟨g, cap, cur, rfl, hg, hh, _⟩
  · cases hk
  · have e : g = k := by simpa [Value.ownBlock] using hk
    subst e
    refine ⟨hg, ?_⟩
    rcases Nat.lt_or_ge g w.heap.size with hl | hl
    · exact hl
    · rw [Array.getElem?_eq_none hl] at hh; cases hh
theorem rowBelow {w w' : World} {C B e z : Nat} {v : Value} {n : Nat} {xs : List Value} (h : w.ownsRow B e z v n xs) (hb : Below C w w') (hC : ∀ k, v.ownBlock = some k → k < C) : w'.ownsRow B e z v n xs :=
  rowKeep h fun k hk => hb.block k (hC k hk)
theorem rowBel {w w' : World} {B e z : Nat} {v : Value} {n : Nat} {xs : List Value} (h : w.ownsRow B e z v n xs) (hb : Below w.heap.size w w') : w'.ownsRow B e z v n xs :=
  rowBelow h hb fun k hk => (rowLt h k hk).2
theorem rowMono {w : World} {B C e z : Nat} {v : Value} {n : Nat} {xs : List Value} (h : w.ownsRow B e z v n xs) (hC : C ≤ B) : w.ownsRow C e z v n xs := by
  obtain ⟨h1, h2⟩ := h
  refine ⟨h1, ?_⟩
  rcases h2 with h2 | ⟨g, cap, cur, hv, hg, r⟩
  · exact .inl h2
  · exact .inr ⟨g, cap, cur, hv, Nat.le_trans hC hg, r⟩
/-- rows of unlike types lie in unlike blocks -/
theorem rowApart {w : World} {B C e f z y : Nat} {v u : Value} {n m : Nat} {xs ys : List Value} (h : w.ownsRow B e z v n xs) (k : w.ownsRow C f y u m ys) (hef : e ≠ f) : ∀ b, v.ownBlock = some b → u.ownBlock ≠ some b := by
  intro b hb hu
  rcases h.2 with ⟨rfl, _⟩ | ⟨g, cap, cur, rfl, hg, hh, _⟩
  · cases hb
  rcases k.2 with ⟨rfl, _⟩ | ⟨g', cap', cur', rfl, hg', hh', _⟩
  · cases hu
  have e1 : g = b := by simpa [Value.ownBlock] using hb
  have e2 : g' = b := by simpa [Value.ownBlock] using hu
  subst e1 e2
  rw [hh] at hh'
  injection hh' with hh'
  injection hh' with _ h2
  exact hef h2
theorem rowSlice {w : World} {B e z : Nat} {v : Value} {n : Nat} {xs : List Value} (h : w.ownsRow B e z v n xs) : ∃ p c, v = .slice p n c := by
  rcases h.2 with ⟨rfl, rfl⟩ | ⟨g, cap, cur, rfl, _⟩
  · exact ⟨_, _, rfl⟩
  · exact ⟨_, _, rfl⟩
theorem rowSome {w : World} {B e z : Nat} {v : Value} {n : Nat} {xs : List Value} (h : w.ownsRow B e z v n xs) (hn : 0 < n) : ∃ g cap, v = .slice (some ⟨g, 0, none⟩) n cap := by
  rcases h.2 with ⟨_, h0⟩ | ⟨g, cap, cur, rfl, _⟩
  · omega
  · exact ⟨g, cap, rfl⟩
end Go.Proofs.YtdffpbfllekcgaaGreatDoor
namespace Go.Proofs.YtdffpbfllekcgaaGreatDoor
set_option maxRecDepth 100000

def isL (c : UInt8) : Bool := decide (97 ≤ c.toNat) && decide (c.toNat ≤ 122)
def isD (c : UInt8) : Bool := decide (48 ≤ c.toNat) && decide (c.toNat ≤ 57)
def isA (c : UInt8) : Bool := isL c || isD c
def blk (c : UInt8) : Bool := c == 32 || c == 9

/-- what a byte is worth as a digit -/
def digP (c : UInt8) : Nat := if 48 ≤ c.toNat ∧ c.toNat ≤ 57 then c.toNat - 48 else if 97 ≤ c.toNat ||| 32 ∧ c.toNat ||| 32 ≤ 122 then (c.toNat ||| 32) - 87 else 99
/-- the number of digits: 0 and it; 2: no digit; 1: too great -/
def pu (b : Nat) : Nat → List UInt8 → Nat × Nat
  | acc, [] => (0, acc)
  | acc, c :: t => if b ≤ digP c then (2, 0) else if 18446744073709551616 ≤ acc * b + digP c then (1, 18446744073709551615) else pu b (acc * b + digP c) t
def puX (b : Nat) (s : List UInt8) : Nat × Nat := if s = [] then (2, 0) else pu b 0 s
theorem pu_lt (b : Nat) : ∀ (s : List UInt8) (acc : Nat), acc < 18446744073709551616 → (pu b acc s).2 < 18446744073709551616
  | [], acc, h => h
  | c :: t, acc, h => by
    unfold pu
    split
    · decide
    · split
      · decide
      · exact pu_lt b t _ (by omega)
theorem puX_lt (b : Nat) (s : List UInt8) : (puX b s).2 < 18446744073709551616 := by
  unfold puX
  split
  · decide
  · exact pu_lt b s 0 (by decide)
/-- a number as written -/
def numR (s : List UInt8) : Nat × Nat := if [48, 120].isPrefixOf s then puX 16 (s.drop 2) else puX 10 s
theorem numR_lt (s : List UInt8) : (numR s).2 < 18446744073709551616 := by
  unfold numR
  split <;> exact puX_lt _ _

abbrev Tok := Nat × List UInt8 × Nat
abbrev Ln := Nat × List Tok

/-- the token at the beginning -/
def firstL : List UInt8 → Option Tok
  | [] => none
  | c :: t => if c == 61 || c == 58 then some (3, [c], 0) else if isL c then some (1, (c :: t).takeWhile isA, 0)
    else if isD c then (if (numR ((c :: t).takeWhile isA)).1 = 0 then some (2, (c :: t).takeWhile isA, (numR ((c :: t).takeWhile isA)).2) else none) else none

theorem takeWhile_take {p : UInt8 → Bool} : ∀ l : List UInt8, l.takeWhile p = l.take (l.takeWhile p).length
  | [] => rfl
  | c :: t => by
    rw [List.takeWhile_cons]
    split
    · rw [List.length_cons, List.take_succ_cons, ← takeWhile_take t]
    · simp
theorem takeWhile_le {p : UInt8 → Bool} (l : List UInt8) : (l.takeWhile p).length ≤ l.length := (List.takeWhile_prefix p).length_le

theorem firstL_len {s : List UInt8} {t : Tok} (h : firstL s = some t) : 1 ≤ t.2.1.length ∧ t.2.1.length ≤ s.length ∧ t.2.1 = s.take t.2.1.length ∧ t.1 ≤ 3 ∧ t.2.2 < 18446744073709551616 := by
  cases s with
  | nil => cases h
  | cons c l =>
    have hle := takeWhile_le (p := isA) (c :: l)
    have htk := takeWhile_take (p := isA) (c :: l)
    simp only [firstL] at h
    split at h
    · cases h; simp
    · split at h
      · rename_i hL
        have hA : isA c = true := by simp [isA, hL]
        cases h
        refine ⟨?_, hle, htk, by show 1 ≤ 3; decide, by show 0 < 18446744073709551616; decide⟩
        rw [List.takeWhile_cons, if_pos hA]; simp
      · split at h
        · rename_i hD
          have hA : isA c = true := by simp [isA, hD]
          split at h
          · cases h
            refine ⟨?_, hle, htk, by show 2 ≤ 3; decide, numR_lt _⟩
            rw [List.takeWhile_cons, if_pos hA]; simp
          · cases h
        · cases h

/-- the tokens -/
def toksF : Nat → List UInt8 → Option (List Tok)
  | 0, _ => some []
  | f + 1, s => if s.dropWhile blk = [] then some [] else
    match firstL (s.dropWhile blk) with
    | none => none
    | some t => (toksF f ((s.dropWhile blk).drop t.2.1.length)).map (t :: ·)
def toks (s : List UInt8) : Option (List Tok) := toksF (s.length + 1) s

theorem dropWhile_le {p : UInt8 → Bool} (l : List UInt8) : (l.dropWhile p).length ≤ l.length := (List.dropWhile_suffix p).length_le
theorem toksF_fuel : ∀ (f g : Nat) (s : List UInt8), s.length < f → s.length < g → toksF f s = toksF g s
  | 0, _, s, h, _ => by omega
  | _ + 1, 0, s, _, h => by omega
  | f + 1, g + 1, s, hf, hg => by
    have hd := dropWhile_le (p := blk) s
    unfold toksF
    split
    · rfl
    · cases hq : firstL (s.dropWhile blk) with
      | none => rfl
      | some t =>
        have hl := firstL_len hq
        have e := toksF_fuel f g ((s.dropWhile blk).drop t.2.1.length) (by rw [List.length_drop]; omega) (by rw [List.length_drop]; omega)
        simp only [e]
theorem toks_end {s : List UInt8} (h : s.dropWhile blk = []) : toks s = some [] := by
  unfold toks toksF; rw [if_pos h]
theorem toks_bad {s : List UInt8} (h : s.dropWhile blk ≠ []) (hf : firstL (s.dropWhile blk) = none) : toks s = none := by
  unfold toks toksF; rw [if_neg h, hf]
theorem toks_more {s : List UInt8} {t : Tok} (h : s.dropWhile blk ≠ []) (hf : firstL (s.dropWhile blk) = some t) : toks s = (toks ((s.dropWhile blk).drop t.2.1.length)).map (t :: ·) := by
  have hl := firstL_len hf
  have hd := dropWhile_le (p := blk) s
  have e := toksF_fuel s.length (((s.dropWhile blk).drop t.2.1.length).length + 1) ((s.dropWhile blk).drop t.2.1.length) (by rw [List.length_drop]; omega) (by omega)
  rw [toks, toksF, if_neg h, hf]
  simp only [e]
  rfl

/-- a line without its note -/
def bareL (p : List UInt8) : List UInt8 := (Lib.cut (Lib.trimSuffix p [13]) [35]).1
theorem bareL_le (p : List UInt8) : (bareL p).length ≤ p.length := by
  have h := Lib.trimSuffix_le p [13]
  unfold bareL Lib.cut
  split
  · simp; omega
  · exact h

def pre (D : List Ln) (r : Nat × List Ln) : Nat × List Ln := if r.1 = 0 then (0, D ++ r.2) else (r.1, [])
theorem pre_nil {r : Nat × List Ln} (h : r.1 ≠ 0 → r.2 = []) : pre [] r = r := by
  obtain ⟨a, b⟩ := r
  unfold pre
  split
  · rename_i h0; simp at h0; simp [h0]
  · rename_i h0; exact Prod.ext rfl (h h0).symm
theorem pre_pre (D E : List Ln) (r : Nat × List Ln) : pre D (pre E r) = pre (D ++ E) r := by
  unfold pre
  by_cases h : r.1 = 0
  · simp [h]
  · simp [h]
/-- the lines from the n-th on: 0 and they; or the number of the one that can't be read -/
def linL : Nat → List (List UInt8) → Nat × List Ln
  | _, [] => (0, [])
  | n, p :: ps => match toks (bareL p) with
    | none => (n, [])
    | some ts => pre (if ts = [] then [] else [(n, ts)]) (linL (n + 1) ps)
theorem linL_bad {n : Nat} {p : List UInt8} {ps : List (List UInt8)} (h : toks (bareL p) = none) : linL n (p :: ps) = (n, []) := by
  unfold linL; rw [h]
theorem linL_good {n : Nat} {p : List UInt8} {ps : List (List UInt8)} {ts : List Tok} (h : toks (bareL p) = some ts) : linL n (p :: ps) = pre (if ts = [] then [] else [(n, ts)]) (linL (n + 1) ps) := by
  show (match toks (bareL p) with | none => (n, []) | some ts => _) = _
  rw [h]
theorem linL_err : ∀ (ps : List (List UInt8)) (n : Nat), (linL n ps).1 ≠ 0 → (linL n ps).2 = [] ∧ n ≤ (linL n ps).1 ∧ (linL n ps).1 < n + ps.length
  | [], n, h => absurd rfl h
  | p :: ps, n, h => by
    cases ht : toks (bareL p) with
    | none => rw [linL_bad ht]; exact ⟨rfl, Nat.le_refl _, by simp⟩
    | some ts =>
      rw [linL_good ht] at h ⊢
      have ih := linL_err ps (n + 1)
      unfold pre at h ⊢
      split at h
      · exact absurd rfl h
      · rename_i h0
        rw [if_neg h0]
        have := ih h0
        exact ⟨rfl, by show n ≤ (linL (n + 1) ps).1; omega, by show (linL (n + 1) ps).1 < _; simp; omega⟩

/-- a text in pieces, at each byte 10 -/
def pcs : List UInt8 → List (List UInt8)
  | [] => [[]]
  | c :: l => if c = 10 then [] :: pcs l else match pcs l with
    | [] => [[c]]
    | p :: ps => (c :: p) :: ps
theorem pcs_some : ∀ l : List UInt8, ∃ p ps, pcs l = p :: ps
  | [] => ⟨_, _, rfl⟩
  | c :: l => by
    unfold pcs
    split
    · exact ⟨_, _, rfl⟩
    · split <;> exact ⟨_, _, rfl⟩
theorem pcs_ne {c : UInt8} {l p : List UInt8} {ps : List (List UInt8)} (hc : c ≠ 10) (h : pcs l = p :: ps) : pcs (c :: l) = (c :: p) :: ps := by
  rw [pcs, if_neg hc, h]
theorem pcs_nl (l : List UInt8) : pcs (10 :: l) = [] :: pcs l := by rw [pcs, if_pos rfl]
theorem pcs_append (b : List UInt8) : ∀ a : List UInt8, pcs (a ++ 10 :: b) = pcs a ++ pcs b
  | [] => by rw [List.nil_append, pcs_nl]; rfl
  | c :: a => by
    by_cases h : c = 10
    · subst h
      rw [List.cons_append, pcs_nl, pcs_nl, pcs_append b a, List.cons_append]
    · obtain ⟨p, ps, hp⟩ := pcs_some a
      have ih := pcs_append b a
      rw [hp, List.cons_append] at ih
      rw [List.cons_append, pcs_ne h ih, pcs_ne h hp, List.cons_append]
theorem pcs_length : ∀ l : List UInt8, (pcs l).length = 1 + l.count 10
  | [] => rfl
  | c :: l => by
    by_cases h : c = 10
    · subst h; rw [pcs_nl, List.length_cons, pcs_length l, List.count_cons_self]; omega
    · obtain ⟨p, ps, hp⟩ := pcs_some l
      have ih := pcs_length l
      rw [pcs_ne h hp, List.count_cons_of_ne (by simpa using h)]
      rw [hp] at ih; simpa using ih
theorem pcs_le : ∀ (l : List UInt8), ∀ p ∈ pcs l, p.length ≤ l.length
  | [], p, h => by simp [pcs] at h; subst h; simp
  | c :: l, p, h => by
    have ih := pcs_le l
    by_cases hc : c = 10
    · subst hc
      rw [pcs_nl] at h
      rcases List.mem_cons.1 h with rfl | h
      · simp
      · have := ih p h; simp; omega
    · obtain ⟨q, qs, hq⟩ := pcs_some l
      rw [pcs_ne hc hq] at h
      rw [hq] at ih
      rcases List.mem_cons.1 h with rfl | h
      · have := ih q (by simp); simp; omega
      · have := ih p (by simp [h]); simp; omega

theorem index10_ne {c : UInt8} (l : List UInt8) (h : c ≠ 10) : Lib.index (c :: l) [10] = if Lib.index l [10] = -1 then -1 else Lib.index l [10] + 1 := by
  have hp : ([10] : List UInt8).isPrefixOf (c :: l) = false := by simp [List.isPrefixOf, Ne.symm h]
  rw [Lib.index, hp]; simp
theorem index10_eq (l : List UInt8) : Lib.index (10 :: l) [10] = 0 := by rw [Lib.index]; simp [List.isPrefixOf]
theorem index10_none : ∀ l : List UInt8, l.count 10 = 0 → Lib.index l [10] = -1
  | [], _ => by simp [Lib.index]
  | c :: l, h => by
    by_cases hc : c = 10
    · subst hc; simp at h
    · rw [List.count_cons_of_ne (by simpa using hc)] at h
      rw [index10_ne l hc, if_pos (index10_none l h)]
theorem index10_some : ∀ l : List UInt8, l.count 10 ≠ 0 → ∃ i : Nat, Lib.index l [10] = i
  | [], h => by simp at h
  | c :: l, h => by
    by_cases hc : c = 10
    · subst hc; exact ⟨0, index10_eq l⟩
    · rw [List.count_cons_of_ne (by simpa using hc)] at h
      obtain ⟨i, hi⟩ := index10_some l h
      exact ⟨i + 1, by rw [index10_ne l hc, if_neg (by omega), hi]; omega⟩
theorem split_pcs : ∀ s : List UInt8, Lib.splitK [10] 0 (s.count 10) s = pcs s
  | [] => rfl
  | c :: l => by
    have ih := split_pcs l
    by_cases h : c = 10
    · subst h
      rw [List.count_cons_self, pcs_nl, Lib.splitK, index10_eq]
      simp [ih]
    · rw [List.count_cons_of_ne (by simpa using h)]
      obtain ⟨p, ps, hp⟩ := pcs_some l
      rw [pcs_ne h hp]
      rw [hp] at ih
      cases hk : l.count 10 with
      | zero =>
        rw [hk] at ih
        simp only [Lib.splitK, List.cons.injEq] at ih ⊢
        obtain ⟨h1, h2⟩ := ih
        subst h1 h2
        simp
      | succ k =>
        rw [hk] at ih
        obtain ⟨i, hi⟩ := index10_some l (by omega)
        have hi2 : Lib.index (c :: l) [10] = ((i + 1 : Nat) : Int) := by rw [index10_ne l h, if_neg (by omega), hi]; omega
        have e1 : ¬ ((i : Int) == -1) = true := by simp
        have e2 : ¬ (((i + 1 : Nat) : Int) == -1) = true := by simp; omega
        rw [Lib.splitK, hi, if_neg e1] at ih
        rw [Lib.splitK, hi2, if_neg e2]
        simp only [Int.toNat_natCast, List.length_cons, List.length_nil, Nat.add_zero, List.cons.injEq] at ih ⊢
        exact ⟨by rw [List.take_succ_cons, ih.1], by rw [← ih.2]; rfl⟩
theorem splitB_pcs (s : ByteArray) : (Lib.splitB ⟨#[10]⟩ 0 (Lib.countB s ⟨#[10]⟩) s).map by' = pcs (by' s) := by
  have h := Lib.splitB_data ⟨#[10]⟩ 0 (Lib.countB s ⟨#[10]⟩) s
  have hc : Lib.countB s ⟨#[10]⟩ = (by' s).count 10 := Lib.count_one 10 _
  rw [hc] at h ⊢
  exact h.trans (split_pcs _)

/-- all lines of a text -/
def linesL (s : List UInt8) : Nat × List Ln := linL 1 (pcs s)
end Go.Proofs.YtdffpbfllekcgaaGreatDoor
