/- LexM, LitN, LitI, LitJ, LitK, LitO, in one text. -/
import Derived.Test.YtccjekgbhablpaaBase
import Derived.Lib.SplitLaws
import Derived.Lib.IndexMore
import Derived.Lib.SlTrimSet
import Derived.Test.YtccjekgbhablpaaGb
import Derived.BigQuiet
import Derived.Deep.RegionHeld3
namespace Go.Proofs.Ytccjekgbhablpaa
set_option maxRecDepth 100000

def isL (c : UInt8) : Bool := decide (97 ≤ c.toNat) && decide (c.toNat ≤ 122)
def isD (c : UInt8) : Bool := decide (48 ≤ c.toNat) && decide (c.toNat ≤ 57)
def isA (c : UInt8) : Bool := isL c || isD c
def blk (c : UInt8) : Bool := c == 32 || c == 9

/-- what a byte is worth as a digit -/
def digP (c : UInt8) : Nat := if 48 ≤ c.toNat ∧ c.toNat ≤ 57 then c.toNat - 48 else if 97 ≤ c.toNat ||| 32 ∧ c.toNat ||| 32 ≤ 122 then (c.toNat ||| 32) - 87 else 99
/-- the number of digits: 0 and it; 2: no digit; 1: too great -/
def pu (b : Nat) : Nat → List UInt8 → Nat × Nat
  | acc, [] => (0, acc)
  | acc, c :: t => if b ≤ digP c then (2, 0) else if 18446744073709551616 ≤ acc * b + digP c then (1, 18446744073709551615) else pu b (acc * b + digP c) t
def puX (b : Nat) (s : List UInt8) : Nat × Nat := if s = [] then (2, 0) else pu b 0 s
theorem pu_lt (b : Nat) : ∀ (s : List UInt8) (acc : Nat), acc < 18446744073709551616 → (pu b acc s).2 < 18446744073709551616
  | [], acc, h => h
  | c :: t, acc, h => by
    unfold pu
    split
    · decide
    · split
      · decide
      · exact pu_lt b t _ (by omega)
theorem puX_lt (b : Nat) (s : List UInt8) : (puX b s).2 < 18446744073709551616 := by
  unfold puX
  split
  · decide
  · exact pu_lt b s 0 (by decide)
/-- a number as written -/
def numR (s : List UInt8) : Nat × Nat := if [48, 120].isPrefixOf s then puX 16 (s.drop 2) else puX 10 s
theorem numR_lt (s : List UInt8) : (numR s).2 < 18446744073709551616 := by
  unfold numR
  split <;> exact puX_lt _ _

abbrev Tok := Nat × List UInt8 × Nat
abbrev Ln := Nat × List Tok

/-- the token at the beginning -/
def firstL : List UInt8 → Option Tok
  | [] => none
  | c :: t => if c == 61 || c == 58 then some (3, [c], 0) else if isL c then some (1, (c :: t).takeWhile isA, 0)
    else if isD c then (if (numR ((c :: t).takeWhile isA)).1 = 0 then some (2, (c :: t).takeWhile isA, (numR ((c :: t).takeWhile isA)).2) else none) else none

theorem takeWhile_take {p : UInt8 → Bool} : ∀ l : List UInt8, l.takeWhile p = l.take (l.takeWhile p).length
  | [] => rfl
  | c :: t => by
    rw [List.takeWhile_cons]
    split
    · rw [List.length_cons, List.take_succ_cons, ← takeWhile_take t]
    · simp
theorem takeWhile_le {p : UInt8 → Bool} (l : List UInt8) : (l.takeWhile p).length ≤ l.length := (List.takeWhile_prefix p).length_le

theorem firstL_len {s : List UInt8} {t : Tok} (h : firstL s = some t) : 1 ≤ t.2.1.length ∧ t.2.1.length ≤ s.length ∧ t.2.1 = s.take t.2.1.length ∧ t.1 ≤ 3 ∧ t.2.2 < 18446744073709551616 := by
  cases s with
  | nil => cases h
  | cons c l =>
    have hle := takeWhile_le (p := isA) (c :: l)
    have htk := takeWhile_take (p := isA) (c :: l)
    simp only [firstL] at h
    split at h
    · cases h; simp
    · split at h
      · rename_i hL
        have hA : isA c = true := by simp [isA, hL]
        cases h
        refine ⟨?_, hle, htk, by show 1 ≤ 3; decide, by show 0 < 18446744073709551616; decide⟩
        rw [List.takeWhile_cons, if_pos hA]; simp
      · split at h
        · rename_i hD
          have hA : isA c = true := by simp [isA, hD]
          split at h
          · cases h
            refine ⟨?_, hle, htk, by show 2 ≤ 3; decide, numR_lt _⟩
            rw [List.takeWhile_cons, if_pos hA]; simp
          · cases h
        · cases h

/-- the tokens -/
def toksF : Nat → List UInt8 → Option (List Tok)
  | 0, _ => some []
  | f + 1, s => if s.dropWhile blk = [] then some [] else
    match firstL (s.dropWhile blk) with
    | none => none
    | some t => (toksF f ((s.dropWhile blk).drop t.2.1.length)).map (t :: ·)
def toks (s : List UInt8) : Option (List Tok) := toksF (s.length + 1) s

theorem dropWhile_le {p : UInt8 → Bool} (l : List UInt8) : (l.dropWhile p).length ≤ l.length := (List.dropWhile_suffix p).length_le
theorem toksF_fuel : ∀ (f g : Nat) (s : List UInt8), s.length < f → s.length < g → toksF f s = toksF g s
  | 0, _, s, h, _ => by omega
  | _ + 1, 0, s, _, h => by omega
  | f + 1, g + 1, s, hf, hg => by
    have hd := dropWhile_le (p := blk) s
    unfold toksF
    split
    · rfl
    · cases hq : firstL (s.dropWhile blk) with
      | none => rfl
      | some t =>
        have hl := firstL_len hq
        have e := toksF_fuel f g ((s.dropWhile blk).drop t.2.1.length) (by rw [List.length_drop]; omega) (by rw [List.length_drop]; omega)
        simp only [e]
theorem toks_end {s : List UInt8} (h : s.dropWhile blk = []) : toks s = some [] := by
  unfold toks toksF; rw [if_pos h]
theorem toks_bad {s : List UInt8} (h : s.dropWhile blk ≠ []) (hf : firstL (s.dropWhile blk) = none) : toks s = none := by
  unfold toks toksF; rw [if_neg h, hf]
theorem toks_more {s : List UInt8} {t : Tok} (h : s.dropWhile blk ≠ []) (hf : firstL (s.dropWhile blk) = some t) : toks s = (toks ((s.dropWhile blk).drop t.2.1.length)).map (t :: ·) := by
  have hl := firstL_len hf
  have hd := dropWhile_le (p := blk) s
  have e := toksF_fuel s.length (((s.dropWhile blk).drop t.2.1.length).length + 1) ((s.dropWhile blk).drop t.2.1.length) (by rw [List.length_drop]; omega) (by omega)
  rw [toks, toksF, if_neg h, hf]
  simp only [e]
  rfl

/-- a line without its note -/
def bareL (p : List UInt8) : List UInt8 := (Lib.cut (Lib.trimSuffix p [13]) [35]).1
theorem bareL_le (p : List UInt8) : (bareL p).length ≤ p.length := by
  have h := Lib.trimSuffix_le p [13]
  unfold bareL Lib.cut
  split
  · simp; omega
  · exact h

def pre (D : List Ln) (r : Nat × List Ln) : Nat × List Ln := if r.1 = 0 then (0, D ++ r.2) else (r.1, [])
theorem pre_nil {r : Nat × List Ln} (h : r.1 ≠ 0 → r.2 = []) : pre [] r = r := by
  obtain ⟨a, b⟩ := r
  unfold pre
  split
  · rename_i h0; simp at h0; simp [h0]
  · rename_i h0; exact Prod.ext rfl (h h0).symm
theorem pre_pre (D E : List Ln) (r : Nat × List Ln) : pre D (pre E r) = pre (D ++ E) r := by
  unfold pre
  by_cases h : r.1 = 0
  · simp [h]
  · simp [h]
/-- the lines from the n-th on: 0 and they; or the number of the one that can't be read -/
def linL : Nat → List (List UInt8) → Nat × List Ln
  | _, [] => (0, [])
  | n, p :: ps => match toks (bareL p) with
    | none => (n, [])
    | some ts => pre (if ts = [] then [] else [(n, ts)]) (linL (n + 1) ps)
theorem linL_bad {n : Nat} {p : List UInt8} {ps : List (List UInt8)} (h : toks (bareL p) = none) : linL n (p :: ps) = (n, []) := by
  unfold linL; rw [h]
theorem linL_good {n : Nat} {p : List UInt8} {ps : List (List UInt8)} {ts : List Tok} (h : toks (bareL p) = some ts) : linL n (p :: ps) = pre (if ts = [] then [] else [(n, ts)]) (linL (n + 1) ps) := by
  show (match toks (bareL p) with | none => (n, []) | some ts => _) = _
  rw [h]
theorem linL_err : ∀ (ps : List (List UInt8)) (n : Nat), (linL n ps).1 ≠ 0 → (linL n ps).2 = [] ∧ n ≤ (linL n ps).1 ∧ (linL n ps).1 < n + ps.length
  | [], n, h => absurd rfl h
  | p :: ps, n, h => by
    cases ht : toks (bareL p) with
    | none => rw [linL_bad ht]; exact ⟨rfl, Nat.le_refl _, by simp⟩
    | some ts =>
      rw [linL_good ht] at h ⊢
      have ih := linL_err ps (n + 1)
      unfold pre at h ⊢
      split at h
      · exact absurd rfl h
      · rename_i h0
        rw [if_neg h0]
        have := ih h0
        exact ⟨rfl, by show n ≤ (linL (n + 1) ps).1; omega, by show (linL (n + 1) ps).1 < _; simp; omega⟩

/-- a text in pieces, at each byte 10 -/
def pcs : List UInt8 → List (List UInt8)
  | [] => [[]]
  | c :: l => if c = 10 then [] :: pcs l else match pcs l with
    | [] => [[c]]
    | p :: ps => (c :: p) :: ps
theorem pcs_some : ∀ l : List UInt8, ∃ p ps, pcs l = p :: ps
  | [] => ⟨_, _, rfl⟩
  | c :: l => by
    unfold pcs
    split
    · exact ⟨_, _, rfl⟩
    · split <;> exact ⟨_, _, rfl⟩
theorem pcs_ne {c : UInt8} {l p : List UInt8} {ps : List (List UInt8)} (hc : c ≠ 10) (h : pcs l = p :: ps) : pcs (c :: l) = (c :: p) :: ps := by
  rw [pcs, if_neg hc, h]
theorem pcs_nl (l : List UInt8) : pcs (10 :: l) = [] :: pcs l := by rw [pcs, if_pos rfl]
theorem pcs_append (b : List UInt8) : ∀ a : List UInt8, pcs (a ++ 10 :: b) = pcs a ++ pcs b
  | [] => by rw [List.nil_append, pcs_nl]; rfl
  | c :: a => by
    by_cases h : c = 10
    · subst h
      rw [List.cons_append, pcs_nl, pcs_nl, pcs_append b a, List.cons_append]
    · obtain ⟨p, ps, hp⟩ := pcs_some a
      have ih := pcs_append b a
      rw [hp, List.cons_append] at ih
      rw [List.cons_append, pcs_ne h ih, pcs_ne h hp, List.cons_append]
theorem pcs_length : ∀ l : List UInt8, (pcs l).length = 1 + l.count 10
  | [] => rfl
  | c :: l => by
    by_cases h : c = 10
    · subst h; rw [pcs_nl, List.length_cons, pcs_length l, List.count_cons_self]; omega
    · obtain ⟨p, ps, hp⟩ := pcs_some l
      have ih := pcs_length l
      rw [pcs_ne h hp, List.count_cons_of_ne (by simpa using h)]
      rw [hp] at ih; simpa using ih
theorem pcs_le : ∀ (l : List UInt8), ∀ p ∈ pcs l, p.length ≤ l.length
  | [], p, h => by simp [pcs] at h; subst h; simp
  | c :: l, p, h => by
    have ih := pcs_le l
    by_cases hc : c = 10
    · subst hc
      rw [pcs_nl] at h
      rcases List.mem_cons.1 h with rfl | h
      · simp
      · have := ih p h; simp; omega
    · obtain ⟨q, qs, hq⟩ := pcs_some l
      rw [pcs_ne hc hq] at h
      rw [hq] at ih
      rcases List.mem_cons.1 h with rfl | h
      · have := ih q (by simp); simp; omega
      · have := ih p (by simp [h]); simp; omega

theorem index10_ne {c : UInt8} (l : List UInt8) (h : c ≠ 10) : Lib.index (c :: l) [10] = if Lib.index l [10] = -1 then -1 else Lib.index l [10] + 1 := by
  have hp : ([10] : List UInt8).isPrefixOf (c :: l) = false := by simp [List.isPrefixOf, Ne.symm h]
  rw [Lib.index, hp]; simp
theorem index10_eq (l : List UInt8) : Lib.index (10 :: l) [10] = 0 := by rw [Lib.index]; simp [List.isPrefixOf]
theorem index10_none : ∀ l : List UInt8, l.count 10 = 0 → Lib.index l [10] = -1
  | [], _ => by simp [Lib.index]
  | c :: l, h => by
    by_cases hc : c = 10
    · subst hc; simp at h
    · rw [List.count_cons_of_ne (by simpa using hc)] at h
      rw [index10_ne l hc, if_pos (index10_none l h)]
theorem index10_some : ∀ l : List UInt8, l.count 10 ≠ 0 → ∃ i : Nat, Lib.index l [10] = i
  | [], h => by simp at h
  | c :: l, h => by
    by_cases hc : c = 10
    · subst hc; exact ⟨0, index10_eq l⟩
    · rw [List.count_cons_of_ne (by simpa using hc)] at h
      obtain ⟨i, hi⟩ := index10_some l h
      exact ⟨i + 1, by rw [index10_ne l hc, if_neg (by omega), hi]; omega⟩
theorem split_pcs : ∀ s : List UInt8, Lib.splitK [10] 0 (s.count 10) s = pcs s
  | [] => rfl
  | c :: l => by
    have ih := split_pcs l
    by_cases h : c = 10
    · subst h
      rw [List.count_cons_self, pcs_nl, Lib.splitK, index10_eq]
      simp [ih]
    · rw [List.count_cons_of_ne (by simpa using h)]
      obtain ⟨p, ps, hp⟩ := pcs_some l
      rw [pcs_ne h hp]
      rw [hp] at ih
      cases hk : l.count 10 with
      | zero =>
        rw [hk] at ih
        simp only [Lib.splitK, List.cons.injEq] at ih ⊢
        obtain ⟨h1, h2⟩ := ih
        subst h1 h2
        simp
      | succ k =>
        rw [hk] at ih
        obtain ⟨i, hi⟩ := index10_some l (by omega)
        have hi2 : Lib.index (c :: l) [10] = ((i + 1 : Nat) : Int) := by rw [index10_ne l h, if_neg (by omega), hi]; omega
        have e1 : ¬ ((i : Int) == -1) = true := by simp
        have e2 : ¬ (((i + 1 : Nat) : Int) == -1) = true := by simp; omega
        rw [Lib.splitK, hi, if_neg e1] at ih
        rw [Lib.splitK, hi2, if_neg e2]
        simp only [Int.toNat_natCast, List.length_cons, List.length_nil, Nat.add_zero, List.cons.injEq] at ih ⊢
        exact ⟨by rw [List.take_succ_cons, ih.1], by rw [← ih.2]; rfl⟩
theorem splitB_pcs (s : ByteArray) : (Lib.splitB ⟨#[10]⟩ 0 (Lib.countB s ⟨#[10]⟩) s).map by' = pcs (by' s) := by
  have h := Lib.splitB_data ⟨#[10]⟩ 0 (Lib.countB s ⟨#[10]⟩) s
  have hc : Lib.countB s ⟨#[10]⟩ = (by' s).count 10 := Lib.count_one 10 _
  rw [hc] at h ⊢
  exact h.trans (split_pcs _)

/-- all lines of a text -/
def linesL (s : List UInt8) : Nat × List Ln := linL 1 (pcs s)
end Go.Proofs.Ytccjekgbhablpaa
namespace Go.Proofs.Ytccjekgbhablpaa
set_option maxRecDepth 100000
open Go.RowKit

/-- may it be the name of a location? -/
def nameM (l : List UInt8) : Bool := decide (1 ≤ l.length) && decide (l.length ≤ 16) && isL (l.getD 0 0) && l.all isA && !(decide (l.length = 2) && decide (l.getD 0 0 = 114) && isD (l.getD 1 0))

theorem letter8_any (c : UInt8) (w : World) :
    Calls Try.prog 53 #[.int .u8 (c.toNat : Nat)] w fun e w' => e = .returned (.bool (isL c)) ∧ w = w' := by
  unfold isL
  have hc := c.toNat_lt
  generalize c.toNat = n at *
  go_enter Try.func53, Try.ntmps53
  go_wp2
  · go_ret
    have h : 97 ≤ n := by omega
    exact ⟨by simp [h]; omega, rfl⟩
  · go_ret
    have h : ¬ 97 ≤ n := by omega
    exact ⟨by simp [h], rfl⟩
theorem digit8_any (c : UInt8) (w : World) :
    Calls Try.prog 54 #[.int .u8 (c.toNat : Nat)] w fun e w' => e = .returned (.bool (isD c)) ∧ w = w' := by
  unfold isD
  have hc := c.toNat_lt
  generalize c.toNat = n at *
  go_enter Try.func54, Try.ntmps54
  go_wp2
  · go_ret
    have h : 48 ≤ n := by omega
    exact ⟨by simp [h]; omega, rfl⟩
  · go_ret
    have h : ¬ 48 ≤ n := by omega
    exact ⟨by simp [h], rfl⟩
theorem sAt {T : ByteArray} {i : Nat} (h : i < T.size) (w : World) : (Instr.index 9 (.string T) (.int .i64 (i : Int))).run Try.prog w = .ok (.int .u8 (((by' T).getD i 0).toNat : Nat)) w := by
  have e : (by' T).getD i 0 = T[i]'h := by
    have h' : i < T.data.size := h
    simp [by', List.getD, ByteArray.getElem_eq_getElem_data, Array.getElem?_eq_getElem h']
  rw [e]
  simp [Instr.index, run_underlying Try.underlying9, asIntOf, go_sem, h]
theorem all_drop {p : UInt8 → Bool} {l : List UInt8} {k : Nat} {c : UInt8} (h : l[k]? = some c) : (l.drop k).all p = (p c && (l.drop (k + 1)).all p) := by
  obtain ⟨h', rfl⟩ := List.getElem?_eq_some_iff.1 h
  rw [List.drop_eq_getElem_cons h', List.all_cons]

set_option maxHeartbeats 3200000 in
theorem name_any (T : ByteArray) (hT : T.size ≤ 1000000000) (w : World) :
    Calls Try.prog 32 #[.string T] w fun e w' => e = .returned (.bool (nameM (by' T))) ∧ w = w' := by
  obtain ⟨l, hl⟩ : ∃ l, l = by' T := ⟨_, rfl⟩
  have hll : l.length = T.size := by rw [hl, by_size]
  rw [← hl]
  have HS : Bx (by' T = l) := ⟨hl.symm⟩
  clear hl
  by_cases h0 : T.size = 0
  · have e : nameM l = false := by unfold nameM; rw [hll, h0]; rfl
    rw [e]
    have hT2 : T = ⟨#[]⟩ := by
      rw [← st_by T, HS.out, List.length_eq_zero_iff.1 (hll.trans h0)]; rfl
    subst hT2
    go_enter Try.func32, Try.ntmps32
    go_wp2
    go_ret
    exact ⟨rfl, rfl⟩
  have hemp : T.toList.isEmpty = false := by
    rw [Lib.toList_data]
    show (by' T).isEmpty = false
    rw [HS.out]
    cases h : l with
    | nil => rw [h] at hll; exact absurd hll.symm h0
    | cons _ _ => rfl
  by_cases hbig : 16 < T.size
  · have e : nameM l = false := by
      unfold nameM
      have : decide (l.length ≤ 16) = false := by simp; omega
      rw [this]; simp
    rw [e]
    go_enter Try.func32, Try.ntmps32
    go_wp2
    go_ret
    exact ⟨rfl, rfl⟩
  have hpos : 0 < T.size := by omega
  have hix0 : ∀ W, (Instr.index 9 (.string T) (.int .i64 0)).run Try.prog W = .ok (.int .u8 ((l.getD 0 0).toNat : Nat)) W := fun W => by
    have e := sAt (i := 0) hpos W
    rw [HS.out] at e; exact e
  have CL0 := Bx.mk (fun W => letter8_any (l.getD 0 0) W)
  have hnm : nameM l = (isL (l.getD 0 0) && l.all isA && !(decide (l.length = 2) && decide (l.getD 0 0 = 114) && isD (l.getD 1 0))) := by
    unfold nameM
    have h1 : decide (1 ≤ l.length) = true := by simp; omega
    have h2 : decide (l.length ≤ 16) = true := by simp; omega
    rw [h1, h2]; simp
  have h114 : decide (l.getD 0 0 = 114) = (((l.getD 0 0).toNat : Int) == 114) := by
    by_cases h : l.getD 0 0 = 114
    · rw [h]; rfl
    · have h2 : (((l.getD 0 0).toNat : Int) == 114) = false := by
        rw [beq_eq_false_iff_ne]; exact fun e => h (UInt8.toNat_inj.1 (by show (l.getD 0 0).toNat = 114; omega))
      rw [h2, decide_eq_false h]
  cases hL0 : isL (l.getD 0 0)
  · rw [hL0] at hnm CL0
    rw [hnm]
    clear hnm h114 hL0
    generalize (l.getD 0 0).toNat = n0 at *
    go_enter Try.func32, Try.ntmps32
    go_wp2_with (go_at_call 53; ((with_reducible refine (CL0.out _).mono ?_); rintro e w' ⟨rfl, rfl⟩))
    go_ret
    exact ⟨rfl, rfl⟩
  · rw [hL0, Bool.true_and] at hnm
    rw [hL0] at CL0
    have HN := Bx.mk hnm; have H114 := Bx.mk h114; have HLL := Bx.mk hll
    have hix1 : 2 ≤ T.size → ∀ W, (Instr.index 9 (.string T) (.int .i64 1)).run Try.prog W = .ok (.int .u8 ((l.getD 1 0).toNat : Nat)) W := fun h W => by
      have e := sAt (i := 1) (show 1 < T.size by omega) W
      rw [HS.out] at e; exact e
    have CD1 := Bx.mk (fun W => digit8_any (l.getD 1 0) W)
    have HX1 := Bx.mk hix1
    clear hnm h114 hL0 hix1 hll
    generalize hn0 : (l.getD 0 0).toNat = n0 at *
    have HN0 := Bx.mk hn0; clear hn0
    go_enter Try.func32, Try.ntmps32
    go_wp2_with (go_at_call 53; ((with_reducible refine (CL0.out _).mono ?_); rintro e w' ⟨rfl, rfl⟩))
    go_loop [20] (fun i => ∃ k : Nat, i = .int .i64 (k : Int) ∧ k ≤ T.size ∧ Bx (l.all isA = (l.drop k).all isA)) (fun i => T.size - (intOf i).toNat)
    case atStart => exact ⟨0, rfl, by omega, ⟨rfl⟩⟩
    case round =>
      obtain ⟨k, rfl, hk, hall⟩ := hrel
      by_cases hkn : k < T.size
      · have hix := fun W => sAt hkn W
        obtain ⟨c, hc⟩ : ∃ c, l[k]? = some c := ⟨_, List.getElem?_eq_getElem (show k < l.length by rw [HLL.out]; exact hkn)⟩
        have hg : l.getD k 0 = c := by simp [List.getD, hc]
        rw [HS.out, hg] at hix
        have e := hall.out
        rw [all_drop hc] at e
        have CL := Bx.mk (fun W => letter8_any c W)
        have CD := Bx.mk (fun W => digit8_any c W)
        have hor : isA c = (isL c || isD c) := rfl
        cases h1 : isL c <;> cases h2 : isD c
        all_goals
          rw [h1] at CL
          rw [h2] at CD
          rw [hor, h1, h2] at e
          simp only [Bool.or_true, Bool.or_false, Bool.true_and, Bool.false_and] at e
          have E := Bx.mk e
          clear e hor h1 h2 hc hg hall
          generalize c.toNat = n at *
          go_wp2_with (first
            | (go_at_call 53; ((with_reducible refine (CL.out _).mono ?_); rintro e w' ⟨rfl, rfl⟩))
            | (go_at_call 54; ((with_reducible refine (CD.out _).mono ?_); rintro e w' ⟨rfl, rfl⟩)))
        · go_ret
          rw [HN.out, E.out]
          exact ⟨rfl, rfl⟩
        all_goals
          go_round
          case rel => exact ⟨k + 1, by go_num, by omega, E⟩
          case measure => simp [intOf] <;> omega
      · obtain rfl : k = T.size := by omega
        have e : l.all isA = true := by rw [hall.out, List.drop_eq_nil_of_le (by rw [HLL.out]; exact Nat.le_refl _)]; rfl
        have hnm := HN.out
        rw [e, Bool.true_and, HLL.out, H114.out] at hnm
        clear e hall
        by_cases h2 : T.size = 2
        · have hx := HX1.out (by omega)
          rw [decide_eq_true h2, Bool.true_and] at hnm
          generalize isD (l.getD 1 0) = d1 at *
          generalize (l.getD 1 0).toNat = n1 at *
          cases h3 : ((n0 : Int) == 114)
          · rw [h3] at hnm
            have HNM := Bx.mk hnm
            clear hnm
            go_wp2
            go_ret
            rw [HNM.out]
            exact ⟨rfl, rfl⟩
          · rw [h3] at hnm
            have HNM := Bx.mk hnm
            clear hnm
            go_wp2_with (go_at_call 54; ((with_reducible refine (CD1.out _).mono ?_); rintro e w' ⟨rfl, rfl⟩))
            go_ret
            rw [HNM.out]
            exact ⟨by simp, rfl⟩
        · rw [decide_eq_false h2] at hnm
          have HNM := Bx.mk hnm
          clear hnm
          go_wp2
          go_ret
          rw [HNM.out]
          exact ⟨rfl, rfl⟩
end Go.Proofs.Ytccjekgbhablpaa
namespace Go.Proofs.Ytccjekgbhablpaa
set_option maxRecDepth 100000
open Go.RowKit

/-- one text is not behind another -/
def leS (a b : List UInt8) : Bool := Op.bytesLess a b || a == b
theorem st_list (a : List UInt8) : (st a).toList = a := by rw [Lib.toList_data]; exact by_st a
/-- the first thing that is wrong with locations -/
def chkLocs : Option (List UInt8) → List (List UInt8 × Int) → Nat
  | _, [] => 0
  | pv, l :: r => if nameM l.1 = false then 11 else if (match pv with | none => false | some p => leS l.1 p) = true then 16 else chkLocs (some l.1) r
theorem chkLocs_cons (pv : Option (List UInt8)) (l : List UInt8 × Int) (r : List (List UInt8 × Int)) : chkLocs pv (l :: r) = if nameM l.1 = false then 11 else if (match pv with | none => false | some p => leS l.1 p) = true then 16 else chkLocs (some l.1) r := by
  cases pv <;> rfl
theorem belDr {B : Nat} {w0 w : World} (h : Below B w0 w) (n : Nat) : Below B w0 (w.drewN n) := ⟨h.os, h.tape, h.output, h.size, h.block⟩
theorem atDrop {α : Type} {l : List α} {j : Nat} {a : α} (h : l[j]? = some a) : l.drop j = a :: l.drop (j + 1) := by
  obtain ⟨h', rfl⟩ := List.getElem?_eq_some_iff.1 h
  exact List.drop_eq_getElem_cons h'

set_option maxHeartbeats 3200000 in
theorem checkLocs_any (b : Nat) (t : TestM) (hk : TestOk t) (hs : ∀ l ∈ t.locs, l.1.length ≤ 1000000000) (w : World) (h : TestAt w b t) :
    Calls Try.prog 17 #[.pointer (some ⟨b, 0, none⟩)] w fun e w' => e = .returned (.int .i64 (chkLocs none t.locs : Nat)) ∧ Below w.heap.size w w' := by
  obtain ⟨lv, tv, av, h0, h1, h2, ⟨hlo, _, _⟩⟩ := h.test
  obtain ⟨lp, lc, rfl⟩ := hlo.slice
  have hnl := hk.locs
  have H0 := Bx.mk h0; have HLO := Bx.mk hlo; have HS := Bx.mk hs
  clear h h1 h2 hlo hk hs
  go_enter Try.func17, Try.ntmps17
  go_wp2_with fail
  go_loopw [10] (fun i wr => ∃ (k : Nat) (pv : Option (List UInt8)), i = .int .i64 (k : Int) ∧ k ≤ t.locs.length ∧ Bx (chkLocs none t.locs = chkLocs pv (t.locs.drop k)) ∧ Bx ((k = 0 ∧ pv = none) ∨ ∃ j l, k = j + 1 ∧ t.locs[j]? = some l ∧ pv = some l.1) ∧ Bx (Below w.heap.size w wr)) (fun i _ => t.locs.length - (intOf i).toNat)
  case atStart => exact ⟨0, none, rfl, by omega, ⟨rfl⟩, ⟨.inl ⟨rfl, rfl⟩⟩, ⟨Below.refl _ _⟩⟩
  case round =>
    obtain ⟨k, pv, rfl, hkn, hch, hpv, hb⟩ := hrel
    by_cases hlt : k < t.locs.length
    · obtain ⟨bb, off, c, hv, hbl, hcl⟩ := HLO.out.at (by omega)
      obtain ⟨rfl, _, rfl⟩ := Value.slice.inj hv
      obtain ⟨l, hl⟩ : ∃ l, t.locs[k]? = some l := ⟨_, List.getElem?_eq_getElem hlt⟩
      have hn := name_any (st l.1) (by rw [st_size]; exact HS.out l (List.mem_of_getElem? hl))
      rw [by_st] at hn
      have f0 := flatAt locC 2 (fun _ => rfl) t.locs k 0 l hl (by decide)
      have f1 := flatAt locC 2 (fun _ => rfl) t.locs k 1 l hl (by decide)
      have c0 : wr.cell? ⟨bb, off + k * 2, none⟩ = some (.string (st l.1)) := (hb.out.cell hbl).trans (hcl _ _ f0)
      have c1 : wr.cell? ⟨bb, off + k * 2 + 1, none⟩ = some (.int .u64 l.2) := by
        rw [Nat.add_assoc]; exact (hb.out.cell hbl).trans (hcl _ _ f1)
      have e := hch.out
      rw [atDrop hl, chkLocs_cons] at e
      have hbw : bb < wr.heap.size := Nat.lt_of_lt_of_le hbl hb.out.size
      have g0 : wr.cell? ⟨b, 0, none⟩ = _ := cBel H0.out hb.out
      have hbb : b < wr.heap.size := World.block_lt_of_cell? wr _ g0
      obtain ⟨T1, hT1⟩ : ∃ T1, T1 = st l.1 := ⟨_, rfl⟩
      rw [← hT1] at hn c0
      have HT1 := Bx.mk hT1
      cases hnm : nameM l.1
      · rw [hnm] at hn e
        rw [if_pos rfl] at e
        have HN := Bx.mk hn; have E := Bx.mk e
        clear hv hcl hl hn f0 f1 e hch hpv hT1 hnm
        generalize l.2 = lx at *
        go_wp2_with (go_at_call 32; ((with_reducible refine (HN.out _).mono ?_); rintro e w' ⟨rfl, rfl⟩))
        go_ret
        rw [E.out]
        exact ⟨rfl, hb.out.alloc hb.out.size _⟩
      · rw [hnm] at hn e
        rw [if_neg (by decide)] at e
        have HN := Bx.mk hn
        rcases hpv.out with ⟨rfl, rfl⟩ | ⟨j, l0, rfl, hj, rfl⟩
        · have e : chkLocs none t.locs = chkLocs (some l.1) (t.locs.drop (0 + 1)) := e
          rw [Nat.zero_mul, Nat.add_zero] at c0 c1
          have E := Bx.mk e; have HL := Bx.mk hl
          clear hv hcl hn f0 f1 e hch hpv hT1 hnm hl
          generalize l.2 = lx at *
          go_wp2_with (go_at_call 32; ((with_reducible refine (HN.out _).mono ?_); rintro e w' ⟨rfl, rfl⟩))
          go_quiet (fail)
          go_wp2
          go_roundw
          case rel => exact ⟨1, some l.1, by first | rfl | go_num, by omega, E, ⟨.inr ⟨0, l, rfl, HL.out, rfl⟩⟩, ⟨belDr (hb.out.alloc hb.out.size _) _⟩⟩
          case measure => simp [intOf] <;> omega
        · have f2 := flatAt locC 2 (fun _ => rfl) t.locs j 0 l0 hj (by decide)
          have c2 : wr.cell? ⟨bb, off + j * 2, none⟩ = some (.string (st l0.1)) := (hb.out.cell hbl).trans (hcl _ _ f2)
          obtain ⟨T0, hT0⟩ : ∃ T0, T0 = st l0.1 := ⟨_, rfl⟩
          rw [← hT0] at c2
          have hle : leS l.1 l0.1 = (Op.bytesLess T1.toList T0.toList || T1.toList == T0.toList) := by rw [hT1, hT0, st_list, st_list]; rfl
          have e : chkLocs none t.locs = if leS l.1 l0.1 = true then 16 else chkLocs (some l.1) (t.locs.drop (j + 1 + 1)) := e
          rw [hle] at e
          have hk1 : ((j + 1 : Nat) : Int) - 1 = (j : Int) := by omega
          have HL := Bx.mk hl
          clear hv hcl hn f0 f1 f2 hch hpv hT1 hT0 hnm hl hj hle
          generalize l.2 = lx at *
          generalize hb1 : Op.bytesLess T1.toList T0.toList = b1 at *
          generalize hb2 : (T1.toList == T0.toList) = b2 at *
          have E := Bx.mk e
          clear e
          cases b1 <;> cases b2
          all_goals
            go_wp2_with (go_at_call 32; ((with_reducible refine (HN.out _).mono ?_); rintro e w' ⟨rfl, rfl⟩))
            go_quiet (fail)
            go_wp2
          · go_roundw
            case rel => exact ⟨j + 1 + 1, some l.1, by go_num, by omega, ⟨by rw [E.out]; rfl⟩, ⟨.inr ⟨j + 1, l, rfl, HL.out, rfl⟩⟩, ⟨belDr (hb.out.alloc hb.out.size _) _⟩⟩
            case measure => simp [intOf] <;> omega
          all_goals
            go_ret
            rw [E.out]
            exact ⟨rfl, belDr (hb.out.alloc hb.out.size _) _⟩
    · obtain rfl : k = t.locs.length := by omega
      have he : chkLocs none t.locs = 0 := by rw [hch.out, List.drop_length]; rfl
      have HE := Bx.mk he
      clear he hch
      go_wp2
      go_ret
      rw [HE.out]
      exact ⟨rfl, hb.out⟩
end Go.Proofs.Ytccjekgbhablpaa
namespace Go.Proofs.Ytccjekgbhablpaa
set_option maxRecDepth 100000
open Go.RowKit

def hasM (t : TestM) (a : Int × Int × Int) : Bool := if a.1 = -1 then idx a.2.1 t.locs.length else idx a.1 t.thr.length && idx a.2.1 8
def askV (a : Int × Int × Int) : Value := .agg #[.int .i64 a.1, .int .i64 a.2.1, .int .u64 a.2.2]

set_option maxHeartbeats 1600000 in
theorem has_any (b : Nat) (t : TestM) (a : Int × Int × Int) (w : World) (h : TestAt w b t) :
    Calls Try.prog 34 #[.pointer (some ⟨b, 0, none⟩), askV a] w fun e w' => e = .returned (.bool (hasM t a)) ∧ Below w.heap.size w w' := by
  obtain ⟨lv, tv, av, h0, h1, h2, ⟨hlo, ⟨vs, _, hth, _⟩, _⟩⟩ := h.test
  obtain ⟨lp, lc, rfl⟩ := hlo.slice
  obtain ⟨tp, tc, rfl⟩ := hth.slice
  have hbb : b < w.heap.size := World.block_lt_of_cell? w _ h0
  obtain ⟨th, at', v⟩ := a
  unfold askV hasM
  have c1 : ∀ W, Calls Try.prog 59 #[.int .i64 at', .int .i64 (t.locs.length : Nat)] W fun e w' => e = .returned (.bool (idx at' t.locs.length)) ∧ w' = W := fun W => (isIndex_any at' t.locs.length W).mono fun e w' ⟨h1, h2⟩ => ⟨h1, h2.symm⟩
  have c2 : ∀ W, Calls Try.prog 59 #[.int .i64 th, .int .i64 (t.thr.length : Nat)] W fun e w' => e = .returned (.bool (idx th t.thr.length)) ∧ w' = W := fun W => (isIndex_any th t.thr.length W).mono fun e w' ⟨h1, h2⟩ => ⟨h1, h2.symm⟩
  have c3 : ∀ W, Calls Try.prog 60 #[.int .i64 at'] W fun e w' => e = .returned (.bool (idx at' 8)) ∧ w' = W := fun W => (isRegister_any at' W).mono fun e w' ⟨h1, h2⟩ => ⟨h1, h2.symm⟩
  have C1 := Bx.mk c1; have C2 := Bx.mk c2; have C3 := Bx.mk c3
  clear c1 c2 c3 h hlo hth h2
  simp only
  by_cases hm : th = -1
  · subst hm
    rw [if_pos rfl]
    generalize idx at' t.locs.length = r at *
    go_enter Try.func34, Try.ntmps34
    go_wp2_with fail
    go_quiet ((go_at_call 59; exact Calls.quiet_of_same (C1.out _)))
    go_wp2
    go_ret
    exact ⟨rfl, belDr (aset _ _) _⟩
  · rw [if_neg hm]
    have hq : ((th : Int) == -1) = false := by rw [beq_eq_false_iff_ne]; exact hm
    generalize idx th t.thr.length = r1 at *
    generalize idx at' 8 = r2 at *
    cases r1
    all_goals
      go_enter Try.func34, Try.ntmps34
      go_wp2_with fail
      go_quiet ((first
        | (go_at_call 59; exact Calls.quiet_of_same (C2.out _))
        | (go_at_call 60; exact Calls.quiet_of_same (C3.out _))))
      go_wp2
      go_ret
      exact ⟨by simp, belDr (aset _ _) _⟩

def rankM (th : Int) : Int := if th < 0 then 4 else th
theorem rank_any (a : Int × Int × Int) (w : World) :
    Calls Try.prog 63 #[askV a] w fun e w' => e = .returned (.int .i64 (rankM a.1)) ∧ Below w.heap.size w w' := by
  obtain ⟨th, at', v⟩ := a
  unfold askV rankM
  simp only
  by_cases h : th < 0
  · rw [if_pos h]
    go_enter Try.func63, Try.ntmps63
    go_wp2
    go_ret
    exact ⟨rfl, aset _ _⟩
  · rw [if_neg h]
    go_enter Try.func63, Try.ntmps63
    go_wp2
    go_ret
    exact ⟨rfl, aset _ _⟩
theorem notNaN_any (x : Int) (w : World) :
    Calls Try.prog 82 #[.int .i64 x] w fun e w' => e = .returned (.bool false) ∧ w = w' := by
  go_enter Try.func82, Try.ntmps82
  go_wp2
  go_ret
  exact ⟨by simp, rfl⟩
def cmpI (x y : Int) : Int := if x < y then -1 else if y < x then 1 else 0
theorem compareI_any (x y : Int) (w : World) :
    Calls Try.prog 62 #[.int .i64 x, .int .i64 y] w fun e w' => e = .returned (.int .i64 (cmpI x y)) ∧ w = w' := by
  have h : (x < y ∧ cmpI x y = -1) ∨ (y < x ∧ cmpI x y = 1) ∨ (x = y ∧ cmpI x y = 0) := by
    unfold cmpI
    by_cases h1 : x < y
    · exact .inl ⟨h1, by rw [if_pos h1]⟩
    · by_cases h2 : y < x
      · exact .inr (.inl ⟨h2, by rw [if_neg h1, if_pos h2]⟩)
      · exact .inr (.inr ⟨by omega, by rw [if_neg h1, if_neg h2]⟩)
  have cx := Bx.mk (fun W => notNaN_any x W); have cy := Bx.mk (fun W => notNaN_any y W)
  rcases h with ⟨h, e⟩ | ⟨h, e⟩ | ⟨rfl, e⟩
  all_goals
    rw [e]
    clear e
    go_enter Try.func62, Try.ntmps62
    go_wp2_with (go_at_call 82; first
      | ((with_reducible refine (cx.out _).mono ?_); rintro e w' ⟨rfl, rfl⟩)
      | ((with_reducible refine (cy.out _).mono ?_); rintro e w' ⟨rfl, rfl⟩))
    go_ret
    exact ⟨rfl, rfl⟩
/-- the first that isn't 0 -/
def firstNZ : List Int → Int
  | [] => 0
  | x :: r => if x = 0 then firstNZ r else x
theorem orInt_any (xs : List Int) (g n : Nat) (hn : n = xs.length) (hl : n ≤ 1000) (w : World) (h : ∀ j x, xs[j]? = some x → w.cell? ⟨g, j, none⟩ = some (.int .i64 x)) :
    Calls Try.prog 61 #[.slice (some ⟨g, 0, none⟩) n n] w fun e w' => e = .returned (.int .i64 (firstNZ xs)) ∧ w = w' := by
  have H := Bx.mk h; have HN := Bx.mk hn; clear h hn
  go_enter Try.func61, Try.ntmps61
  go_wp2_with fail
  go_loop [8] (fun i => ∃ k : Nat, i = .int .i64 (k : Int) ∧ k ≤ n ∧ Bx (firstNZ xs = firstNZ (xs.drop k))) (fun i => n - (intOf i).toNat)
  case atStart => exact ⟨0, rfl, by omega, ⟨rfl⟩⟩
  case round =>
    obtain ⟨k, rfl, hk, hf⟩ := hrel
    by_cases hkn : k < n
    · obtain ⟨x, hx⟩ : ∃ x, xs[k]? = some x := ⟨_, List.getElem?_eq_getElem (by rw [← HN.out]; exact hkn)⟩
      have hc := H.out k x hx
      have e := hf.out
      rw [atDrop hx, firstNZ] at e
      by_cases h0 : x = 0
      · subst h0
        rw [if_pos rfl] at e
        have E := Bx.mk e
        clear e hx hf
        go_wp2
        go_round
        case rel => exact ⟨k + 1, by go_num, by omega, E⟩
        case measure => simp [intOf] <;> omega
      · have hq : ((x : Int) == 0) = false := by rw [beq_eq_false_iff_ne]; exact h0
        rw [if_neg h0] at e
        have E := Bx.mk e
        clear e hx hf
        go_wp2
        go_ret
        rw [E.out]
        exact ⟨rfl, rfl⟩
    · obtain rfl : k = n := by omega
      have e : firstNZ xs = 0 := by rw [hf.out, List.drop_eq_nil_of_le (by rw [HN.out]; exact Nat.le_refl _)]; rfl
      have E := Bx.mk e
      clear e hf
      go_wp2
      go_ret
      rw [E.out]
      exact ⟨rfl, rfl⟩
theorem orErr_any (xs : List Int) (g n : Nat) (hn : n = xs.length) (hl : n ≤ 1000) (w : World) (h : ∀ j x, xs[j]? = some x → w.cell? ⟨g, j, none⟩ = some (.int .i64 x)) :
    Calls Try.prog 15 #[.slice (some ⟨g, 0, none⟩) n n] w fun e w' => e = .returned (.int .i64 (firstNZ xs)) ∧ w = w' := by
  have H := Bx.mk h; have HN := Bx.mk hn; clear h hn
  go_enter Try.func15, Try.ntmps15
  go_wp2_with fail
  go_loop [8] (fun i => ∃ k : Nat, i = .int .i64 (k : Int) ∧ k ≤ n ∧ Bx (firstNZ xs = firstNZ (xs.drop k))) (fun i => n - (intOf i).toNat)
  case atStart => exact ⟨0, rfl, by omega, ⟨rfl⟩⟩
  case round =>
    obtain ⟨k, rfl, hk, hf⟩ := hrel
    by_cases hkn : k < n
    · obtain ⟨x, hx⟩ : ∃ x, xs[k]? = some x := ⟨_, List.getElem?_eq_getElem (by rw [← HN.out]; exact hkn)⟩
      have hc := H.out k x hx
      have e := hf.out
      rw [atDrop hx, firstNZ] at e
      by_cases h0 : x = 0
      · subst h0
        rw [if_pos rfl] at e
        have E := Bx.mk e
        clear e hx hf
        go_wp2
        go_round
        case rel => exact ⟨k + 1, by go_num, by omega, E⟩
        case measure => simp [intOf] <;> omega
      · have hq : ((x : Int) == 0) = false := by rw [beq_eq_false_iff_ne]; exact h0
        rw [if_neg h0] at e
        have E := Bx.mk e
        clear e hx hf
        go_wp2
        go_ret
        rw [E.out]
        exact ⟨rfl, rfl⟩
    · obtain rfl : k = n := by omega
      have e : firstNZ xs = 0 := by rw [hf.out, List.drop_eq_nil_of_le (by rw [HN.out]; exact Nat.le_refl _)]; rfl
      have E := Bx.mk e
      clear e hf
      go_wp2
      go_ret
      rw [E.out]
      exact ⟨rfl, rfl⟩
end Go.Proofs.Ytccjekgbhablpaa
namespace Go.Proofs.Ytccjekgbhablpaa
set_option maxRecDepth 100000
open Go.RowKit

def cmpA (a b : Int × Int × Int) : Int := firstNZ [cmpI (rankM a.1) (rankM b.1), cmpI a.2.1 b.2.1]
set_option maxHeartbeats 3200000 in
theorem compareA_any (a b : Int × Int × Int) (w : World) :
    Calls Try.prog 35 #[askV a, askV b] w fun e w' => e = .returned (.int .i64 (cmpA a b)) ∧ Below w.heap.size w w' := by
  have c1 := fun W => rank_any a W
  have c2 := fun W => rank_any b W
  have c3 := fun W => compareI_any (rankM a.1) (rankM b.1) W
  have c4 := fun W => compareI_any a.2.1 b.2.1 W
  have c5 : ∀ W : World, Calls Try.prog 61 #[.slice (some ⟨W.heap.size, 0, none⟩) 2 2] (W.alloc (.cells #[.int .i64 (cmpI (rankM a.1) (rankM b.1)), .int .i64 (cmpI a.2.1 b.2.1)] 3)) fun e w' => e = .returned (.int .i64 (cmpA a b)) ∧ (W.alloc (.cells #[.int .i64 (cmpI (rankM a.1) (rankM b.1)), .int .i64 (cmpI a.2.1 b.2.1)] 3)) = w' := fun W =>
    orInt_any [cmpI (rankM a.1) (rankM b.1), cmpI a.2.1 b.2.1] W.heap.size 2 rfl (by decide) _ (fun j x hx => by
      rw [cOf (heap_alloc_new _ _)]
      match j, hx with
      | 0, hx => simp at hx; subst hx; rfl
      | 1, hx => simp at hx; subst hx; rfl
      | j + 2, hx => simp at hx)
  generalize cmpA a b = R at *
  obtain ⟨x0, x1, x2⟩ := a
  obtain ⟨y0, y1, y2⟩ := b
  unfold askV at c1 c2 ⊢
  simp only at c1 c2 c3 c4 c5 ⊢
  generalize rankM x0 = ra at *
  generalize rankM y0 = rb at *
  generalize cmpI ra rb = k1 at *
  generalize cmpI x1 y1 = k2 at *
  have C1 := Bx.mk c1; have C2 := Bx.mk c2; have C3 := Bx.mk c3; have C4 := Bx.mk c4; have C5 := Bx.mk c5
  clear c1 c2 c3 c4 c5
  go_enter Try.func35, Try.ntmps35
  go_wp2_with fail
  have hb0 : Below w.heap.size w ((w.alloc (.cells #[.int .i64 x0, .int .i64 x1, .int .u64 x2] 90)).alloc (.cells #[.int .i64 y0, .int .i64 y1, .int .u64 y2] 90)) := (aset _ _).alloc (by simp) _
  obtain ⟨w0, hw0⟩ : ∃ w0, w0 = ((w.alloc (.cells #[.int .i64 x0, .int .i64 x1, .int .u64 x2] 90)).alloc (.cells #[.int .i64 y0, .int .i64 y1, .int .u64 y2] 90)) := ⟨_, rfl⟩
  have q3 : w0.cell? ⟨w.heap.size + 1, 0, none⟩ = some (.int .i64 y0) := by rw [hw0]; simp
  have q4 : w0.cell? ⟨w.heap.size + 1, 1, none⟩ = some (.int .i64 y1) := by rw [hw0]; simp
  have q5 : w0.cell? ⟨w.heap.size + 1, 2, none⟩ = some (.int .u64 y2) := by rw [hw0]; simp
  have q0 : w0.cell? ⟨w.heap.size, 0, none⟩ = some (.int .i64 x0) := by rw [hw0]; simp
  have q1 : w0.cell? ⟨w.heap.size, 1, none⟩ = some (.int .i64 x1) := by rw [hw0]; simp
  have q2 : w0.cell? ⟨w.heap.size, 2, none⟩ = some (.int .u64 x2) := by rw [hw0]; simp
  rw [← hw0] at hb0
  simp only [← hw0]
  clear hw0
  go_region_held3 (fun W => W.cell? ⟨w.heap.size, 0, none⟩ = some (.int .i64 x0) ∧ W.cell? ⟨w.heap.size, 1, none⟩ = some (.int .i64 x1) ∧ W.cell? ⟨w.heap.size, 2, none⟩ = some (.int .u64 x2) ∧ W.cell? ⟨w.heap.size + 1, 0, none⟩ = some (.int .i64 y0) ∧ W.cell? ⟨w.heap.size + 1, 1, none⟩ = some (.int .i64 y1) ∧ W.cell? ⟨w.heap.size + 1, 2, none⟩ = some (.int .u64 y2) ∧ Below w0.heap.size w0 W)
    (first
      | (exact ⟨q0, q1, q2, q3, q4, q5, (Below.refl _ _).drew⟩)
      | (go_split_ands; refine ⟨cBel (by assumption) (by first | assumption | exact Below.refl _ _ | exact aset _ _), cBel (by assumption) (by first | assumption | exact Below.refl _ _ | exact aset _ _), cBel (by assumption) (by first | assumption | exact Below.refl _ _ | exact aset _ _), cBel (by assumption) (by first | assumption | exact Below.refl _ _ | exact aset _ _), cBel (by assumption) (by first | assumption | exact Below.refl _ _ | exact aset _ _), cBel (by assumption) (by first | assumption | exact Below.refl _ _ | exact aset _ _), bel (by assumption) (by first | assumption | exact Below.refl _ _ | exact aset _ _)⟩))
    (first
      | (go_at_call 63; first
        | ((with_reducible refine (C1.out _).mono ?_); rintro e w1 ⟨rfl, hb1⟩)
        | ((with_reducible refine (C2.out _).mono ?_); rintro e w1 ⟨rfl, hb1⟩))
      | (go_at_call 62; first
        | ((with_reducible refine (C3.out _).mono ?_); rintro e w1 ⟨rfl, rfl⟩)
        | ((with_reducible refine (C4.out _).mono ?_); rintro e w1 ⟨rfl, rfl⟩))
      | (go_at_call 61; ((with_reducible refine (C5.out _).mono ?_); rintro e w1 ⟨rfl, rfl⟩)))
  rename_i hh
  have hb9 := bel hb0 hh.2.2.2.2.2.2
  clear hh
  go_wp2
  go_ret
  exact ⟨rfl, hb9⟩
end Go.Proofs.Ytccjekgbhablpaa
namespace Go.Proofs.Ytccjekgbhablpaa
set_option maxRecDepth 100000
open Go.RowKit

/-- the first thing that is wrong with what a test asks -/
def chkAsks (t : TestM) : Option (Int × Int × Int) → List (Int × Int × Int) → Nat
  | _, [] => 0
  | pv, a :: r => if hasM t a = false then 11 else if (match pv with | none => false | some p => decide (0 ≤ cmpA p a)) = true then 16 else chkAsks t (some a) r
theorem chkAsks_cons (t : TestM) (pv : Option (Int × Int × Int)) (a : Int × Int × Int) (r : List (Int × Int × Int)) : chkAsks t pv (a :: r) = if hasM t a = false then 11 else if (match pv with | none => false | some p => decide (0 ≤ cmpA p a)) = true then 16 else chkAsks t (some a) r := by
  cases pv <;> rfl

set_option maxHeartbeats 3200000 in
theorem checkAsks_any (b : Nat) (t : TestM) (hk : TestOk t) (w : World) (h : TestAt w b t) :
    Calls Try.prog 19 #[.pointer (some ⟨b, 0, none⟩)] w fun e w' => e = .returned (.int .i64 (chkAsks t none t.asks : Nat)) ∧ Below w.heap.size w w' := by
  have HT := Bx.mk h
  obtain ⟨lv, tv, av, h0, h1, h2, ⟨_, _, hlo⟩⟩ := h.test
  obtain ⟨lp, lc, rfl⟩ := hlo.slice
  have hnl := hk.asks
  have H2 := Bx.mk h2; have HLO := Bx.mk hlo
  clear h h0 h1 hlo hk
  go_enter Try.func19, Try.ntmps19
  go_wp2_with fail
  go_loopw [10] (fun i wr => ∃ (k : Nat) (pv : Option (Int × Int × Int)), i = .int .i64 (k : Int) ∧ k ≤ t.asks.length ∧ Bx (chkAsks t none t.asks = chkAsks t pv (t.asks.drop k)) ∧ Bx ((k = 0 ∧ pv = none) ∨ ∃ j l, k = j + 1 ∧ t.asks[j]? = some l ∧ pv = some l) ∧ Bx (Below w.heap.size w wr)) (fun i _ => t.asks.length - (intOf i).toNat)
  case atStart => exact ⟨0, none, rfl, by omega, ⟨rfl⟩, ⟨.inl ⟨rfl, rfl⟩⟩, ⟨Below.refl _ _⟩⟩
  case round =>
    obtain ⟨k, pv, rfl, hkn, hch, hpv, hb⟩ := hrel
    by_cases hlt : k < t.asks.length
    · obtain ⟨bb, off, c, hv, hbl, hcl⟩ := HLO.out.at (by omega)
      obtain ⟨rfl, _, rfl⟩ := Value.slice.inj hv
      obtain ⟨a, hl⟩ : ∃ a, t.asks[k]? = some a := ⟨_, List.getElem?_eq_getElem hlt⟩
      have f0 := flatAt askC 3 (fun _ => rfl) t.asks k 0 a hl (by decide)
      have f1 := flatAt askC 3 (fun _ => rfl) t.asks k 1 a hl (by decide)
      have f2 := flatAt askC 3 (fun _ => rfl) t.asks k 2 a hl (by decide)
      have c0 : wr.cell? ⟨bb, off + k * 3, none⟩ = some (.int .i64 a.1) := (hb.out.cell hbl).trans (hcl _ _ f0)
      have c1 : wr.cell? ⟨bb, off + k * 3 + 1, none⟩ = some (.int .i64 a.2.1) := by
        rw [Nat.add_assoc]; exact (hb.out.cell hbl).trans (hcl _ _ f1)
      have c2 : wr.cell? ⟨bb, off + k * 3 + 2, none⟩ = some (.int .u64 a.2.2) := by
        rw [Nat.add_assoc]; exact (hb.out.cell hbl).trans (hcl _ _ f2)
      have e := hch.out
      rw [atDrop hl, chkAsks_cons] at e
      have hbw : bb < wr.heap.size := Nat.lt_of_lt_of_le hbl hb.out.size
      have g2 : wr.cell? ⟨b, 2, none⟩ = _ := cBel H2.out hb.out
      have hbb : b < wr.heap.size := World.block_lt_of_cell? wr _ g2
      have hbn : Below w.heap.size w (wr.alloc (.cells #[.int .i64 a.1, .int .i64 a.2.1, .int .u64 a.2.2] 90)) := hb.out.alloc hb.out.size _
      have hn := has_any b t a (wr.alloc (.cells #[.int .i64 a.1, .int .i64 a.2.1, .int .u64 a.2.2] 90)) ⟨by obtain ⟨lv, tv, av, x0, x1, x2, x3⟩ := HT.out.test; exact ⟨lv, tv, av, cBel x0 hbn, cBel x1 hbn, cBel x2 hbn, x3.below hbn⟩⟩
      obtain ⟨a0, a1, a2⟩ := a
      unfold askV at hn
      simp only at hn c0 c1 c2 hbn
      cases hnm : hasM t (a0, a1, a2)
      · rw [hnm] at hn e
        rw [if_pos rfl] at e
        have hn := hn.mono fun e w' ⟨x, y⟩ => (⟨x, ⟨bel hbn y⟩⟩ : _ ∧ Bx (Below w.heap.size w w'))
        have HN := Bx.mk hn; have E := Bx.mk e
        clear hv hcl hl hn f0 f1 f2 e hch hpv hnm hbn
        go_wp2_with (go_at_call 34; ((with_reducible refine (HN.out).mono ?_); rintro e w' ⟨rfl, bq⟩))
        go_ret
        rw [E.out]
        exact ⟨rfl, bq.out⟩
      · rw [hnm] at hn e
        rw [if_neg (by decide)] at e
        have z0 : (wr.alloc (.cells #[.int .i64 a0, .int .i64 a1, .int .u64 a2] 90)).cell? ⟨wr.heap.size, 0, none⟩ = some (.int .i64 a0) := by simp
        have z1 : (wr.alloc (.cells #[.int .i64 a0, .int .i64 a1, .int .u64 a2] 90)).cell? ⟨wr.heap.size, 1, none⟩ = some (.int .i64 a1) := by simp
        have z2 : (wr.alloc (.cells #[.int .i64 a0, .int .i64 a1, .int .u64 a2] 90)).cell? ⟨wr.heap.size, 2, none⟩ = some (.int .u64 a2) := by simp
        rcases hpv.out with ⟨rfl, rfl⟩ | ⟨j, l0, rfl, hj, rfl⟩
        · have e : chkAsks t none t.asks = chkAsks t (some (a0, a1, a2)) (t.asks.drop (0 + 1)) := e
          rw [Nat.zero_mul, Nat.add_zero] at c0 c1 c2
          have E := Bx.mk e; have HL := Bx.mk hl
          have hn := hn.mono fun e w' ⟨x, y⟩ => (⟨x, ⟨bel hbn y⟩⟩ : _ ∧ Bx (Below w.heap.size w w'))
          have HN := Bx.mk hn
          clear hv hcl hn f0 f1 f2 e hch hpv hnm hl hbn z0 z1 z2
          go_wp2_with (go_at_call 34; ((with_reducible refine (HN.out).mono ?_); rintro e w' ⟨rfl, bq⟩))
          go_quiet (fail)
          go_wp2
          go_roundw
          case rel => exact ⟨1, some (a0, a1, a2), by first | rfl | go_num, by omega, E, ⟨.inr ⟨0, _, rfl, HL.out, rfl⟩⟩, ⟨belDr bq.out _⟩⟩
          case measure => simp [intOf] <;> omega
        · have e0 := flatAt askC 3 (fun _ => rfl) t.asks j 0 l0 hj (by decide)
          have e1 := flatAt askC 3 (fun _ => rfl) t.asks j 1 l0 hj (by decide)
          have e2 := flatAt askC 3 (fun _ => rfl) t.asks j 2 l0 hj (by decide)
          have k0 : w.cell? ⟨bb, off + j * 3, none⟩ = some (.int .i64 l0.1) := (hcl _ _ e0)
          have k1 : w.cell? ⟨bb, off + j * 3 + 1, none⟩ = some (.int .i64 l0.2.1) := by
            rw [Nat.add_assoc]; exact (hcl _ _ e1)
          have k2 : w.cell? ⟨bb, off + j * 3 + 2, none⟩ = some (.int .u64 l0.2.2) := by
            rw [Nat.add_assoc]; exact (hcl _ _ e2)
          have hn := hn.mono fun e w' ⟨x, y⟩ => (⟨x, ⟨cBel k0 (bel hbn y), cBel k1 (bel hbn y), cBel k2 (bel hbn y), cBel z0 y, cBel z1 y, cBel z2 y, cBel H2.out (bel hbn y), bel hbn y⟩⟩ : _ ∧ Bx (_ ∧ _ ∧ _ ∧ _ ∧ _ ∧ _ ∧ _ ∧ Below w.heap.size w w'))
          have cc := fun W => compareA_any l0 (a0, a1, a2) W
          have e : chkAsks t none t.asks = if (decide (0 ≤ cmpA l0 (a0, a1, a2))) = true then 16 else chkAsks t (some (a0, a1, a2)) (t.asks.drop (j + 1 + 1)) := e
          obtain ⟨y0, y1, y2⟩ := l0
          unfold askV at cc
          simp only at cc hn
          generalize cmpA (y0, y1, y2) (a0, a1, a2) = R at *
          have HN := Bx.mk hn; have CC := Bx.mk cc; have HL := Bx.mk hl
          have hk1 : ((j + 1 : Nat) : Int) - 1 = (j : Int) := by omega
          have hw1 : IntKind.i64.wrap (((j + 1 : Nat) : Int) - 1) = (j : Int) := by rw [hk1]; exact IntWalk.i64_in _ (by omega)
          have hw2 : IntKind.i64.wrap ((j : Int) + 1 - 1) = (j : Int) := by rw [IntWalk.i64_in _ (by omega)]; omega
          have hw3 : IntKind.i64.wrap (j : Int) = (j : Int) := IntWalk.i64_in _ (by omega)
          have hj0 : 0 ≤ (j : Int) := by omega
          have hj1 : (j : Int) < (t.asks.length : Int) := by omega
          clear hv hcl hn cc f0 f1 f2 e0 e1 e2 k0 k1 k2 hch hpv hnm hl hbn hj z0 z1 z2
          by_cases hR : 0 ≤ R
          · rw [if_pos (by simpa using hR)] at e
            have E := Bx.mk e
            clear e
            go_wp2_with (go_at_call 34; ((with_reducible refine (HN.out).mono ?_); rintro e w4 ⟨rfl, bq⟩))
            obtain ⟨m0, m1, m2, m3, m4, m5, m6, m7⟩ := bq.out
            clear bq c0 c1 c2 g2
            go_region_held3 (fun W => W.cell? ⟨bb, off + j * 3, none⟩ = some (.int .i64 y0) ∧ W.cell? ⟨bb, off + j * 3 + 1, none⟩ = some (.int .i64 y1) ∧ W.cell? ⟨bb, off + j * 3 + 2, none⟩ = some (.int .u64 y2) ∧ W.cell? ⟨wr.heap.size, 0, none⟩ = some (.int .i64 a0) ∧ W.cell? ⟨wr.heap.size, 1, none⟩ = some (.int .i64 a1) ∧ W.cell? ⟨wr.heap.size, 2, none⟩ = some (.int .u64 a2) ∧ W.cell? ⟨b, 2, none⟩ = some (.slice (some ⟨bb, off, none⟩) t.asks.length lc) ∧ Below w.heap.size w W)
              (first
                | (exact ⟨m0, m1, m2, m3, m4, m5, m6, m7.drew⟩)
                | (go_split_ands; refine ⟨cBel (by assumption) (by first | assumption | exact Below.refl _ _), cBel (by assumption) (by first | assumption | exact Below.refl _ _), cBel (by assumption) (by first | assumption | exact Below.refl _ _), cBel (by assumption) (by first | assumption | exact Below.refl _ _), cBel (by assumption) (by first | assumption | exact Below.refl _ _), cBel (by assumption) (by first | assumption | exact Below.refl _ _), cBel (by assumption) (by first | assumption | exact Below.refl _ _), bel (by assumption) (by first | assumption | exact Below.refl _ _)⟩))
              (first
                | (go_at_call 35; ((with_reducible refine (CC.out _).mono ?_); rintro e w5 ⟨rfl, hb1⟩)))
            rename_i hh
            have HB := Bx.mk hh.2.2.2.2.2.2.2
            clear hh
            go_wp2
            go_ret
            rw [E.out]
            exact ⟨rfl, HB.out⟩
          · rw [if_neg (by simpa using hR)] at e
            have E := Bx.mk e
            clear e
            go_wp2_with (go_at_call 34; ((with_reducible refine (HN.out).mono ?_); rintro e w4 ⟨rfl, bq⟩))
            obtain ⟨m0, m1, m2, m3, m4, m5, m6, m7⟩ := bq.out
            clear bq c0 c1 c2 g2
            go_region_held3 (fun W => W.cell? ⟨bb, off + j * 3, none⟩ = some (.int .i64 y0) ∧ W.cell? ⟨bb, off + j * 3 + 1, none⟩ = some (.int .i64 y1) ∧ W.cell? ⟨bb, off + j * 3 + 2, none⟩ = some (.int .u64 y2) ∧ W.cell? ⟨wr.heap.size, 0, none⟩ = some (.int .i64 a0) ∧ W.cell? ⟨wr.heap.size, 1, none⟩ = some (.int .i64 a1) ∧ W.cell? ⟨wr.heap.size, 2, none⟩ = some (.int .u64 a2) ∧ W.cell? ⟨b, 2, none⟩ = some (.slice (some ⟨bb, off, none⟩) t.asks.length lc) ∧ Below w.heap.size w W)
              (first
                | (exact ⟨m0, m1, m2, m3, m4, m5, m6, m7.drew⟩)
                | (go_split_ands; refine ⟨cBel (by assumption) (by first | assumption | exact Below.refl _ _), cBel (by assumption) (by first | assumption | exact Below.refl _ _), cBel (by assumption) (by first | assumption | exact Below.refl _ _), cBel (by assumption) (by first | assumption | exact Below.refl _ _), cBel (by assumption) (by first | assumption | exact Below.refl _ _), cBel (by assumption) (by first | assumption | exact Below.refl _ _), cBel (by assumption) (by first | assumption | exact Below.refl _ _), bel (by assumption) (by first | assumption | exact Below.refl _ _)⟩))
              (first
                | (go_at_call 35; ((with_reducible refine (CC.out _).mono ?_); rintro e w5 ⟨rfl, hb1⟩)))
            rename_i hh
            have HB := Bx.mk hh.2.2.2.2.2.2.2
            clear hh
            go_wp2
            go_roundw
            case rel => exact ⟨j + 1 + 1, some (a0, a1, a2), by go_num, by omega, E, ⟨.inr ⟨j + 1, _, rfl, HL.out, rfl⟩⟩, ⟨HB.out⟩⟩
            case measure => simp [intOf] <;> omega
    · obtain rfl : k = t.asks.length := by omega
      have he : chkAsks t none t.asks = 0 := by rw [hch.out, List.drop_length]; rfl
      have HE := Bx.mk he
      clear he hch
      go_wp2
      go_ret
      rw [HE.out]
      exact ⟨rfl, hb.out⟩
end Go.Proofs.Ytccjekgbhablpaa
