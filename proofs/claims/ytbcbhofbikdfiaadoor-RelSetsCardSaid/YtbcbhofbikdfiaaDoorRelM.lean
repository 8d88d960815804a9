/- Binary relations on sixteen things, as mathematics: rows of sixteen bits. -/
import Derived.Lib.Hide
namespace Go.Proofs.YtbcbhofbikdfiaaDoor.R
set_option maxRecDepth 100000

/-- the things of a set, the lowest first -/
def els (s : Nat) : List Nat := (List.range 16).filter fun a => s.testBit a
theorem mem_els {s a : Nat} : a ∈ els s ↔ a < 16 ∧ s.testBit a = true := by simp [els]
theorem els_nodup (s : Nat) : (els s).Nodup := List.Nodup.sublist (List.filter_sublist) List.nodup_range
theorem els_len (s : Nat) : (els s).length ≤ 16 := Nat.le_trans (List.length_filter_le _ _) (by simp)

/-- a row of a relation -/
def g (r : List Nat) (a : Nat) : Nat := r.getD a 0
def has (r : List Nat) (a b : Nat) : Bool := (g r a).testBit b
structure Wf (r : List Nat) : Prop where
  len : r.length = 16
  lt : ∀ a, g r a < 65536
theorem g_out {r : List Nat} (h : Wf r) {a : Nat} (ha : 16 ≤ a) : g r a = 0 := by
  unfold g; rw [List.getD_eq_getElem?_getD, List.getElem?_eq_none (by rw [h.len]; exact ha)]; rfl
theorem has_lt {r : List Nat} (h : Wf r) {a b : Nat} (hb : has r a b = true) : a < 16 ∧ b < 16 := by
  refine ⟨?_, ?_⟩
  · rcases Nat.lt_or_ge a 16 with h1 | h1
    · exact h1
    · unfold has at hb; rw [g_out h h1] at hb; simp at hb
  · rcases Nat.lt_or_ge b 16 with h1 | h1
    · exact h1
    · have h2 := Nat.ge_two_pow_of_testBit hb
      have h3 := h.lt a
      have h4 : 2 ^ 16 ≤ 2 ^ b := Nat.pow_le_pow_right (by decide) h1
      omega
theorem g_set {r : List Nat} {a b v : Nat} (ha : a < r.length) : g (r.set a v) b = if b = a then v else g r b := by
  unfold g
  rw [List.getD_eq_getElem?_getD, List.getD_eq_getElem?_getD, List.getElem?_set]
  by_cases e : b = a
  · subst e; simp [ha]
  · rw [if_neg (Ne.symm e), if_neg e]
theorem Wf.set {r : List Nat} (h : Wf r) {a v : Nat} (ha : a < 16) (hv : v < 65536) : Wf (r.set a v) := by
  refine ⟨by simp [h.len], fun b => ?_⟩
  rw [g_set (by rw [h.len]; exact ha)]
  split
  · exact hv
  · exact h.lt b
theorem has_set {r : List Nat} (h : Wf r) {a b v c : Nat} (ha : a < 16) : has (r.set a v) b c = if b = a then v.testBit c else has r b c := by
  unfold has
  rw [g_set (by rw [h.len]; exact ha)]
  split <;> rfl
theorem ext {r s : List Nat} (h : Wf r) (k : Wf s) (e : ∀ a b, has r a b = has s a b) : r = s := by
  apply List.ext_getElem (by rw [h.len, k.len])
  intro i h1 h2
  have := Nat.eq_of_testBit_eq (e i)
  unfold g at this
  simpa [List.getD_eq_getElem?_getD, List.getElem?_eq_getElem h1, List.getElem?_eq_getElem h2] using this
theorem or_lt {a b : Nat} (h : a < 65536) (k : b < 65536) : a ||| b < 65536 := Nat.or_lt_two_pow (n := 16) h k
theorem and_lt {a b : Nat} (h : a < 65536) : a &&& b < 65536 := Nat.lt_of_le_of_lt Nat.and_le_left h
/-- those of the first that the other hasn't -/
def andN (a b : Nat) : Nat := a ^^^ (a &&& b)
theorem andN_bit (a b i : Nat) : (andN a b).testBit i = (a.testBit i && !b.testBit i) := by
  unfold andN; rw [Nat.testBit_xor, Nat.testBit_and]; cases a.testBit i <;> cases b.testBit i <;> rfl
theorem andN_lt {a b : Nat} (h : a < 65536) : andN a b < 65536 := Nat.xor_lt_two_pow (n := 16) h (and_lt h)
theorem one_lt {a : Nat} (h : a < 16) : 2 ^ a < 65536 := Nat.pow_lt_pow_right (a := 2) (by decide) h

/-- the rows from f -/
def rows (f : Nat → Nat) : List Nat := (List.range 16).map f
theorem g_rows (f : Nat → Nat) {a : Nat} (h : a < 16) : g (rows f) a = f a := by
  unfold g rows; rw [List.getD_eq_getElem?_getD, List.getElem?_map, List.getElem?_range h]; rfl
theorem rows_wf {f : Nat → Nat} (h : ∀ a, a < 16 → f a < 65536) : Wf (rows f) := by
  refine ⟨by simp [rows], fun a => ?_⟩
  rcases Nat.lt_or_ge a 16 with h1 | h1
  · rw [g_rows f h1]; exact h a h1
  · unfold g rows; rw [List.getD_eq_getElem?_getD, List.getElem?_eq_none (by simpa using h1)]; decide
theorem has_rows {f : Nat → Nat} {a b : Nat} (h : a < 16) : has (rows f) a b = (f a).testBit b := by unfold has; rw [g_rows f h]
/-- the first k rows from f, the others from r -/
def upTo (f : Nat → Nat) (r : List Nat) (k : Nat) : List Nat := rows fun a => if a < k then f a else g r a
theorem upTo_all {f : Nat → Nat} {r : List Nat} : upTo f r 16 = rows f := by
  unfold upTo rows
  apply List.map_congr_left
  intro a ha
  rw [if_pos (by simpa using ha)]
theorem upTo_wf {f : Nat → Nat} {r : List Nat} (h : Wf r) (hf : ∀ a, a < 16 → f a < 65536) (k : Nat) : Wf (upTo f r k) := rows_wf fun a ha => by
  split
  · exact hf a ha
  · exact h.lt a
theorem upTo_zero {f : Nat → Nat} {r : List Nat} (h : Wf r) (hf : ∀ a, a < 16 → f a < 65536) : upTo f r 0 = r := by
  refine ext (upTo_wf h hf 0) h fun a b => ?_
  rcases Nat.lt_or_ge a 16 with h1 | h1
  · unfold upTo; rw [has_rows h1]; rfl
  · unfold has; rw [g_out h h1, g_out (upTo_wf h hf 0) h1]
theorem upTo_succ {f : Nat → Nat} {r : List Nat} {k : Nat} (h : Wf r) (hf : ∀ a, a < 16 → f a < 65536) (hk : k < 16) : upTo f r (k + 1) = (upTo f r k).set k (f k) := by
  refine ext (upTo_wf h hf _) ((upTo_wf h hf _).set hk (hf k hk)) fun a b => ?_
  rw [has_set (upTo_wf h hf _) hk]
  rcases Nat.lt_or_ge a 16 with h1 | h1
  · unfold upTo
    rw [has_rows h1]
    by_cases e : a = k
    · subst e; simp
    · rw [if_neg e, has_rows h1]
      by_cases e2 : a < k
      · rw [if_pos (by omega), if_pos e2]
      · rw [if_neg (by omega), if_neg e2]
  · rw [if_neg (by omega)]
    unfold has; rw [g_out (upTo_wf h hf _) h1, g_out (upTo_wf h hf _) h1]
theorem upTo_get {f : Nat → Nat} {r : List Nat} {k a : Nat} (ha : a < 16) (h : k ≤ a) : g (upTo f r k) a = g r a := by unfold upTo; rw [g_rows _ ha, if_neg (by omega)]

/-! ### What the functions do -/
def orM (r s : List Nat) : List Nat := rows fun a => g r a ||| g s a
def andM (r s : List Nat) : List Nat := rows fun a => g r a &&& g s a
def lessM (r s : List Nat) : List Nat := rows fun a => andN (g r a) (g s a)
def withM (r : List Nat) (a b : Nat) : List Nat := r.set a (g r a ||| 2 ^ b)
def stepU (k : Nat) (t : List Nat) (b : Nat) : List Nat := t.set b (g t b ||| 2 ^ k)
def zeroM : List Nat := List.replicate 16 0
def turnTo (r : List Nat) (k : Nat) : List Nat := (List.range k).foldl (fun t a => (els (g r a)).foldl (stepU a) t) zeroM
def turnM (r : List Nat) : List Nat := turnTo r 16
def stepT (s : List Nat) (k : Nat) (t : List Nat) (b : Nat) : List Nat := t.set k (g t k ||| g s b)
def thenTo (r s : List Nat) (k : Nat) : List Nat := (List.range k).foldl (fun t a => (els (g r a)).foldl (stepT s a) t) zeroM
def thenM (r s : List Nat) : List Nat := thenTo r s 16
def stepX (v : Nat) (t : List Nat) (a : Nat) : List Nat := t.set a v
def crossM (s v : Nat) : List Nat := (els s).foldl (stepX v) zeroM
def stepC (k : Nat) (r : List Nat) (a : Nat) : List Nat := if has r a k then r.set a (g r a ||| g r k) else r
def roundTo (r : List Nat) (k n : Nat) : List Nat := (List.range n).foldl (stepC k) r
def roundC (r : List Nat) (k : Nat) : List Nat := roundTo r k 16
def closeTo (r : List Nat) (n : Nat) : List Nat := (List.range n).foldl roundC r
def closeM (r : List Nat) : List Nat := closeTo r 16
def roundM (r : List Nat) : Bool := (List.range 16).any fun a => has (closeM r) a a
def low (t : List Nat) (s : Nat) : Option Nat := (els s).find? fun a => g t a &&& s == 0
def ordGo (t : List Nat) : Nat → Nat → Option (List Nat)
  | 0, _ => some []
  | n + 1, s => if s = 0 then some [] else match low t s with
    | none => none
    | some a => (ordGo t n (andN s (2 ^ a))).map (a :: ·)
def ordM (r : List Nat) (s : Nat) : Option (List Nat) := ordGo (turnM r) 16 s

theorem zero_wf : Wf zeroM := ⟨rfl, fun a => by unfold g zeroM; rw [List.getD_eq_getElem?_getD, List.getElem?_replicate]; split <;> decide⟩
theorem has_zero (a b : Nat) : has zeroM a b = false := by unfold has g zeroM; rw [List.getD_eq_getElem?_getD, List.getElem?_replicate]; split <;> simp
theorem or_wf {r s : List Nat} (h : Wf r) (k : Wf s) : Wf (orM r s) := rows_wf fun a _ => or_lt (h.lt a) (k.lt a)
theorem and_wf {r s : List Nat} (h : Wf r) : Wf (andM r s) := rows_wf fun a _ => and_lt (h.lt a)
theorem less_wf {r s : List Nat} (h : Wf r) : Wf (lessM r s) := rows_wf fun a _ => andN_lt (h.lt a)
theorem has_out {r : List Nat} (h : Wf r) {a b : Nat} (ha : 16 ≤ a) : has r a b = false := by unfold has; rw [g_out h ha]; simp
theorem has_or {r s : List Nat} (h : Wf r) (k : Wf s) (a b : Nat) : has (orM r s) a b = (has r a b || has s a b) := by
  rcases Nat.lt_or_ge a 16 with h1 | h1
  · unfold orM; rw [has_rows h1, Nat.testBit_or]; rfl
  · rw [has_out (or_wf h k) h1, has_out h h1, has_out k h1]; rfl
theorem has_and {r s : List Nat} (h : Wf r) (a b : Nat) : has (andM r s) a b = (has r a b && has s a b) := by
  rcases Nat.lt_or_ge a 16 with h1 | h1
  · unfold andM; rw [has_rows h1, Nat.testBit_and]; rfl
  · rw [has_out (and_wf h) h1, has_out h h1]; rfl
theorem has_less {r s : List Nat} (h : Wf r) (a b : Nat) : has (lessM r s) a b = (has r a b && !has s a b) := by
  rcases Nat.lt_or_ge a 16 with h1 | h1
  · unfold lessM; rw [has_rows h1, andN_bit]; rfl
  · rw [has_out (less_wf h) h1, has_out h h1]; rfl
theorem with_wf {r : List Nat} (h : Wf r) {a b : Nat} (ha : a < 16) (hb : b < 16) : Wf (withM r a b) := h.set ha (or_lt (h.lt a) (one_lt hb))
theorem has_with {r : List Nat} (h : Wf r) {a b c d : Nat} (ha : a < 16) : has (withM r a b) c d = (has r c d || (decide (c = a) && decide (d = b))) := by
  unfold withM
  rw [has_set h ha]
  by_cases e : c = a
  · subst e
    rw [if_pos rfl, Nat.testBit_or, Nat.testBit_two_pow]
    simp [has, eq_comm]
  · rw [if_neg e]; simp [e]

/-! ### turned -/
theorem stepU_wf {t : List Nat} (h : Wf t) {k b : Nat} (hk : k < 16) (hb : b < 16) : Wf (stepU k t b) := h.set hb (or_lt (h.lt b) (one_lt hk))
theorem has_stepU {t : List Nat} (h : Wf t) {k b : Nat} (hb : b < 16) (c d : Nat) : has (stepU k t b) c d = (has t c d || (decide (c = b) && decide (d = k))) := has_with h hb
theorem foldU {k : Nat} (hk : k < 16) : ∀ (l : List Nat) (t : List Nat), Wf t → (∀ b ∈ l, b < 16) → Wf (l.foldl (stepU k) t) ∧ ∀ c d, has (l.foldl (stepU k) t) c d = (has t c d || (decide (c ∈ l) && decide (d = k)))
  | [], t, h, _ => ⟨h, fun c d => by simp⟩
  | b :: l, t, h, hl => by
    obtain ⟨i1, i2⟩ := foldU hk l (stepU k t b) (stepU_wf h hk (hl b (by simp))) (fun x hx => hl x (by simp [hx]))
    refine ⟨i1, fun c d => ?_⟩
    rw [List.foldl_cons, i2, has_stepU h (hl b (by simp))]
    by_cases e : c = b <;> by_cases e2 : d = k <;> simp [e, e2]
theorem turnTo_spec {r : List Nat} (h : Wf r) : ∀ k, k ≤ 16 → Wf (turnTo r k) ∧ ∀ c d, has (turnTo r k) c d = (decide (d < k) && has r d c)
  | 0, _ => ⟨zero_wf, fun c d => by simp [turnTo, has_zero]⟩
  | k + 1, hk => by
    obtain ⟨i1, i2⟩ := turnTo_spec h k (by omega)
    obtain ⟨j1, j2⟩ := foldU (k := k) (by omega) (els (g r k)) (turnTo r k) i1 (fun b hb => (mem_els.1 hb).1)
    have e : turnTo r (k + 1) = (els (g r k)).foldl (stepU k) (turnTo r k) := by unfold turnTo; rw [List.range_succ, List.foldl_append]; rfl
    rw [e]
    refine ⟨j1, fun c d => ?_⟩
    rw [j2, i2]
    by_cases e2 : d = k
    · subst e2
      have : decide (c ∈ els (g r d)) = has r d c := by
        by_cases hc : has r d c = true
        · rw [hc, decide_eq_true (mem_els.2 ⟨(has_lt h hc).2, hc⟩)]
        · rw [decide_eq_false (fun k => hc (mem_els.1 k).2)]; simpa using Eq.symm (by simpa using hc)
      rw [this]; simp
    · have : decide (d < k + 1) = decide (d < k) := by simp; omega
      rw [this]; simp [e2]
theorem turn_wf {r : List Nat} (h : Wf r) : Wf (turnM r) := (turnTo_spec h 16 (Nat.le_refl _)).1
theorem has_turn {r : List Nat} (h : Wf r) (c d : Nat) : has (turnM r) c d = has r d c := by
  unfold turnM
  rw [(turnTo_spec h 16 (Nat.le_refl _)).2]
  rcases Nat.lt_or_ge d 16 with h1 | h1
  · simp [h1]
  · rw [has_out h h1]; simp
theorem turn_turn {r : List Nat} (h : Wf r) : turnM (turnM r) = r := ext (turn_wf (turn_wf h)) h fun a b => by rw [has_turn (turn_wf h), has_turn h]

/-! ### one behind the other -/
theorem mem_els_row {r : List Nat} (h : Wf r) {a b : Nat} : b ∈ els (g r a) ↔ has r a b = true := by
  rw [mem_els]
  exact ⟨fun h => h.2, fun k => ⟨(has_lt h k).2, k⟩⟩
theorem foldT {s : List Nat} (hs : Wf s) {k : Nat} (hk : k < 16) : ∀ (l : List Nat) (t : List Nat), Wf t → Wf (l.foldl (stepT s k) t) ∧ ∀ c d, has (l.foldl (stepT s k) t) c d = (has t c d || (decide (c = k) && l.any fun b => has s b d))
  | [], t, h => ⟨h, fun c d => by simp⟩
  | b :: l, t, h => by
    have hw : Wf (stepT s k t b) := h.set hk (or_lt (h.lt k) (hs.lt b))
    obtain ⟨i1, i2⟩ := foldT hs hk l (stepT s k t b) hw
    refine ⟨i1, fun c d => ?_⟩
    rw [List.foldl_cons, i2]
    have e : has (stepT s k t b) c d = (has t c d || (decide (c = k) && has s b d)) := by
      unfold stepT
      rw [has_set h hk]
      by_cases e : c = k
      · subst e; rw [if_pos rfl, Nat.testBit_or]; simp [has]
      · rw [if_neg e]; simp [e]
    rw [e]
    by_cases e : c = k
    · simp [e, Bool.or_assoc]
    · simp [e]
theorem thenTo_spec {r s : List Nat} (h : Wf r) (hs : Wf s) : ∀ k, k ≤ 16 → Wf (thenTo r s k) ∧ ∀ c d, has (thenTo r s k) c d = (decide (c < k) && (els (g r c)).any fun b => has s b d)
  | 0, _ => ⟨zero_wf, fun c d => by simp [thenTo, has_zero]⟩
  | k + 1, hk => by
    obtain ⟨i1, i2⟩ := thenTo_spec h hs k (by omega)
    obtain ⟨j1, j2⟩ := foldT hs (k := k) (by omega) (els (g r k)) (thenTo r s k) i1
    have e : thenTo r s (k + 1) = (els (g r k)).foldl (stepT s k) (thenTo r s k) := by unfold thenTo; rw [List.range_succ, List.foldl_append]; rfl
    rw [e]
    refine ⟨j1, fun c d => ?_⟩
    rw [j2, i2]
    by_cases e2 : c = k
    · subst e2; simp
    · have : decide (c < k + 1) = decide (c < k) := by simp; omega
      rw [this]; simp [e2]
theorem then_wf {r s : List Nat} (h : Wf r) (hs : Wf s) : Wf (thenM r s) := (thenTo_spec h hs 16 (Nat.le_refl _)).1
theorem has_then {r s : List Nat} (h : Wf r) (hs : Wf s) (a c : Nat) : has (thenM r s) a c = true ↔ ∃ b, has r a b = true ∧ has s b c = true := by
  unfold thenM
  rw [(thenTo_spec h hs 16 (Nat.le_refl _)).2]
  constructor
  · intro k
    rw [Bool.and_eq_true, List.any_eq_true] at k
    obtain ⟨_, b, hb, hc⟩ := k
    exact ⟨b, (mem_els_row h).1 hb, hc⟩
  · rintro ⟨b, hb, hc⟩
    rw [Bool.and_eq_true, List.any_eq_true]
    exact ⟨by simpa using (has_lt h hb).1, b, (mem_els_row h).2 hb, hc⟩
theorem ext' {r s : List Nat} (h : Wf r) (k : Wf s) (e : ∀ a b, has r a b = true ↔ has s a b = true) : r = s := ext h k fun a b => by rw [Bool.eq_iff_iff]; exact e a b
theorem then_turn {r s : List Nat} (h : Wf r) (hs : Wf s) : turnM (thenM r s) = thenM (turnM s) (turnM r) := ext' (turn_wf (then_wf h hs)) (then_wf (turn_wf hs) (turn_wf h)) fun a b => by
  rw [has_turn (then_wf h hs), has_then h hs, has_then (turn_wf hs) (turn_wf h)]
  constructor
  · rintro ⟨c, h1, h2⟩; exact ⟨c, by rw [has_turn hs]; exact h2, by rw [has_turn h]; exact h1⟩
  · rintro ⟨c, h1, h2⟩; rw [has_turn hs] at h1; rw [has_turn h] at h2; exact ⟨c, h2, h1⟩

/-! ### closed -/
theorem roundTo_spec {r : List Nat} (h : Wf r) {k : Nat} : ∀ n, n ≤ 16 → Wf (roundTo r k n) ∧ ∀ a c, has (roundTo r k n) a c = (has r a c || (decide (a < n) && has r a k && has r k c))
  | 0, _ => ⟨h, fun a c => by simp [roundTo]⟩
  | n + 1, hn => by
    obtain ⟨i1, i2⟩ := roundTo_spec (k := k) h n (by omega)
    have e : roundTo r k (n + 1) = stepC k (roundTo r k n) n := by unfold roundTo; rw [List.range_succ, List.foldl_append]; rfl
    rw [e]
    have e1 : has (roundTo r k n) n k = has r n k := by rw [i2]; simp
    have e2 : ∀ c, has (roundTo r k n) k c = has r k c := fun c => by rw [i2]; cases has r k c <;> simp
    unfold stepC
    rw [e1]
    by_cases hk : has r n k = true
    · rw [if_pos hk]
      refine ⟨i1.set (by omega) (or_lt (i1.lt _) (i1.lt _)), fun a c => ?_⟩
      rw [has_set i1 (by omega)]
      by_cases ea : a = n
      · subst ea
        rw [if_pos rfl, Nat.testBit_or]
        have := e2 c
        have i3 := i2 a c
        unfold has at this i3 hk ⊢
        rw [this, i3]; simp [hk]
      · rw [if_neg ea, i2]
        have : decide (a < n + 1) = decide (a < n) := by simp; omega
        rw [this]
    · rw [if_neg hk]
      refine ⟨i1, fun a c => ?_⟩
      rw [i2]
      by_cases ea : a = n
      · subst ea; simp [hk]
      · have : decide (a < n + 1) = decide (a < n) := by simp; omega
        rw [this]
theorem round_wf {r : List Nat} (h : Wf r) (k : Nat) : Wf (roundC r k) := (roundTo_spec h 16 (Nat.le_refl _)).1
theorem has_round {r : List Nat} (h : Wf r) (k a c : Nat) : has (roundC r k) a c = true ↔ has r a c = true ∨ (has r a k = true ∧ has r k c = true) := by
  unfold roundC
  rw [(roundTo_spec h 16 (Nat.le_refl _)).2, Bool.or_eq_true, Bool.and_eq_true, Bool.and_eq_true]
  constructor
  · rintro (h1 | ⟨⟨_, h2⟩, h3⟩)
    · exact .inl h1
    · exact .inr ⟨h2, h3⟩
  · rintro (h1 | ⟨h2, h3⟩)
    · exact .inl h1
    · exact .inr ⟨⟨by simpa using (has_lt h h2).1, h2⟩, h3⟩
/-- c is r closed -/
structure IsCl (r c : List Nat) : Prop where
  wf : Wf c
  sub : ∀ a b, has r a b = true → has c a b = true
  tr : ∀ a b d, has c a b = true → has c b d = true → has c a d = true
  least : ∀ T : Nat → Nat → Prop, (∀ a b, has r a b = true → T a b) → (∀ a b d, T a b → T b d → T a d) → ∀ a b, has c a b = true → T a b
theorem closeTo_spec {r : List Nat} (h : Wf r) : ∀ n, n ≤ 16 → Wf (closeTo r n) ∧ (∀ a b, has r a b = true → has (closeTo r n) a b = true) ∧
    (∀ j, j < n → ∀ a d, has (closeTo r n) a j = true → has (closeTo r n) j d = true → has (closeTo r n) a d = true) ∧
    (∀ T : Nat → Nat → Prop, (∀ a b, has r a b = true → T a b) → (∀ a b d, T a b → T b d → T a d) → ∀ a b, has (closeTo r n) a b = true → T a b)
  | 0, _ => ⟨h, fun _ _ h => h, fun j hj => by omega, fun T h1 _ a b => h1 a b⟩
  | n + 1, hn => by
    obtain ⟨i1, i2, i3, i4⟩ := closeTo_spec h n (by omega)
    have e : closeTo r (n + 1) = roundC (closeTo r n) n := by unfold closeTo; rw [List.range_succ, List.foldl_append]; rfl
    rw [e]
    refine ⟨round_wf i1 _, fun a b hb => (has_round i1 n a b).2 (.inl (i2 a b hb)), fun j hj a d ha hd => ?_, fun T h1 h2 a b hb => ?_⟩
    · rw [has_round i1] at ha hd ⊢
      rcases Nat.lt_or_ge j n with hj1 | hj1
      · rcases ha with ha | ⟨ha, ha'⟩ <;> rcases hd with hd | ⟨hd, hd'⟩
        · exact .inl (i3 j hj1 a d ha hd)
        · exact .inr ⟨i3 j hj1 a n ha hd, hd'⟩
        · exact .inr ⟨ha, i3 j hj1 n d ha' hd⟩
        · exact .inr ⟨ha, hd'⟩
      · obtain rfl : j = n := by omega
        have ha' : has (closeTo r j) a j = true := by rcases ha with ha | ⟨ha, _⟩ <;> exact ha
        have hd' : has (closeTo r j) j d = true := by rcases hd with hd | ⟨_, hd⟩ <;> exact hd
        exact .inr ⟨ha', hd'⟩
    · rcases (has_round i1 n a b).1 hb with hb | ⟨hb, hb'⟩
      · exact i4 T h1 h2 a b hb
      · exact h2 a n b (i4 T h1 h2 a n hb) (i4 T h1 h2 n b hb')
theorem close_wf {r : List Nat} (h : Wf r) : Wf (closeM r) := (closeTo_spec h 16 (Nat.le_refl _)).1
theorem close_is {r : List Nat} (h : Wf r) : IsCl r (closeM r) := by
  obtain ⟨i1, i2, i3, i4⟩ := closeTo_spec h 16 (Nat.le_refl _)
  exact ⟨i1, i2, fun a b d ha hd => i3 b (has_lt i1 ha).2 a d ha hd, i4⟩
theorem IsCl.uniq {r c d : List Nat} (h : IsCl r c) (k : IsCl r d) : c = d := ext' h.wf k.wf fun a b =>
  ⟨h.least (fun a b => has d a b = true) k.sub k.tr a b, k.least (fun a b => has c a b = true) h.sub h.tr a b⟩
theorem close_close {r : List Nat} (h : Wf r) : closeM (closeM r) = closeM r :=
  (close_is (close_wf h)).uniq ⟨close_wf h, fun _ _ h => h, (close_is h).tr, fun _ h1 _ => h1⟩
theorem close_turn {r : List Nat} (h : Wf r) : closeM (turnM r) = turnM (closeM r) := by
  refine (close_is (turn_wf h)).uniq ⟨turn_wf (close_wf h), fun a b k => ?_, fun a b d h1 h2 => ?_, fun T h1 h2 a b k => ?_⟩
  · rw [has_turn h] at k; rw [has_turn (close_wf h)]; exact (close_is h).sub _ _ k
  · rw [has_turn (close_wf h)] at h1 h2 ⊢; exact (close_is h).tr _ _ _ h2 h1
  · rw [has_turn (close_wf h)] at k
    exact (close_is h).least (fun x y => T y x) (fun x y hx => h1 y x (by rw [has_turn h]; exact hx)) (fun x y z hx hy => h2 z y x hy hx) b a k
theorem or_less {r s : List Nat} (h : Wf r) (hs : Wf s) : lessM (orM r s) s = lessM r s := ext (less_wf (or_wf h hs)) (less_wf h) fun a b => by
  rw [has_less (or_wf h hs), has_less h, has_or h hs]; cases has r a b <;> cases has s a b <;> rfl
theorem and_or {r s : List Nat} (h : Wf r) : orM (andM r s) (lessM r s) = r := ext (or_wf (and_wf h) (less_wf h)) h fun a b => by
  rw [has_or (and_wf h) (less_wf h), has_and h, has_less h]; cases has r a b <;> cases has s a b <;> rfl
theorem round_iff {r : List Nat} (h : Wf r) : roundM r = true ↔ ∃ a, has (closeM r) a a = true := by
  unfold roundM
  rw [List.any_eq_true]
  constructor
  · rintro ⟨a, _, h2⟩; exact ⟨a, h2⟩
  · rintro ⟨a, h2⟩; exact ⟨a, by simpa using (has_lt (close_wf h) h2).1, h2⟩

/-! ### orders -/
theorem minimal (C : Nat → Nat → Prop) (tr : ∀ a b d, C a b → C b d → C a d) : ∀ l : List Nat, l ≠ [] → (∀ a ∈ l, ¬ C a a) → ∃ a ∈ l, ∀ b ∈ l, ¬ C b a
  | [], h, _ => absurd rfl h
  | [x], _, h => ⟨x, by simp, fun b hb => by simp at hb; subst hb; exact h b (by simp)⟩
  | x :: y :: l, _, h => by
    obtain ⟨m, hm, hmin⟩ := minimal C tr (y :: l) (by simp) (fun a ha => h a (List.mem_cons_of_mem _ ha))
    by_cases hx : C x m
    · refine ⟨x, by simp, fun b hb => ?_⟩
      rcases List.mem_cons.1 hb with rfl | hb
      · exact h b (by simp)
      · intro hc; exact hmin b hb (tr b x m hc hx)
    · refine ⟨m, List.mem_cons_of_mem _ hm, fun b hb => ?_⟩
      rcases List.mem_cons.1 hb with rfl | hb
      · exact hx
      · exact hmin b hb
/-- where each of some has one of them ahead, one reaches itself -/
theorem round_of {r : List Nat} (h : Wf r) {l : List Nat} (hl : l ≠ []) (k : ∀ a ∈ l, ∃ b ∈ l, has r b a = true) : roundM r = true := by
  rw [round_iff h]
  rcases Classical.em (∃ a, has (closeM r) a a = true) with h1 | h1
  · exact h1
  · obtain ⟨a, ha, hmin⟩ := minimal (fun a b => has (closeM r) a b = true) (close_is h).tr l hl (fun a _ hc => h1 ⟨a, hc⟩)
    obtain ⟨b, hb, hc⟩ := k a ha
    exact absurd ((close_is h).sub _ _ hc) (hmin b hb)
theorem els_minus {s a : Nat} : els (andN s (2 ^ a)) = (els s).filter fun b => b != a := by
  unfold els
  rw [List.filter_filter]
  apply List.filter_congr
  intro b _
  rw [andN_bit, Nat.testBit_two_pow]
  by_cases e : a = b
  · subst e; simp
  · have e' : ¬ b = a := Ne.symm e
    simp [e, e']
theorem els_minus_len {s a : Nat} (h : a ∈ els s) : (els (andN s (2 ^ a))).length < (els s).length := by
  rw [els_minus]
  exact List.length_filter_lt_length_iff_exists.2 ⟨a, h, by simp⟩
theorem els_nil {s : Nat} (hs : s < 65536) (h : els s = []) : s = 0 := by
  apply Nat.eq_of_testBit_eq
  intro i
  rw [Nat.zero_testBit]
  cases hb : s.testBit i with
  | false => rfl
  | true =>
    have h1 := Nat.ge_two_pow_of_testBit hb
    have : i < 16 := by
      rcases Nat.lt_or_ge i 16 with h2 | h2
      · exact h2
      · have h4 : 2 ^ 16 ≤ 2 ^ i := Nat.pow_le_pow_right (by decide) h2
        omega
    have := mem_els.2 ⟨this, hb⟩
    rw [h] at this; cases this
theorem els_zero : els 0 = [] := by decide
theorem low_some {t : List Nat} {s a : Nat} (h : low t s = some a) : a ∈ els s ∧ g t a &&& s = 0 := ⟨List.mem_of_find?_eq_some h, by simpa using List.find?_some h⟩
theorem low_none {t : List Nat} {s : Nat} (h : low t s = none) : ∀ a ∈ els s, g t a &&& s ≠ 0 := fun a ha => by
  have := List.find?_eq_none.1 h a ha
  simpa using this
theorem disj_iff {t : List Nat} (_ht : Wf t) {s a : Nat} : g t a &&& s = 0 ↔ ∀ b, has t a b = true → s.testBit b = false := by
  constructor
  · intro h b hb
    have := congrArg (fun x => x.testBit b) h
    simp only [Nat.testBit_and, Nat.zero_testBit] at this
    unfold has at hb
    rw [hb] at this; simpa using this
  · intro h
    apply Nat.eq_of_testBit_eq
    intro i
    rw [Nat.testBit_and, Nat.zero_testBit]
    cases hb : (g t a).testBit i with
    | false => rfl
    | true => rw [h i hb]; rfl
theorem ord_some {t : List Nat} (ht : Wf t) : ∀ n s l, s < 65536 → (els s).length ≤ n → ordGo t n s = some l →
    (∀ a, a ∈ l ↔ a ∈ els s) ∧ l.Nodup ∧ l.Pairwise (fun x y => has t x y = false) ∧ ∀ a ∈ l, has t a a = false
  | 0, s, l, _, hn, h => by
    simp only [ordGo, Option.some.injEq] at h
    subst h
    have : els s = [] := List.length_eq_zero_iff.1 (by omega)
    simp [this]
  | n + 1, s, l, hs, hn, h => by
    unfold ordGo at h
    by_cases h0 : s = 0
    · rw [if_pos h0] at h
      cases h
      simp [h0, els_zero]
    · rw [if_neg h0] at h
      cases hlo : low t s with
      | none => rw [hlo] at h; cases h
      | some a =>
        rw [hlo] at h
        simp only [Option.map_eq_some_iff] at h
        obtain ⟨l', hl', rfl⟩ := h
        obtain ⟨ha, hd⟩ := low_some hlo
        have hd' := (disj_iff ht).1 hd
        obtain ⟨j1, j2, j3, j4⟩ := ord_some ht n (andN s (2 ^ a)) l' (andN_lt hs) (by have := els_minus_len ha; omega) hl'
        have hm : ∀ b, b ∈ l' ↔ b ∈ els s ∧ b ≠ a := fun b => by rw [j1, els_minus]; simp
        have hno : ∀ b ∈ els s, has t a b = false := fun b hb => by
          cases hc : has t a b with
          | false => rfl
          | true =>
            have h2 := (mem_els.1 hb).2
            rw [hd' b hc] at h2
            cases h2
        refine ⟨fun b => ?_, ?_, ?_, fun b hb => ?_⟩
        · rw [List.mem_cons, hm]
          constructor
          · rintro (rfl | ⟨h1, _⟩) <;> assumption
          · intro h1
            by_cases e : b = a
            · exact .inl e
            · exact .inr ⟨h1, e⟩
        · exact List.nodup_cons.2 ⟨fun k => ((hm a).1 k).2 rfl, j2⟩
        · exact List.pairwise_cons.2 ⟨fun b hb => hno b ((hm b).1 hb).1, j3⟩
        · rcases List.mem_cons.1 hb with rfl | hb
          · exact hno b ha
          · exact j4 b hb
theorem ord_none {t : List Nat} (ht : Wf t) : ∀ n s, s < 65536 → (els s).length ≤ n → ordGo t n s = none →
    ∃ l : List Nat, l ≠ [] ∧ (∀ a ∈ l, a ∈ els s) ∧ ∀ a ∈ l, ∃ b ∈ l, has t a b = true
  | 0, s, _, _, h => by simp [ordGo] at h
  | n + 1, s, hs, hn, h => by
    unfold ordGo at h
    by_cases h0 : s = 0
    · rw [if_pos h0] at h; cases h
    · rw [if_neg h0] at h
      cases hlo : low t s with
      | none =>
        refine ⟨els s, fun e => h0 (els_nil hs e), fun _ h => h, fun a ha => ?_⟩
        have h1 := low_none hlo a ha
        rcases Classical.em (∃ b ∈ els s, has t a b = true) with h2 | h2
        · exact h2
        · exfalso
          apply h1
          rw [disj_iff ht]
          intro b hb
          cases hc : s.testBit b with
          | false => rfl
          | true => exact absurd ⟨b, mem_els.2 ⟨(has_lt ht hb).2, hc⟩, hb⟩ h2
      | some a =>
        rw [hlo] at h
        simp only [Option.map_eq_none_iff] at h
        obtain ⟨ha, _⟩ := low_some hlo
        obtain ⟨l, h1, h2, h3⟩ := ord_none ht n (andN s (2 ^ a)) (andN_lt hs) (by have := els_minus_len ha; omega) h
        refine ⟨l, h1, fun b hb => ?_, h3⟩
        have := h2 b hb
        rw [els_minus] at this
        exact (List.mem_filter.1 this).1
theorem idx_ne {x a : Nat} {l : List Nat} (h : x ≠ a) : (x :: l).idxOf a = l.idxOf a + 1 := by
  rw [List.idxOf_cons]
  have : (x == a) = false := by simpa using h
  rw [this]; rfl
theorem idx_lt {p : Nat → Nat → Prop} {a b : Nat} : ∀ {l : List Nat}, l.Pairwise (fun x y => ¬ p x y) → a ∈ l → b ∈ l → a ≠ b → p b a → l.idxOf a < l.idxOf b
  | [], _, ha, _, _, _ => by cases ha
  | x :: l, h, ha, hb, hne, hp => by
    rw [List.pairwise_cons] at h
    rcases List.mem_cons.1 ha with rfl | ha'
    · rcases List.mem_cons.1 hb with rfl | hb'
      · exact absurd rfl hne
      · rw [List.idxOf_cons_self, idx_ne hne]; omega
    · rcases List.mem_cons.1 hb with rfl | hb'
      · exact absurd hp (h.1 a ha')
      · have e1 : a ≠ x ∨ a = x := by omega
        rcases e1 with e1 | e1
        · by_cases e2 : b ≠ x
          · rw [idx_ne (Ne.symm e1), idx_ne (Ne.symm e2)]
            have := idx_lt h.2 ha' hb' hne hp
            omega
          · have e2 : b = x := by omega
            subst e2
            exact absurd hp (h.1 a ha')
        · subst e1
          rw [List.idxOf_cons_self, idx_ne hne]; omega
/-- it has an order of all things just if none reaches itself -/
theorem ord_all {r : List Nat} (h : Wf r) : (ordM r 65535).isSome = !roundM r := by
  have ht := turn_wf h
  unfold ordM
  cases ho : ordGo (turnM r) 16 65535 with
  | none =>
    obtain ⟨l, h1, h2, h3⟩ := ord_none ht 16 65535 (by decide) (els_len _) ho
    have := round_of h h1 (fun a ha => by
      obtain ⟨b, hb, hc⟩ := h3 a ha
      rw [has_turn h] at hc
      exact ⟨b, hb, hc⟩)
    rw [this]; rfl
  | some l =>
    obtain ⟨h1, h2, h3, h4⟩ := ord_some ht 16 65535 l (by decide) (els_len _) ho
    have hall : ∀ a, a < 16 → a ∈ l := fun a ha => by
      rw [h1, mem_els]
      refine ⟨ha, ?_⟩
      rw [show (65535 : Nat) = 2 ^ 16 - 1 from rfl, Nat.testBit_two_pow_sub_one]; simpa using ha
    cases hr : roundM r with
    | false => rfl
    | true =>
      exfalso
      obtain ⟨a, ha⟩ := (round_iff h).1 hr
      have := (close_is h).least (fun a b => l.idxOf a < l.idxOf b) (fun a b hb => by
        obtain ⟨l1, l2⟩ := has_lt h hb
        have hne : a ≠ b := by
          intro e; subst e
          have h5 := h4 a (hall a l1)
          rw [has_turn h, hb] at h5; cases h5
        refine idx_lt (p := fun x y => has (turnM r) x y = true) (h3.imp fun hh => by simp [hh]) (hall a l1) (hall b l2) hne ?_
        rw [has_turn h]; exact hb) (fun _ _ _ => Nat.lt_trans) a a ha
      omega
end Go.Proofs.YtbcbhofbikdfiaaDoor.R
