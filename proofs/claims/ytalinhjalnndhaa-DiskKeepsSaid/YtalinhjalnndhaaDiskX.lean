/- DiskSwap: a file takes another one's place. -/
import Derived.Test.YtalinhjalnndhaaDiskW
namespace Go.Proofs.Ytalinhjalnndhaa
set_option maxRecDepth 100000
open Go.ChangeShapes Go.WideShapes Go.RowKit M

theorem beg {S : DS} (hf : S.fail = -1) (hc : S.crash ≠ 0) : beginC S = 0 ∧ beginS S = { S with crash := max (S.crash - 1) (-1), calls := S.calls + 1 } := by
  have e : ¬ S.fail = 0 := by rw [hf]; decide
  unfold beginC beginS
  rw [if_neg e, if_neg hc, if_neg e, if_neg hc, hf]
  refine ⟨rfl, ?_⟩
  rw [show max ((-1 : Int) - 1) (-1) = S.fail by rw [hf]; rfl, ← hf]
theorem beg0 {S : DS} (hf : S.fail = -1) (hc : S.crash = 0) : beginC S = 9 ∧ beginS S = { S with dead := true } := by
  have e : ¬ S.fail = 0 := by rw [hf]; decide
  unfold beginC beginS
  rw [if_neg e, if_pos hc, if_neg e, if_pos hc]
  exact ⟨rfl, rfl⟩

/-! ### how it begins -/
def p0S (D : List Nat) (s c : Nat) : DS := { tS D s c with safe := [], chg := [⟨⟨#[]⟩, nmA, 1, none⟩] }
theorem p_append {x : List Nat} (h : x.length ≤ 1000) : appendC t1S nmA x = 0 ∧ appendS t1S nmA x = p0S x 0 2 := by
  have hl : ¬ (t1S.free < (x.length : Int)) := by rw [show t1S.free = 100000 by rfl]; omega
  refine ⟨?_, ?_⟩
  · unfold appendC
    rw [if_neg (show ¬ (findC t1S nmA ≠ 0) from fun e => e rfl), if_neg hl]
    rfl
  · unfold appendS
    show (if t1S.free < (x.length : Int) then _ else if beginC t1S = 8 then _ else _) = _
    rw [if_neg hl, if_neg (show ¬ beginC t1S = 8 by decide)]
    refine DS.same ?_ (fun i => ?_)
    · show DS.mk _ _ _ _ _ _ _ _ _ _ _ = p0S x 0 2
      unfold p0S tS
      congr 1
      show ((0 : Int) + (x.length : Int)) = (x.length : Int)
      omega
    · show (if i = 1 then _ else if i = 1 then _ else if i = 1 then _ else FileS.mk [] 0 false) = tF x 0 i
      unfold tF
      by_cases h : i = 1
      · subst h; rfl
      · rw [if_neg h, if_neg h, if_neg h, if_neg h]
theorem p_sync (D : List Nat) (s c : Nat) : syncC (p0S D s c) nmA = 0 ∧ syncS (p0S D s c) nmA = p0S D D.length (c + 1) := by
  refine ⟨by rfl, ?_⟩
  refine DS.same rfl (fun i => ?_)
  show (if i = 1 then _ else tF D s i) = tF D D.length i
  unfold tF
  by_cases h : i = 1
  · subst h; rfl
  · rw [if_neg h, if_neg h, if_neg h]
theorem p_names (D : List Nat) (s c : Nat) : syncNamesC (p0S D s c) = 0 ∧ syncNamesS (p0S D s c) = tS D s (c + 1) := ⟨by rfl, by rfl⟩

theorem p_fine {D : List Nat} {s c : Nat} (h1 : D.length ≤ 1000) (h2 : c ≤ 1000) : Fine (p0S D s c) := by
  have f := t_fine (s := s) h1 h2
  refine ⟨f.made, f.room0, f.room1, f.used0, f.used1, f.crash0, f.crash1, f.fail0, f.fail1, f.calls, by show 1 ≤ _; omega, f.names, by show 0 ≤ _; omega, f.data, f.nref, (fun p hp => nomatch (show p ∈ ([] : KL) from hp)), fun c hc => ?_⟩
  simp [p0S] at hc
  subst hc
  exact ⟨⟨Nat.le_refl _, Nat.le_refl _⟩, fun g hg => by simp at hg, by unfold maxLen; decide, by unfold maxLen; decide⟩
theorem p_rels {D : List Nat} {s c : Nat} (h1 : D.length ≤ 1000) : RelsOk (p0S D s c) := by
  intro k d hc
  match k, hc with
  | 0, hc =>
    obtain rfl : (⟨⟨#[]⟩, nmA, 1, none⟩ : Chg) = d := by simpa [p0S] using hc
    refine ⟨⟨?_, ?_, ?_⟩, fun n hn => by simp at hn⟩
    · show (D.length : Int) ≤ _; omega
    · show (-1099511627776 : Int) ≤ (D.length : Int) - (D.length : Int); omega
    · show D.length ≤ _; omega
  | k + 1, hc => simp [p0S] at hc

/-! ### the swap -/
def q0S (O : List Nat) (cr : Int) : DS := { tS O O.length 4 with crash := cr }
def chB : Chg := ⟨⟨#[]⟩, nmB, 2, none⟩
def chR : Chg := ⟨nmB, nmA, 2, some 1⟩
def nBA : KL := [(nmB, 2), (nmA, 1)]
def F2 (O D : List Nat) (s : Nat) (n1 : Bool) : Nat → FileS := fun i => if i = 1 then ⟨O, O.length, n1⟩ else if i = 2 then ⟨D, s, true⟩ else ⟨[], 0, false⟩
def gS (O : List Nat) (nm : KL) (chg : List Chg) (D : List Nat) (s : Nat) (n1 : Bool) (us : Int) (cr : Int) (dead : Bool) (c : Nat) : DS := ⟨nm, [(nmA, 1)], chg, 2, F2 O D s n1, 100000, us, cr, -1, dead, c⟩
def gE (O X : List Nat) (cr : Int) (c : Nat) : DS := ⟨[(nmA, 2)], [(nmA, 2)], [], 2, fun i => if i = 1 then ⟨[], O.length, false⟩ else if i = 2 then ⟨X, X.length, true⟩ else ⟨[], 0, false⟩, 100000, (O.length : Int) + X.length - O.length, cr, -1, false, c⟩

theorem q_fine {O : List Nat} {cr : Int} (h1 : O.length ≤ 1000) (c0 : -1 ≤ cr) (c1 : cr ≤ 9223372036854775807) : Fine (q0S O cr) := by
  have f := t_fine (s := O.length) (c := 4) h1 (by omega)
  exact ⟨f.made, f.room0, f.room1, f.used0, f.used1, c0, c1, f.fail0, f.fail1, f.calls, f.chg, f.names, f.safe, f.data, f.nref, f.sref, f.cref⟩

def NmOk (nm : KL) : Prop := nm = nBA ∨ nm = [(nmA, 2)]
def ChOk (chg : List Chg) : Prop := chg = [chB] ∨ chg = [chB, chR]
theorem g_fine {O : List Nat} {nm : KL} {chg : List Chg} {D : List Nat} {s : Nat} {n1 : Bool} {us cr : Int} {dead : Bool} {c : Nat} (h1 : O.length ≤ 1000) (h2 : D.length ≤ 1000) (hn : NmOk nm) (hc : ChOk chg) (c0 : -1 ≤ cr) (c1 : cr ≤ 9223372036854775807) (hu : 0 ≤ us ∧ us ≤ 2000) (hcc : c ≤ 1000) : Fine (gS O nm chg D s n1 us cr dead c) := by
  have hl : nm.length ≤ 2 := by rcases hn with rfl | rfl <;> decide
  have hl2 : chg.length ≤ 2 := by rcases hc with rfl | rfl <;> decide
  refine ⟨by show 2 ≤ _; omega, by show (0 : Int) ≤ 100000; omega, by show (100000 : Int) ≤ _; omega, hu.1, by show us ≤ _; omega, c0, c1, by show (-1 : Int) ≤ -1; omega, by show (-1 : Int) ≤ _; omega, by show c ≤ _; omega, by show chg.length ≤ _; omega, by show nm.length ≤ _; omega, by show 1 ≤ _; omega, ?_, ?_, ?_, ?_⟩
  · intro n h3 h4
    have : n ≤ 2 := h4
    rcases (by omega : n = 1 ∨ n = 2) with rfl | rfl
    · show O.length ≤ _; omega
    · show D.length ≤ _; omega
  · intro p hp
    have hp : p ∈ nm := hp
    show 1 ≤ p.2 ∧ p.2 ≤ 2
    rcases hn with rfl | rfl
    · simp [nBA] at hp; rcases hp with rfl | rfl <;> exact ⟨by decide, by decide⟩
    · simp at hp; subst hp; exact ⟨by decide, by decide⟩
  · intro p hp
    have hp : p ∈ [(nmA, 1)] := hp
    simp at hp; subst hp; exact ⟨Nat.le_refl _, by show 1 ≤ 2; omega⟩
  · intro d hd
    have hd : d ∈ chg := hd
    have : d = chB ∨ d = chR := by rcases hc with rfl | rfl <;> simp at hd <;> simp [hd]
    show (1 ≤ d.file ∧ d.file ≤ 2) ∧ (∀ g, d.over = some g → 1 ≤ g ∧ g ≤ 2) ∧ _
    rcases this with rfl | rfl
    · exact ⟨⟨by decide, by decide⟩, fun g hg => by simp [chB] at hg, by unfold maxLen; decide, by unfold maxLen; decide⟩
    · exact ⟨⟨by decide, by decide⟩, fun g hg => by simp [chR] at hg; omega, by unfold maxLen; decide, by unfold maxLen; decide⟩

/-- a state behind a call that may be the last one: cr is what was left -/
def crN (cr : Int) : Int := if cr = 0 then 0 else max (cr - 1) (-1)
def deadN (cr : Int) : Bool := decide (cr = 0)
def cN (cr : Int) (c : Nat) : Nat := if cr = 0 then c else c + 1
def codeN (cr : Int) : Int := if cr = 0 then 9 else 0
theorem begN {S : DS} (hf : S.fail = -1) (hd : S.dead = false) : beginC S = codeN S.crash ∧ beginS S = { S with crash := crN S.crash, dead := deadN S.crash, calls := cN S.crash S.calls } := by
  by_cases h : S.crash = 0
  · obtain ⟨a, b⟩ := beg0 hf h
    rw [a, b]
    unfold codeN crN deadN cN
    rw [if_pos h, if_pos h, if_pos h, decide_eq_true h]
    refine ⟨rfl, ?_⟩
    rw [← h]
  · obtain ⟨a, b⟩ := beg hf h
    rw [a, b]
    unfold codeN crN deadN cN
    rw [if_neg h, if_neg h, if_neg h, decide_eq_false h, ← hd]
    exact ⟨rfl, rfl⟩
theorem codeN_ne (cr : Int) : ¬ codeN cr = 8 := by unfold codeN; split <;> decide

theorem g_create (O : List Nat) (cr : Int) : createC (q0S O cr) nmB = codeN cr ∧ createS (q0S O cr) nmB = gS O nBA [chB] [] 0 true O.length (crN cr) (deadN cr) (cN cr 4) := by
  obtain ⟨a, b⟩ := begN (S := q0S O cr) rfl rfl
  refine ⟨a, ?_⟩
  show (if beginC (q0S O cr) = 8 then _ else newF (beginS (q0S O cr)) nmB) = _
  rw [if_neg (by rw [a]; exact codeN_ne _), b]
  refine DS.same rfl (fun i => ?_)
  show (if i = 2 then _ else if i = 2 then _ else tF O O.length i) = F2 O [] 0 true i
  unfold tF F2
  by_cases h : i = 2
  · subst h; rfl
  · rw [if_neg h, if_neg h, if_neg h]
theorem g_append (O X : List Nat) (cr : Int) (c : Nat) (h : O.length + X.length ≤ 1000) : appendC (gS O nBA [chB] [] 0 true O.length cr false c) nmB X = codeN cr ∧ appendS (gS O nBA [chB] [] 0 true O.length cr false c) nmB X = gS O nBA [chB] X 0 true (O.length + X.length) (crN cr) (deadN cr) (cN cr c) := by
  obtain ⟨a, b⟩ := begN (S := gS O nBA [chB] [] 0 true O.length cr false c) rfl rfl
  have hf : (gS O nBA [chB] [] 0 true O.length cr false c).free = 100000 - (O.length : Int) := by show max ((100000 : Int) - (O.length : Int)) 0 = _; omega
  have hl : ¬ ((gS O nBA [chB] [] 0 true O.length cr false c).free < (X.length : Int)) := by rw [hf]; omega
  refine ⟨?_, ?_⟩
  · unfold appendC
    rw [if_neg (show ¬ (findC (gS O nBA [chB] [] 0 true O.length cr false c) nmB ≠ 0) from fun e => e rfl), if_neg hl, a]
    rfl
  · unfold appendS
    show (if (gS O nBA [chB] [] 0 true O.length cr false c).free < (X.length : Int) then _ else if beginC (gS O nBA [chB] [] 0 true O.length cr false c) = 8 then _ else appF (beginS (gS O nBA [chB] [] 0 true O.length cr false c)) 2 X) = _
    rw [if_neg hl, if_neg (by rw [a]; exact codeN_ne _), b]
    refine DS.same rfl (fun i => ?_)
    show (if i = 2 then _ else F2 O [] 0 true i) = F2 O X 0 true i
    unfold F2
    by_cases h : i = 2
    · subst h; rfl
    · rw [if_neg h, if_neg h, if_neg h]
theorem g_sync (O X : List Nat) (cr us : Int) (c : Nat) : syncC (gS O nBA [chB] X 0 true us cr false c) nmB = codeN cr ∧ syncS (gS O nBA [chB] X 0 true us cr false c) nmB = gS O nBA [chB] X (if cr = 0 then 0 else X.length) true us (crN cr) (deadN cr) (cN cr c) := by
  obtain ⟨a, b⟩ := begN (S := gS O nBA [chB] X 0 true us cr false c) rfl rfl
  have a : beginC (gS O nBA [chB] X 0 true us cr false c) = codeN cr := a
  refine ⟨?_, ?_⟩
  · unfold syncC
    rw [if_neg (show ¬ (findC (gS O nBA [chB] X 0 true us cr false c) nmB ≠ 0) from fun e => e rfl), a]
  · show (if beginC (gS O nBA [chB] X 0 true us cr false c) = 0 then syncF (beginS (gS O nBA [chB] X 0 true us cr false c)) 2 else beginS (gS O nBA [chB] X 0 true us cr false c)) = _
    rw [a, b]
    by_cases h0 : cr = 0
    · rw [if_neg (show ¬ codeN cr = 0 by unfold codeN; rw [if_pos h0]; decide), if_pos h0]; rfl
    · rw [if_pos (show codeN cr = 0 by unfold codeN; rw [if_neg h0]), if_neg h0]
      refine DS.same rfl (fun i => ?_)
      show (if i = 2 then _ else F2 O X 0 true i) = F2 O X X.length true i
      unfold F2
      by_cases h : i = 2
      · subst h; rfl
      · rw [if_neg h, if_neg h, if_neg h]
theorem g_rename (O X : List Nat) (cr us : Int) (s c : Nat) : renameC (gS O nBA [chB] X s true us cr false c) nmB nmA = codeN cr ∧ renameS (gS O nBA [chB] X s true us cr false c) nmB nmA = gS O [(nmA, 2)] [chB, chR] X s false us (crN cr) (deadN cr) (cN cr c) := by
  obtain ⟨a, b⟩ := begN (S := gS O nBA [chB] X s true us cr false c) rfl rfl
  refine ⟨?_, ?_⟩
  · unfold renameC
    rw [if_neg (show ¬ (findC (gS O nBA [chB] X s true us cr false c) nmB ≠ 0) from fun e => e rfl), if_neg (by decide)]
    exact a
  · show (if nmA.size = 0 ∨ nmA = nmB then gS O nBA [chB] X s true us cr false c else if beginC (gS O nBA [chB] X s true us cr false c) = 8 then beginS (gS O nBA [chB] X s true us cr false c) else renS (beginS (gS O nBA [chB] X s true us cr false c)) nmB nmA 2) = _
    rw [if_neg (by decide), if_neg (by rw [a]; exact codeN_ne _), b]
    refine DS.same rfl (fun i => ?_)
    show (if i = 2 then _ else if i = 1 then _ else F2 O X s true i) = F2 O X s false i
    unfold F2
    by_cases h : i = 2
    · subst h; rfl
    · by_cases h1 : i = 1
      · subst h1; rfl
      · rw [if_neg h, if_neg h1, if_neg h1, if_neg h, if_neg h1]
theorem g_names (O X : List Nat) (cr us : Int) (s c : Nat) : syncNamesC (gS O [(nmA, 2)] [chB, chR] X s false us cr false c) = codeN cr ∧ (cr = 0 → syncNamesS (gS O [(nmA, 2)] [chB, chR] X s false us cr false c) = gS O [(nmA, 2)] [chB, chR] X s false us 0 true c) ∧ (cr ≠ 0 → s = X.length → us = (O.length : Int) + X.length → syncNamesS (gS O [(nmA, 2)] [chB, chR] X s false us cr false c) = gE O X (crN cr) (c + 1)) := by
  obtain ⟨a, b⟩ := begN (S := gS O [(nmA, 2)] [chB, chR] X s false us cr false c) rfl rfl
  have a : beginC (gS O [(nmA, 2)] [chB, chR] X s false us cr false c) = codeN cr := a
  refine ⟨a, fun h0 => ?_, fun h0 hs hu => ?_⟩
  · show (if beginC (gS O [(nmA, 2)] [chB, chR] X s false us cr false c) = 0 then _ else beginS (gS O [(nmA, 2)] [chB, chR] X s false us cr false c)) = _
    rw [a, b, if_neg (show ¬ codeN cr = 0 by unfold codeN; rw [if_pos h0]; decide)]
    subst h0
    rfl
  · show (if beginC (gS O [(nmA, 2)] [chB, chR] X s false us cr false c) = 0 then settleS (relAll (beginS (gS O [(nmA, 2)] [chB, chR] X s false us cr false c)) [chB, chR]) 2 else _) = _
    rw [a, b, if_pos (show codeN cr = 0 by unfold codeN; rw [if_neg h0])]
    have e1 : (gS O [(nmA, 2)] [chB, chR] X s false us cr false c).crash = cr := rfl
    have e2 : deadN cr = false := decide_eq_false h0
    have e3 : cN cr c = c + 1 := by unfold cN; rw [if_neg h0]
    show settleS (relAll (gS O [(nmA, 2)] [chB, chR] X s false us (crN cr) (deadN cr) (cN cr c)) [chB, chR]) 2 = _
    rw [e2, e3, hs, hu]
    refine DS.same rfl (fun i => ?_)
    show (if i = 1 then _ else F2 O X X.length false i) = _
    unfold F2
    by_cases h : i = 1
    · subst h; rfl
    · rw [if_neg h, if_neg h]
      show _ = (if i = 1 then _ else _)
      rw [if_neg h]
theorem g_rels {O X : List Nat} {cr us : Int} {s c : Nat} (h1 : O.length ≤ 1000) (h2 : X.length ≤ 1000) (hu : us = (O.length : Int) + X.length) : RelsOk (gS O [(nmA, 2)] [chB, chR] X s false us cr false c) := by
  have e : beginS (gS O [(nmA, 2)] [chB, chR] X s false us cr false c) = gS O [(nmA, 2)] [chB, chR] X s false us (crN cr) (deadN cr) (cN cr c) := (begN (S := gS O [(nmA, 2)] [chB, chR] X s false us cr false c) rfl rfl).2
  unfold RelsOk
  rw [e]
  intro k d hc
  have two : ∀ S : DS, S.used = us → (S.file 2).data.length = X.length → RelOk S 2 := fun S e1 e2 => ⟨by rw [e1]; omega, by rw [e1, e2]; omega, by rw [e2]; omega⟩
  match k, hc with
  | 0, hc =>
    obtain rfl : chB = d := by simpa [gS] using hc
    exact ⟨two _ rfl rfl, fun n hn => by simp [chB] at hn⟩
  | 1, hc =>
    obtain rfl : chR = d := by simpa [gS] using hc
    refine ⟨two _ rfl rfl, fun n hn => ?_⟩
    obtain rfl : 1 = n := by simpa [chR] using hn
    exact ⟨by show us ≤ _; omega, by show (-1099511627776 : Int) ≤ us - (O.length : Int); omega, by show O.length ≤ _; omega⟩
  | k + 2, hc => simp [gS] at hc

/-! ### behind the restart -/
theorem cutF_le (ch : List Int) (k : Nat) (f : FileS) : (cutF ch k f).data.length ≤ f.data.length ∧ (cutF ch k f).safe ≤ f.data.length := by
  have : (cutF ch k f).data.length ≤ f.data.length := by
    unfold cutF
    simp only
    split
    · rw [List.length_take]; omega
    · exact Nat.le_refl _
  exact ⟨this, this⟩
theorem fold_small (ch : List Int) (m : Nat) (l : List Nat) : ∀ (q : Nat × DS), (∀ n, (q.2.file n).data.length ≤ m ∧ (q.2.file n).safe ≤ m) →
    (∀ n, ((l.foldl (cutStep ch) q).2.file n).data.length ≤ m ∧ ((l.foldl (cutStep ch) q).2.file n).safe ≤ m) ∧ q.2.used ≤ (l.foldl (cutStep ch) q).2.used ∧ (l.foldl (cutStep ch) q).2.used ≤ q.2.used + (m * l.length : Nat) := by
  induction l with
  | nil => intro q h; exact ⟨h, Int.le_refl _, by simp⟩
  | cons n l ih =>
    intro q h
    rw [List.foldl_cons]
    have hc := cutF_le ch q.1 (q.2.file n)
    have hm := h n
    obtain ⟨a, b, c⟩ := ih (cutStep ch q n) (fun i => by
      show ((if i = n then cutF ch q.1 (q.2.file n) else q.2.file i).data.length ≤ m) ∧ (if i = n then cutF ch q.1 (q.2.file n) else q.2.file i).safe ≤ m
      by_cases e : i = n
      · rw [if_pos e]; omega
      · rw [if_neg e]; exact h i)
    have hu : (cutStep ch q n).2.used = q.2.used + ((cutF ch q.1 (q.2.file n)).data.length : Int) := rfl
    rw [hu] at b c
    refine ⟨a, by omega, ?_⟩
    have e : m * (n :: l).length = m * l.length + m := by rw [List.length_cons, Nat.mul_succ]
    rw [e]
    omega
/-- Restart's sizes, where all files are small -/
theorem restOk_small {S : DS} {ch : List Int} (m k : Nat) (hk : (rest0 S ch).names.length ≤ k) (hmk : m * k ≤ 1099511627776) (hm : m ≤ 1099511627776) (hk2 : k ≤ 1099511627776) (hr : ∀ p ∈ (rest0 S ch).names, 1 ≤ p.2 ∧ p.2 ≤ S.made) (hd : ∀ n, (S.file n).data.length ≤ m ∧ (S.file n).safe ≤ m) : RestOk S ch := by
  refine ⟨by omega, hr, fun j n hn => ?_⟩
  obtain ⟨a, b, c⟩ := fold_small ch m ((oldest (rest0 S ch).names).take j) (1, rest0 S ch) hd
  have u0 : (rest0 S ch).used = 0 := rfl
  have hl : ((oldest (rest0 S ch).names).take j).length ≤ k := by
    rw [oldest_eq, List.length_take, isort_length, List.length_map]; omega
  have hx : m * ((oldest (rest0 S ch).names).take j).length ≤ m * k := Nat.mul_le_mul_left m hl
  simp only [u0] at b c
  obtain ⟨a1, a2⟩ := a n
  exact ⟨b, by omega, by omega, by omega⟩

theorem cut_whole (ch : List Int) (k : Nat) (D : List Nat) (n : Bool) : (cutF ch k ⟨D, D.length, n⟩).data = D := by
  unfold cutF
  simp only
  rw [if_neg (Nat.lt_irrefl _)]

/-- what reading says behind a restart -/
structure Back (S : DS) (ch : List Int) (D : List Nat) : Prop where
  ok : RestOk S ch
  code : findC (restartI S ch) nmA = 0
  data : readD (restartI S ch) nmA = D
  ref : ∀ p ∈ (restartI S ch).names, 1 ≤ p.2 ∧ p.2 ≤ (restartI S ch).made
theorem back_a {S : DS} {ch : List Int} {D : List Nat} {b : Bool} (hs : (rest0 S ch).names = [(nmA, 1)]) (hf : S.file 1 = ⟨D, D.length, b⟩) (hm : 1 ≤ S.made) (hd : ∀ n, (S.file n).data.length ≤ 1000 ∧ (S.file n).safe ≤ 1000) : Back S ch D := by
  have hr : ∀ p ∈ (rest0 S ch).names, 1 ≤ p.2 ∧ p.2 ≤ S.made := by rw [hs]; intro p hp; simp at hp; subst hp; exact ⟨Nat.le_refl _, hm⟩
  have e : isort ((rest0 S ch).names.map (·.2)) = [1] := by rw [hs]; rfl
  have en : (restartI S ch).names = [(nmA, 1)] := by unfold restartI; rw [e]; exact hs
  have ef : (restartI S ch).file 1 = cutF ch 1 (S.file 1) := by unfold restartI; rw [e]; rfl
  have ed : (restartI S ch).dead = false := rfl
  have em : (restartI S ch).made = S.made := by unfold restartI; rw [e]; rfl
  refine ⟨restOk_small 1000 2 (by rw [hs]; decide) (by omega) (by omega) (by omega) hr hd, ?_, ?_, ?_⟩
  · unfold findC; rw [ed, en]; rfl
  · unfold readD findN; rw [ed, en]
    show ((restartI S ch).file 1).data = D
    rw [ef, hf, cut_whole]
  · rw [en, em]; intro p hp; simp at hp; subst hp; exact ⟨Nat.le_refl _, hm⟩
theorem back_b {S : DS} {ch : List Int} {D : List Nat} {b : Bool} (hs : (rest0 S ch).names = [(nmB, 2), (nmA, 1)]) (hf : S.file 1 = ⟨D, D.length, b⟩) (hm : 2 ≤ S.made) (hd : ∀ n, (S.file n).data.length ≤ 1000 ∧ (S.file n).safe ≤ 1000) : Back S ch D := by
  have hp2 : ∀ p ∈ ([(nmB, 2), (nmA, 1)] : KL), 1 ≤ p.2 ∧ p.2 ≤ S.made := by intro p hp; simp at hp; rcases hp with rfl | rfl <;> exact ⟨by decide, by show _ ≤ S.made; omega⟩
  have hr : ∀ p ∈ (rest0 S ch).names, 1 ≤ p.2 ∧ p.2 ≤ S.made := by rw [hs]; exact hp2
  have e : isort ((rest0 S ch).names.map (·.2)) = [1, 2] := by rw [hs]; rfl
  have en : (restartI S ch).names = [(nmB, 2), (nmA, 1)] := by unfold restartI; rw [e]; exact hs
  have ef : (restartI S ch).file 1 = cutF ch 1 (S.file 1) := by unfold restartI; rw [e]; rfl
  have ed : (restartI S ch).dead = false := rfl
  have em : (restartI S ch).made = S.made := by unfold restartI; rw [e]; rfl
  refine ⟨restOk_small 1000 2 (by rw [hs]; decide) (by omega) (by omega) (by omega) hr hd, ?_, ?_, ?_⟩
  · unfold findC; rw [ed, en]; rfl
  · unfold readD findN; rw [ed, en]
    show ((restartI S ch).file 1).data = D
    rw [ef, hf, cut_whole]
  · rw [en, em]; exact hp2
theorem back_c {S : DS} {ch : List Int} {D : List Nat} {b : Bool} (hs : (rest0 S ch).names = [(nmA, 2)]) (hf : S.file 2 = ⟨D, D.length, b⟩) (hm : 2 ≤ S.made) (hd : ∀ n, (S.file n).data.length ≤ 1000 ∧ (S.file n).safe ≤ 1000) : Back S ch D := by
  have hp2 : ∀ p ∈ ([(nmA, 2)] : KL), 1 ≤ p.2 ∧ p.2 ≤ S.made := by intro p hp; simp at hp; subst hp; exact ⟨by decide, hm⟩
  have hr : ∀ p ∈ (rest0 S ch).names, 1 ≤ p.2 ∧ p.2 ≤ S.made := by rw [hs]; exact hp2
  have e : isort ((rest0 S ch).names.map (·.2)) = [2] := by rw [hs]; rfl
  have en : (restartI S ch).names = [(nmA, 2)] := by unfold restartI; rw [e]; exact hs
  have ef : (restartI S ch).file 2 = cutF ch 1 (S.file 2) := by unfold restartI; rw [e]; rfl
  have ed : (restartI S ch).dead = false := rfl
  have em : (restartI S ch).made = S.made := by unfold restartI; rw [e]; rfl
  refine ⟨restOk_small 1000 2 (by rw [hs]; decide) (by omega) (by omega) (by omega) hr hd, ?_, ?_, ?_⟩
  · unfold findC; rw [ed, en]; rfl
  · unfold readD findN; rw [ed, en]
    show ((restartI S ch).file 2).data = D
    rw [ef, hf, cut_whole]
  · rw [en, em]; exact hp2

theorem F2_small {O D : List Nat} {s : Nat} {n1 : Bool} (h1 : O.length ≤ 1000) (h2 : D.length ≤ 1000) (hs : s ≤ 1000) (n : Nat) : (F2 O D s n1 n).data.length ≤ 1000 ∧ (F2 O D s n1 n).safe ≤ 1000 := by
  unfold F2
  by_cases e : n = 1
  · rw [if_pos e]; exact ⟨h1, h1⟩
  · rw [if_neg e]
    by_cases e2 : n = 2
    · rw [if_pos e2]; exact ⟨h2, hs⟩
    · rw [if_neg e2]; exact ⟨by decide, by decide⟩
theorem rest0_names (S : DS) (ch : List Int) (p : Nat) (h : pickN ch 0 S.chg.length = p) : (rest0 S ch).names = (S.chg.take p).foldl (fun l c => c.app l) S.safe := by
  unfold rest0; rw [h]; rfl
/-- cut off at any call, there is the old file or the whole new one -/
theorem back_bad {O D : List Nat} {nm : KL} {chg : List Chg} {s : Nat} {n1 : Bool} {us cr : Int} {dead : Bool} {c : Nat} (ch : List Int) (h1 : O.length ≤ 1000) (h2 : D.length ≤ 1000) (hs : s ≤ 1000) (hc : chg = [chB] ∨ (chg = [chB, chR] ∧ s = D.length)) :
    Back (gS O nm chg D s n1 us cr dead c) ch O ∨ (chg = [chB, chR] ∧ Back (gS O nm chg D s n1 us cr dead c) ch D) := by
  obtain ⟨p, hp⟩ : ∃ p, pickN ch 0 chg.length = p := ⟨_, rfl⟩
  have hle := pickN_le ch 0 chg.length
  rw [hp] at hle
  have hr := rest0_names (gS O nm chg D s n1 us cr dead c) ch p hp
  have hd := F2_small (n1 := n1) h1 h2 hs
  have hl : chg.length ≤ 2 := by rcases hc with rfl | ⟨rfl, _⟩ <;> decide
  have hr : (rest0 (gS O nm chg D s n1 us cr dead c) ch).names = (chg.take p).foldl (fun l c => c.app l) [(nmA, 1)] := hr
  match p, hle, hr with
  | 0, _, hr => exact .inl (back_a (b := n1) (hr.trans (by rw [List.take_zero]; rfl)) rfl (by show 1 ≤ 2; omega) hd)
  | 1, _, hr => exact .inl (back_b (b := n1) (hr.trans (by rcases hc with rfl | ⟨rfl, _⟩ <;> rfl)) rfl (Nat.le_refl _) hd)
  | 2, hle, hr =>
    rcases hc with rfl | ⟨rfl, rfl⟩
    · simp at hle
    · exact .inr ⟨rfl, back_c (b := true) (hr.trans rfl) rfl (Nat.le_refl _) hd⟩
  | p + 3, hle, _ => omega
theorem back_good {O X : List Nat} {cr : Int} {c : Nat} (ch : List Int) (h1 : O.length ≤ 1000) (h2 : X.length ≤ 1000) : Back (gE O X cr c) ch X := by
  refine back_c (b := true) ?_ rfl (Nat.le_refl _) (fun n => ?_)
  · have e : (gE O X cr c).chg = [] := rfl
    unfold rest0 settleS
    rw [e, List.take_nil]
    rfl
  · show (if n = 1 then FileS.mk [] O.length false else if n = 2 then FileS.mk X X.length true else FileS.mk [] 0 false).data.length ≤ 1000 ∧ (if n = 1 then FileS.mk [] O.length false else if n = 2 then FileS.mk X X.length true else FileS.mk [] 0 false).safe ≤ 1000
    by_cases e : n = 1
    · rw [if_pos e]; exact ⟨Nat.zero_le _, h1⟩
    · rw [if_neg e]
      by_cases e2 : n = 2
      · rw [if_pos e2]; exact ⟨h2, h2⟩
      · rw [if_neg e2]; exact ⟨by decide, by decide⟩
theorem e_fine {O X : List Nat} {cr : Int} {c : Nat} (_h1 : O.length ≤ 1000) (h2 : X.length ≤ 1000) (c0 : -1 ≤ cr) (c1 : cr ≤ 9223372036854775807) (hc : c ≤ 1000) : Fine (gE O X cr c) := by
  refine ⟨by show 2 ≤ _; omega, by show (0 : Int) ≤ 100000; omega, by show (100000 : Int) ≤ _; omega, by show (0 : Int) ≤ (O.length : Int) + X.length - O.length; omega, by show (O.length : Int) + X.length - O.length ≤ _; omega, c0, c1, by show (-1 : Int) ≤ -1; omega, by show (-1 : Int) ≤ _; omega, by show c ≤ _; omega, by show 0 ≤ _; omega, by show 1 ≤ _; omega, by show 1 ≤ _; omega, ?_, ?_, ?_, ?_⟩
  · intro n h3 h4
    have : n ≤ 2 := h4
    rcases (by omega : n = 1 ∨ n = 2) with rfl | rfl
    · show 0 ≤ _; omega
    · show X.length ≤ _; omega
  · intro p hp
    have hp : p ∈ [(nmA, 2)] := hp
    simp at hp; subst hp; exact ⟨by decide, Nat.le_refl _⟩
  · intro p hp
    have hp : p ∈ [(nmA, 2)] := hp
    simp at hp; subst hp; exact ⟨by decide, Nat.le_refl _⟩
  · intro d hd
    exact nomatch (show d ∈ ([] : List Chg) from hd)

theorem crN_le {cr : Int} (h : -1 ≤ cr) (h2 : cr ≤ 9223372036854775807) : -1 ≤ crN cr ∧ crN cr ≤ 9223372036854775807 := by
  unfold crN; split <;> omega
theorem cN_le (cr : Int) (c : Nat) : cN cr c ≤ c + 1 := by unfold cN; split <;> omega

def Bad (O X : List Nat) (S : DS) : Prop := S.dead = true ∧ Fine S ∧ ∀ ch, Back S ch O ∨ Back S ch X
def Good (X : List Nat) (S : DS) : Prop := Fine S ∧ ∀ ch, Back S ch X
theorem code_cases (cr : Int) : (cr = 0 ∧ codeN cr = 9 ∧ deadN cr = true) ∨ (cr ≠ 0 ∧ codeN cr = 0 ∧ deadN cr = false) := by
  by_cases h : cr = 0
  · exact .inl ⟨h, by unfold codeN; rw [if_pos h], decide_eq_true h⟩
  · exact .inr ⟨h, by unfold codeN; rw [if_neg h], decide_eq_false h⟩

/-- the five calls, and where they end -/
theorem swap_plan {O X : List Nat} {cr : Int} (h1 : O.length ≤ 60) (h2 : X.length ≤ 60) (c0 : -1 ≤ cr) (c1 : cr ≤ 9223372036854775807) : ∃ (S1 S2 S3 S4 S5 : DS) (r1 r2 r3 r4 r5 : Int),
    (createC (q0S O cr) nmB = r1 ∧ createS (q0S O cr) nmB = S1) ∧
    (r1 = 0 → appendC S1 nmB X = r2 ∧ appendS S1 nmB X = S2 ∧ Fine S1) ∧
    (r1 = 0 → r2 = 0 → syncC S2 nmB = r3 ∧ syncS S2 nmB = S3 ∧ Fine S2) ∧
    (r1 = 0 → r2 = 0 → r3 = 0 → renameC S3 nmB nmA = r4 ∧ renameS S3 nmB nmA = S4 ∧ Fine S3) ∧
    (r1 = 0 → r2 = 0 → r3 = 0 → r4 = 0 → syncNamesC S4 = r5 ∧ syncNamesS S4 = S5 ∧ Fine S4 ∧ RelsOk S4) ∧
    ((r1 = 9 ∧ Bad O X S1) ∨ (r1 = 0 ∧ r2 = 9 ∧ Bad O X S2) ∨ (r1 = 0 ∧ r2 = 0 ∧ r3 = 9 ∧ Bad O X S3) ∨ (r1 = 0 ∧ r2 = 0 ∧ r3 = 0 ∧ r4 = 9 ∧ Bad O X S4) ∨ (r1 = 0 ∧ r2 = 0 ∧ r3 = 0 ∧ r4 = 0 ∧ r5 = 9 ∧ Bad O X S5) ∨ (r1 = 0 ∧ r2 = 0 ∧ r3 = 0 ∧ r4 = 0 ∧ r5 = 0 ∧ Good X S5)) := by
  obtain ⟨q1, eq1⟩ : ∃ q, q = crN cr := ⟨_, rfl⟩
  obtain ⟨q2, eq2⟩ : ∃ q, q = crN q1 := ⟨_, rfl⟩
  obtain ⟨q3, eq3⟩ : ∃ q, q = crN q2 := ⟨_, rfl⟩
  obtain ⟨q4, eq4⟩ : ∃ q, q = crN q3 := ⟨_, rfl⟩
  obtain ⟨q5, eq5⟩ : ∃ q, q = crN q4 := ⟨_, rfl⟩
  obtain ⟨m1, em1⟩ : ∃ m, m = cN cr 4 := ⟨_, rfl⟩
  obtain ⟨m2, em2⟩ : ∃ m, m = cN q1 m1 := ⟨_, rfl⟩
  obtain ⟨m3, em3⟩ : ∃ m, m = cN q2 m2 := ⟨_, rfl⟩
  obtain ⟨m4, em4⟩ : ∃ m, m = cN q3 m3 := ⟨_, rfl⟩
  have b1 := crN_le c0 c1
  rw [← eq1] at b1
  have b2 := crN_le b1.1 b1.2
  rw [← eq2] at b2
  have b3 := crN_le b2.1 b2.2
  rw [← eq3] at b3
  have b4 := crN_le b3.1 b3.2
  rw [← eq4] at b4
  have b5 := crN_le b4.1 b4.2
  rw [← eq5] at b5
  have n1 := cN_le cr 4
  have n2 := cN_le q1 m1
  have n3 := cN_le q2 m2
  have n4 := cN_le q3 m3
  rw [← em1] at n1
  rw [← em2] at n2
  rw [← em3] at n3
  rw [← em4] at n4
  have g1 := g_create O cr
  rw [← em1, ← eq1] at g1
  have g2 := g_append O X q1 m1 (by omega)
  rw [← em2, ← eq2] at g2
  have g3 := g_sync O X q2 ((O.length : Int) + X.length) m2
  rw [← em3, ← eq3] at g3
  have g4 := g_rename O X q3 ((O.length : Int) + X.length) X.length m3
  rw [← em4, ← eq4] at g4
  have g5 := g_names O X q4 ((O.length : Int) + X.length) X.length m4
  rw [← eq5] at g5
  have f1 : ∀ d, Fine (gS O nBA [chB] [] 0 true O.length q1 d m1) := fun d => g_fine (by omega) (by decide) (.inl rfl) (.inl rfl) b1.1 b1.2 (by omega) (by omega)
  have f2 : ∀ d, Fine (gS O nBA [chB] X 0 true (O.length + X.length) q2 d m2) := fun d => g_fine (by omega) (by omega) (.inl rfl) (.inl rfl) b2.1 b2.2 (by omega) (by omega)
  have f3 : ∀ d s, Fine (gS O nBA [chB] X s true (O.length + X.length) q3 d m3) := fun d s => g_fine (by omega) (by omega) (.inl rfl) (.inl rfl) b3.1 b3.2 (by omega) (by omega)
  have f4 : ∀ d q c, -1 ≤ q → q ≤ 9223372036854775807 → c ≤ 1000 → Fine (gS O [(nmA, 2)] [chB, chR] X X.length false (O.length + X.length) q d c) := fun d q c h3 h4 hc => g_fine (by omega) (by omega) (.inr rfl) (.inr rfl) h3 h4 (by omega) hc
  have old : ∀ {S : DS} {ch : List Int} {Y : List Nat} {p : Prop}, (Back S ch O ∨ (p ∧ Back S ch Y)) → Y = X ∨ ¬ p → Back S ch O ∨ Back S ch X := fun h hy => by
    rcases h with h | ⟨a, b⟩
    · exact .inl h
    · rcases hy with rfl | hy
      · exact .inr b
      · exact absurd a hy
  have no : ¬ [chB] = [chB, chR] := fun e => by simp at e
  have nine : ¬ (9 : Int) = 0 := by decide
  rcases code_cases cr with ⟨e, k, d⟩ | ⟨e, k, d⟩ <;> rw [k, d] at g1
  · exact ⟨_, q0S O cr, q0S O cr, q0S O cr, q0S O cr, _, 0, 0, 0, 0, g1, fun h => absurd h nine, fun h => absurd h nine, fun h => absurd h nine, fun h => absurd h nine, .inl ⟨rfl, rfl, f1 _, fun ch => old (back_bad ch (by omega) (by decide) (by omega) (.inl rfl)) (.inr no)⟩⟩
  rcases code_cases q1 with ⟨e, k, d⟩ | ⟨e, k, d⟩ <;> rw [k, d] at g2
  · exact ⟨_, _, q0S O cr, q0S O cr, q0S O cr, _, _, 0, 0, 0, g1, fun _ => ⟨g2.1, g2.2, f1 _⟩, fun _ h => absurd h nine, fun _ h => absurd h nine, fun _ h => absurd h nine, .inr (.inl ⟨rfl, rfl, rfl, f2 _, fun ch => old (back_bad ch (by omega) (by omega) (by omega) (.inl rfl)) (.inl rfl)⟩)⟩
  rcases code_cases q2 with ⟨e, k, d⟩ | ⟨e, k, d⟩ <;> rw [k, d] at g3
  · exact ⟨_, _, _, q0S O cr, q0S O cr, _, _, _, 0, 0, g1, fun _ => ⟨g2.1, g2.2, f1 _⟩, fun _ _ => ⟨g3.1, g3.2, f2 _⟩, fun _ _ h => absurd h nine, fun _ _ h => absurd h nine, .inr (.inr (.inl ⟨rfl, rfl, rfl, rfl, f3 _ _, fun ch => old (back_bad ch (by omega) (by omega) (by split <;> omega) (.inl rfl)) (.inl rfl)⟩))⟩
  rw [if_neg e] at g3
  rcases code_cases q3 with ⟨e, k, d⟩ | ⟨e, k, d⟩ <;> rw [k, d] at g4
  · exact ⟨_, _, _, _, q0S O cr, _, _, _, _, 0, g1, fun _ => ⟨g2.1, g2.2, f1 _⟩, fun _ _ => ⟨g3.1, g3.2, f2 _⟩, fun _ _ _ => ⟨g4.1, g4.2, f3 _ _⟩, fun _ _ _ h => absurd h nine, .inr (.inr (.inr (.inl ⟨rfl, rfl, rfl, rfl, rfl, f4 _ _ _ b4.1 b4.2 (by omega), fun ch => old (back_bad ch (by omega) (by omega) (by omega) (.inr ⟨rfl, rfl⟩)) (.inl rfl)⟩)))⟩
  have rl := g_rels (O := O) (X := X) (cr := q4) (s := X.length) (c := m4) (by omega) (by omega) rfl
  rcases code_cases q4 with ⟨e, k, d⟩ | ⟨e, k, d⟩ <;> rw [k] at g5
  · exact ⟨_, _, _, _, _, _, _, _, _, _, g1, fun _ => ⟨g2.1, g2.2, f1 _⟩, fun _ _ => ⟨g3.1, g3.2, f2 _⟩, fun _ _ _ => ⟨g4.1, g4.2, f3 _ _⟩, fun _ _ _ _ => ⟨g5.1, g5.2.1 e, f4 _ _ _ b4.1 b4.2 (by omega), rl⟩, .inr (.inr (.inr (.inr (.inl ⟨rfl, rfl, rfl, rfl, rfl, rfl, f4 _ _ _ (by omega) (by omega) (by omega), fun ch => old (back_bad ch (by omega) (by omega) (by omega) (.inr ⟨rfl, rfl⟩)) (.inl rfl)⟩))))⟩
  · exact ⟨_, _, _, _, _, _, _, _, _, _, g1, fun _ => ⟨g2.1, g2.2, f1 _⟩, fun _ _ => ⟨g3.1, g3.2, f2 _⟩, fun _ _ _ => ⟨g4.1, g4.2, f3 _ _⟩, fun _ _ _ _ => ⟨g5.1, g5.2.2 e rfl rfl, f4 _ _ _ b4.1 b4.2 (by omega), rl⟩, .inr (.inr (.inr (.inr (.inr ⟨rfl, rfl, rfl, rfl, rfl, e_fine (by omega) (by omega) b5.1 b5.2 (by omega), fun ch => back_good ch (by omega) (by omega)⟩))))⟩

set_option maxRecDepth 100000 in
set_option maxHeartbeats 4000000 in
theorem diskSwap_walk (old new : ByteArray) (v : Value) (choice : List Int) (crash : Int) (w : World) (hv : IntsIn w v choice) (hc1 : -9223372036854775808 ≤ crash) (hc2 : crash ≤ 9223372036854775807) :
    Calls Try.prog 6 #[.string old, .string new, v, .int .i64 crash] w fun e w' => e = .returned (.bool true) ∧ Below w.heap.size w w' := by
  have F := t_facts
  simp only [Bool.and_eq_true] at F
  obtain ⟨⟨f0, f1⟩, _⟩ := F
  obtain ⟨c1, _⟩ := t_codes
  obtain ⟨A, hA⟩ : ∃ A, A = old.extract 0 60 := ⟨_, rfl⟩
  obtain ⟨N, hN⟩ : ∃ N, N = new.extract 0 60 := ⟨_, rfl⟩
  have hA6 : A.size ≤ 60 := by rw [hA]; exact ext_size _ _
  have hN6 : N.size ≤ 60 := by rw [hN]; exact ext_size _ _
  have cA : ∀ W, Calls Try.prog 12 #[.string old, .int .i64 60] W fun e w' => e = .returned (.string A) ∧ W = w' := fun W => by rw [hA]; exact cut_any old 60 W
  have cB : ∀ W, Calls Try.prog 12 #[.string new, .int .i64 60] W fun e w' => e = .returned (.string N) ∧ W = w' := fun W => by rw [hN]; exact cut_any new 60 W
  have lA : (sb A).length = A.size := sb_length A
  have lN : (sb N).length = N.size := sb_length N
  have cn : ∀ W, Calls Try.prog 7 #[.int .i64 100000] W fun e w' => ∃ b, e = .returned (.pointer (some ⟨b, 0, none⟩)) ∧ HasD w' b W.heap.size t0S ∧ Below W.heap.size W w' := fun W => new_h 100000 W (by omega) (by omega)
  have k1 : ∀ b w1, HasD w1 b w.heap.size t0S → Calls Try.prog 13 #[.pointer (some ⟨b, 0, none⟩), .string ⟨#[97]⟩] w1 (HasP b w.heap.size w1 (.int .i64 0) t1S) := fun b w1 h => by
    have := create_h b _ t0S nmA w1 h (Fine.of f0) (by unfold maxLen; decide)
    rw [c1] at this; exact this
  have k2 : ∀ b w1, HasD w1 b w.heap.size t1S → Calls Try.prog 14 #[.pointer (some ⟨b, 0, none⟩), .string ⟨#[97]⟩, .string A] w1 (HasP b w.heap.size w1 (.int .i64 0) (p0S (sb A) 0 2)) := fun b w1 h => by
    have := append_h b _ t1S nmA A w1 h (Fine.of f1) (by unfold maxLen; decide) (by omega)
    obtain ⟨t1, t2⟩ := p_append (x := sb A) (by omega)
    rw [t1, t2] at this; exact this
  have k3 : ∀ b w1, HasD w1 b w.heap.size (p0S (sb A) 0 2) → Calls Try.prog 15 #[.pointer (some ⟨b, 0, none⟩), .string ⟨#[97]⟩] w1 (HasP b w.heap.size w1 (.int .i64 0) (p0S (sb A) (sb A).length 3)) := fun b w1 h => by
    have := sync_h b _ (p0S (sb A) 0 2) nmA w1 h (p_fine (by omega) (by omega)) (by unfold maxLen; decide)
    obtain ⟨t1, t2⟩ := p_sync (sb A) 0 2
    rw [t1, t2] at this; exact this
  have k4 : ∀ b w1, HasD w1 b w.heap.size (p0S (sb A) (sb A).length 3) → Calls Try.prog 16 #[.pointer (some ⟨b, 0, none⟩)] w1 (HasP b w.heap.size w1 (.int .i64 0) (tS (sb A) (sb A).length 4)) := fun b w1 h => by
    have := syncNames_h b _ (p0S (sb A) (sb A).length 3) w1 h (p_fine (by omega) (by omega)) (p_rels (by omega))
    obtain ⟨t1, t2⟩ := p_names (sb A) (sb A).length 3
    rw [t1, t2] at this; exact this
  have k5 : ∀ b w1, HasD w1 b w.heap.size (tS (sb A) (sb A).length 4) → Calls Try.prog 20 #[.pointer (some ⟨b, 0, none⟩), .int .i64 crash] w1 (HasP b w.heap.size w1 (.tuple #[]) (q0S (sb A) (max crash (-1)))) := fun b w1 h => crash_h b _ _ crash w1 h
  have fq := q_fine (O := sb A) (cr := max crash (-1)) (by omega) (by omega) (by omega)
  obtain ⟨S1, S2, S3, S4, S5, r1, r2, r3, r4, r5, ⟨p1, p1'⟩, p2, p3, p4, p5, pc⟩ := swap_plan (O := sb A) (X := sb N) (cr := max crash (-1)) (by omega) (by omega) (by omega) (by omega)
  have k6 : ∀ b w1, HasD w1 b w.heap.size (q0S (sb A) (max crash (-1))) → Calls Try.prog 13 #[.pointer (some ⟨b, 0, none⟩), .string ⟨#[98]⟩] w1 (HasP b w.heap.size w1 (.int .i64 r1) S1) := fun b w1 h => by
    have := create_h b _ _ nmB w1 h fq (by unfold maxLen; decide)
    rw [p1, p1'] at this; exact this
  have k7 : r1 = 0 → ∀ b w1, HasD w1 b w.heap.size S1 → Calls Try.prog 14 #[.pointer (some ⟨b, 0, none⟩), .string ⟨#[98]⟩, .string N] w1 (HasP b w.heap.size w1 (.int .i64 r2) S2) := fun e1 b w1 h => by
    obtain ⟨t1, t2, t3⟩ := p2 e1
    have := append_h b _ S1 nmB N w1 h t3 (by unfold maxLen; decide) (by omega)
    rw [t1, t2] at this; exact this
  have k8 : r1 = 0 → r2 = 0 → ∀ b w1, HasD w1 b w.heap.size S2 → Calls Try.prog 15 #[.pointer (some ⟨b, 0, none⟩), .string ⟨#[98]⟩] w1 (HasP b w.heap.size w1 (.int .i64 r3) S3) := fun e1 e2 b w1 h => by
    obtain ⟨t1, t2, t3⟩ := p3 e1 e2
    have := sync_h b _ S2 nmB w1 h t3 (by unfold maxLen; decide)
    rw [t1, t2] at this; exact this
  have k9 : r1 = 0 → r2 = 0 → r3 = 0 → ∀ b w1, HasD w1 b w.heap.size S3 → Calls Try.prog 18 #[.pointer (some ⟨b, 0, none⟩), .string ⟨#[98]⟩, .string ⟨#[97]⟩] w1 (HasP b w.heap.size w1 (.int .i64 r4) S4) := fun e1 e2 e3 b w1 h => by
    obtain ⟨t1, t2, t3⟩ := p4 e1 e2 e3
    have := rename_h b _ S3 nmB nmA w1 h t3 (by unfold maxLen; decide) (by unfold maxLen; decide)
    rw [t1, t2] at this; exact this
  have k10 : r1 = 0 → r2 = 0 → r3 = 0 → r4 = 0 → ∀ b w1, HasD w1 b w.heap.size S4 → Calls Try.prog 16 #[.pointer (some ⟨b, 0, none⟩)] w1 (HasP b w.heap.size w1 (.int .i64 r5) S5) := fun e1 e2 e3 e4 b w1 h => by
    obtain ⟨t1, t2, t3, t4⟩ := p5 e1 e2 e3 e4
    have := syncNames_h b _ S4 w1 h t3 t4
    rw [t1, t2] at this; exact this
  have ka : ∀ b w1 (Z : DS), Fine Z → RestOk Z choice → HasD w1 b w.heap.size Z → Below w.heap.size w w1 → Calls Try.prog 21 #[.pointer (some ⟨b, 0, none⟩), v] w1 (HasP b w.heap.size w1 (.tuple #[]) (restartI Z choice)) := fun b w1 Z hf hr h hb =>
    restart_h b _ Z v choice w1 w1 h (Below.refl _ _) hf hr (hv.keep hb.size fun k hk hl => hb.block k hl) (fun k h0 hk => .inl (by
      obtain ⟨b', off, c', e', hl, _⟩ := hv.cells h0
      rw [e'] at hk
      cases hk
      exact hl))
  have kb : ∀ b w1 (Z : DS) D, Back Z choice D → HasD w1 b w.heap.size (restartI Z choice) → Calls Try.prog 22 #[.pointer (some ⟨b, 0, none⟩), .string ⟨#[97]⟩] w1 fun e w' => e = .returned (.tuple #[.string (bs D), .int .i64 0]) ∧ w1 = w' := fun b w1 Z D hk h => by
    have := read_h b _ (restartI Z choice) nmA w1 h hk.ref (by unfold maxLen; decide)
    rw [hk.code, hk.data] at this; exact this
  have kd : ∀ b w1 (Z : DS), Z.dead = true → HasD w1 b w.heap.size Z → Calls Try.prog 23 #[.pointer (some ⟨b, 0, none⟩)] w1 fun e w' => e = .returned (.bool true) ∧ w1 = w' := fun b w1 Z hz h => by
    have := dead_h b _ Z w1 h
    rw [hz] at this; exact this
  have ca := fun W => awake5 W
  have bA : bs (sb A) = A := bs_list A
  have bN : bs (sb N) = N := bs_list N
  -- behind the restart
  have fin : ∀ b w1 (Z : DS) D, Fine Z → Back Z choice (sb D) → HasD w1 b w.heap.size Z → Below w.heap.size w w1 → Calls Try.prog 21 #[.pointer (some ⟨b, 0, none⟩), v] w1 fun e w2 => e = .returned (.tuple #[]) ∧ Below w.heap.size w w2 ∧ Box (Calls Try.prog 22 #[.pointer (some ⟨b, 0, none⟩), .string ⟨#[97]⟩] w2 fun e w' => e = .returned (.tuple #[.string D, .int .i64 0]) ∧ w2 = w') := fun b w1 Z D hf hk h hb =>
    (ka b w1 Z hf hk.ok h hb).mono fun e w2 ⟨he, hd, hb2⟩ => ⟨he, hb.trans hb2, ⟨by
      have := kb b w2 Z (sb D) hk hd
      rw [bs_list D] at this; exact this⟩⟩
  have CA := Box.mk cA; have CB := Box.mk cB; have CN := Box.mk cn; have K1 := Box.mk k1; have K2 := Box.mk k2; have K3 := Box.mk k3; have K4 := Box.mk k4; have K5 := Box.mk k5; have K6 := Box.mk k6; have K7 := Box.mk k7; have K8 := Box.mk k8; have K9 := Box.mk k9; have K10 := Box.mk k10; have KD := Box.mk kd; have FI := Box.mk fin; have AW := Box.mk ca; have PC := Box.mk pc
  clear f0 f1 c1 cA cB cn k1 k2 k3 k4 k5 k6 k7 k8 k9 k10 ka kb kd fin ca pc p1 p1' p2 p3 p4 p5 fq bA bN lA lN hA6 hN6 hA hN
  have bad : ∀ Z, Bad (sb A) (sb N) Z → Z.dead = true ∧ Fine Z ∧ ∃ D, (D = A ∨ D = N) ∧ Back Z choice (sb D) := fun Z h => ⟨h.1, h.2.1, by
    rcases h.2.2 choice with h | h
    · exact ⟨A, .inl rfl, h⟩
    · exact ⟨N, .inr rfl, h⟩⟩
  have BAD := Box.mk bad
  clear bad
  obtain ⟨q0, cap0, hve⟩ := hv.val
  obtain ⟨n, hn⟩ : ∃ n, n = choice.length := ⟨_, rfl⟩
  rw [← hn] at hve
  clear hn hv
  subst hve
  rcases PC.out with ⟨rfl, hZ⟩ | ⟨rfl, rfl, hZ⟩ | ⟨rfl, rfl, rfl, hZ⟩ | ⟨rfl, rfl, rfl, rfl, hZ⟩ | ⟨rfl, rfl, rfl, rfl, rfl, hZ⟩ | ⟨rfl, rfl, rfl, rfl, rfl, hZ⟩
  all_goals clear PC
  case inr.inr.inr.inr.inr =>
    have G1 : Box (Fine S5 ∧ Back S5 choice (sb N)) := ⟨⟨hZ.1, hZ.2 choice⟩⟩
    clear hZ BAD KD
    go_enter Try.func6, Try.ntmps6
    go_wp2_with (first
      | (go_at_call 12; ((with_reducible refine (CA.out _).mono ?_); rintro e w' ⟨rfl, rfl⟩; clear CA))
      | (go_at_call 12; ((with_reducible refine (CB.out _).mono ?_); rintro e w' ⟨rfl, rfl⟩; clear CB))
      | (go_at_call 7; ((with_reducible refine (CN.out _).mono ?_); rintro e w1 ⟨b, rfl, d, bb⟩; have BB1 := Box.mk bb; have D1 := Box.mk d; clear d bb CN))
      | (go_at_call 13; ((with_reducible refine (K1.out b _ D1.out).mono ?_); rintro e w2 ⟨rfl, d, bb⟩; have BB2 := Box.mk (BB1.out.trans bb); have D2 := Box.mk d; clear d bb BB1 D1 K1))
      | (go_at_call 14; ((with_reducible refine (K2.out b _ D2.out).mono ?_); rintro e w3 ⟨rfl, d, bb⟩; have BB3 := Box.mk (BB2.out.trans bb); have D3 := Box.mk d; clear d bb BB2 D2 K2))
      | (go_at_call 15; ((with_reducible refine (K3.out b _ D3.out).mono ?_); rintro e w4 ⟨rfl, d, bb⟩; have BB4 := Box.mk (BB3.out.trans bb); have D4 := Box.mk d; clear d bb BB3 D3 K3))
      | (go_at_call 16; ((with_reducible refine (K4.out b _ D4.out).mono ?_); rintro e w5 ⟨rfl, d, bb⟩; have BB5 := Box.mk (BB4.out.trans bb); have D5 := Box.mk d; clear d bb BB4 D4 K4))
      | (go_at_call 20; ((with_reducible refine (K5.out b _ D5.out).mono ?_); rintro e w6 ⟨rfl, d, bb⟩; have BB6 := Box.mk (BB5.out.trans bb); have D6 := Box.mk d; clear d bb BB5 D5 K5))
      | (go_at_call 13; ((with_reducible refine (K6.out b _ D6.out).mono ?_); rintro e w7 ⟨rfl, d, bb⟩; have BB7 := Box.mk (BB6.out.trans bb); have D7 := Box.mk d; clear d bb BB6 D6 K6))
      | (go_at_call 14; ((with_reducible refine (K7.out trivial b _ D7.out).mono ?_); rintro e w8 ⟨rfl, d, bb⟩; have BB8 := Box.mk (BB7.out.trans bb); have D8 := Box.mk d; clear d bb BB7 D7 K7))
      | (go_at_call 15; ((with_reducible refine (K8.out trivial trivial b _ D8.out).mono ?_); rintro e w9 ⟨rfl, d, bb⟩; have BB9 := Box.mk (BB8.out.trans bb); have D9 := Box.mk d; clear d bb BB8 D8 K8))
      | (go_at_call 18; ((with_reducible refine (K9.out trivial trivial trivial b _ D9.out).mono ?_); rintro e w10 ⟨rfl, d, bb⟩; have BB10 := Box.mk (BB9.out.trans bb); have D10 := Box.mk d; clear d bb BB9 D9 K9))
      | (go_at_call 16; ((with_reducible refine (K10.out trivial trivial trivial trivial b _ D10.out).mono ?_); rintro e w11 ⟨rfl, d, bb⟩; have BB11 := Box.mk (BB10.out.trans bb); have D11 := Box.mk d; clear d bb BB10 D10 K10))
      | (go_at_call 21; ((with_reducible refine (FI.out b _ _ N G1.out.1 G1.out.2 D11.out BB11.out).mono ?_); rintro e w12 ⟨rfl, bb, rr⟩; have BBR := Box.mk bb; have RR := Box.mk rr; clear bb rr D11 FI))
      | (go_at_call 22; ((with_reducible refine (RR.out.out).mono ?_); rintro e w13 ⟨rfl, rfl⟩; clear RR))
      | (go_at_call 9; ((with_reducible refine (AW.out _).mono ?_); rintro e w14 ⟨rfl, bb⟩; have BBA := Box.mk (BBR.out.trans (bb.mono BBR.out.size)); clear bb)))
    go_ret
    exact ⟨rfl, BBA.out⟩
  all_goals
    obtain ⟨z1, z2, D, hD, z3⟩ := BAD.out _ hZ
    have G1 := Box.mk (And.intro z1 (And.intro z2 z3))
    have HD := Box.mk hD
    clear hZ BAD z1 z2 hD z3
    go_enter Try.func6, Try.ntmps6
    go_wp2_with (first
      | (go_at_call 12; ((with_reducible refine (CA.out _).mono ?_); rintro e w' ⟨rfl, rfl⟩; clear CA))
      | (go_at_call 12; ((with_reducible refine (CB.out _).mono ?_); rintro e w' ⟨rfl, rfl⟩; clear CB))
      | (go_at_call 7; ((with_reducible refine (CN.out _).mono ?_); rintro e w1 ⟨b, rfl, d, bb⟩; have BB1 := Box.mk bb; have D1 := Box.mk d; clear d bb CN))
      | (go_at_call 13; ((with_reducible refine (K1.out b _ D1.out).mono ?_); rintro e w2 ⟨rfl, d, bb⟩; have BB2 := Box.mk (BB1.out.trans bb); have D2 := Box.mk d; clear d bb BB1 D1 K1))
      | (go_at_call 14; ((with_reducible refine (K2.out b _ D2.out).mono ?_); rintro e w3 ⟨rfl, d, bb⟩; have BB3 := Box.mk (BB2.out.trans bb); have D3 := Box.mk d; clear d bb BB2 D2 K2))
      | (go_at_call 15; ((with_reducible refine (K3.out b _ D3.out).mono ?_); rintro e w4 ⟨rfl, d, bb⟩; have BB4 := Box.mk (BB3.out.trans bb); have D4 := Box.mk d; clear d bb BB3 D3 K3))
      | (go_at_call 16; ((with_reducible refine (K4.out b _ D4.out).mono ?_); rintro e w5 ⟨rfl, d, bb⟩; have BB5 := Box.mk (BB4.out.trans bb); have D5 := Box.mk d; clear d bb BB4 D4 K4))
      | (go_at_call 20; ((with_reducible refine (K5.out b _ D5.out).mono ?_); rintro e w6 ⟨rfl, d, bb⟩; have BB6 := Box.mk (BB5.out.trans bb); have D6 := Box.mk d; clear d bb BB5 D5 K5))
      | (go_at_call 13; ((with_reducible refine (K6.out b _ D6.out).mono ?_); rintro e w7 ⟨rfl, d, bb⟩; have BB7 := Box.mk (BB6.out.trans bb); have D7 := Box.mk d; clear d bb BB6 D6 K6))
      | (go_at_call 14; ((with_reducible refine (K7.out trivial b _ D7.out).mono ?_); rintro e w8 ⟨rfl, d, bb⟩; have BB8 := Box.mk (BB7.out.trans bb); have D8 := Box.mk d; clear d bb BB7 D7 K7))
      | (go_at_call 15; ((with_reducible refine (K8.out trivial trivial b _ D8.out).mono ?_); rintro e w9 ⟨rfl, d, bb⟩; have BB9 := Box.mk (BB8.out.trans bb); have D9 := Box.mk d; clear d bb BB8 D8 K8))
      | (go_at_call 18; ((with_reducible refine (K9.out trivial trivial trivial b _ D9.out).mono ?_); rintro e w10 ⟨rfl, d, bb⟩; have BB10 := Box.mk (BB9.out.trans bb); have D10 := Box.mk d; clear d bb BB9 D9 K9))
      | (go_at_call 16; ((with_reducible refine (K10.out trivial trivial trivial trivial b _ D10.out).mono ?_); rintro e w11 ⟨rfl, d, bb⟩; have BB11 := Box.mk (BB10.out.trans bb); have D11 := Box.mk d; clear d bb BB10 D10 K10))
      | (go_at_call 23; ((with_reducible refine (KD.out b _ _ G1.out.1 D7.out).mono ?_); rintro e w' ⟨rfl, rfl⟩; clear KD))
      | (go_at_call 23; ((with_reducible refine (KD.out b _ _ G1.out.1 D8.out).mono ?_); rintro e w' ⟨rfl, rfl⟩; clear KD))
      | (go_at_call 23; ((with_reducible refine (KD.out b _ _ G1.out.1 D9.out).mono ?_); rintro e w' ⟨rfl, rfl⟩; clear KD))
      | (go_at_call 23; ((with_reducible refine (KD.out b _ _ G1.out.1 D10.out).mono ?_); rintro e w' ⟨rfl, rfl⟩; clear KD))
      | (go_at_call 23; ((with_reducible refine (KD.out b _ _ G1.out.1 D11.out).mono ?_); rintro e w' ⟨rfl, rfl⟩; clear KD))
      | (go_at_call 21; ((with_reducible refine (FI.out b _ _ D G1.out.2.1 G1.out.2.2 D7.out BB7.out).mono ?_); rintro e w12 ⟨rfl, bb, rr⟩; have BBR := Box.mk bb; have RR := Box.mk rr; clear bb rr D7 FI))
      | (go_at_call 21; ((with_reducible refine (FI.out b _ _ D G1.out.2.1 G1.out.2.2 D8.out BB8.out).mono ?_); rintro e w12 ⟨rfl, bb, rr⟩; have BBR := Box.mk bb; have RR := Box.mk rr; clear bb rr D8 FI))
      | (go_at_call 21; ((with_reducible refine (FI.out b _ _ D G1.out.2.1 G1.out.2.2 D9.out BB9.out).mono ?_); rintro e w12 ⟨rfl, bb, rr⟩; have BBR := Box.mk bb; have RR := Box.mk rr; clear bb rr D9 FI))
      | (go_at_call 21; ((with_reducible refine (FI.out b _ _ D G1.out.2.1 G1.out.2.2 D10.out BB10.out).mono ?_); rintro e w12 ⟨rfl, bb, rr⟩; have BBR := Box.mk bb; have RR := Box.mk rr; clear bb rr D10 FI))
      | (go_at_call 21; ((with_reducible refine (FI.out b _ _ D G1.out.2.1 G1.out.2.2 D11.out BB11.out).mono ?_); rintro e w12 ⟨rfl, bb, rr⟩; have BBR := Box.mk bb; have RR := Box.mk rr; clear bb rr D11 FI))
      | (go_at_call 22; ((with_reducible refine (RR.out.out).mono ?_); rintro e w13 ⟨rfl, rfl⟩; clear RR))
      | (go_at_call 9; ((with_reducible refine (AW.out _).mono ?_); rintro e w14 ⟨rfl, bb⟩; have BBA := Box.mk (BBR.out.trans (bb.mono BBR.out.size)); clear bb)))
    all_goals go_ret
    all_goals first
      | exact ⟨rfl, BBA.out⟩
      | (refine ⟨congrArg Ending.returned (congrArg Value.bool (?_ : (D.toList == N.toList || D.toList == A.toList) = true)), BBA.out⟩; rcases HD.out with e | e <;> simp [e])

end Go.Proofs.Ytalinhjalnndhaa
