/- CkpM, CkpS, in one text. -/
import Derived.Test.YtdffpbfllekcgaaGreatDoorHt
namespace Go.Proofs.YtdffpbfllekcgaaGreatDoor
set_option maxRecDepth 100000
open Go.RowKit M

def nmS : ByteArray := ⟨#[115, 116, 111, 114, 101]⟩
def nmF : ByteArray := ⟨#[115, 116, 111, 114, 101, 45, 110, 101, 119]⟩
theorem nmSF : nmS ≠ nmF := by decide
theorem nmFS : nmF ≠ nmS := by decide
theorem nmS0 : nmS ≠ ⟨#[]⟩ := by decide
theorem nmF0 : nmF ≠ ⟨#[]⟩ := by decide
theorem nmS_len : nmS.size ≤ maxLen := by unfold maxLen; decide
theorem nmF_len : nmF.size ≤ maxLen := by unfold maxLen; decide

def entC : Option Nat → Option Nat → KL
  | none, none => []
  | some n, none => [(nmS, n)]
  | none, some m => [(nmF, m)]
  | some n, some m => [(nmS, n), (nmF, m)]
theorem entC_keys (s f : Option Nat) : ((entC s f).map (·.1)).Nodup := by
  cases s <;> cases f <;> simp [entC, nmSF]
theorem entC_vals {s f : Option Nat} (h : ∀ n, s = some n → f ≠ some n) : ((entC s f).map (·.2)).Nodup := by
  cases s with
  | none => cases f <;> simp [entC]
  | some n =>
    cases f with
    | none => simp [entC]
    | some m => have := h n rfl; simp [entC]; intro e; exact this (by rw [e])
theorem kget_S {l : KL} {s f : Option Nat} (h : l.Perm (entC s f)) : kget l nmS = s := by
  have hn := ((h.map (·.1)).nodup_iff.2 (entC_keys s f))
  cases s with
  | some n => exact kget_mem hn (h.mem_iff.2 (by cases f <;> simp [entC]))
  | none =>
    refine kget_none.2 fun n hm => ?_
    have := h.mem_iff.1 hm
    cases f <;> simp [entC, nmSF] at this
theorem kget_F {l : KL} {s f : Option Nat} (h : l.Perm (entC s f)) : kget l nmF = f := by
  have hn := ((h.map (·.1)).nodup_iff.2 (entC_keys s f))
  cases f with
  | some n => exact kget_mem hn (h.mem_iff.2 (by cases s <;> simp [entC]))
  | none =>
    refine kget_none.2 fun n hm => ?_
    have := h.mem_iff.1 hm
    cases s <;> simp [entC, nmFS] at this
theorem kget_0 {l : KL} {s f : Option Nat} (h : l.Perm (entC s f)) : kget l ⟨#[]⟩ = none := by
  refine kget_none.2 fun n hm => ?_
  have := h.mem_iff.1 hm
  have a := nmS0.symm; have b := nmF0.symm
  cases s <;> cases f <;> simp [entC, a, b] at this
theorem kdel_F {l : KL} {s f : Option Nat} (h : l.Perm (entC s f)) : (kdel l nmF).Perm (entC s none) := by
  have h1 : (kdel l nmF).Perm (kdel (entC s f) nmF) := h.filter _
  have e : kdel (entC s f) nmF = entC s none := by
    have a : (nmS == nmF) = false := (ba_bne _ _).2 nmSF
    have b : (nmF == nmF) = true := ba_self _
    cases s <;> cases f <;> simp [entC, kdel, a, b]
  rw [e] at h1; exact h1
theorem kdel_0 {l : KL} {s f : Option Nat} (h : l.Perm (entC s f)) : kdel l ⟨#[]⟩ = l := kdel_absent (kget_0 h)
theorem kput_F {l : KL} {s : Option Nat} (h : l.Perm (entC s none)) (m : Nat) : (kput l nmF m).Perm (entC s (some m)) := by
  unfold kput
  rw [kdel_absent (kget_F h)]
  cases s with
  | none => exact List.Perm.cons _ h
  | some n => exact (List.Perm.cons _ h).trans (List.Perm.swap _ _ _)
theorem kput_S {l : KL} {s : Option Nat} (h : l.Perm (entC s none)) (m : Nat) : (kput l nmS m).Perm (entC (some m) none) := by
  unfold kput
  have h1 : (kdel l nmS).Perm (kdel (entC s none) nmS) := h.filter _
  have e : kdel (entC s none) nmS = [] := by
    have b : (nmS == nmS) = true := ba_self _
    cases s <;> simp [entC, kdel, b]
  rw [e] at h1
  exact List.Perm.cons _ h1

/-- what one view of the names says: P of what the table's file holds -/
structure ViewC (S : DS) (P : Option (List Nat) → Prop) (s f : Option Nat) : Prop where
  what : P (s.map fun n => (S.file n).data)
  st : ∀ n, s = some n → n ≤ S.made ∧ (S.file n).safe = (S.file n).data.length ∧ f ≠ some n
  fr : ∀ n, f = some n → n ≤ S.made
/-- behind any crash -/
def CInv (S : DS) (P : Option (List Nat) → Prop) : Prop := ∀ j, j ≤ S.chg.length → ∃ s f, (foldP S j).Perm (entC s f) ∧ ViewC S P s f
/-- now -/
structure CNow (S : DS) (s f : Option Nat) : Prop where
  names : S.names.Perm (entC s f)
  last : (foldP S S.chg.length).Perm (entC s f)
  named : ∀ n, s = some n → (S.file n).named = true
theorem entC_inj {l : KL} {s f s' f' : Option Nat} (h : l.Perm (entC s f)) (h' : l.Perm (entC s' f')) : s = s' ∧ f = f' :=
  ⟨(kget_S h).symm.trans (kget_S h'), (kget_F h).symm.trans (kget_F h')⟩
theorem CInv.at {S : DS} {P : Option (List Nat) → Prop} (h : CInv S P) {s f : Option Nat} (n : CNow S s f) : ViewC S P s f := by
  obtain ⟨s', f', a, b⟩ := h S.chg.length (Nat.le_refl _)
  obtain ⟨rfl, rfl⟩ := entC_inj a n.last
  exact b
theorem ViewC.mono {S : DS} {P Q : Option (List Nat) → Prop} {s f : Option Nat} (h : ViewC S P s f) (k : ∀ x, P x → Q x) : ViewC S Q s f := ⟨k _ h.what, h.st, h.fr⟩
theorem CInv.mono {S : DS} {P Q : Option (List Nat) → Prop} (h : CInv S P) (k : ∀ x, P x → Q x) : CInv S Q := fun j hj => by
  obtain ⟨s, f, a, b⟩ := h j hj
  exact ⟨s, f, a, b.mono k⟩

/-- the table's file is another one in every view -/
def Clear (S : DS) (m : Nat) : Prop := ∀ j, j ≤ S.chg.length → kget (foldP S j) nmS ≠ some m
/-- only switches differ -/
structure SameC (S S' : DS) : Prop where
  names : S'.names = S.names
  safe : S'.safe = S.safe
  chg : S'.chg = S.chg
  made : S'.made = S.made
  file : S'.file = S.file
theorem SameC.refl (S : DS) : SameC S S := ⟨rfl, rfl, rfl, rfl, rfl⟩
theorem sameC_begin (S : DS) : SameC S (beginS S) := by
  unfold beginS
  split
  · exact ⟨rfl, rfl, rfl, rfl, rfl⟩
  · split <;> exact ⟨rfl, rfl, rfl, rfl, rfl⟩
theorem SameC.fold {S S' : DS} (k : SameC S S') (j : Nat) : foldP S' j = foldP S j := by unfold foldP; rw [k.safe, k.chg]
theorem CInv.same {S S' : DS} {P : Option (List Nat) → Prop} (h : CInv S P) (k : SameC S S') : CInv S' P := fun j hj => by
  rw [k.chg] at hj
  obtain ⟨s, f, a, b⟩ := h j hj
  exact ⟨s, f, by rw [k.fold]; exact a, by rw [k.file]; exact b.what, by rw [k.file, k.made]; exact b.st, by rw [k.made]; exact b.fr⟩
theorem CNow.same {S S' : DS} {s f : Option Nat} (h : CNow S s f) (k : SameC S S') : CNow S' s f :=
  ⟨by rw [k.names]; exact h.names, by rw [k.fold, k.chg]; exact h.last, by rw [k.file]; exact h.named⟩
theorem Clear.same {S S' : DS} {m : Nat} (h : Clear S m) (k : SameC S S') : Clear S' m := fun j hj => by
  rw [k.chg] at hj
  rw [k.fold]; exact h j hj

/-- one file changes that is not the table's -/
theorem CInv.touch {S S' : DS} {P : Option (List Nat) → Prop} {m : Nat} (h : CInv S P) (hc : Clear S m) (e1 : S'.safe = S.safe) (e2 : S'.chg = S.chg) (e3 : S'.made = S.made) (e4 : ∀ i, i ≠ m → S'.file i = S.file i) : CInv S' P := fun j hj => by
  rw [e2] at hj
  obtain ⟨s, f, a, b⟩ := h j hj
  have ef : foldP S' j = foldP S j := by unfold foldP; rw [e1, e2]
  have hs : ∀ n, s = some n → S'.file n = S.file n := fun n hn => e4 n (fun e => hc j hj (by rw [kget_S a, hn, e]))
  refine ⟨s, f, by rw [ef]; exact a, ?_, fun n hn => by rw [hs n hn, e3]; exact b.st n hn, fun n hn => by rw [e3]; exact b.fr n hn⟩
  have := b.what
  cases s with
  | none => exact this
  | some n => show P (some (S'.file n).data); rw [hs n rfl]; exact this
theorem CNow.touch {S S' : DS} {s f : Option Nat} (h : CNow S s f) (e0 : S'.names = S.names) (e1 : S'.safe = S.safe) (e2 : S'.chg = S.chg) (e4 : ∀ i, (S'.file i).named = (S.file i).named) : CNow S' s f := by
  have ef : foldP S' S'.chg.length = foldP S S.chg.length := by unfold foldP; rw [e1, e2]
  exact ⟨by rw [e0]; exact h.names, by rw [ef]; exact h.last, fun n hn => by rw [e4]; exact h.named n hn⟩
theorem Clear.touch {S S' : DS} {m : Nat} (h : Clear S m) (e1 : S'.safe = S.safe) (e2 : S'.chg = S.chg) : Clear S' m := fun j hj => by
  rw [e2] at hj
  have ef : foldP S' j = foldP S j := by unfold foldP; rw [e1, e2]
  rw [ef]; exact h j hj

/-- one more change of names -/
theorem CInv.snoc {S S' : DS} {P : Option (List Nat) → Prop} {c : Chg} {s f : Option Nat} (h : CInv S P) (e1 : S'.safe = S.safe) (e2 : S'.chg = S.chg ++ [c]) (e3 : S.made ≤ S'.made) (e4 : ∀ i, i ≤ S.made → (S'.file i).data = (S.file i).data ∧ (S'.file i).safe = (S.file i).safe)
    (hl : (c.app (foldP S S.chg.length)).Perm (entC s f)) (hv : ViewC S' P s f) : CInv S' P ∧ (foldP S' S'.chg.length).Perm (entC s f) := by
  obtain ⟨fp, fpl⟩ := foldP_snoc e1 e2
  refine ⟨fun j hj => ?_, by rw [fpl]; exact hl⟩
  rcases Nat.lt_or_ge S.chg.length j with hlt | hg
  · have e : j = S'.chg.length := by rw [e2, List.length_append] at hj ⊢; simp only [List.length_singleton] at hj ⊢; omega
    rw [e, fpl]
    exact ⟨s, f, hl, hv⟩
  · obtain ⟨s', f', a, b⟩ := h j hg
    refine ⟨s', f', by rw [fp j hg]; exact a, ?_, fun n hn => ?_, fun n hn => Nat.le_trans (b.fr n hn) e3⟩
    · have := b.what
      cases s' with
      | none => exact this
      | some n => show P (some (S'.file n).data); rw [(e4 n (b.st n rfl).1).1]; exact this
    · obtain ⟨b1, b2, b3⟩ := b.st n hn
      obtain ⟨x, y⟩ := e4 n b1
      exact ⟨Nat.le_trans b1 e3, by rw [x, y]; exact b2, b3⟩

/-! ### the calls -/
def cleanC (S : DS) : Int := if removeC S nmF = 5 then 0 else removeC S nmF
def cleanS (S : DS) : DS := removeS S nmF

theorem inv_clean {S : DS} {P : Option (List Nat) → Prop} {s f : Option Nat} (h : CInv S P) (n : CNow S s f) :
    CInv (cleanS S) P ∧ ∃ f', CNow (cleanS S) s f' ∧ (cleanC S = 0 → f' = none) := by
  have hf := kget_F n.names
  unfold cleanC removeC cleanS removeS findC findN
  rw [hf]
  by_cases hd : S.dead = true
  · rw [if_pos hd, if_pos hd]
    exact ⟨h, f, n, fun e => by simp at e⟩
  · rw [if_neg hd, if_neg hd]
    cases f with
    | none => exact ⟨h, none, n, fun _ => rfl⟩
    | some m =>
      show CInv (if beginC S = 8 then beginS S else renS (beginS S) nmF ⟨#[]⟩ m) P ∧ _
      have hb := h.same (sameC_begin S)
      have nb := n.same (sameC_begin S)
      by_cases h8 : beginC S = 8
      · rw [if_pos h8]
        refine ⟨hb, some m, by show CNow (if beginC S = 8 then _ else _) _ _; rw [if_pos h8]; exact nb, fun e => ?_⟩
        exfalso
        revert e
        simp [h8]
      · rw [if_neg h8]
        have v := h.at n
        have he : kget (beginS S).names ⟨#[]⟩ = none := kget_0 nb.names
        have fl := gone_file (beginS S) nmF m he
        have em : (renS (beginS S) nmF ⟨#[]⟩ m).made = (beginS S).made := (ren_same _ _ _ _).1
        have es : (renS (beginS S) nmF ⟨#[]⟩ m).safe = (beginS S).safe := (ren_same _ _ _ _).2.2.2.2.2.2.1
        have ec : (renS (beginS S) nmF ⟨#[]⟩ m).chg = (beginS S).chg ++ [⟨nmF, ⟨#[]⟩, m, kget (beginS S).names ⟨#[]⟩⟩] := rfl
        have en : (renS (beginS S) nmF ⟨#[]⟩ m).names = (⟨nmF, ⟨#[]⟩, m, kget (beginS S).names ⟨#[]⟩⟩ : Chg).app (beginS S).names := rfl
        have vb := hb.at nb
        have dat : ∀ i, ((renS (beginS S) nmF ⟨#[]⟩ m).file i).data = ((beginS S).file i).data ∧ ((renS (beginS S) nmF ⟨#[]⟩ m).file i).safe = ((beginS S).file i).safe := fun i => by
          rw [fl]
          by_cases e : i = m
          · rw [if_pos e, e]; exact ⟨rfl, rfl⟩
          · rw [if_neg e]; exact ⟨rfl, rfl⟩
        have ap : ∀ l : KL, l.Perm (entC s (some m)) → ((⟨nmF, ⟨#[]⟩, m, kget (beginS S).names ⟨#[]⟩⟩ : Chg).app l).Perm (entC s none) := fun l hl => by
          unfold Chg.app; rw [if_pos (by rfl)]; exact kdel_F hl
        have vv : ViewC (renS (beginS S) nmF ⟨#[]⟩ m) P s none := by
          refine ⟨?_, fun n hn => ?_, fun n hn => by cases hn⟩
          · have := vb.what
            cases s with
            | none => exact this
            | some i => show P (some ((renS (beginS S) nmF ⟨#[]⟩ m).file i).data); rw [(dat i).1]; exact this
          · obtain ⟨b1, b2, b3⟩ := vb.st n hn
            exact ⟨by rw [em]; exact b1, by rw [(dat n).1, (dat n).2]; exact b2, by simp⟩
        obtain ⟨i1, i2⟩ := hb.snoc es ec (Nat.le_of_eq em.symm) (fun i _ => dat i) (ap _ nb.last) vv
        refine ⟨i1, none, ?_, fun _ => rfl⟩
        show CNow (if beginC S = 8 then _ else _) _ _
        rw [if_neg h8]
        refine ⟨by rw [en]; exact ap _ nb.names, i2, fun n hn => ?_⟩
        rw [fl, if_neg (fun e => (vb.st n hn).2.2 (by rw [e]))]
        exact nb.named n hn

theorem inv_fresh {S : DS} {P : Option (List Nat) → Prop} {s : Option Nat} (h : CInv S P) (n : CNow S s none) :
    CInv (createS S nmF) P ∧ ∃ f', CNow (createS S nmF) s f' ∧ (createC S nmF = 0 → ∃ m, f' = some m ∧ (createS S nmF).file m = ⟨[], 0, true⟩ ∧ Clear (createS S nmF) m) := by
  have hf := kget_F n.names
  unfold createC createS
  rw [hf]
  by_cases hd : S.dead = true
  · rw [if_pos hd, if_pos hd]
    exact ⟨h, none, n, fun e => by simp at e⟩
  · rw [if_neg hd, if_neg hd, if_neg (show ¬ nmF.size = 0 by decide), if_neg (show ¬ nmF.size = 0 by decide), if_neg (show ¬ (none : Option Nat).isSome = true by decide), if_neg (show ¬ (none : Option Nat).isSome = true by decide)]
    have hb := h.same (sameC_begin S)
    have nb := n.same (sameC_begin S)
    by_cases h8 : beginC S = 8
    · rw [if_pos h8]
      exact ⟨hb, none, nb, fun e => by rw [h8] at e; cases e⟩
    · rw [if_neg h8]
      have he : kget (beginS S).names nmF = none := kget_F nb.names
      obtain ⟨Z, hZ⟩ : ∃ Z, Z = beginS S := ⟨_, rfl⟩
      rw [← hZ] at hb nb he ⊢
      have fl := new_file Z nmF he (by decide)
      have em : (newF Z nmF).made = Z.made + 1 := (ren_same _ _ _ _).1
      have es : (newF Z nmF).safe = Z.safe := (ren_same _ _ _ _).2.2.2.2.2.2.1
      have ec : (newF Z nmF).chg = Z.chg ++ [⟨⟨#[]⟩, nmF, Z.made + 1, kget Z.names nmF⟩] := rfl
      have en : (newF Z nmF).names = (⟨⟨#[]⟩, nmF, Z.made + 1, kget Z.names nmF⟩ : Chg).app Z.names := rfl
      have vb := hb.at nb
      have dat : ∀ i, i ≤ Z.made → (newF Z nmF).file i = Z.file i := fun i hi => by rw [fl, if_neg (by omega)]
      have ap : ∀ l : KL, l.Perm (entC s none) → ((⟨⟨#[]⟩, nmF, Z.made + 1, kget Z.names nmF⟩ : Chg).app l).Perm (entC s (some (Z.made + 1))) := fun l hl => by
        unfold Chg.app; rw [if_neg (show ¬ nmF.size = 0 by decide)]
        show (kput (kdel l ⟨#[]⟩) nmF (Z.made + 1)).Perm _
        rw [kdel_0 hl]; exact kput_F hl _
      have vv : ViewC (newF Z nmF) P s (some (Z.made + 1)) := by
        refine ⟨?_, fun n hn => ?_, fun n hn => by obtain rfl := Option.some.inj hn; rw [em]; exact Nat.le_refl _⟩
        · have := vb.what
          cases s with
          | none => exact this
          | some i => show P (some ((newF Z nmF).file i).data); rw [dat i (vb.st i rfl).1]; exact this
        · obtain ⟨b1, b2, b3⟩ := vb.st n hn
          exact ⟨by rw [em]; omega, by rw [dat n b1]; exact b2, fun e => by have := Option.some.inj e; omega⟩
      obtain ⟨i1, i2⟩ := hb.snoc es ec (by rw [em]; omega) (fun i hi => by rw [dat i hi]; exact ⟨rfl, rfl⟩) (ap _ nb.last) vv
      refine ⟨i1, some (Z.made + 1), ⟨by rw [en]; exact ap _ nb.names, i2, fun n hn => ?_⟩, fun _ => ⟨_, rfl, by rw [fl, if_pos rfl], fun j hj e => ?_⟩⟩
      · rw [dat n (vb.st n hn).1]; exact nb.named n hn
      · obtain ⟨fp, fpl⟩ := foldP_snoc es ec
        rcases Nat.lt_or_ge Z.chg.length j with hlt | hg
        · have ej : j = (newF Z nmF).chg.length := by rw [ec, List.length_append] at hj ⊢; simp only [List.length_singleton] at hj ⊢; omega
          rw [ej, kget_S i2] at e
          have := (vb.st _ e).1
          omega
        · obtain ⟨s', f', a, b⟩ := hb j hg
          rw [fp j hg, kget_S a] at e
          have := (b.st _ e).1
          omega

theorem inv_write {S : DS} {P : Option (List Nat) → Prop} {s : Option Nat} {m : Nat} (D : List Nat) (h : CInv S P) (n : CNow S s (some m)) (hc : Clear S m) (h0 : (S.file m).data = [] ∧ (S.file m).safe = 0) :
    CInv (appendS S nmF D) P ∧ CNow (appendS S nmF D) s (some m) ∧ Clear (appendS S nmF D) m ∧ (appendC S nmF D = 0 → ((appendS S nmF D).file m).data = D ∧ ((appendS S nmF D).file m).safe = 0) := by
  have hf := kget_F n.names
  unfold appendC appendS findC findN
  rw [hf]
  by_cases hd : S.dead = true
  · rw [if_pos hd, if_pos hd]
    exact ⟨h, n, hc, fun e => by simp at e⟩
  · rw [if_neg hd, if_neg hd]
    show CInv (if S.free < D.length then S else if beginC S = 8 then beginS S else appF (beginS S) m D) P ∧ CNow (if S.free < D.length then S else if beginC S = 8 then beginS S else appF (beginS S) m D) _ _ ∧ Clear (if S.free < D.length then S else if beginC S = 8 then beginS S else appF (beginS S) m D) m ∧ ((if S.free < D.length then (7 : Int) else beginC S) = 0 → ((if S.free < D.length then S else if beginC S = 8 then beginS S else appF (beginS S) m D).file m).data = D ∧ ((if S.free < D.length then S else if beginC S = 8 then beginS S else appF (beginS S) m D).file m).safe = 0)
    by_cases hr : S.free < (D.length : Int)
    · rw [if_pos hr, if_pos hr]
      exact ⟨h, n, hc, fun e => by simp at e⟩
    · rw [if_neg hr, if_neg hr]
      have hb := h.same (sameC_begin S)
      have nb := n.same (sameC_begin S)
      have cb := hc.same (sameC_begin S)
      have fe := (sameC_begin S).file
      by_cases h8 : beginC S = 8
      · rw [if_pos h8]
        exact ⟨hb, nb, cb, fun e => by rw [h8] at e; cases e⟩
      · rw [if_neg h8]
        have fl : ∀ i, i ≠ m → (appF (beginS S) m D).file i = (beginS S).file i := fun i hi => if_neg hi
        have fm : (appF (beginS S) m D).file m = { (beginS S).file m with data := ((beginS S).file m).data ++ D } := if_pos rfl
        refine ⟨hb.touch cb rfl rfl rfl fl, nb.touch rfl rfl rfl (fun i => ?_), cb.touch rfl rfl, fun _ => ?_⟩
        · by_cases e : i = m
          · rw [e, fm]
          · rw [fl i e]
        · rw [fm, fe]
          exact ⟨by show (S.file m).data ++ D = D; rw [h0.1]; rfl, h0.2⟩

theorem inv_sync {S : DS} {P : Option (List Nat) → Prop} {s : Option Nat} {m : Nat} (h : CInv S P) (n : CNow S s (some m)) (hc : Clear S m) :
    CInv (syncS S nmF) P ∧ CNow (syncS S nmF) s (some m) ∧ Clear (syncS S nmF) m ∧ (syncC S nmF = 0 → ((syncS S nmF).file m).data = (S.file m).data ∧ ((syncS S nmF).file m).safe = (S.file m).data.length) := by
  have hf := kget_F n.names
  unfold syncC syncS findC findN
  rw [hf]
  by_cases hd : S.dead = true
  · rw [if_pos hd, if_pos hd]
    exact ⟨h, n, hc, fun e => by simp at e⟩
  · rw [if_neg hd, if_neg hd]
    have hb := h.same (sameC_begin S)
    have nb := n.same (sameC_begin S)
    have cb := hc.same (sameC_begin S)
    have fe := (sameC_begin S).file
    show CInv (if beginC S = 0 then syncF (beginS S) m else beginS S) P ∧ CNow (if beginC S = 0 then syncF (beginS S) m else beginS S) _ _ ∧ Clear (if beginC S = 0 then syncF (beginS S) m else beginS S) m ∧ (beginC S = 0 → ((if beginC S = 0 then syncF (beginS S) m else beginS S).file m).data = (S.file m).data ∧ ((if beginC S = 0 then syncF (beginS S) m else beginS S).file m).safe = (S.file m).data.length)
    by_cases h8 : beginC S = 0
    · rw [if_pos h8]
      have fl : ∀ i, i ≠ m → (syncF (beginS S) m).file i = (beginS S).file i := fun i hi => if_neg hi
      have fm : (syncF (beginS S) m).file m = { (beginS S).file m with safe := ((beginS S).file m).data.length } := if_pos rfl
      refine ⟨hb.touch cb rfl rfl rfl fl, nb.touch rfl rfl rfl (fun i => ?_), cb.touch rfl rfl, fun _ => ?_⟩
      · by_cases e : i = m
        · rw [e, fm]
        · rw [fl i e]
      · rw [fm, fe]
        exact ⟨rfl, rfl⟩
    · rw [if_neg h8]
      exact ⟨hb, nb, cb, fun e => absurd e h8⟩

theorem ren_files (S : DS) (src dst : ByteArray) (f i : Nat) : ((renS S src dst f).file i).data = (S.file i).data ∧ ((renS S src dst f).file i).safe = (S.file i).safe := by
  obtain ⟨nm, e⟩ := ren_file S src dst f i
  rw [e]; exact ⟨rfl, rfl⟩
theorem ren_named (S : DS) (src dst : ByteArray) (f : Nat) (h : dst.size ≠ 0) : ((renS S src dst f).file f).named = true := by
  unfold renS
  show ((((S.unname (kget S.names dst)).setF f _)).file f).named = true
  show (if f = f then ({ (S.unname (kget S.names dst)).file f with named := decide (dst.size ≠ 0) } : FileS) else (S.unname (kget S.names dst)).file f).named = true
  rw [if_pos rfl]
  exact decide_eq_true h

theorem inv_rename {S : DS} {P : Option (List Nat) → Prop} {s : Option Nat} {m : Nat} {D : List Nat} (h : CInv S P) (n : CNow S s (some m)) (h0 : (S.file m).data = D ∧ (S.file m).safe = D.length) :
    CInv (renameS S nmF nmS) (fun x => P x ∨ x = some D) ∧ ∃ s' f', CNow (renameS S nmF nmS) s' f' ∧ (renameC S nmF nmS = 0 → s' = some m ∧ ((renameS S nmF nmS).file m).data = D) := by
  have hf := kget_F n.names
  have hn : ¬ (nmS.size = 0 ∨ nmS = nmF) := by decide
  unfold renameC renameS findC findN
  rw [hf]
  by_cases hd : S.dead = true
  · rw [if_pos hd, if_pos hd]
    exact ⟨h.mono fun _ => .inl, s, some m, n, fun e => by simp at e⟩
  · rw [if_neg hd, if_neg hd]
    have hb := h.same (sameC_begin S)
    have nb := n.same (sameC_begin S)
    have fe := (sameC_begin S).file
    show CInv (if nmS.size = 0 ∨ nmS = nmF then S else if beginC S = 8 then beginS S else renS (beginS S) nmF nmS m) (fun x => P x ∨ x = some D) ∧ ∃ s' f', CNow (if nmS.size = 0 ∨ nmS = nmF then S else if beginC S = 8 then beginS S else renS (beginS S) nmF nmS m) s' f' ∧ ((if nmS.size = 0 ∨ nmS = nmF then (1 : Int) else beginC S) = 0 → s' = some m ∧ ((if nmS.size = 0 ∨ nmS = nmF then S else if beginC S = 8 then beginS S else renS (beginS S) nmF nmS m).file m).data = D)
    rw [if_neg hn, if_neg hn]
    by_cases h8 : beginC S = 8
    · rw [if_pos h8]
      exact ⟨hb.mono fun _ => .inl, s, some m, nb, fun e => by rw [h8] at e; cases e⟩
    · rw [if_neg h8]
      obtain ⟨Z, hZ⟩ : ∃ Z, Z = beginS S := ⟨_, rfl⟩
      rw [← hZ] at hb nb fe ⊢
      have em : (renS Z nmF nmS m).made = Z.made := (ren_same _ _ _ _).1
      have es : (renS Z nmF nmS m).safe = Z.safe := (ren_same _ _ _ _).2.2.2.2.2.2.1
      have ec : (renS Z nmF nmS m).chg = Z.chg ++ [⟨nmF, nmS, m, kget Z.names nmS⟩] := rfl
      have en : (renS Z nmF nmS m).names = (⟨nmF, nmS, m, kget Z.names nmS⟩ : Chg).app Z.names := rfl
      have vb := hb.at nb
      have dat := ren_files Z nmF nmS m
      have ap : ∀ l : KL, l.Perm (entC s (some m)) → ((⟨nmF, nmS, m, kget Z.names nmS⟩ : Chg).app l).Perm (entC (some m) none) := fun l hl => by
        unfold Chg.app; rw [if_neg (show ¬ nmS.size = 0 by decide)]
        exact kput_S (kdel_F hl) m
      have hm : ((renS Z nmF nmS m).file m).data = D := by rw [(dat m).1, fe]; exact h0.1
      have vv : ViewC (renS Z nmF nmS m) (fun x => P x ∨ x = some D) (some m) none := by
        refine ⟨.inr ?_, fun n hn => ?_, fun n hn => by cases hn⟩
        · show some ((renS Z nmF nmS m).file m).data = _; rw [hm]
        · obtain rfl := Option.some.inj hn
          refine ⟨by rw [em]; exact vb.fr m rfl, ?_, by simp⟩
          rw [hm, (dat m).2, fe]; exact h0.2
      obtain ⟨i1, i2⟩ := (hb.mono (Q := fun x => P x ∨ x = some D) fun _ => .inl).snoc es ec (Nat.le_of_eq em.symm) (fun i _ => dat i) (ap _ nb.last) vv
      refine ⟨i1, some m, none, ⟨by rw [en]; exact ap _ nb.names, i2, fun n hn => ?_⟩, fun _ => ⟨rfl, hm⟩⟩
      obtain rfl := Option.some.inj hn
      exact ren_named Z nmF nmS m (by decide)

theorem relC_named (S : DS) (c : Chg) (i : Nat) (h : (S.file i).named = true) : (relC S c).file i = S.file i := by
  unfold relC relO
  split
  · rw [relF_named _ _ _ (by rw [relF_named _ _ _ h]; exact h), relF_named _ _ _ h]
  · exact relF_named _ _ _ h
theorem relF_same (S : DS) (n : Nat) : (relF S n).safe = S.safe ∧ (relF S n).chg = S.chg ∧ (relF S n).names = S.names ∧ (relF S n).made = S.made := by
  unfold relF; split <;> exact ⟨rfl, rfl, rfl, rfl⟩
theorem relC_same (S : DS) (c : Chg) : (relC S c).safe = S.safe ∧ (relC S c).chg = S.chg ∧ (relC S c).names = S.names ∧ (relC S c).made = S.made := by
  unfold relC relO
  obtain ⟨a, b, c', d⟩ := relF_same S c.file
  split
  · rename_i g _
    obtain ⟨a', b', c'', d'⟩ := relF_same (relF S c.file) g
    exact ⟨a'.trans a, b'.trans b, c''.trans c', d'.trans d⟩
  · exact ⟨a, b, c', d⟩
theorem crelAll_keeps (l : List Chg) : ∀ (S : DS), (∀ i, (S.file i).named = true → (relAll S l).file i = S.file i) ∧ (relAll S l).safe = S.safe ∧ (relAll S l).chg = S.chg ∧ (relAll S l).names = S.names ∧ (relAll S l).made = S.made := by
  induction l with
  | nil => intro S; exact ⟨fun _ _ => rfl, rfl, rfl, rfl, rfl⟩
  | cons c l ih =>
    intro S
    obtain ⟨a, b, d, e, f⟩ := ih (relC S c)
    obtain ⟨b', d', e', f'⟩ := relC_same S c
    refine ⟨fun i hi => ?_, b.trans b', d.trans d', e.trans e', f.trans f'⟩
    have := relC_named S c i hi
    show (relAll (relC S c) l).file i = _
    rw [a i (by rw [this]; exact hi), this]

theorem inv_fixed {S : DS} {P : Option (List Nat) → Prop} {s f : Option Nat} (h : CInv S P) (n : CNow S s f) :
    CInv (syncNamesS S) P ∧ CNow (syncNamesS S) s f ∧ (syncNamesC S = 0 → CInv (syncNamesS S) (fun x => x = s.map fun n => (S.file n).data)) := by
  unfold syncNamesC syncNamesS
  by_cases hd : S.dead = true
  · rw [if_pos hd, if_pos hd]
    exact ⟨h, n, fun e => by simp at e⟩
  · rw [if_neg hd, if_neg hd]
    have hb := h.same (sameC_begin S)
    have nb := n.same (sameC_begin S)
    have fe := (sameC_begin S).file
    have ce := (sameC_begin S).chg
    by_cases h8 : beginC S = 0
    · rw [if_pos h8]
      obtain ⟨Z, hZ⟩ : ∃ Z, Z = relAll (beginS S) S.chg := ⟨_, rfl⟩
      obtain ⟨k1, k2, k3, k4, k5⟩ := crelAll_keeps S.chg (beginS S)
      rw [← hZ] at k1 k2 k3 k4 k5 ⊢
      have vb := hb.at nb
      have e1 : (settleS Z S.chg.length).safe = foldP (beginS S) (beginS S).chg.length := by
        show (Z.chg.take S.chg.length).foldl _ Z.safe = _
        unfold foldP
        rw [k2, k3, ce]
      have e2 : (settleS Z S.chg.length).chg = [] := rfl
      have e3 : (settleS Z S.chg.length).names = (beginS S).names := k4
      have e4 : (settleS Z S.chg.length).made = (beginS S).made := k5
      have e5 : ∀ i, s = some i → (settleS Z S.chg.length).file i = (beginS S).file i := fun i hi => k1 i (nb.named i hi)
      have e6 : ∀ j, foldP (settleS Z S.chg.length) j = foldP (beginS S) (beginS S).chg.length := fun j => by
        unfold foldP at e1 ⊢; rw [e2, List.take_nil]; exact e1
      have hw : ∀ Q : Option (List Nat) → Prop, Q (s.map fun n => (S.file n).data) → CInv (settleS Z S.chg.length) Q := fun Q hQ j _ => by
        refine ⟨s, f, by rw [e6]; exact nb.last, ?_, fun i hi => ?_, fun i hi => by rw [e4]; exact vb.fr i hi⟩
        · cases s with
          | none => exact hQ
          | some i => show Q (some ((settleS Z S.chg.length).file i).data); rw [e5 i rfl, fe]; exact hQ
        · obtain ⟨b1, b2, b3⟩ := vb.st i hi
          exact ⟨by rw [e4]; exact b1, by rw [e5 i hi]; exact b2, b3⟩
      exact ⟨hw P (h.at n).what, ⟨by rw [e3]; exact nb.names, by rw [e6]; exact nb.last, fun i hi => by rw [e5 i hi]; exact nb.named i hi⟩, fun _ => hw _ rfl⟩
    · rw [if_neg h8]
      exact ⟨hb, nb, fun e => absurd e h8⟩

theorem inv_again {S : DS} {P : Option (List Nat) → Prop} (h : CInv S P) (ch : List Int) : CInv (restartI S ch) P ∧ ∃ s f, CNow (restartI S ch) s f := by
  obtain ⟨p, hp⟩ : ∃ p, p = pickN ch 0 S.chg.length := ⟨_, rfl⟩
  have ple : p ≤ S.chg.length := by rw [hp]; exact pickN_le _ _ _
  obtain ⟨s, f, a, b⟩ := h p ple
  have hd : ((foldP S p).map (·.2)).Nodup := (a.map (·.2)).nodup_iff.2 (entC_vals fun n hn => (b.st n hn).2.2)
  rw [hp] at hd
  obtain ⟨a1, a2, a3, a4, a5, _⟩ := restart_spec S ch hd
  rw [← hp] at a1 a2 a5
  have fp : ∀ i, foldP (restartI S ch) i = foldP S p := fun i => by unfold foldP; rw [a3, List.take_nil]; exact a2
  have old : ∀ n, s = some n → ((restartI S ch).file n).data = (S.file n).data ∧ ((restartI S ch).file n).safe = (S.file n).data.length ∧ ((restartI S ch).file n).named = true := fun n hn => by
    obtain ⟨m, m1, m2, m3, m4⟩ := a5 (nmS, n) (a.mem_iff.2 (by rw [hn]; cases f <;> simp [entC]))
    obtain ⟨b1, b2, b3⟩ := b.st n hn
    have e : ((restartI S ch).file n).data = (S.file n).data := by
      have m1 : ((restartI S ch).file n).data = (S.file n).data.take m := m1
      have m2 : (S.file n).safe ≤ m := m2
      rw [m1, List.take_of_length_le (by omega)]
    exact ⟨e, by have m3 : ((restartI S ch).file n).safe = ((restartI S ch).file n).data.length := m3; rw [m3, e], m4⟩
  have v : ViewC (restartI S ch) P s f := by
    refine ⟨?_, fun n hn => ?_, fun n hn => by rw [a4]; exact b.fr n hn⟩
    · have := b.what
      cases s with
      | none => exact this
      | some n => show P (some ((restartI S ch).file n).data); rw [(old n rfl).1]; exact this
    · obtain ⟨b1, b2, b3⟩ := b.st n hn
      obtain ⟨o1, o2, o3⟩ := old n hn
      exact ⟨by rw [a4]; exact b1, by rw [o1, o2], b3⟩
  exact ⟨fun j _ => ⟨s, f, by rw [fp]; exact a, v⟩, s, f, by rw [a1]; exact a, by rw [fp]; exact a, fun n hn => (old n hn).2.2⟩
theorem inv_new (room : Int) (P : Option (List Nat) → Prop) (h : P none) : CInv (newS room) P ∧ CNow (newS room) none none :=
  ⟨fun j hj => by
    obtain rfl : j = 0 := Nat.le_zero.1 hj
    exact ⟨none, none, List.Perm.refl _, ⟨h, fun n hn => (by cases hn), fun n hn => (by cases hn)⟩⟩, List.Perm.refl _, List.Perm.refl _, fun n hn => (by cases hn)⟩
end Go.Proofs.YtdffpbfllekcgaaGreatDoor
namespace Go.Proofs.YtdffpbfllekcgaaGreatDoor
set_option maxRecDepth 100000
open Go.RowKit M

theorem SzC.appF' {S : DS} {C : Nat → Bool} {k c : Nat} (h : SzC S C k c) {n : Nat} (s : List Nat) (j : Nat) (hn : RefC S C n) (hs : s.length ≤ 100 * j) : SzC (Proofs.YtdffpbfllekcgaaGreatDoor.appF S n s) C (k + j) c := by
  obtain ⟨h1, h2, h3⟩ := hn
  have sm := sumC_set C S.file ⟨(S.file n).data ++ s, (S.file n).safe, (S.file n).named⟩ S.made n h1 h2 h3
  simp only [List.length_append] at sm
  have e := h.used
  have hnm := h.names; have hsc := h.sc; have hm := h.made; have hu := h.used1
  have d1 := h.data n
  have d2 := h.dsafe n
  refine ⟨h.room0, h.room1, h.crash0, h.crash1, h.fail0, h.fail1, by show S.made ≤ _; omega, h.calls, by show S.names.length ≤ _; omega, by show S.safe.length + S.chg.length ≤ _; omega, fun i => ?_, fun i => ?_, by show S.used + (s.length : Int) ≤ _; omega, ?_, h.nref, h.sref, h.cref⟩
  · show (if i = n then (⟨(S.file n).data ++ s, (S.file n).safe, (S.file n).named⟩ : FileS) else S.file i).data.length ≤ _
    by_cases e : i = n
    · rw [if_pos e]
      show ((S.file n).data ++ s).length ≤ _
      rw [List.length_append]; omega
    · rw [if_neg e]; have := h.data i; omega
  · show (if i = n then (⟨(S.file n).data ++ s, (S.file n).safe, (S.file n).named⟩ : FileS) else S.file i).safe ≤ _
    by_cases e : i = n
    · rw [if_pos e]; show (S.file n).safe ≤ _; omega
    · rw [if_neg e]; have := h.dsafe i; omega
  · show S.used + (s.length : Int) = ((sumC C (fun i => if i = n then ⟨(S.file n).data ++ s, (S.file n).safe, (S.file n).named⟩ else S.file i) S.made : Nat) : Int)
    omega
theorem Sz.append' {S : DS} {k c : Nat} (h : Sz S k c) (a : ByteArray) {s : List Nat} (j : Nat) (hs : s.length ≤ 100 * j) : Sz (appendS S a s) (k + j) (c + 1) := by
  obtain ⟨C, h⟩ := h
  unfold appendS findN
  split
  · exact ⟨C, h.up (by omega) (by omega)⟩
  · rename_i n hn
    split at hn
    · cases hn
    · split
      · exact ⟨C, h.up (by omega) (by omega)⟩
      · split
        · exact ⟨C, h.begin.up (by omega) (by omega)⟩
        · have r := h.nref _ (kget_some hn)
          exact ⟨C, h.begin.appF' s j ⟨r.1, by rw [(beginS_keeps S).2.2.2.1]; exact r.2.1, r.2.2⟩ hs⟩
theorem Sz.rename {S : DS} {k c : Nat} (h : Sz S k c) {a b : ByteArray} (hs : a.size ≤ maxLen) (hb : b.size ≤ maxLen) : Sz (renameS S a b) (k + 1) (c + 1) := by
  obtain ⟨C, h⟩ := h
  unfold renameS findN
  split
  · exact ⟨C, h.up (by omega) (by omega)⟩
  · rename_i n hn
    split at hn
    · cases hn
    · split
      · exact ⟨C, h.up (by omega) (by omega)⟩
      · split
        · exact ⟨C, h.begin.up (by omega) (by omega)⟩
        · have r := h.nref _ (kget_some hn)
          exact ⟨C, h.begin.ren ⟨r.1, by rw [(beginS_keeps S).2.2.2.1]; exact r.2.1, r.2.2⟩ hs hb⟩
theorem Sz.again {S : DS} {k c : Nat} (h : Sz S k c) {P : Option (List Nat) → Prop} (i : CInv S P) (ch : List Int) : Sz (restartI S ch) k c := by
  refine h.restart ch ?_
  obtain ⟨s, f, a, b⟩ := i (pickN ch 0 S.chg.length) (pickN_le _ _ _)
  exact (a.map (·.2)).nodup_iff.2 (entC_vals fun n hn => (b.st n hn).2.2)

/-! ### Save, step by step -/
def stC (D : List Nat) (i : Nat) (S : DS) : Int :=
  match i with
  | 0 => cleanC S
  | 1 => createC S nmF
  | 2 => appendC S nmF D
  | 3 => syncC S nmF
  | 4 => renameC S nmF nmS
  | _ => syncNamesC S
def stS (D : List Nat) (i : Nat) (S : DS) : DS :=
  match i with
  | 0 => cleanS S
  | 1 => createS S nmF
  | 2 => appendS S nmF D
  | 3 => syncS S nmF
  | 4 => renameS S nmF nmS
  | _ => syncNamesS S
def stN (D : List Nat) (S : DS) : Nat → DS
  | 0 => S
  | i + 1 => stS D i (stN D S i)
theorem Sz.step {S : DS} {k c : Nat} (h : Sz S k c) {D : List Nat} (hD : D.length ≤ 2000) (i : Nat) : Sz (stS D i S) (k + 20) (c + 1) := by
  match i with
  | 0 => exact (h.remove nmF_len).up (by omega) (by omega)
  | 1 => exact (h.create nmF_len).up (by omega) (by omega)
  | 2 => exact (h.append' nmF 20 hD).up (by omega) (by omega)
  | 3 => exact (h.sync nmF).up (by omega) (by omega)
  | 4 => exact (h.rename nmF_len nmS_len).up (by omega) (by omega)
  | i + 5 => exact (Sz.syncNames h).up (by omega) (by omega)
theorem Sz.steps {S : DS} {k c : Nat} (h : Sz S k c) {D : List Nat} (hD : D.length ≤ 2000) (i : Nat) : Sz (stN D S i) (k + 20 * i) (c + i) := by
  induction i with
  | zero => exact h
  | succ i ih => exact (ih.step hD i).up (by omega) (by omega)

/-- where Save is, when all before it were done -/
def Stage (D : List Nat) (P : Option (List Nat) → Prop) (i : Nat) (S : DS) : Prop :=
  match i with
  | 0 => CInv S P ∧ ∃ s f, CNow S s f
  | 1 => CInv S P ∧ ∃ s, CNow S s none
  | 2 => CInv S P ∧ ∃ s m, CNow S s (some m) ∧ Clear S m ∧ (S.file m).data = [] ∧ (S.file m).safe = 0
  | 3 => CInv S P ∧ ∃ s m, CNow S s (some m) ∧ Clear S m ∧ (S.file m).data = D
  | 4 => CInv S P ∧ ∃ s m, CNow S s (some m) ∧ (S.file m).data = D ∧ (S.file m).safe = D.length
  | 5 => CInv S (fun x => P x ∨ x = some D) ∧ ∃ m f, CNow S (some m) f ∧ (S.file m).data = D
  | _ => CInv S (fun x => x = some D) ∧ ∃ s f, CNow S s f
theorem stage_step {D : List Nat} {P : Option (List Nat) → Prop} {S : DS} (i : Nat) (hi : i < 6) (h : Stage D P i S) :
    (CInv (stS D i S) (fun x => P x ∨ x = some D) ∧ ∃ s f, CNow (stS D i S) s f) ∧ (stC D i S = 0 → Stage D P (i + 1) (stS D i S)) := by
  have up : ∀ {Z : DS}, CInv Z P → CInv Z (fun x => P x ∨ x = some D) := fun h => h.mono fun _ => .inl
  match i, hi, h with
  | 0, _, ⟨a, s, f, n⟩ =>
    obtain ⟨x, f', y, z⟩ := inv_clean a n
    exact ⟨⟨up x, s, f', y⟩, fun e => ⟨x, s, by have := z e; rw [this] at y; exact y⟩⟩
  | 1, _, ⟨a, s, n⟩ =>
    obtain ⟨x, f', y, z⟩ := inv_fresh a n
    refine ⟨⟨up x, s, f', y⟩, fun e => ?_⟩
    obtain ⟨m, rfl, e1, e2⟩ := z e
    exact ⟨x, s, m, y, e2, by show ((createS S nmF).file m).data = _; rw [e1], by show ((createS S nmF).file m).safe = _; rw [e1]⟩
  | 2, _, ⟨a, s, m, n, c, d1, d2⟩ =>
    obtain ⟨x, y, z, k⟩ := inv_write D a n c ⟨d1, d2⟩
    exact ⟨⟨up x, s, some m, y⟩, fun e => ⟨x, s, m, y, z, (k e).1⟩⟩
  | 3, _, ⟨a, s, m, n, c, d⟩ =>
    obtain ⟨x, y, z, k⟩ := inv_sync a n c
    refine ⟨⟨up x, s, some m, y⟩, fun e => ?_⟩
    obtain ⟨k1, k2⟩ := k e
    exact ⟨x, s, m, y, k1.trans d, by show ((syncS S nmF).file m).safe = _; rw [k2, d]⟩
  | 4, _, ⟨a, s, m, n, d1, d2⟩ =>
    obtain ⟨x, s', f', y, z⟩ := inv_rename a n ⟨d1, d2⟩
    refine ⟨⟨x, s', f', y⟩, fun e => ?_⟩
    obtain ⟨rfl, k⟩ := z e
    exact ⟨x, m, f', y, k⟩
  | 5, _, ⟨a, m, f, n, d⟩ =>
    obtain ⟨x, y, z⟩ := inv_fixed a n
    refine ⟨⟨x, some m, f, y⟩, fun e => ⟨?_, some m, f, y⟩⟩
    have := z e
    rw [show (Option.map (fun n => (S.file n).data) (some m)) = some D by show some (S.file m).data = _; rw [d]] at this
    exact this
theorem stage_all {D : List Nat} {P : Option (List Nat) → Prop} {S : DS} (h : CInv S P) {s f : Option Nat} (n : CNow S s f) : ∀ i, i ≤ 6 → (∀ j, j < i → stC D j (stN D S j) = 0) → Stage D P i (stN D S i) := by
  intro i
  induction i with
  | zero => intro _ _; exact ⟨h, s, f, n⟩
  | succ i ih =>
    intro hi hc
    have a := ih (by omega) (fun j hj => hc j (by omega))
    exact (stage_step i (by omega) a).2 (hc i (by omega))
/-- what Save answers, and what it leaves -/
def SaveR (D : List Nat) (S : DS) (e : Int) (S' : DS) : Prop :=
  (∃ i, i < 6 ∧ (∀ j, j < i → stC D j (stN D S j) = 0) ∧ e = stC D i (stN D S i) ∧ e ≠ 0 ∧ S' = stN D S (i + 1)) ∨ ((∀ j, j < 6 → stC D j (stN D S j) = 0) ∧ e = 0 ∧ S' = stN D S 6)
theorem SaveR.sz {D : List Nat} {S S' : DS} {e : Int} (r : SaveR D S e S') {k c : Nat} (h : Sz S k c) (hD : D.length ≤ 2000) : Sz S' (k + 120) (c + 6) := by
  rcases r with ⟨i, hi, _, _, _, rfl⟩ | ⟨_, _, rfl⟩
  · exact (h.steps hD (i + 1)).up (by omega) (by omega)
  · exact (h.steps hD 6).up (by omega) (by omega)
theorem SaveR.inv {D : List Nat} {S S' : DS} {e : Int} (r : SaveR D S e S') {P : Option (List Nat) → Prop} (h : CInv S P) {s f : Option Nat} (n : CNow S s f) :
    (CInv S' (fun x => P x ∨ x = some D) ∧ ∃ s f, CNow S' s f) ∧ (e = 0 → CInv S' (fun x => x = some D)) := by
  rcases r with ⟨i, hi, hc, rfl, hne, rfl⟩ | ⟨hc, rfl, rfl⟩
  · exact ⟨(stage_step i hi (stage_all h n i (by omega) hc)).1, fun e => absurd e hne⟩
  · obtain ⟨a, s', f', b⟩ := stage_all h n 6 (Nat.le_refl _) hc
    exact ⟨⟨a.mono fun _ => .inr, s', f', b⟩, fun _ => a⟩
/-- of a dead disk -/
theorem SaveR.dead {D : List Nat} {S S' : DS} {e : Int} (r : SaveR D S e S') (hd : S.dead = true) : e = 9 ∧ S' = S := by
  have c0 : stC D 0 S = 9 := by
    show cleanC S = 9
    unfold cleanC removeC findC; rw [if_pos hd]; simp
  have s0 : stS D 0 S = S := by
    show removeS S nmF = S
    unfold removeS findN; rw [if_pos hd]
  rcases r with ⟨i, hi, hc, he, _, hS⟩ | ⟨hc, _⟩
  · cases i with
    | zero => exact ⟨he.trans c0, hS.trans s0⟩
    | succ i =>
      have a : stC D 0 S = 0 := hc 0 (by omega)
      rw [c0] at a; cases a
  · have a : stC D 0 S = 0 := hc 0 (by omega)
    rw [c0] at a; cases a
end Go.Proofs.YtdffpbfllekcgaaGreatDoor
