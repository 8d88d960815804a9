/- Checkpoints: Save as six steps, with the sizes; what it leaves. -/
import Derived.Test.YteilmohlgfgmnaaGreatDoorCkpM
namespace Go.Proofs.YteilmohlgfgmnaaGreatDoor
set_option maxRecDepth 100000
open Go.RowKit M

theorem SzC.appF' {S : DS} {C : Nat → Bool} {k c : Nat} (h : SzC S C k c) {n : Nat} (s : List Nat) (j : Nat) (hn : RefC S C n) (hs : s.length ≤ 100 * j) : SzC (Proofs.YteilmohlgfgmnaaGreatDoor.appF S n s) C (k + j) c := by
  obtain ⟨h1, h2, h3⟩ := hn
  have sm := sumC_set C S.file ⟨(S.file n).data ++ s, (S.file n).safe, (S.file n).named⟩ S.made n h1 h2 h3
  simp only [List.length_append] at sm
  have e := h.used
  have hnm := h.names; have hsc := h.sc; have hm := h.made; have hu := h.used1
  have d1 := h.data n
  have d2 := h.dsafe n
  refine ⟨h.room0, h.room1, h.crash0, h.crash1, h.fail0, h.fail1, by show S.made ≤ _; omega, h.calls, by show S.names.length ≤ _; omega, by show S.safe.length + S.chg.length ≤ _; omega, fun i => ?_, fun i => ?_, by show S.used + (s.length : Int) ≤ _; omega, ?_, h.nref, h.sref, h.cref⟩
  · show (if i = n then (⟨(S.file n).data ++ s, (S.file n).safe, (S.file n).named⟩ : FileS) else S.file i).data.length ≤ _
    by_cases e : i = n
    · rw [if_pos e]
      show ((S.file n).data ++ s).length ≤ _
      rw [List.length_append]; omega
    · rw [if_neg e]; have := h.data i; omega
  · show (if i = n then (⟨(S.file n).data ++ s, (S.file n).safe, (S.file n).named⟩ : FileS) else S.file i).safe ≤ _
    by_cases e : i = n
    · rw [if_pos e]; show (S.file n).safe ≤ _; omega
    · rw [if_neg e]; have := h.dsafe i; omega
  · show S.used + (s.length : Int) = ((sumC C (fun i => if i = n then ⟨(S.file n).data ++ s, (S.file n).safe, (S.file n).named⟩ else S.file i) S.made : Nat) : Int)
    omega
theorem Sz.append' {S : DS} {k c : Nat} (h : Sz S k c) (a : ByteArray) {s : List Nat} (j : Nat) (hs : s.length ≤ 100 * j) : Sz (appendS S a s) (k + j) (c + 1) := by
  obtain ⟨C, h⟩ := h
  unfold appendS findN
  split
  · exact ⟨C, h.up (by omega) (by omega)⟩
  · rename_i n hn
    split at hn
    · cases hn
    · split
      · exact ⟨C, h.up (by omega) (by omega)⟩
      · split
        · exact ⟨C, h.begin.up (by omega) (by omega)⟩
        · have r := h.nref _ (kget_some hn)
          exact ⟨C, h.begin.appF' s j ⟨r.1, by rw [(beginS_keeps S).2.2.2.1]; exact r.2.1, r.2.2⟩ hs⟩
theorem Sz.rename {S : DS} {k c : Nat} (h : Sz S k c) {a b : ByteArray} (hs : a.size ≤ maxLen) (hb : b.size ≤ maxLen) : Sz (renameS S a b) (k + 1) (c + 1) := by
  obtain ⟨C, h⟩ := h
  unfold renameS findN
  split
  · exact ⟨C, h.up (by omega) (by omega)⟩
  · rename_i n hn
    split at hn
    · cases hn
    · split
      · exact ⟨C, h.up (by omega) (by omega)⟩
      · split
        · exact ⟨C, h.begin.up (by omega) (by omega)⟩
        · have r := h.nref _ (kget_some hn)
          exact ⟨C, h.begin.ren ⟨r.1, by rw [(beginS_keeps S).2.2.2.1]; exact r.2.1, r.2.2⟩ hs hb⟩
theorem Sz.again {S : DS} {k c : Nat} (h : Sz S k c) {P : Option (List Nat) → Prop} (i : CInv S P) (ch : List Int) : Sz (restartI S ch) k c := by
  refine h.restart ch ?_
  obtain ⟨s, f, a, b⟩ := i (pickN ch 0 S.chg.length) (pickN_le _ _ _)
  exact (a.map (·.2)).nodup_iff.2 (entC_vals fun n hn => (b.st n hn).2.2)

/-! ### Save, step by step -/
def stC (D : List Nat) (i : Nat) (S : DS) : Int :=
  match i with
  | 0 => cleanC S
  | 1 => createC S nmF
  | 2 => appendC S nmF D
  | 3 => syncC S nmF
  | 4 => renameC S nmF nmS
  | _ => syncNamesC S
def stS (D : List Nat) (i : Nat) (S : DS) : DS :=
  match i with
  | 0 => cleanS S
  | 1 => createS S nmF
  | 2 => appendS S nmF D
  | 3 => syncS S nmF
  | 4 => renameS S nmF nmS
  | _ => syncNamesS S
def stN (D : List Nat) (S : DS) : Nat → DS
  | 0 => S
  | i + 1 => stS D i (stN D S i)
theorem Sz.step {S : DS} {k c : Nat} (h : Sz S k c) {D : List Nat} (hD : D.length ≤ 2000) (i : Nat) : Sz (stS D i S) (k + 20) (c + 1) := by
  match i with
  | 0 => exact (h.remove nmF_len).up (by omega) (by omega)
  | 1 => exact (h.create nmF_len).up (by omega) (by omega)
  | 2 => exact (h.append' nmF 20 hD).up (by omega) (by omega)
  | 3 => exact (h.sync nmF).up (by omega) (by omega)
  | 4 => exact (h.rename nmF_len nmS_len).up (by omega) (by omega)
  | i + 5 => exact (Sz.syncNames h).up (by omega) (by omega)
theorem Sz.steps {S : DS} {k c : Nat} (h : Sz S k c) {D : List Nat} (hD : D.length ≤ 2000) (i : Nat) : Sz (stN D S i) (k + 20 * i) (c + i) := by
  induction i with
  | zero => exact h
  | succ i ih => exact (ih.step hD i).up (by omega) (by omega)

/-- where Save is, when all before it were done -/
def Stage (D : List Nat) (P : Option (List Nat) → Prop) (i : Nat) (S : DS) : Prop :=
  match i with
  | 0 => CInv S P ∧ ∃ s f, CNow S s f
  | 1 => CInv S P ∧ ∃ s, CNow S s none
  | 2 => CInv S P ∧ ∃ s m, CNow S s (some m) ∧ Clear S m ∧ (S.file m).data = [] ∧ (S.file m).safe = 0
  | 3 => CInv S P ∧ ∃ s m, CNow S s (some m) ∧ Clear S m ∧ (S.file m).data = D
  | 4 => CInv S P ∧ ∃ s m, CNow S s (some m) ∧ (S.file m).data = D ∧ (S.file m).safe = D.length
  | 5 => CInv S (fun x => P x ∨ x = some D) ∧ ∃ m f, CNow S (some m) f ∧ (S.file m).data = D
  | _ => CInv S (fun x => x = some D) ∧ ∃ s f, CNow S s f
theorem stage_step {D : List Nat} {P : Option (List Nat) → Prop} {S : DS} (i : Nat) (hi : i < 6) (h : Stage D P i S) :
    (CInv (stS D i S) (fun x => P x ∨ x = some D) ∧ ∃ s f, CNow (stS D i S) s f) ∧ (stC D i S = 0 → Stage D P (i + 1) (stS D i S)) := by
  have up : ∀ {Z : DS}, CInv Z P → CInv Z (fun x => P x ∨ x = some D) := fun h => h.mono fun _ => .inl
  match i, hi, h with
  | 0, _, ⟨a, s, f, n⟩ =>
    obtain ⟨x, f', y, z⟩ := inv_clean a n
    exact ⟨⟨up x, s, f', y⟩, fun e => ⟨x, s, by have := z e; rw [this] at y; exact y⟩⟩
  | 1, _, ⟨a, s, n⟩ =>
    obtain ⟨x, f', y, z⟩ := inv_fresh a n
    refine ⟨⟨up x, s, f', y⟩, fun e => ?_⟩
    obtain ⟨m, rfl, e1, e2⟩ := z e
    exact ⟨x, s, m, y, e2, by show ((createS S nmF).file m).data = _; rw [e1], by show ((createS S nmF).file m).safe = _; rw [e1]⟩
  | 2, _, ⟨a, s, m, n, c, d1, d2⟩ =>
    obtain ⟨x, y, z, k⟩ := inv_write D a n c ⟨d1, d2⟩
    exact ⟨⟨up x, s, some m, y⟩, fun e => ⟨x, s, m, y, z, (k e).1⟩⟩
  | 3, _, ⟨a, s, m, n, c, d⟩ =>
    obtain ⟨x, y, z, k⟩ := inv_sync a n c
    refine ⟨⟨up x, s, some m, y⟩, fun e => ?_⟩
    obtain ⟨k1, k2⟩ := k e
    exact ⟨x, s, m, y, k1.trans d, by show ((syncS S nmF).file m).safe = _; rw [k2, d]⟩
  | 4, _, ⟨a, s, m, n, d1, d2⟩ =>
    obtain ⟨x, s', f', y, z⟩ := inv_rename a n ⟨d1, d2⟩
    refine ⟨⟨x, s', f', y⟩, fun e => ?_⟩
    obtain ⟨rfl, k⟩ := z e
    exact ⟨x, m, f', y, k⟩
  | 5, _, ⟨a, m, f, n, d⟩ =>
    obtain ⟨x, y, z⟩ := inv_fixed a n
    refine ⟨⟨x, some m, f, y⟩, fun e => ⟨?_, some m, f, y⟩⟩
    have := z e
    rw [show (Option.map (fun n => (S.file n).data) (some m)) = some D by show some (S.file m).data = _; rw [d]] at this
    exact this
theorem stage_all {D : List Nat} {P : Option (List Nat) → Prop} {S : DS} (h : CInv S P) {s f : Option Nat} (n : CNow S s f) : ∀ i, i ≤ 6 → (∀ j, j < i → stC D j (stN D S j) = 0) → Stage D P i (stN D S i) := by
  intro i
  induction i with
  | zero => intro _ _; exact ⟨h, s, f, n⟩
  | succ i ih =>
    intro hi hc
    have a := ih (by omega) (fun j hj => hc j (by omega))
    exact (stage_step i (by omega) a).2 (hc i (by omega))
/-- what Save answers, and what it leaves -/
def SaveR (D : List Nat) (S : DS) (e : Int) (S' : DS) : Prop :=
  (∃ i, i < 6 ∧ (∀ j, j < i → stC D j (stN D S j) = 0) ∧ e = stC D i (stN D S i) ∧ e ≠ 0 ∧ S' = stN D S (i + 1)) ∨ ((∀ j, j < 6 → stC D j (stN D S j) = 0) ∧ e = 0 ∧ S' = stN D S 6)
theorem SaveR.sz {D : List Nat} {S S' : DS} {e : Int} (r : SaveR D S e S') {k c : Nat} (h : Sz S k c) (hD : D.length ≤ 2000) : Sz S' (k + 120) (c + 6) := by
  rcases r with ⟨i, hi, _, _, _, rfl⟩ | ⟨_, _, rfl⟩
  · exact (h.steps hD (i + 1)).up (by omega) (by omega)
  · exact (h.steps hD 6).up (by omega) (by omega)
theorem SaveR.inv {D : List Nat} {S S' : DS} {e : Int} (r : SaveR D S e S') {P : Option (List Nat) → Prop} (h : CInv S P) {s f : Option Nat} (n : CNow S s f) :
    (CInv S' (fun x => P x ∨ x = some D) ∧ ∃ s f, CNow S' s f) ∧ (e = 0 → CInv S' (fun x => x = some D)) := by
  rcases r with ⟨i, hi, hc, rfl, hne, rfl⟩ | ⟨hc, rfl, rfl⟩
  · exact ⟨(stage_step i hi (stage_all h n i (by omega) hc)).1, fun e => absurd e hne⟩
  · obtain ⟨a, s', f', b⟩ := stage_all h n 6 (Nat.le_refl _) hc
    exact ⟨⟨a.mono fun _ => .inr, s', f', b⟩, fun _ => a⟩
/-- of a dead disk -/
theorem SaveR.dead {D : List Nat} {S S' : DS} {e : Int} (r : SaveR D S e S') (hd : S.dead = true) : e = 9 ∧ S' = S := by
  have c0 : stC D 0 S = 9 := by
    show cleanC S = 9
    unfold cleanC removeC findC; rw [if_pos hd]; simp
  have s0 : stS D 0 S = S := by
    show removeS S nmF = S
    unfold removeS findN; rw [if_pos hd]
  rcases r with ⟨i, hi, hc, he, _, hS⟩ | ⟨hc, _⟩
  · cases i with
    | zero => exact ⟨he.trans c0, hS.trans s0⟩
    | succ i =>
      have a : stC D 0 S = 0 := hc 0 (by omega)
      rw [c0] at a; cases a
  · have a : stC D 0 S = 0 := hc 0 (by omega)
    rw [c0] at a; cases a
end Go.Proofs.YteilmohlgfgmnaaGreatDoor
