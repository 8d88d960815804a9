/- Checkpoints: where nothing goes wrong; sizes at a restart; which errors a Save can meet. -/
import Derived.Test.YteilmohlgfgmnaaGreatDoorCkpS
import Derived.Test.YteilmohlgfgmnaaGreatDoorHt
namespace Go.Proofs.YteilmohlgfgmnaaGreatDoor
set_option maxRecDepth 100000
open Go.RowKit M

theorem ccutF_le (ch : List Int) (k : Nat) (f : FileS) : (cutF ch k f).data.length ≤ f.data.length ∧ (cutF ch k f).safe ≤ f.data.length := by
  have : (cutF ch k f).data.length ≤ f.data.length := by
    unfold cutF
    simp only
    split
    · rw [List.length_take]; omega
    · exact Nat.le_refl _
  exact ⟨this, this⟩
theorem cfold_small (ch : List Int) (m : Nat) (l : List Nat) : ∀ (q : Nat × DS), (∀ n, (q.2.file n).data.length ≤ m ∧ (q.2.file n).safe ≤ m) →
    (∀ n, ((l.foldl (cutStep ch) q).2.file n).data.length ≤ m ∧ ((l.foldl (cutStep ch) q).2.file n).safe ≤ m) ∧ q.2.used ≤ (l.foldl (cutStep ch) q).2.used ∧ (l.foldl (cutStep ch) q).2.used ≤ q.2.used + (m * l.length : Nat) := by
  induction l with
  | nil => intro q h; exact ⟨h, Int.le_refl _, by simp⟩
  | cons n l ih =>
    intro q h
    rw [List.foldl_cons]
    have hc := ccutF_le ch q.1 (q.2.file n)
    have hm := h n
    obtain ⟨a, b, c⟩ := ih (cutStep ch q n) (fun i => by
      show ((if i = n then cutF ch q.1 (q.2.file n) else q.2.file i).data.length ≤ m) ∧ (if i = n then cutF ch q.1 (q.2.file n) else q.2.file i).safe ≤ m
      by_cases e : i = n
      · rw [if_pos e]; omega
      · rw [if_neg e]; exact h i)
    have hu : (cutStep ch q n).2.used = q.2.used + ((cutF ch q.1 (q.2.file n)).data.length : Int) := rfl
    rw [hu] at b c
    refine ⟨a, by omega, ?_⟩
    have e : m * (n :: l).length = m * l.length + m := by rw [List.length_cons, Nat.mul_succ]
    rw [e]
    omega
theorem crestOk_small {S : DS} {ch : List Int} (m k : Nat) (hk : (rest0 S ch).names.length ≤ k) (hmk : m * k ≤ 1099511627776) (hm : m ≤ 1099511627776) (hk2 : k ≤ 1099511627776) (hr : ∀ p ∈ (rest0 S ch).names, 1 ≤ p.2 ∧ p.2 ≤ S.made) (hd : ∀ n, (S.file n).data.length ≤ m ∧ (S.file n).safe ≤ m) : RestOk S ch := by
  refine ⟨by omega, hr, fun j n hn => ?_⟩
  obtain ⟨a, b, c⟩ := cfold_small ch m ((oldest (rest0 S ch).names).take j) (1, rest0 S ch) hd
  have u0 : (rest0 S ch).used = 0 := rfl
  have hl : ((oldest (rest0 S ch).names).take j).length ≤ k := by
    rw [oldest_eq, List.length_take, isort_length, List.length_map]; omega
  have hx : m * ((oldest (rest0 S ch).names).take j).length ≤ m * k := Nat.mul_le_mul_left m hl
  simp only [u0] at b c
  obtain ⟨a1, a2⟩ := a n
  exact ⟨b, by omega, by omega, by omega⟩
theorem Sz.crestOk {S : DS} {k c : Nat} (z : Sz S k c) (hk : k ≤ 50000) (ch : List Int) : RestOk S ch := by
  obtain ⟨C, zz⟩ := z
  refine crestOk_small (100 * k) k ?_ ?_ (by omega) (by omega) ?_ (fun n => ⟨by have := zz.data n; omega, by have := zz.dsafe n; omega⟩)
  · rw [wrest0_names]
    have := foldl_length (S.chg.take (pickN ch 0 S.chg.length)) S.safe
    have ht' : (S.chg.take (pickN ch 0 S.chg.length)).length ≤ S.chg.length := List.length_take_le' _ _
    have sc := zz.sc
    unfold foldP
    omega
  · have : 100 * k * k ≤ 5000000 * 50000 := Nat.mul_le_mul (by omega) (by omega)
    omega
  · rw [wrest0_names]
    exact wfold_mem (P := fun n => 1 ≤ n ∧ n ≤ S.made) (S.chg.take (pickN ch 0 S.chg.length)) S.safe (fun p hp => ⟨(zz.sref p hp).1, (zz.sref p hp).2.1⟩) (fun c hc => ⟨(zz.cref c (List.mem_of_mem_take hc)).1.1, (zz.cref c (List.mem_of_mem_take hc)).1.2.1⟩)

/-! ### nothing goes wrong -/
theorem Calm.alive {S : DS} (h : Calm S) : S.dead = false := by
  unfold Calm at h
  exact h.1
theorem begin_same (S : DS) : (beginS S).room = S.room ∧ (beginS S).used = S.used := by
  unfold beginS
  split
  · exact ⟨rfl, rfl⟩
  · split <;> exact ⟨rfl, rfl⟩
theorem ren_calm {S : DS} (h : Calm S) (src dst : ByteArray) (f : Nat) : Calm (renS S src dst f) ∧ (renS S src dst f).room = S.room ∧ (renS S src dst f).used = S.used := by
  obtain ⟨_, b, c, d, e, _, _, g⟩ := ren_same S src dst f
  exact ⟨⟨by rw [g]; exact h.1, by rw [e]; exact h.2.1, by rw [d]; exact h.2.2⟩, b, c⟩
theorem step_ok {D : List Nat} {P : Option (List Nat) → Prop} {S : DS} (hc : Calm S) (i : Nat) (hi : i < 6) (h : Stage D P i S) (hr : i ≤ 2 → S.used + D.length ≤ S.room) :
    stC D i S = 0 ∧ Calm (stS D i S) ∧ (stS D i S).room = S.room ∧ (i < 2 → (stS D i S).used = S.used) := by
  obtain ⟨b, cb⟩ := hc.begin
  obtain ⟨br, bu⟩ := begin_same S
  have nd : ¬ S.dead = true := by rw [hc.1]; decide
  have b8 : ¬ beginC S = 8 := by rw [b]; decide
  match i, hi, h with
  | 0, _, ⟨a, s, f, n⟩ =>
    have hf := kget_F n.names
    show cleanC S = 0 ∧ Calm (cleanS S) ∧ (cleanS S).room = S.room ∧ (0 < 2 → (cleanS S).used = S.used)
    unfold cleanC removeC cleanS removeS findC findN
    rw [hf, if_neg nd, if_neg nd]
    cases f with
    | none => exact ⟨by simp, hc, rfl, fun _ => rfl⟩
    | some m =>
      obtain ⟨r1, r2, r3⟩ := ren_calm cb nmF ⟨#[]⟩ m
      show (if (if (0 : Int) ≠ 0 then _ else beginC S) = 5 then (0 : Int) else (if (0 : Int) ≠ 0 then _ else beginC S)) = 0 ∧ Calm (if beginC S = 8 then beginS S else renS (beginS S) nmF ⟨#[]⟩ m) ∧ (if beginC S = 8 then beginS S else renS (beginS S) nmF ⟨#[]⟩ m).room = S.room ∧ (0 < 2 → (if beginC S = 8 then beginS S else renS (beginS S) nmF ⟨#[]⟩ m).used = S.used)
      rw [if_neg b8]
      exact ⟨by simp [b], r1, r2.trans br, fun _ => r3.trans bu⟩
  | 1, _, ⟨a, s, n⟩ =>
    have hf := kget_F n.names
    show createC S nmF = 0 ∧ Calm (createS S nmF) ∧ (createS S nmF).room = S.room ∧ (1 < 2 → (createS S nmF).used = S.used)
    unfold createC createS
    rw [hf, if_neg nd, if_neg nd, if_neg (show ¬ nmF.size = 0 by decide), if_neg (show ¬ nmF.size = 0 by decide), if_neg (show ¬ (none : Option Nat).isSome = true by decide), if_neg (show ¬ (none : Option Nat).isSome = true by decide), if_neg b8]
    have cz : Calm ({ beginS S with made := (beginS S).made + 1 }.setF ((beginS S).made + 1) ⟨[], 0, false⟩) := cb
    obtain ⟨r1, r2, r3⟩ := ren_calm cz ⟨#[]⟩ nmF ((beginS S).made + 1)
    exact ⟨b, r1, r2.trans br, fun _ => r3.trans bu⟩
  | 2, _, ⟨a, s, m, n, _, _⟩ =>
    have hf := kget_F n.names
    have hh := hr (Nat.le_refl _)
    have hfr : ¬ (S.free < (D.length : Int)) := by unfold DS.free; omega
    show appendC S nmF D = 0 ∧ Calm (appendS S nmF D) ∧ (appendS S nmF D).room = S.room ∧ (2 < 2 → _)
    unfold appendC appendS findC findN
    rw [hf, if_neg nd, if_neg nd]
    show (if (0 : Int) ≠ 0 then _ else if S.free < D.length then (7 : Int) else beginC S) = 0 ∧ Calm (if S.free < D.length then S else if beginC S = 8 then beginS S else appF (beginS S) m D) ∧ (if S.free < D.length then S else if beginC S = 8 then beginS S else appF (beginS S) m D).room = S.room ∧ (2 < 2 → _)
    rw [if_neg hfr, if_neg hfr, if_neg b8]
    exact ⟨by simp [b], cb, br, fun e => absurd e (by omega)⟩
  | 3, _, ⟨a, s, m, n, _, _⟩ =>
    obtain ⟨x, y⟩ := sync_calm hc (kget_F n.names)
    refine ⟨x, y, ?_, fun e => absurd e (by omega)⟩
    show (syncS S nmF).room = S.room
    unfold syncS
    split
    · rfl
    · split
      · exact br
      · exact br
  | 4, _, ⟨a, s, m, n, _, _⟩ =>
    have hf := kget_F n.names
    have hn : ¬ (nmS.size = 0 ∨ nmS = nmF) := by decide
    show renameC S nmF nmS = 0 ∧ Calm (renameS S nmF nmS) ∧ (renameS S nmF nmS).room = S.room ∧ (4 < 2 → _)
    unfold renameC renameS findC findN
    rw [hf, if_neg nd, if_neg nd]
    show (if (0 : Int) ≠ 0 then _ else if nmS.size = 0 ∨ nmS = nmF then (1 : Int) else beginC S) = 0 ∧ Calm (if nmS.size = 0 ∨ nmS = nmF then S else if beginC S = 8 then beginS S else renS (beginS S) nmF nmS m) ∧ (if nmS.size = 0 ∨ nmS = nmF then S else if beginC S = 8 then beginS S else renS (beginS S) nmF nmS m).room = S.room ∧ (4 < 2 → _)
    rw [if_neg hn, if_neg hn, if_neg b8]
    obtain ⟨r1, r2, r3⟩ := ren_calm cb nmF nmS m
    exact ⟨by simp [b], r1, r2.trans br, fun e => absurd e (by omega)⟩
  | 5, _, _ =>
    have al : ∀ (l : List Chg) (Z : DS), Calm Z → Calm (relAll Z l) ∧ (relAll Z l).room = Z.room := fun l => by
      have f : ∀ (Z : DS) (n : Nat), Calm Z → Calm (relF Z n) ∧ (relF Z n).room = Z.room := fun Z n hz => by
        unfold relF; split
        · exact ⟨hz, rfl⟩
        · exact ⟨hz, rfl⟩
      induction l with
      | nil => exact fun Z hz => ⟨hz, rfl⟩
      | cons d l ih =>
        intro Z hz
        have g : Calm (relC Z d) ∧ (relC Z d).room = Z.room := by
          unfold relC relO
          obtain ⟨a1, a2⟩ := f Z d.file hz
          split
          · rename_i q _
            obtain ⟨c1, c2⟩ := f _ q a1
            exact ⟨c1, c2.trans a2⟩
          · exact ⟨a1, a2⟩
        obtain ⟨a1, a2⟩ := ih _ g.1
        exact ⟨a1, a2.trans g.2⟩
    show syncNamesC S = 0 ∧ Calm (syncNamesS S) ∧ (syncNamesS S).room = S.room ∧ (5 < 2 → _)
    unfold syncNamesC syncNamesS
    rw [if_neg nd, if_neg nd, if_pos b]
    obtain ⟨a1, a2⟩ := al S.chg (beginS S) cb
    exact ⟨b, a1, a2.trans br, fun e => absurd e (by omega)⟩
/-- Save of a disk on which nothing goes wrong, and that has room -/
theorem save_ok {D : List Nat} {P : Option (List Nat) → Prop} {S : DS} (hc : Calm S) (h : CInv S P) {s f : Option Nat} (n : CNow S s f) (hr : S.used + D.length ≤ S.room) : ∀ i, i ≤ 6 →
    (∀ j, j < i → stC D j (stN D S j) = 0) ∧ Calm (stN D S i) ∧ (stN D S i).room = S.room ∧ (i ≤ 2 → (stN D S i).used = S.used) := by
  intro i
  induction i with
  | zero => intro _; exact ⟨fun j hj => absurd hj (by omega), hc, rfl, fun _ => rfl⟩
  | succ i ih =>
    intro hi
    obtain ⟨a, b, c, d⟩ := ih (by omega)
    have st := stage_all h n i (by omega) a
    obtain ⟨x, y, z, u⟩ := step_ok b i (by omega) st (fun hi2 => by rw [c, d hi2]; exact hr)
    refine ⟨fun j hj => ?_, y, z.trans c, fun hi2 => (u (by omega)).trans (d (by omega))⟩
    rcases Nat.lt_succ_iff_lt_or_eq.1 hj with q | q
    · exact a j q
    · rw [q]; exact x
theorem SaveR.ok {D : List Nat} {P : Option (List Nat) → Prop} {S S' : DS} {e : Int} (r : SaveR D S e S') (hc : Calm S) (h : CInv S P) {s f : Option Nat} (n : CNow S s f) (hr : S.used + D.length ≤ S.room) : e = 0 ∧ Calm S' ∧ S'.room = S.room := by
  obtain ⟨a, b, c, _⟩ := save_ok hc h n hr 6 (Nat.le_refl _)
  rcases r with ⟨i, hi, _, he, hn, _⟩ | ⟨_, he, hS⟩
  · exact absurd (he.trans (a i hi)) hn
  · exact ⟨he, by rw [hS]; exact b, by rw [hS]; exact c⟩

/-! ### what can go wrong where nothing crashes -/
def NoCrash (S : DS) : Prop := S.dead = false ∧ S.crash = -1
theorem NoCrash.begin {S : DS} (h : NoCrash S) : (beginC S = 0 ∨ beginC S = 8) ∧ NoCrash (beginS S) := by
  obtain ⟨a, c⟩ := h
  have n2 : ¬ S.crash = 0 := by rw [c]; decide
  unfold beginC beginS
  by_cases n1 : S.fail = 0
  · rw [if_pos n1, if_pos n1]; exact ⟨.inr rfl, a, c⟩
  · rw [if_neg n1, if_neg n2, if_neg n1, if_neg n2]
    exact ⟨.inl rfl, a, by show max (S.crash - 1) (-1) = -1; omega⟩
theorem NoCrash.ren {S : DS} (h : NoCrash S) (src dst : ByteArray) (f : Nat) : NoCrash (renS S src dst f) := by
  obtain ⟨_, b, c, d, e, _, _, g⟩ := ren_same S src dst f
  exact ⟨by rw [g]; exact h.1, by rw [d]; exact h.2⟩
theorem relAll_no (l : List Chg) : ∀ (Z : DS), NoCrash Z → NoCrash (relAll Z l) := by
  have f : ∀ (Z : DS) (n : Nat), NoCrash Z → NoCrash (relF Z n) := fun Z n hz => by
    unfold relF; split <;> exact hz
  induction l with
  | nil => exact fun Z hz => hz
  | cons d l ih =>
    intro Z hz
    refine ih _ ?_
    unfold relC relO
    split
    · exact f _ _ (f _ _ hz)
    · exact f _ _ hz
theorem step_no {D : List Nat} {P : Option (List Nat) → Prop} {S : DS} (hc : NoCrash S) (i : Nat) (hi : i < 6) (h : Stage D P i S) :
    (stC D i S = 0 ∨ stC D i S = 7 ∨ stC D i S = 8) ∧ NoCrash (stS D i S) := by
  obtain ⟨b, cb⟩ := hc.begin
  have nd : ¬ S.dead = true := by rw [hc.1]; decide
  have b3 : beginC S = 0 ∨ beginC S = 7 ∨ beginC S = 8 := by rcases b with e | e <;> simp [e]
  have way : ∀ Z : DS, NoCrash Z → NoCrash (if beginC S = 8 then beginS S else Z) := fun Z hz => by
    split
    · exact cb
    · exact hz
  match i, hi, h with
  | 0, _, ⟨a, s, f, n⟩ =>
    have hf := kget_F n.names
    show (cleanC S = 0 ∨ cleanC S = 7 ∨ cleanC S = 8) ∧ NoCrash (cleanS S)
    unfold cleanC removeC cleanS removeS findC findN
    rw [hf, if_neg nd, if_neg nd]
    cases f with
    | none => exact ⟨by simp, hc⟩
    | some m =>
      refine ⟨?_, way _ (cb.ren _ _ _)⟩
      rcases b with e | e <;> simp [e]
  | 1, _, ⟨a, s, n⟩ =>
    have hf := kget_F n.names
    show (createC S nmF = 0 ∨ createC S nmF = 7 ∨ createC S nmF = 8) ∧ NoCrash (createS S nmF)
    unfold createC createS
    rw [hf, if_neg nd, if_neg nd, if_neg (show ¬ nmF.size = 0 by decide), if_neg (show ¬ nmF.size = 0 by decide), if_neg (show ¬ (none : Option Nat).isSome = true by decide), if_neg (show ¬ (none : Option Nat).isSome = true by decide)]
    have cz : NoCrash ({ beginS S with made := (beginS S).made + 1 }.setF ((beginS S).made + 1) ⟨[], 0, false⟩) := cb
    exact ⟨b3, way _ (cz.ren _ _ _)⟩
  | 2, _, ⟨a, s, m, n, _, _⟩ =>
    have hf := kget_F n.names
    show (appendC S nmF D = 0 ∨ appendC S nmF D = 7 ∨ appendC S nmF D = 8) ∧ NoCrash (appendS S nmF D)
    unfold appendC appendS findC findN
    rw [hf, if_neg nd, if_neg nd]
    show ((if (0 : Int) ≠ 0 then (0 : Int) else if S.free < D.length then (7 : Int) else beginC S) = 0 ∨ (if (0 : Int) ≠ 0 then (0 : Int) else if S.free < D.length then (7 : Int) else beginC S) = 7 ∨ (if (0 : Int) ≠ 0 then (0 : Int) else if S.free < D.length then (7 : Int) else beginC S) = 8) ∧ NoCrash (if S.free < D.length then S else if beginC S = 8 then beginS S else appF (beginS S) m D)
    rw [if_neg (show ¬ ((0 : Int) ≠ 0) by simp)]
    by_cases hfr : S.free < (D.length : Int)
    · rw [if_pos hfr, if_pos hfr]; exact ⟨.inr (.inl rfl), hc⟩
    · rw [if_neg hfr, if_neg hfr]; exact ⟨b3, way _ cb⟩
  | 3, _, ⟨a, s, m, n, _, _⟩ =>
    have hf := kget_F n.names
    show (syncC S nmF = 0 ∨ syncC S nmF = 7 ∨ syncC S nmF = 8) ∧ NoCrash (syncS S nmF)
    unfold syncC syncS findC findN
    rw [hf, if_neg nd, if_neg nd]
    refine ⟨by rcases b with e | e <;> simp [e], ?_⟩
    show NoCrash (if beginC S = 0 then syncF (beginS S) m else beginS S)
    split
    · exact cb
    · exact cb
  | 4, _, ⟨a, s, m, n, _, _⟩ =>
    have hf := kget_F n.names
    have hn : ¬ (nmS.size = 0 ∨ nmS = nmF) := by decide
    show (renameC S nmF nmS = 0 ∨ renameC S nmF nmS = 7 ∨ renameC S nmF nmS = 8) ∧ NoCrash (renameS S nmF nmS)
    unfold renameC renameS findC findN
    rw [hf, if_neg nd, if_neg nd, if_neg hn]
    show _ ∧ NoCrash (if nmS.size = 0 ∨ nmS = nmF then S else if beginC S = 8 then beginS S else renS (beginS S) nmF nmS m)
    rw [if_neg hn]
    refine ⟨by rcases b with e | e <;> simp [e], way _ (cb.ren _ _ _)⟩
  | 5, _, _ =>
    show (syncNamesC S = 0 ∨ syncNamesC S = 7 ∨ syncNamesC S = 8) ∧ NoCrash (syncNamesS S)
    unfold syncNamesC syncNamesS
    rw [if_neg nd, if_neg nd]
    refine ⟨b3, ?_⟩
    split
    · exact relAll_no S.chg (beginS S) cb
    · exact cb
theorem SaveR.no {D : List Nat} {P : Option (List Nat) → Prop} {S S' : DS} {e : Int} (r : SaveR D S e S') (hc : NoCrash S) (h : CInv S P) {s f : Option Nat} (n : CNow S s f) : (e = 0 ∨ e = 7 ∨ e = 8) ∧ NoCrash S' := by
  have al : ∀ i, i ≤ 6 → (∀ j, j < i → stC D j (stN D S j) = 0) → NoCrash (stN D S i) := by
    intro i
    induction i with
    | zero => intro _ _; exact hc
    | succ i ih =>
      intro hi hz
      have hz' : ∀ j, j < i → stC D j (stN D S j) = 0 := fun j hj => hz j (by omega)
      exact (step_no (ih (by omega) hz') i (by omega) (stage_all h n i (by omega) hz')).2
  rcases r with ⟨i, hi, hz, he, _, hS⟩ | ⟨hz, he, hS⟩
  · obtain ⟨a, b⟩ := step_no (al i (by omega) hz) i hi (stage_all h n i (by omega) hz)
    exact ⟨by rw [he]; exact a, by rw [hS]; exact b⟩
  · exact ⟨.inl he, by rw [hS]; exact al 6 (Nat.le_refl _) hz⟩
theorem again_calm {S : DS} {P : Option (List Nat) → Prop} (i : CInv S P) (ch : List Int) : Calm (restartI S ch) ∧ (restartI S ch).room = S.room := by
  obtain ⟨s, f, a, b⟩ := i (pickN ch 0 S.chg.length) (pickN_le _ _ _)
  obtain ⟨_, _, _, _, _, _, e, _⟩ := restart_spec S ch ((a.map (·.2)).nodup_iff.2 (entC_vals fun n hn => (b.st n hn).2.2))
  exact ⟨⟨rfl, rfl, rfl⟩, e⟩
theorem relAll_room (l : List Chg) : ∀ (Z : DS), (relAll Z l).room = Z.room := by
  have f : ∀ (Z : DS) (n : Nat), (relF Z n).room = Z.room := fun Z n => by unfold relF; split <;> rfl
  induction l with
  | nil => exact fun Z => rfl
  | cons d l ih =>
    intro Z
    refine (ih _).trans ?_
    unfold relC relO
    split
    · exact (f _ _).trans (f _ _)
    · exact f _ _
theorem step_room (D : List Nat) (i : Nat) (S : DS) : (stS D i S).room = S.room := by
  have b := (begin_same S).1
  match i with
  | 0 =>
    show (removeS S nmF).room = _
    unfold removeS
    split
    · rfl
    · split
      · exact b
      · exact (ren_same _ _ _ _).2.1.trans b
  | 1 =>
    show (createS S nmF).room = _
    unfold createS
    split
    · rfl
    · split
      · rfl
      · split
        · rfl
        · split
          · exact b
          · exact (ren_same _ _ _ _).2.1.trans b
  | 2 =>
    show (appendS S nmF D).room = _
    unfold appendS
    split
    · rfl
    · split
      · rfl
      · split
        · exact b
        · exact b
  | 3 =>
    show (syncS S nmF).room = _
    unfold syncS
    split
    · rfl
    · split
      · exact b
      · exact b
  | 4 =>
    show (renameS S nmF nmS).room = _
    unfold renameS
    split
    · rfl
    · split
      · rfl
      · split
        · exact b
        · exact (ren_same _ _ _ _).2.1.trans b
  | i + 5 =>
    show (syncNamesS S).room = _
    unfold syncNamesS
    split
    · rfl
    · split
      · exact (relAll_room _ _).trans b
      · exact b
theorem steps_room (D : List Nat) (S : DS) (i : Nat) : (stN D S i).room = S.room := by
  induction i with
  | zero => rfl
  | succ i ih => exact (step_room D i _).trans ih
theorem SaveR.room {D : List Nat} {S S' : DS} {e : Int} (r : SaveR D S e S') : S'.room = S.room := by
  rcases r with ⟨i, _, _, _, _, hS⟩ | ⟨_, _, hS⟩
  · rw [hS]; exact steps_room D S _
  · rw [hS]; exact steps_room D S _
end Go.Proofs.YteilmohlgfgmnaaGreatDoor
