/- WalE, WalF, WalG, WalH, WalI, in one text. -/
import Derived.Test.YtdffpbfllekcgaaGreatDoorHp
import Derived.Test.YtdffpbfllekcgaaGreatDoorHs
namespace Go.Proofs.YtdffpbfllekcgaaGreatDoor
set_option maxRecDepth 100000
open Go.RowKit M

theorem chain_snoc {q : Nat} {init : List Seg} {g : Seg} (hc : ChainQ q init) (hq : g.q = q + (recs init).length) (hr : g.rs ≠ []) : ChainQ q (init ++ [g]) :=
  (chain_append init [g] q).2 ⟨hc, ⟨hq, hr, trivial⟩⟩
theorem recs_one (g : Seg) : recs [g] = g.rs := by simp [recs]

/-- a record is written behind the newest file's others -/
theorem inv_append {S : DS} {q0 n s : Nat} {base ext init : List Seg} {g : Seg} {r : List Nat} (h : Inv S q0 base n) (hw : Now S q0 base n ext) (hs : SafeN S base s) (hc : S.chg = []) (hl : base ++ ext = init ++ [g]) (hd : (S.file g.f).data = frs g.q g.rs) (hfull : ext ≠ [] → Full S base)
    (hn : g.q + g.rs.length + 1 ≤ n) (hr : r.length ≤ 60 ∧ ∀ d ∈ r, d < 2 ^ 8) :
    ∃ q1, Inv (appF S g.f (frN (g.q + g.rs.length) r)) q1 (init ++ [⟨g.q, g.f, g.rs ++ [r]⟩]) n ∧ Now (appF S g.f (frN (g.q + g.rs.length) r)) q1 (init ++ [⟨g.q, g.f, g.rs ++ [r]⟩]) n [] ∧ SafeN (appF S g.f (frN (g.q + g.rs.length) r)) (init ++ [⟨g.q, g.f, g.rs ++ [r]⟩]) s ∧ recs (init ++ [⟨g.q, g.f, g.rs ++ [r]⟩]) = recs base ++ [r] ∧ g.q + g.rs.length = q1 + (recs base).length ∧ (q0 = 1 → q1 = 1) ∧
      Full (appF S g.f (frN (g.q + g.rs.length) r)) init := by
  obtain ⟨Z, hZ⟩ : ∃ Z, Z = appF S g.f (frN (g.q + g.rs.length) r) := ⟨_, rfl⟩
  rw [← hZ]
  have nb := h.n1
  have z1 : Z.names = S.names := by rw [hZ]; rfl
  have z2 : Z.safe = S.safe := by rw [hZ]; rfl
  have z3 : Z.chg = [] := by rw [hZ]; exact hc
  have z4 : Z.made = S.made := by rw [hZ]; rfl
  have fl : ∀ i, Z.file i = if i = g.f then ⟨(S.file g.f).data ++ frN (g.q + g.rs.length) r, (S.file g.f).safe, (S.file g.f).named⟩ else S.file i := fun i => by rw [hZ]; rfl
  have dis := ext_fs h.fs hw.ok
  rw [hl, List.map_append] at dis
  have away : ∀ x ∈ init, x.f ≠ g.f := fun x hx => (List.nodup_append.1 dis).2.2 _ (List.mem_map.2 ⟨x, hx, rfl⟩) _ (by simp)
  have old : ∀ x ∈ init, Z.file x.f = S.file x.f := fun x hx => by rw [fl, if_neg (away x hx)]
  -- what goes ahead of the newest file
  have parts : ChainQ q0 init ∧ (∀ x ∈ init, x ∈ base) ∧ (init ≠ [] ∨ q0 = 1 → g.q = q0 + (recs init).length) ∧ recs base = recs init ++ g.rs ∧ Small g.rs ∧ g.f ≤ S.made ∧ 1 ≤ g.q ∧ Full S init := by
    rcases hw.ok with rfl | ⟨x, rfl, x2, x3, x4, x5, x6, x7, x8⟩
    · rw [List.append_nil] at hl
      have hcb := h.chain
      rw [hl] at hcb
      obtain ⟨c1, c2, c3, _⟩ := (chain_append init [g] q0).1 hcb
      have hg : g ∈ base := by rw [hl]; simp
      refine ⟨c1, fun x hx => by rw [hl]; exact List.mem_append.2 (.inl hx), fun _ => c2, by rw [hl, recs_append, recs_one], h.small g hg, h.fle g hg, by have := h.q1; omega, ?_⟩
      rcases hs with ⟨a, _⟩ | ⟨_, _, i2, g2, j, e, f2, _⟩
      · exact fun x hx => a x (by rw [hl]; exact List.mem_append.2 (.inl hx))
      · rw [hl] at e
        obtain ⟨rfl, _⟩ := List.append_inj' e rfl
        exact f2
    · obtain ⟨rfl, e⟩ := List.append_inj' hl rfl
      obtain rfl : x = g := by simpa using e
      exact ⟨h.chain, fun _ h => h, x4, by rw [x2, List.append_nil], by rw [x2]; exact Small.nil, x7, x5, hfull (by simp)⟩
  obtain ⟨c1, c2, c3, c4, c5, c6, c7, c8⟩ := parts
  obtain ⟨q1, hq1, hq1c, hq1g, hq11⟩ : ∃ q1, 1 ≤ q1 ∧ ChainQ q1 init ∧ g.q = q1 + (recs init).length ∧ (q0 = 1 → q1 = 1) := by
    by_cases e : init = []
    · subst e; exact ⟨g.q, c7, trivial, rfl, fun e => by rw [c3 (.inr e), e]; rfl⟩
    · exact ⟨q0, h.q1, c1, c3 (.inl e), fun e => e⟩
  have hlen : (g.rs ++ [r]).length = g.rs.length + 1 := by simp
  have hdat : (Z.file g.f).data = frs g.q (g.rs ++ [r]) := by
    rw [fl, if_pos rfl, frs_snoc]
    show (S.file g.f).data ++ _ = _
    rw [hd]
  have er : recs (init ++ [⟨g.q, g.f, g.rs ++ [r]⟩]) = recs base ++ [r] := by rw [recs_append, recs_one, c4, List.append_assoc]
  have ee : ents (init ++ [⟨g.q, g.f, g.rs ++ [r]⟩]) = ents (base ++ ext) := by rw [hl, ents_append, ents_append]; rfl
  have fp : ∀ p, foldP Z p = foldP S S.chg.length := fun p => by unfold foldP; rw [z3, z2, hc]; simp
  have cnew : ChainQ q1 (init ++ [⟨g.q, g.f, g.rs ++ [r]⟩]) := chain_snoc hq1c hq1g (by simp)
  have fold0 : ∀ p, (foldP Z p).Perm (ents ((init ++ [⟨g.q, g.f, g.rs ++ [r]⟩]) ++ [])) := fun p => by rw [fp, List.append_nil, ee]; exact hw.last
  refine ⟨q1, ⟨nb, hq1, cnew, fun x hx => ?_, fun x hx => ?_, ?_, fun x hx => ?_, ?_, fun p _ => ⟨[], fold0 p, .inl rfl⟩⟩, ⟨by rw [z1, List.append_nil, ee]; exact hw.names, fold0 _, .inl rfl, fun x hx => ?_⟩, ?_, er, by rw [c4, List.length_append, hq1g]; omega, hq11, fun x hx => by rw [old x hx]; exact c8 x hx⟩
  · rcases List.mem_append.1 hx with hx | hx
    · exact h.small x (c2 x hx)
    · rw [List.mem_singleton] at hx; subst hx; exact c5.append (Small.one hr)
  · rcases List.mem_append.1 hx with hx | hx
    · rw [old x hx]; exact h.holds x (c2 x hx)
    · rw [List.mem_singleton] at hx; subst hx; exact HoldsR.exact' hdat
  · rw [List.map_append]
    exact dis
  · rw [z4]
    rcases List.mem_append.1 hx with hx | hx
    · exact h.fle x (c2 x hx)
    · rw [List.mem_singleton] at hx; subst hx; exact c6
  · rw [er, c4, List.length_append, List.length_append]
    simp only [List.length_singleton]
    omega
  · rw [List.append_nil] at hx
    rcases List.mem_append.1 hx with hx | hx
    · rw [old x hx]; exact hw.named x (by rw [hl]; exact List.mem_append.2 (.inl hx))
    · rw [List.mem_singleton] at hx; subst hx
      rw [fl, if_pos rfl]
      exact hw.named g (by rw [hl]; simp)
  · -- which records are safe
    have len : Z.names.length = (init ++ [(⟨g.q, g.f, g.rs ++ [r]⟩ : Seg)]).length := by
      rw [z1, hw.names.length_eq]
      show (List.map _ _).length = _
      rw [List.length_map, hl, List.length_append, List.length_append]; rfl
    rcases hs with ⟨a, b⟩ | ⟨_, b, i2, g2, j, e, f2, j1, j2, j3⟩
    · refine .inr ⟨z3, len, init, _, g.rs.length, rfl, fun x hx => by rw [old x hx]; exact c8 x hx, by rw [hlen]; omega, by rw [c4, List.length_append] at b; exact b, ?_⟩
      show (frs g.q ((g.rs ++ [r]).take g.rs.length)).length ≤ (Z.file g.f).safe
      rw [List.take_left, fl, if_pos rfl]
      show _ ≤ (S.file g.f).safe
      by_cases hx : ext = []
      · exact a g (by rw [hx, List.append_nil] at hl; rw [hl]; simp)
      · rcases hw.ok with e | ⟨x, e, x2, _⟩
        · exact absurd e hx
        · rw [e] at hl
          obtain ⟨_, e'⟩ := List.append_inj' hl rfl
          obtain rfl : x = g := by simpa using e'
          rw [x2]; exact Nat.zero_le _
    · have ex : ext = [] := by
        have e2 := hw.names.length_eq
        have e3 : (ents (base ++ ext)).length = base.length + ext.length := by show (List.map _ _).length = _; rw [List.length_map, List.length_append]
        rw [e3, b] at e2
        exact List.length_eq_zero_iff.1 (by omega)
      rw [ex, List.append_nil] at hl
      rw [hl] at e
      obtain ⟨rfl, e'⟩ := List.append_inj' e rfl
      obtain rfl : g = g2 := by simpa using e'
      refine .inr ⟨z3, len, init, _, j, rfl, fun x hx => by rw [old x hx]; exact c8 x hx, by rw [hlen]; omega, j2, ?_⟩
      show (frs g.q ((g.rs ++ [r]).take j)).length ≤ (Z.file g.f).safe
      rw [List.take_append_of_le_length j1, fl, if_pos rfl]
      exact j3

/-! ### a restart -/
theorem cut_spec (ch : List Int) (k : Nat) (f : FileS) : ∃ m, (cutF ch k f).data = f.data.take m ∧ f.safe ≤ m ∧ (cutF ch k f).safe = (cutF ch k f).data.length ∧ (cutF ch k f).named = true := by
  unfold cutF
  by_cases h : f.safe < f.data.length
  · simp only [if_pos h]
    exact ⟨_, rfl, Nat.le_add_right _ _, trivial, trivial⟩
  · simp only [if_neg h]
    exact ⟨max f.safe f.data.length, by rw [List.take_of_length_le (by omega)], by omega, trivial, trivial⟩
theorem cut_fold (ch : List Int) (l : List Nat) : ∀ (q : Nat × DS), l.Nodup → (∀ i, i ∉ l → (l.foldl (cutStep ch) q).2.file i = q.2.file i) ∧ (∀ i, i ∈ l → ∃ k, (l.foldl (cutStep ch) q).2.file i = cutF ch k (q.2.file i)) ∧
    (l.foldl (cutStep ch) q).2.names = q.2.names ∧ (l.foldl (cutStep ch) q).2.safe = q.2.safe ∧ (l.foldl (cutStep ch) q).2.chg = q.2.chg ∧ (l.foldl (cutStep ch) q).2.made = q.2.made ∧ (l.foldl (cutStep ch) q).2.room = q.2.room ∧ (l.foldl (cutStep ch) q).2.calls = q.2.calls ∧
    (∀ C : Nat → Bool, (∀ i, C i = decide (i ∈ l)) → (∀ i ∈ l, 1 ≤ i ∧ i ≤ q.2.made) → (l.foldl (cutStep ch) q).2.used = q.2.used + (sumC C (l.foldl (cutStep ch) q).2.file q.2.made : Nat)) := by
  induction l with
  | nil =>
    intro q _
    refine ⟨fun _ _ => rfl, fun i h => (nomatch h), rfl, rfl, rfl, rfl, rfl, rfl, fun C hC _ => ?_⟩
    have z : ∀ n, sumC C q.2.file n = 0 := fun n => by
      induction n with
      | zero => rfl
      | succ n ih => unfold sumC; rw [ih, hC]; simp
    show q.2.used = q.2.used + ((sumC C q.2.file q.2.made : Nat) : Int)
    rw [z]; simp
  | cons n l ih =>
    intro q hn
    obtain ⟨n1, n2⟩ := List.nodup_cons.1 hn
    rw [List.foldl_cons]
    obtain ⟨a, b, c1, c2, c3, c4, c5, c6, d⟩ := ih (cutStep ch q n) n2
    have fq : ∀ i, (cutStep ch q n).2.file i = if i = n then cutF ch q.1 (q.2.file n) else q.2.file i := fun _ => rfl
    refine ⟨fun i hi => ?_, fun i hi => ?_, c1, c2, c3, c4, c5, c6, fun C hC hl => ?_⟩
    · rw [a i (fun h => hi (List.mem_cons_of_mem _ h)), fq, if_neg (fun e => hi (by rw [e]; exact List.mem_cons_self))]
    · rcases List.mem_cons.1 hi with rfl | hi
      · exact ⟨q.1, by rw [a i n1, fq, if_pos rfl]⟩
      · obtain ⟨k, e⟩ := b i hi
        exact ⟨k, by rw [e, fq, if_neg (fun e => n1 (by rw [← e]; exact hi))]⟩
    · have hd := d (fun i => decide (i ∈ l)) (fun _ => rfl) (fun i hi => hl i (List.mem_cons_of_mem _ hi))
      rw [hd]
      have hm : (cutStep ch q n).2.made = q.2.made := rfl
      have hu : (cutStep ch q n).2.used = q.2.used + ((cutF ch q.1 (q.2.file n)).data.length : Int) := rfl
      rw [hm, hu]
      obtain ⟨m1, m2⟩ := hl n List.mem_cons_self
      have ad := sumC_add (fun i => decide (i ∈ l)) (l.foldl (cutStep ch) (cutStep ch q n)).2.file q.2.made n m1 m2 (decide_eq_false n1)
      have cc : sumC C (l.foldl (cutStep ch) (cutStep ch q n)).2.file q.2.made = sumC (fun i => decide (i = n) || decide (i ∈ l)) (l.foldl (cutStep ch) (cutStep ch q n)).2.file q.2.made := sumC_congr _ (fun i _ _ => by
        have : C i = (decide (i = n) || decide (i ∈ l)) := by rw [hC]; by_cases e : i = n <;> simp [e]
        rw [this])
      rw [cc, ad, a n n1, fq, if_pos rfl]
      omega
end Go.Proofs.YtdffpbfllekcgaaGreatDoor
namespace Go.Proofs.YtdffpbfllekcgaaGreatDoor
set_option maxRecDepth 100000
open Go.RowKit M

theorem wrest0_names (S : DS) (ch : List Int) : (rest0 S ch).names = foldP S (pickN ch 0 S.chg.length) := rfl
theorem view_vals {S : DS} {q0 n : Nat} {base : List Seg} (h : Inv S q0 base n) {p : Nat} (hp : p ≤ S.chg.length) : ((foldP S p).map (·.2)).Nodup := by
  obtain ⟨ext, a, b⟩ := h.views p hp
  have e : ((ents (base ++ ext)).map (·.2)) = (base ++ ext).map (·.f) := by unfold ents; rw [List.map_map]; rfl
  rw [(a.map (·.2)).nodup_iff, e]
  exact ext_fs h.fs b
/-- what a restart leaves of each file that has a name then -/
theorem restart_spec (S : DS) (ch : List Int) (hd : ((foldP S (pickN ch 0 S.chg.length)).map (·.2)).Nodup) :
    (restartI S ch).names = foldP S (pickN ch 0 S.chg.length) ∧ (restartI S ch).safe = foldP S (pickN ch 0 S.chg.length) ∧ (restartI S ch).chg = [] ∧ (restartI S ch).made = S.made ∧
    (∀ x ∈ foldP S (pickN ch 0 S.chg.length), ∃ m, ((restartI S ch).file x.2).data = (S.file x.2).data.take m ∧ (S.file x.2).safe ≤ m ∧ ((restartI S ch).file x.2).safe = ((restartI S ch).file x.2).data.length ∧ ((restartI S ch).file x.2).named = true) ∧
    (∀ i, ((restartI S ch).file i).data.length ≤ (S.file i).data.length ∧ (((restartI S ch).file i).safe ≤ (S.file i).safe ∨ ((restartI S ch).file i).safe ≤ (S.file i).data.length)) ∧
    (restartI S ch).room = S.room ∧ (restartI S ch).calls = S.calls ∧
    (∀ C : Nat → Bool, (∀ i, C i = decide (i ∈ (foldP S (pickN ch 0 S.chg.length)).map (·.2))) → (∀ x ∈ foldP S (pickN ch 0 S.chg.length), 1 ≤ x.2 ∧ x.2 ≤ S.made) → (restartI S ch).used = (sumC C (restartI S ch).file S.made : Nat)) := by
  obtain ⟨l, hl⟩ : ∃ l, l = isort ((rest0 S ch).names.map (·.2)) := ⟨_, rfl⟩
  have pm : l.Perm ((foldP S (pickN ch 0 S.chg.length)).map (·.2)) := by rw [hl, wrest0_names]; exact isort_perm _
  have nd : l.Nodup := pm.nodup_iff.2 hd
  obtain ⟨a, b, c1, c2, c3, c4, c5, c6, d⟩ := cut_fold ch l (1, rest0 S ch) nd
  have er : restartI S ch = { (l.foldl (cutStep ch) (1, rest0 S ch)).2 with crash := -1, fail := -1, dead := false } := by rw [hl]; rfl
  have ef : (restartI S ch).file = (l.foldl (cutStep ch) (1, rest0 S ch)).2.file := by rw [er]
  have f0 : (rest0 S ch).file = S.file := rfl
  have u0 : (rest0 S ch).used = 0 := rfl
  have m0 : (rest0 S ch).made = S.made := rfl
  refine ⟨by rw [er]; exact c1, by rw [er]; exact c2, by rw [er]; exact c3, by rw [er]; exact c4, fun x hx => ?_, fun i => ?_, by rw [er]; exact c5, by rw [er]; exact c6, fun C hC hb => ?_⟩
  · obtain ⟨k, e⟩ := b x.2 (pm.mem_iff.2 (List.mem_map.2 ⟨x, hx, rfl⟩))
    obtain ⟨m, m1, m2, m3, m4⟩ := cut_spec ch k (S.file x.2)
    rw [ef, e]
    exact ⟨m, m1, m2, m3, m4⟩
  · rw [ef]
    by_cases hi : i ∈ l
    · obtain ⟨k, e⟩ := b i hi
      obtain ⟨m, m1, m2, m3, m4⟩ := cut_spec ch k (S.file i)
      rw [e]
      have le : (cutF ch k (S.file i)).data.length ≤ (S.file i).data.length := by rw [m1]; exact List.length_take_le' _ _
      exact ⟨le, .inr (by show (cutF ch k (S.file i)).safe ≤ _; rw [m3]; exact le)⟩
    · rw [a i hi]
      exact ⟨Nat.le_refl _, .inl (Nat.le_refl _)⟩
  · have := d C (fun i => by rw [hC]; exact decide_eq_decide.2 pm.mem_iff.symm) (fun i hi => by
      obtain ⟨x, hx, rfl⟩ := List.mem_map.1 (pm.mem_iff.1 hi)
      exact hb x hx)
    rw [er]
    show (l.foldl (cutStep ch) (1, rest0 S ch)).2.used = _
    rw [this]
    show (0 : Int) + _ = _
    rw [Int.zero_add]
    rfl
theorem Sz.restart {S : DS} {k c : Nat} (h : Sz S k c) (ch : List Int) (hd : ((foldP S (pickN ch 0 S.chg.length)).map (·.2)).Nodup) : Sz (restartI S ch) k c := by
  obtain ⟨C, h⟩ := h
  obtain ⟨p, hp⟩ : ∃ p, p = pickN ch 0 S.chg.length := ⟨_, rfl⟩
  obtain ⟨a1, a2, a3, a4, a5, a6, a7, a8, a9⟩ := restart_spec S ch hd
  rw [← hp] at a1 a2 a5 a9
  have refs : ∀ x ∈ foldP S p, RefC S C x.2 := wfold_mem (P := RefC S C) (S.chg.take p) S.safe h.sref (fun d hdm => (h.cref d (List.mem_of_mem_take hdm)).1)
  have len : (foldP S p).length ≤ k := by
    have := foldl_length (S.chg.take p) S.safe
    have ht : (S.chg.take p).length ≤ S.chg.length := List.length_take_le' _ _
    have sc := h.sc
    unfold foldP
    omega
  have us := a9 (fun i => decide (i ∈ (foldP S p).map (·.2))) (fun _ => rfl) (fun x hx => ⟨(refs x hx).1, (refs x hx).2.1⟩)
  have le : sumC (fun i => decide (i ∈ (foldP S p).map (·.2))) (restartI S ch).file S.made ≤ sumC C S.file S.made := sumC_le _ (fun i _ _ => by
    by_cases hi : i ∈ (foldP S p).map (·.2)
    · obtain ⟨x, hx, rfl⟩ := List.mem_map.1 hi
      rw [decide_eq_true hi, (refs x hx).2.2]
      exact (a6 x.2).1
    · rw [decide_eq_false hi]; exact Nat.zero_le _)
  have uu := h.used; have u1 := h.used1
  have nr : ∀ x ∈ foldP S p, RefC (restartI S ch) (fun i => decide (i ∈ (foldP S p).map (·.2))) x.2 := fun x hx => ⟨(refs x hx).1, by rw [a4]; exact (refs x hx).2.1, decide_eq_true (List.mem_map.2 ⟨x, hx, rfl⟩)⟩
  refine ⟨_, by rw [a7]; exact h.room0, by rw [a7]; exact h.room1, by show (-1 : Int) ≤ -1; omega, by show (-1 : Int) ≤ _; omega, by show (-1 : Int) ≤ -1; omega, by show (-1 : Int) ≤ _; omega, by rw [a4]; exact h.made, by rw [a8]; exact h.calls, by rw [a1]; exact len, by rw [a2, a3]; exact len, fun i => Nat.le_trans (a6 i).1 (h.data i), fun i => ?_, by rw [us]; omega, by rw [a4]; exact us, by rw [a1]; exact nr, by rw [a2]; exact nr, by rw [a3]; exact fun d hdm => (nomatch hdm)⟩
  rcases (a6 i).2 with e | e
  · exact Nat.le_trans e (h.dsafe i)
  · exact Nat.le_trans e (h.data i)

theorem inv_restart0 {S : DS} {q0 n s : Nat} {base : List Seg} (h : Inv S q0 base n) (hw : S.chg = [] → S.names.length = base.length → (foldP S 0).Perm (ents base)) (hs : SafeN S base s) (ch : List Int) :
    ∃ base' ext', Inv (restartI S ch) q0 base' n ∧ Now (restartI S ch) q0 base' n ext' ∧ Full (restartI S ch) base' ∧ (restartI S ch).chg = [] ∧ ∃ m, s ≤ m ∧ m ≤ (recs base).length ∧ recs base' = (recs base).take m := by
  obtain ⟨p, hp⟩ : ∃ p, p = pickN ch 0 S.chg.length := ⟨_, rfl⟩
  have ple : p ≤ S.chg.length := by rw [hp]; exact pickN_le _ _ _
  have hd := view_vals h ple
  rw [hp] at hd
  obtain ⟨a1, a2, a3, a4, a5, _⟩ := restart_spec S ch hd
  rw [← hp] at a1 a2 a5
  have fp : ∀ i, foldP (restartI S ch) i = foldP S p := fun i => by unfold foldP; rw [a3, List.take_nil]; exact a2
  -- a file that has a name then
  have cut : ∀ {l : List Seg}, (foldP S p).Perm (ents l) → ∀ g ∈ l, ∃ m, ((restartI S ch).file g.f).data = (S.file g.f).data.take m ∧ (S.file g.f).safe ≤ m ∧ ((restartI S ch).file g.f).safe = ((restartI S ch).file g.f).data.length ∧ ((restartI S ch).file g.f).named = true := fun {l} hl g hg =>
    a5 (nameM g.q, g.f) (hl.mem_iff.2 (List.mem_map.2 ⟨g, hg, rfl⟩))
  -- a file whose records are safe
  have whole : ∀ {l : List Seg}, (foldP S p).Perm (ents l) → ∀ g ∈ l, HoldsR (S.file g.f).data g.q g.rs → Small g.rs → (frs g.q g.rs).length ≤ (S.file g.f).safe → HoldsR ((restartI S ch).file g.f).data g.q g.rs := fun {l} hl g hg hh hsm hf => by
    obtain ⟨m, m1, m2, _⟩ := cut hl g hg
    obtain ⟨j, j1, j2, j3⟩ := HoldsR.take g.rs _ g.q m hh hsm
    have e := j3 g.rs.length (Nat.le_refl _) (by rw [List.take_length]; omega)
    rw [m1]
    rw [List.take_of_length_le e] at j2
    exact j2
  have full : ∀ {l : List Seg}, (foldP S p).Perm (ents l) → (∀ g ∈ l, HoldsR ((restartI S ch).file g.f).data g.q g.rs) → Full (restartI S ch) l := fun {l} hl hh g hg => by
    obtain ⟨m, _, _, m3, _⟩ := cut hl g hg
    obtain ⟨t, e, _⟩ := hh g hg
    rw [m3, e, List.length_append]; omega
  rcases hs with ⟨f, sb⟩ | ⟨cz, nl, init, g, j, e, f2, j1, j2, j3⟩
  · obtain ⟨ex, v, ok⟩ := h.views p ple
    have hb : ∀ g ∈ base, HoldsR ((restartI S ch).file g.f).data g.q g.rs := fun g hg => whole v g (List.mem_append.2 (.inl hg)) (h.holds g hg) (h.small g hg) (f g hg)
    have ok' : ExtOk (restartI S ch) q0 base n ex := by
      rcases ok with e | ⟨x, e, x2, x3, x4, x5, x6, x7, x8⟩
      · exact .inl e
      · refine .inr ⟨x, e, x2, ?_, x4, x5, x6, by rw [a4]; exact x7, x8⟩
        have := whole v x (by rw [e]; simp) (by rw [x2]; exact x3) (by rw [x2]; exact Small.nil) (by rw [x2]; exact Nat.zero_le _)
        rw [x2] at this; exact this
    have hall : ∀ g ∈ base ++ ex, HoldsR ((restartI S ch).file g.f).data g.q g.rs := fun g hg => by
      rcases List.mem_append.1 hg with hg | hg
      · exact hb g hg
      · rcases ok' with e | ⟨x, e, x2, x3, _⟩
        · rw [e] at hg; exact nomatch hg
        · rw [e, List.mem_singleton] at hg; subst hg; rw [x2]; exact x3
    have fl := full v hall
    refine ⟨base, ex, ⟨h.n1, h.q1, h.chain, h.small, hb, h.fs, fun g hg => by rw [a4]; exact h.fle g hg, h.bound, fun i _ => ⟨ex, by rw [fp]; exact v, ok'⟩⟩, ⟨by rw [a1]; exact v, by rw [fp]; exact v, ok', fun g hg => ?_⟩, fun g hg => fl g (List.mem_append.2 (.inl hg)), a3, (recs base).length, sb, Nat.le_refl _, by rw [List.take_length]⟩
    obtain ⟨m, _, _, _, m4⟩ := cut v g hg
    exact m4
  · have p0 : p = 0 := by rw [cz] at ple; exact Nat.le_zero.1 ple
    have v : (foldP S p).Perm (ents base) := by
      rw [p0]; exact hw cz nl
    subst e
    have hg : g ∈ init ++ [g] := by simp
    obtain ⟨c1, c2, c3, _⟩ := (chain_append init [g] q0).1 h.chain
    have hi : ∀ x ∈ init, HoldsR ((restartI S ch).file x.f).data x.q x.rs := fun x hx => whole v x (List.mem_append.2 (.inl hx)) (h.holds x (List.mem_append.2 (.inl hx))) (h.small x (List.mem_append.2 (.inl hx))) (f2 x hx)
    obtain ⟨m, m1, m2, m3, m4⟩ := cut v g hg
    obtain ⟨j', k1, k2, k3⟩ := HoldsR.take g.rs _ g.q m (h.holds g hg) (h.small g hg)
    have jj := k3 j j1 (by omega)
    rw [← m1] at k2
    have nodup := h.fs
    rw [List.map_append] at nodup
    have fs1 : (init.map (·.f)).Nodup := (List.nodup_append.1 nodup).1
    have away : ∀ x ∈ init, x.f ≠ g.f := fun x hx => (List.nodup_append.1 nodup).2.2 _ (List.mem_map.2 ⟨x, hx, rfl⟩) _ (by simp)
    have named : ∀ x ∈ init ++ [g], ((restartI S ch).file x.f).named = true := fun x hx => by
      obtain ⟨_, _, _, _, m4⟩ := cut v x hx
      exact m4
    have er : recs (init ++ [g]) = recs init ++ g.rs := by rw [recs_append, recs_one]
    have tk : (recs (init ++ [g])).take ((recs init).length + j') = recs init ++ g.rs.take j' := by
      rw [er, List.take_append, List.take_of_length_le (by omega), Nat.add_sub_cancel_left]
    have bd := h.bound
    rw [er, List.length_append] at bd
    have q1 := h.q1
    by_cases z : j' = 0
    · subst z
      have ok' : ExtOk (restartI S ch) q0 init n [⟨g.q, g.f, []⟩] := .inr ⟨_, rfl, rfl, k2, fun _ => c2, by show 1 ≤ g.q; rw [c2]; omega, by show g.q ≤ n; rw [c2]; omega, by rw [a4]; exact h.fle g hg, away⟩
      have v' : (foldP S p).Perm (ents (init ++ [⟨g.q, g.f, []⟩])) := by rw [ents_append] at v ⊢; exact v
      have fl : Full (restartI S ch) init := fun x hx => by
        obtain ⟨_, _, _, m3, _⟩ := cut v x (List.mem_append.2 (.inl hx))
        obtain ⟨t, e, _⟩ := hi x hx
        rw [m3, e, List.length_append]; omega
      refine ⟨init, [⟨g.q, g.f, []⟩], ⟨h.n1, h.q1, c1, fun x hx => h.small x (List.mem_append.2 (.inl hx)), hi, fs1, fun x hx => by rw [a4]; exact h.fle x (List.mem_append.2 (.inl hx)), by omega, fun i _ => ⟨_, by rw [fp]; exact v', ok'⟩⟩, ⟨by rw [a1]; exact v', by rw [fp]; exact v', ok', fun x hx => ?_⟩, fl, a3, (recs init).length + 0, by omega, by rw [er, List.length_append]; omega, by rw [tk]; simp⟩
      rcases List.mem_append.1 hx with hx | hx
      · exact named x (List.mem_append.2 (.inl hx))
      · rw [List.mem_singleton] at hx; subst hx; exact named g hg
    · have v' : (foldP S p).Perm (ents (init ++ [⟨g.q, g.f, g.rs.take j'⟩])) := by rw [ents_append] at v ⊢; exact v
      have hne : g.rs.take j' ≠ [] := fun e => by
        have := congrArg List.length e
        rw [List.length_take] at this
        simp only [List.length_nil] at this
        omega
      have hall : ∀ x ∈ init ++ [(⟨g.q, g.f, g.rs.take j'⟩ : Seg)], HoldsR ((restartI S ch).file x.f).data x.q x.rs := fun x hx => by
        rcases List.mem_append.1 hx with hx | hx
        · exact hi x hx
        · rw [List.mem_singleton] at hx; subst hx; exact k2
      have er' : recs (init ++ [(⟨g.q, g.f, g.rs.take j'⟩ : Seg)]) = recs init ++ g.rs.take j' := by rw [recs_append, recs_one]
      have v2 : (foldP S p).Perm (ents ((init ++ [(⟨g.q, g.f, g.rs.take j'⟩ : Seg)]) ++ [])) := by rw [List.append_nil]; exact v'
      refine ⟨init ++ [⟨g.q, g.f, g.rs.take j'⟩], [], ⟨h.n1, h.q1, chain_snoc c1 c2 hne, fun x hx => ?_, hall, ?_, fun x hx => ?_, ?_, fun i _ => ⟨[], by rw [fp]; exact v2, .inl rfl⟩⟩, ⟨by rw [a1]; exact v2, by rw [fp]; exact v2, .inl rfl, fun x hx => ?_⟩, full v' hall, a3, (recs init).length + j', by omega, by rw [er, List.length_append]; omega, by rw [tk, er']⟩
      · rcases List.mem_append.1 hx with hx | hx
        · exact h.small x (List.mem_append.2 (.inl hx))
        · rw [List.mem_singleton] at hx; subst hx; exact (h.small g hg).take j'
      · rw [List.map_append]; exact nodup
      · rw [a4]
        rcases List.mem_append.1 hx with hx | hx
        · exact h.fle x (List.mem_append.2 (.inl hx))
        · rw [List.mem_singleton] at hx; subst hx; exact h.fle g hg
      · rw [er', List.length_append, List.length_take]; omega
      · rw [List.append_nil] at hx
        rcases List.mem_append.1 hx with hx | hx
        · exact named x (List.mem_append.2 (.inl hx))
        · rw [List.mem_singleton] at hx; subst hx; exact named g hg
theorem inv_restart {S : DS} {q0 n s : Nat} {base ext : List Seg} (h : Inv S q0 base n) (hw : Now S q0 base n ext) (hs : SafeN S base s) (ch : List Int) :
    ∃ base' ext', Inv (restartI S ch) q0 base' n ∧ Now (restartI S ch) q0 base' n ext' ∧ Full (restartI S ch) base' ∧ (restartI S ch).chg = [] ∧ ∃ m, s ≤ m ∧ m ≤ (recs base).length ∧ recs base' = (recs base).take m :=
  inv_restart0 h (fun cz nl => by
    have e2 := hw.names.length_eq
    have e3 : (ents (base ++ ext)).length = base.length + ext.length := by show (List.map _ _).length = _; rw [List.length_map, List.length_append]
    rw [e3, nl] at e2
    have ex : ext = [] := List.length_eq_zero_iff.1 (by omega)
    have := hw.last
    rw [cz, ex, List.append_nil] at this
    exact this) hs ch
end Go.Proofs.YtdffpbfllekcgaaGreatDoor
namespace Go.Proofs.YtdffpbfllekcgaaGreatDoor
set_option maxRecDepth 100000
open Go.RowKit M

/-- a log's own fields -/
structure LS where
  limit : Int
  next : Nat
  found : List ByteArray
  file : ByteArray
  size : Nat
  dirty : Bool
def noName : ByteArray := ⟨#[]⟩

def syncL : List ByteArray → DS → Int × DS
  | [], S => (0, S)
  | x :: l, S => if syncC S x = 0 then syncL l (syncS S x) else (syncC S x, syncS S x)
def lsync (S : DS) (L : LS) : Int × DS × LS :=
  if (syncL L.found S).1 ≠ 0 then ((syncL L.found S).1, (syncL L.found S).2, L)
  else if L.dirty = false then (0, (syncL L.found S).2, { L with found := [] })
  else (syncC (syncL L.found S).2 L.file, syncS (syncL L.found S).2 L.file, { L with found := [], dirty := decide (syncC (syncL L.found S).2 L.file ≠ 0) })

/-- nothing is to go wrong -/
def Calm (S : DS) : Prop := S.dead = false ∧ S.fail = -1 ∧ S.crash = -1
theorem Calm.begin {S : DS} (h : Calm S) : beginC S = 0 ∧ Calm (beginS S) := by
  obtain ⟨a, b, c⟩ := h
  have n1 : ¬ S.fail = 0 := by rw [b]; decide
  have n2 : ¬ S.crash = 0 := by rw [c]; decide
  unfold beginC beginS
  rw [if_neg n1, if_neg n2, if_neg n1, if_neg n2]
  exact ⟨rfl, a, by show max (S.fail - 1) (-1) = -1; omega, by show max (S.crash - 1) (-1) = -1; omega⟩

/-! ### one file is synced -/
theorem sync_same (S : DS) (x : ByteArray) : SameN S (syncS S x) := by
  unfold syncS
  split
  · exact SameN.refl S
  · split
    · exact (same_begin S).trans (same_syncF _ _)
    · exact same_begin S
theorem sync_done {S : DS} {x : ByteArray} {f : Nat} (hk : kget S.names x = some f) (h : syncC S x = 0) : ((syncS S x).file f).safe = (S.file f).data.length := by
  unfold syncC at h
  have hd : S.dead = false := by
    cases e : S.dead with
    | false => rfl
    | true => rw [show findC S x = 9 by unfold findC; rw [e]; rfl] at h; rw [if_pos (by decide)] at h; cases h
  have hf : findC S x = 0 := by unfold findC; rw [hd, hk]; rfl
  rw [hf, if_neg (fun e => e rfl)] at h
  have hn : findN S x = some f := by unfold findN; rw [hd]; exact hk
  unfold syncS
  rw [hn]
  show ((if beginC S = 0 then syncF (beginS S) f else beginS S).file f).safe = _
  rw [if_pos h]
  show (if f = f then (⟨((beginS S).file f).data, ((beginS S).file f).data.length, ((beginS S).file f).named⟩ : FileS) else (beginS S).file f).safe = _
  rw [if_pos rfl, (beginS_keeps S).2.2.2.2]
theorem sync_calm {S : DS} (h : Calm S) {x : ByteArray} {f : Nat} (hk : kget S.names x = some f) : syncC S x = 0 ∧ Calm (syncS S x) := by
  obtain ⟨b, c⟩ := h.begin
  have hf : findC S x = 0 := by unfold findC; rw [h.1, hk]; rfl
  have hn : findN S x = some f := by unfold findN; rw [h.1]; exact hk
  unfold syncC syncS
  rw [hf, if_neg (fun e => e rfl), hn]
  refine ⟨b, ?_⟩
  show Calm (if beginC S = 0 then syncF (beginS S) f else beginS S)
  rw [if_pos b]
  exact c
theorem syncL_same (l : List ByteArray) : ∀ S, SameN S (syncL l S).2 := by
  induction l with
  | nil => exact fun S => SameN.refl S
  | cons x l ih =>
    intro S
    unfold syncL
    split
    · exact (sync_same S x).trans (ih _)
    · exact sync_same S x
theorem syncL_done (l : List ByteArray) : ∀ S, (syncL l S).1 = 0 → ∀ x ∈ l, ∀ f, kget S.names x = some f → ∀ m, m ≤ (S.file f).data.length → m ≤ ((syncL l S).2.file f).safe := by
  induction l with
  | nil => intro S _ x hx; exact nomatch hx
  | cons y l ih =>
    intro S h x hx f hk m hm
    unfold syncL at h ⊢
    by_cases e : syncC S y = 0
    · rw [if_pos e] at h ⊢
      have k := sync_same S y
      rcases List.mem_cons.1 hx with rfl | hx
      · refine (syncL_same l _).more f m (by rw [k.data]; exact hm) ?_
        rw [sync_done hk e]; exact hm
      · exact ih _ h x hx f (by rw [k.names]; exact hk) m (by rw [k.data]; exact hm)
    · rw [if_neg e] at h
      exact absurd h e
theorem syncL_calm (l : List ByteArray) : ∀ S, Calm S → (∀ x ∈ l, ∃ f, kget S.names x = some f) → (syncL l S).1 = 0 ∧ Calm (syncL l S).2 := by
  induction l with
  | nil => exact fun S h _ => ⟨rfl, h⟩
  | cons y l ih =>
    intro S h hl
    obtain ⟨f, hf⟩ := hl y List.mem_cons_self
    obtain ⟨a, b⟩ := sync_calm h hf
    unfold syncL
    rw [if_pos a]
    exact ih _ b (fun x hx => by rw [(sync_same S y).names]; exact hl x (List.mem_cons_of_mem _ hx))

/-! ### what a disk and a log hold together -/
structure Wk (S : DS) (q0 : Nat) (base ext : List Seg) (n s : Nat) : Prop where
  inv : Inv S q0 base n
  now : Now S q0 base n ext
  safe : SafeN S base s
  pend : S.chg ≠ [] ∨ ext ≠ [] → Full S base
structure St (S : DS) (L : LS) (q0 : Nat) (base ext : List Seg) (n s : Nat) : Prop extends Wk S q0 base ext n s where
  next1 : 1 ≤ L.next
  next2 : L.next ≤ n
  nextb : base ≠ [] ∨ q0 = 1 → L.next = q0 + (recs base).length
  nexte : ∀ g ∈ ext, L.next = g.q
  none : L.file = noName → L.dirty = false ∧ (∀ x ∈ L.found, ∃ g ∈ base ++ ext, x = nameM g.q) ∧ (Full S base ∨ ∀ g ∈ base, nameM g.q ∈ L.found)
  some : L.file ≠ noName → L.found = [] ∧ S.chg = [] ∧ ∃ init g, base ++ ext = init ++ [g] ∧ L.file = nameM g.q ∧ (S.file g.f).data = frs g.q g.rs ∧ L.size = (frs g.q g.rs).length ∧ Full S init ∧ (L.dirty = false → Full S base)

theorem Wk.le {S : DS} {q0 n s s' : Nat} {base ext : List Seg} (h : Wk S q0 base ext n s) (hs : s' ≤ s) : Wk S q0 base ext n s' := ⟨h.inv, h.now, h.safe.le hs, h.pend⟩
theorem Wk.same {S S' : DS} {q0 n s : Nat} {base ext : List Seg} (h : Wk S q0 base ext n s) (k : SameN S S') : Wk S' q0 base ext n s :=
  ⟨h.inv.same k (Nat.le_refl _) h.inv.n1, h.now.same k (Nat.le_refl _), h.safe.same h.inv k, fun e => (h.pend (by rw [k.chg] at e; exact e)).same k h.inv.frs_le⟩
theorem Wk.kget {S : DS} {q0 n s : Nat} {base ext : List Seg} (h : Wk S q0 base ext n s) {g : Seg} (hg : g ∈ base ++ ext) : kget S.names (nameM g.q) = some g.f :=
  kget_ents h.now.names (ents_keys h.inv.n1 (ext_rise h.inv.chain h.now.ok) (ext_small h.inv.chain h.inv.bound h.now.ok)) hg

theorem noName_ne (q : Nat) : nameM q ≠ noName := fun e => by
  have := congrArg ByteArray.size e
  rw [nameM_size] at this
  cases this

theorem lsync_spec {S : DS} {L : LS} {q0 n s : Nat} {base ext : List Seg} (h : St S L q0 base ext n s) :
    SameN S (lsync S L).2.1 ∧ Wk (lsync S L).2.1 q0 base ext n s ∧
    (lsync S L).2.2.limit = L.limit ∧ (lsync S L).2.2.next = L.next ∧ (lsync S L).2.2.file = L.file ∧ (lsync S L).2.2.size = L.size ∧
    ((lsync S L).1 = 0 → Full (lsync S L).2.1 base ∧ (lsync S L).2.2.found = [] ∧ (lsync S L).2.2.dirty = false ∧ St (lsync S L).2.1 (lsync S L).2.2 q0 base ext n (recs base).length) ∧
    (Calm S → (lsync S L).1 = 0 ∧ Calm (lsync S L).2.1) := by
  have k1 := syncL_same L.found S
  have kk : SameN S (lsync S L).2.1 := by
    unfold lsync
    split
    · exact k1
    · split
      · exact k1
      · exact k1.trans (sync_same _ _)
  have wk := h.toWk.same kk
  -- a file that is synced is safe
  have hf : ∀ x ∈ L.found, ∃ f, Proofs.YtdffpbfllekcgaaGreatDoor.kget S.names x = Option.some f := fun x hx => by
    by_cases e : L.file = noName
    · obtain ⟨_, b, _⟩ := h.none e
      obtain ⟨g, hg, rfl⟩ := b x hx
      exact ⟨_, h.toWk.kget hg⟩
    · rw [(h.some e).1] at hx; exact nomatch hx
  have e1 : (lsync S L).2.2.limit = L.limit ∧ (lsync S L).2.2.next = L.next ∧ (lsync S L).2.2.file = L.file ∧ (lsync S L).2.2.size = L.size := by
    unfold lsync
    split
    · exact ⟨rfl, rfl, rfl, rfl⟩
    · split <;> exact ⟨rfl, rfl, rfl, rfl⟩
  have done : (lsync S L).1 = 0 → Full (lsync S L).2.1 base ∧ (lsync S L).2.2.found = [] ∧ (lsync S L).2.2.dirty = false := fun h0 => by
    unfold lsync at h0 ⊢
    by_cases c : (syncL L.found S).1 ≠ 0
    · rw [if_pos c] at h0; exact absurd h0 c
    · rw [if_neg c] at h0 ⊢
      have c : (syncL L.found S).1 = 0 := by simpa using c
      by_cases d : L.dirty = false
      · rw [if_pos d]
        refine ⟨?_, rfl, d⟩
        by_cases e : L.file = noName
        · obtain ⟨_, _, hb⟩ := h.none e
          rcases hb with hb | hb
          · exact hb.same k1 h.inv.frs_le
          · exact fun g hg => syncL_done L.found S c _ (hb g hg) g.f (h.toWk.kget (List.mem_append.2 (.inl hg))) _ (h.inv.frs_le g hg)
        · obtain ⟨_, _, _, _, _, _, _, _, _, fb⟩ := h.some e
          exact (fb d).same k1 h.inv.frs_le
      · rw [if_neg d] at h0 ⊢
        refine ⟨?_, rfl, by show decide (syncC (syncL L.found S).2 L.file ≠ 0) = false; rw [show syncC (syncL L.found S).2 L.file = 0 from h0]; decide⟩
        have e : L.file ≠ noName := fun e => d (h.none e).1
        obtain ⟨fe, _, init, g, eq, hn, hd, _, fi, _⟩ := h.some e
        have fr := h.inv.frs_le
        have kg := h.toWk.kget (g := g) (by rw [eq]; simp)
        rw [fe] at h0 ⊢
        have k2 := sync_same S L.file
        rw [hn] at h0 ⊢
        have sd := sync_done kg h0
        intro x hx
        have hx' : x ∈ init ++ [g] := by rw [← eq]; exact List.mem_append.2 (.inl hx)
        show (frs x.q x.rs).length ≤ ((syncS S (nameM g.q)).file x.f).safe
        rcases List.mem_append.1 hx' with hx' | hx'
        · have := fi x hx'
          rw [← hn]
          exact k2.more x.f _ (fr x hx) this
        · rw [List.mem_singleton] at hx'; subst hx'
          rw [sd, hd]; exact Nat.le_refl _
  refine ⟨kk, wk, e1.1, e1.2.1, e1.2.2.1, e1.2.2.2, fun h0 => ?_, fun hc => ?_⟩
  · obtain ⟨d1, d2, d3⟩ := done h0
    refine ⟨d1, d2, d3, ⟨⟨wk.inv, wk.now, .inl ⟨d1, Nat.le_refl _⟩, fun _ => d1⟩, by rw [e1.2.1]; exact h.next1, by rw [e1.2.1]; exact h.next2, by rw [e1.2.1]; exact h.nextb, by rw [e1.2.1]; exact h.nexte, fun _ => ⟨d3, by rw [d2]; exact fun x hx => (nomatch hx), .inl d1⟩, fun e => ?_⟩⟩
    rw [e1.2.2.1] at e
    obtain ⟨_, sc, init, g, eq, hn, hd, hz, fi, _⟩ := h.some e
    refine ⟨d2, by rw [kk.chg]; exact sc, init, g, eq, by rw [e1.2.2.1]; exact hn, by rw [kk.data]; exact hd, by rw [e1.2.2.2]; exact hz, ?_, fun _ => d1⟩
    refine fi.same kk (fun x hx => ?_)
    have hx' : x ∈ base ++ ext := by rw [eq]; exact List.mem_append.2 (.inl hx)
    rcases List.mem_append.1 hx' with hx' | hx'
    · exact h.inv.frs_le x hx'
    · rcases h.now.ok with e' | ⟨y, e', y2, _⟩
      · rw [e'] at hx'; exact nomatch hx'
      · rw [e', List.mem_singleton] at hx'; subst hx'; rw [y2]; exact Nat.zero_le _
  · obtain ⟨a, b⟩ := syncL_calm L.found S hc hf
    unfold lsync
    rw [if_neg (by rw [a]; exact fun e => e rfl)]
    by_cases d : L.dirty = false
    · rw [if_pos d]; exact ⟨rfl, b⟩
    · rw [if_neg d]
      have e : L.file ≠ noName := fun e => d (h.none e).1
      obtain ⟨fe, _, init, g, eq, hn, _⟩ := h.some e
      have kg := h.toWk.kget (g := g) (by rw [eq]; simp)
      exact sync_calm b (by rw [k1.names, hn]; exact kg)
end Go.Proofs.YtdffpbfllekcgaaGreatDoor
namespace Go.Proofs.YtdffpbfllekcgaaGreatDoor
set_option maxRecDepth 100000
open Go.RowKit M

def replaceM (S : DS) (x : ByteArray) : Int × DS :=
  if createC S x ≠ 6 then (createC S x, createS S x)
  else if removeC (createS S x) x ≠ 0 then (removeC (createS S x) x, removeS (createS S x) x)
  else (createC (removeS (createS S x) x) x, createS (removeS (createS S x) x) x)
def turnM (S : DS) (L : LS) : Int × DS × LS :=
  if (lsync S L).1 ≠ 0 then lsync S L
  else if (replaceM (lsync S L).2.1 (nameM (lsync S L).2.2.next)).1 ≠ 0 then ((replaceM (lsync S L).2.1 (nameM (lsync S L).2.2.next)).1, (replaceM (lsync S L).2.1 (nameM (lsync S L).2.2.next)).2, (lsync S L).2.2)
  else if syncNamesC (replaceM (lsync S L).2.1 (nameM (lsync S L).2.2.next)).2 ≠ 0 then (syncNamesC (replaceM (lsync S L).2.1 (nameM (lsync S L).2.2.next)).2, syncNamesS (replaceM (lsync S L).2.1 (nameM (lsync S L).2.2.next)).2, (lsync S L).2.2)
  else (0, syncNamesS (replaceM (lsync S L).2.1 (nameM (lsync S L).2.2.next)).2, { (lsync S L).2.2 with file := nameM (lsync S L).2.2.next, size := 0 })
def mustTurn (L : LS) (s : List Nat) : Prop := L.file = noName ∨ (0 < L.size ∧ L.limit < (L.size : Int) + s.length)
instance (L : LS) (s : List Nat) : Decidable (mustTurn L s) := by unfold mustTurn; exact inferInstance
def ahead (S : DS) (L : LS) (s : List Nat) : Int × DS × LS := if mustTurn L s then turnM S L else (0, S, L)
def lappend (S : DS) (L : LS) (r : List Nat) : Int × DS × LS :=
  if (ahead S L (frN L.next r)).1 ≠ 0 then ahead S L (frN L.next r)
  else if appendC (ahead S L (frN L.next r)).2.1 (ahead S L (frN L.next r)).2.2.file (frN L.next r) ≠ 0 then
    (appendC (ahead S L (frN L.next r)).2.1 (ahead S L (frN L.next r)).2.2.file (frN L.next r), appendS (ahead S L (frN L.next r)).2.1 (ahead S L (frN L.next r)).2.2.file (frN L.next r), (ahead S L (frN L.next r)).2.2)
  else (0, appendS (ahead S L (frN L.next r)).2.1 (ahead S L (frN L.next r)).2.2.file (frN L.next r),
    { (ahead S L (frN L.next r)).2.2 with next := (ahead S L (frN L.next r)).2.2.next + 1, size := (ahead S L (frN L.next r)).2.2.size + (frN L.next r).length, dirty := true })

theorem begCs (S : DS) : beginC S = 0 ∨ beginC S = 8 ∨ beginC S = 9 := by
  unfold beginC
  split
  · exact .inr (.inl rfl)
  · split
    · exact .inr (.inr rfl)
    · exact .inl rfl
theorem Full.begin {S : DS} {base : List Seg} (h : Full S base) : Full (beginS S) base := fun g hg => by rw [(beginS_keeps S).2.2.2.2]; exact h g hg
theorem begin_size (S : DS) : (beginS S).room = S.room ∧ (beginS S).used = S.used := by
  unfold beginS
  split
  · exact ⟨rfl, rfl⟩
  · split <;> exact ⟨rfl, rfl⟩

theorem create_spec {S : DS} {q0 n s nx : Nat} {base : List Seg} (h : Wk S q0 base [] n s) (hf : Full S base) (h1 : 1 ≤ nx) (h2 : nx ≤ n) (h3 : base ≠ [] ∨ q0 = 1 → nx = q0 + (recs base).length) :
    createC S (nameM nx) ≠ 6 ∧ (∃ ext', Wk (createS S (nameM nx)) q0 base ext' n (recs base).length ∧ (createC S (nameM nx) = 0 → ∃ f, ext' = [⟨nx, f, []⟩] ∧ ((createS S (nameM nx)).file f).data = [])) ∧ Full (createS S (nameM nx)) base ∧ (Calm S → createC S (nameM nx) = 0 ∧ Calm (createS S (nameM nx))) ∧
      (createS S (nameM nx)).room = S.room ∧ (createS S (nameM nx)).used = S.used := by
  have sb := h.safe.bound
  have wk' : ∀ {Z : DS}, SameN S Z → Full Z base → Wk Z q0 base [] n (recs base).length := fun {Z} k f => ⟨h.inv.same k (Nat.le_refl _) h.inv.n1, h.now.same k (Nat.le_refl _), .inl ⟨f, Nat.le_refl _⟩, fun _ => f⟩
  have ib := h.inv.same (same_begin S) (Nat.le_refl _) h.inv.n1
  have nb := h.now.same (same_begin S) (Nat.le_refl _)
  obtain ⟨k1, k2, k3, k4, k5, k6⟩ := inv_create ib nb hf.begin h1 h2 h3
  have kS : kget S.names (nameM nx) = none := by rw [(beginS_keeps S).1] at k1; exact k1
  unfold createC createS
  by_cases hd : S.dead = true
  · rw [if_pos hd, if_pos hd]
    exact ⟨by decide, ⟨[], wk' (SameN.refl S) hf, fun e => absurd e (by decide)⟩, hf, (fun c => by rw [c.1] at hd; cases hd), rfl, rfl⟩
  · rw [if_neg hd, if_neg hd, if_neg (show ¬ (nameM nx).size = 0 by rw [nameM_size]; decide), if_neg (show ¬ (nameM nx).size = 0 by rw [nameM_size]; decide), kS]
    rw [if_neg (show ¬ (none : Option Nat).isSome = true by decide), if_neg (show ¬ (none : Option Nat).isSome = true by decide)]
    rcases begCs S with b | b | b
    · rw [b, if_neg (by decide)]
      refine ⟨by decide, ⟨_, ⟨k2, k3, .inl ⟨k4, Nat.le_refl _⟩, fun _ => k4⟩, fun _ => ⟨_, rfl, by rw [k5]⟩⟩, k4, fun c => ⟨rfl, ?_⟩, ?_, ?_⟩
      · obtain ⟨_, c1, c2, c3⟩ := c.begin
        obtain ⟨_, _, _, r4, r5, _, _, r8⟩ := ren_same ({ beginS S with made := (beginS S).made + 1 }.setF ((beginS S).made + 1) ⟨[], 0, false⟩) ⟨#[]⟩ (nameM nx) ((beginS S).made + 1)
        exact ⟨r8.trans c1, r5.trans c2, r4.trans c3⟩
      · obtain ⟨_, r2, _⟩ := ren_same ({ beginS S with made := (beginS S).made + 1 }.setF ((beginS S).made + 1) ⟨[], 0, false⟩) ⟨#[]⟩ (nameM nx) ((beginS S).made + 1)
        exact r2.trans (begin_size S).1
      · obtain ⟨_, _, r3, _⟩ := ren_same ({ beginS S with made := (beginS S).made + 1 }.setF ((beginS S).made + 1) ⟨[], 0, false⟩) ⟨#[]⟩ (nameM nx) ((beginS S).made + 1)
        exact r3.trans (begin_size S).2
    · rw [b, if_pos rfl]
      exact ⟨by decide, ⟨[], wk' (same_begin S) hf.begin, fun e => absurd e (by decide)⟩, hf.begin, (fun c => by rw [c.begin.1] at b; cases b), (begin_size S).1, (begin_size S).2⟩
    · rw [b, if_neg (by decide)]
      refine ⟨by decide, ⟨_, ⟨k2, k3, .inl ⟨k4, Nat.le_refl _⟩, fun _ => k4⟩, fun e => absurd e (by decide)⟩, k4, (fun c => by rw [c.begin.1] at b; cases b), ?_, ?_⟩
      · obtain ⟨_, r2, _⟩ := ren_same ({ beginS S with made := (beginS S).made + 1 }.setF ((beginS S).made + 1) ⟨[], 0, false⟩) ⟨#[]⟩ (nameM nx) ((beginS S).made + 1)
        exact r2.trans (begin_size S).1
      · obtain ⟨_, _, r3, _⟩ := ren_same ({ beginS S with made := (beginS S).made + 1 }.setF ((beginS S).made + 1) ⟨[], 0, false⟩) ⟨#[]⟩ (nameM nx) ((beginS S).made + 1)
        exact r3.trans (begin_size S).2

theorem remove_spec {S : DS} {q0 n s : Nat} {base : List Seg} {g : Seg} (h : Wk S q0 base [g] n s) (hf : Full S base) :
    (∃ ext', Wk (removeS S (nameM g.q)) q0 base ext' n (recs base).length ∧ (removeC S (nameM g.q) = 0 → ext' = [])) ∧ Full (removeS S (nameM g.q)) base ∧ (Calm S → removeC S (nameM g.q) = 0 ∧ Calm (removeS S (nameM g.q))) ∧
      (removeS S (nameM g.q)).room = S.room ∧ (removeS S (nameM g.q)).used = S.used := by
  have wk' : ∀ {Z : DS}, SameN S Z → Full Z base → Wk Z q0 base [g] n (recs base).length := fun {Z} k f => ⟨h.inv.same k (Nat.le_refl _) h.inv.n1, h.now.same k (Nat.le_refl _), .inl ⟨f, Nat.le_refl _⟩, fun _ => f⟩
  have ib := h.inv.same (same_begin S) (Nat.le_refl _) h.inv.n1
  have nb := h.now.same (same_begin S) (Nat.le_refl _)
  obtain ⟨k1, k2, k3, k4⟩ := inv_remove ib nb hf.begin
  have kS : kget S.names (nameM g.q) = some g.f := h.kget (by simp)
  by_cases hd : S.dead = true
  · have f0 : findC S (nameM g.q) = 9 := by unfold findC; rw [if_pos hd]
    have n0 : findN S (nameM g.q) = none := by unfold findN; rw [if_pos hd]
    unfold removeC removeS
    rw [f0, n0, if_pos (by decide)]
    exact ⟨⟨[g], wk' (SameN.refl S) hf, fun e => absurd e (by decide)⟩, hf, (fun c => by rw [c.1] at hd; cases hd), rfl, rfl⟩
  · have f0 : findC S (nameM g.q) = 0 := by unfold findC; rw [if_neg hd, kS]; rfl
    have n0 : findN S (nameM g.q) = some g.f := by unfold findN; rw [if_neg hd, kS]
    unfold removeC removeS
    rw [f0, n0, if_neg (fun e => e rfl)]
    obtain ⟨_, r2, r3, r4, r5, _, _, r8⟩ := ren_same (beginS S) (nameM g.q) ⟨#[]⟩ g.f
    rcases begCs S with b | b | b
    · dsimp only
      rw [b, if_neg (by decide)]
      refine ⟨⟨_, ⟨k2, k3, .inl ⟨k4, Nat.le_refl _⟩, fun _ => k4⟩, fun _ => rfl⟩, k4, fun c => ⟨rfl, ?_⟩, r2.trans (begin_size S).1, r3.trans (begin_size S).2⟩
      obtain ⟨_, c1, c2, c3⟩ := c.begin
      exact ⟨r8.trans c1, r5.trans c2, r4.trans c3⟩
    · dsimp only
      rw [b, if_pos rfl]
      exact ⟨⟨[g], wk' (same_begin S) hf.begin, fun e => absurd e (by decide)⟩, hf.begin, (fun c => by rw [c.begin.1] at b; cases b), (begin_size S).1, (begin_size S).2⟩
    · dsimp only
      rw [b, if_neg (by decide)]
      exact ⟨⟨_, ⟨k2, k3, .inl ⟨k4, Nat.le_refl _⟩, fun _ => k4⟩, fun e => absurd e (by decide)⟩, k4, (fun c => by rw [c.begin.1] at b; cases b), r2.trans (begin_size S).1, r3.trans (begin_size S).2⟩

/-- what a new file leaves -/
def NewFile (S S' : DS) (c : Int) (q0 : Nat) (base : List Seg) (n nx : Nat) : Prop :=
  (∃ ext', Wk S' q0 base ext' n (recs base).length ∧ (c = 0 → ∃ f, ext' = [⟨nx, f, []⟩] ∧ (S'.file f).data = [])) ∧ Full S' base ∧ (Calm S → c = 0 ∧ Calm S') ∧ S'.room = S.room ∧ S'.used = S.used
theorem replace_spec {S : DS} {q0 n s nx : Nat} {base ext : List Seg} (h : Wk S q0 base ext n s) (hf : Full S base) (h1 : 1 ≤ nx) (h2 : nx ≤ n) (h3 : base ≠ [] ∨ q0 = 1 → nx = q0 + (recs base).length) (h4 : ∀ g ∈ ext, nx = g.q) :
    NewFile S (replaceM S (nameM nx)).2 (replaceM S (nameM nx)).1 q0 base n nx := by
  rcases h.now.ok with rfl | ⟨g, rfl, _⟩
  · obtain ⟨c1, c2, c3, c4, c5, c6⟩ := create_spec h hf h1 h2 h3
    unfold replaceM
    rw [if_pos c1]
    exact ⟨c2, c3, c4, c5, c6⟩
  · obtain rfl : nx = g.q := h4 g (by simp)
    have kS : kget S.names (nameM g.q) = some g.f := h.kget (by simp)
    have cs : createS S (nameM g.q) = S := by
      unfold createS
      by_cases hd : S.dead = true
      · rw [if_pos hd]
      · rw [if_neg hd, if_neg (show ¬ (nameM g.q).size = 0 by rw [nameM_size]; decide), kS, if_pos (by rfl)]
    have cc : createC S (nameM g.q) = if S.dead then 9 else 6 := by
      unfold createC
      by_cases hd : S.dead = true
      · rw [if_pos hd, if_pos hd]
      · rw [if_neg hd, if_neg hd, if_neg (show ¬ (nameM g.q).size = 0 by rw [nameM_size]; decide), kS, if_pos (by rfl)]
    unfold replaceM
    rw [cs, cc]
    by_cases hd : S.dead = true
    · rw [if_pos hd, if_pos (by decide)]
      exact ⟨⟨[g], ⟨h.inv, h.now, .inl ⟨hf, Nat.le_refl _⟩, fun _ => hf⟩, fun e => absurd (show (9 : Int) = 0 from e) (by decide)⟩, hf, (fun c => by rw [c.1] at hd; cases hd), rfl, rfl⟩
    · rw [if_neg hd, if_neg (fun e => e rfl)]
      obtain ⟨⟨ext', r1, r1'⟩, r2, r3, r4, r5⟩ := remove_spec h hf
      by_cases hr : removeC S (nameM g.q) = 0
      · rw [if_neg (fun e => e hr)]
        rw [r1' hr] at r1
        obtain ⟨_, c2, c3, c4, c5, c6⟩ := create_spec r1 r2 h1 h2 h3
        exact ⟨c2, c3, fun c => c4 (r3 c).2, c5.trans r4, c6.trans r5⟩
      · rw [if_pos hr]
        exact ⟨⟨ext', r1, fun e => absurd e hr⟩, r2, fun c => absurd (r3 c).1 hr, r4, r5⟩

theorem relF_used (S : DS) (n : Nat) : (relF S n).used ≤ S.used ∧ (relF S n).room = S.room ∧ (relF S n).dead = S.dead ∧ (relF S n).fail = S.fail ∧ (relF S n).crash = S.crash := by
  unfold relF
  split
  · exact ⟨Int.le_refl _, rfl, rfl, rfl, rfl⟩
  · exact ⟨by show S.used - _ ≤ _; omega, rfl, rfl, rfl, rfl⟩
theorem relAll_used (l : List Chg) : ∀ S, (relAll S l).used ≤ S.used ∧ (relAll S l).room = S.room ∧ (relAll S l).dead = S.dead ∧ (relAll S l).fail = S.fail ∧ (relAll S l).crash = S.crash := by
  induction l with
  | nil => exact fun S => ⟨Int.le_refl _, rfl, rfl, rfl, rfl⟩
  | cons c l ih =>
    intro S
    obtain ⟨a1, a2, a3, a4, a5⟩ := ih (relC S c)
    obtain ⟨b1, b2, b3, b4, b5⟩ := relF_used S c.file
    have e : (relC S c).used ≤ (relF S c.file).used ∧ (relC S c).room = (relF S c.file).room ∧ (relC S c).dead = (relF S c.file).dead ∧ (relC S c).fail = (relF S c.file).fail ∧ (relC S c).crash = (relF S c.file).crash := by
      unfold relC relO
      split
      · exact relF_used _ _
      · exact ⟨Int.le_refl _, rfl, rfl, rfl, rfl⟩
    show (relAll (relC S c) l).used ≤ _ ∧ _
    exact ⟨by show (relAll (relC S c) l).used ≤ _; omega, a2.trans (e.2.1.trans b2), a3.trans (e.2.2.1.trans b3), a4.trans (e.2.2.2.1.trans b4), a5.trans (e.2.2.2.2.trans b5)⟩
theorem names_spec {S : DS} {q0 n s : Nat} {base ext : List Seg} (h : Wk S q0 base ext n s) (hf : Full S base) :
    Wk (syncNamesS S) q0 base ext n (recs base).length ∧ Full (syncNamesS S) base ∧ (syncNamesC S = 0 → (syncNamesS S).chg = [] ∧ ∀ g ∈ base ++ ext, ((syncNamesS S).file g.f).data = (S.file g.f).data) ∧ (Calm S → syncNamesC S = 0 ∧ Calm (syncNamesS S)) ∧
      (syncNamesS S).room = S.room ∧ (syncNamesS S).used ≤ S.used := by
  have wk' : ∀ {Z : DS}, SameN S Z → Full Z base → Wk Z q0 base ext n (recs base).length := fun {Z} k f => ⟨h.inv.same k (Nat.le_refl _) h.inv.n1, h.now.same k (Nat.le_refl _), .inl ⟨f, Nat.le_refl _⟩, fun _ => f⟩
  have ib := h.inv.same (same_begin S) (Nat.le_refl _) h.inv.n1
  have nb := h.now.same (same_begin S) (Nat.le_refl _)
  obtain ⟨i1, i2, i3, i4, i5⟩ := inv_names ib nb
  rw [(beginS_keeps S).2.2.1] at i1 i2 i3 i4 i5
  unfold syncNamesC syncNamesS
  by_cases hd : S.dead = true
  · rw [if_pos hd, if_pos hd]
    exact ⟨wk' (SameN.refl S) hf, hf, fun e => absurd e (by decide), (fun c => by rw [c.1] at hd; cases hd), rfl, Int.le_refl _⟩
  · rw [if_neg hd, if_neg hd]
    by_cases b : beginC S = 0
    · rw [if_pos b]
      have ff : Full (settleS (relAll (beginS S) S.chg) S.chg.length) base := fun g hg => by rw [i4 g (List.mem_append.2 (.inl hg)), (beginS_keeps S).2.2.2.2]; exact hf g hg
      obtain ⟨u1, u2, u3, u4, u5⟩ := relAll_used S.chg (beginS S)
      refine ⟨⟨i1, i2, .inl ⟨ff, Nat.le_refl _⟩, fun _ => ff⟩, ff, fun _ => ⟨i3, fun g hg => by rw [i4 g hg, (beginS_keeps S).2.2.2.2]⟩, fun c => ⟨b, ?_⟩, u2.trans (begin_size S).1, ?_⟩
      · obtain ⟨_, c1, c2, c3⟩ := c.begin
        exact ⟨u3.trans c1, u4.trans c2, u5.trans c3⟩
      · show (relAll (beginS S) S.chg).used ≤ _
        rw [(begin_size S).2] at u1; exact u1
    · rw [if_neg b]
      exact ⟨wk' (same_begin S) hf.begin, hf.begin, fun e => absurd e b, fun c => absurd c.begin.1 b, (begin_size S).1, by rw [(begin_size S).2]; exact Int.le_refl _⟩
theorem sync_size (S : DS) (x : ByteArray) : (syncS S x).room = S.room ∧ (syncS S x).used = S.used := by
  unfold syncS
  split
  · exact ⟨rfl, rfl⟩
  · split
    · exact begin_size S
    · exact begin_size S
theorem syncL_size (l : List ByteArray) : ∀ S, (syncL l S).2.room = S.room ∧ (syncL l S).2.used = S.used := by
  induction l with
  | nil => exact fun S => ⟨rfl, rfl⟩
  | cons x l ih =>
    intro S
    unfold syncL
    split
    · exact ⟨(ih _).1.trans (sync_size S x).1, (ih _).2.trans (sync_size S x).2⟩
    · exact sync_size S x
theorem lsync_size (S : DS) (L : LS) : (lsync S L).2.1.room = S.room ∧ (lsync S L).2.1.used = S.used := by
  unfold lsync
  split
  · exact syncL_size _ S
  · split
    · exact syncL_size _ S
    · exact ⟨(sync_size _ _).1.trans (syncL_size _ S).1, (sync_size _ _).2.trans (syncL_size _ S).2⟩

theorem turn_spec {S : DS} {L : LS} {q0 n s : Nat} {base ext : List Seg} (h : St S L q0 base ext n s) :
    (∃ ext', Wk (turnM S L).2.1 q0 base ext' n s ∧ ((turnM S L).1 = 0 → ∃ f, ext' = [⟨L.next, f, []⟩] ∧ (turnM S L).2.2.file = nameM L.next ∧ (turnM S L).2.2.size = 0 ∧ St (turnM S L).2.1 (turnM S L).2.2 q0 base ext' n (recs base).length)) ∧
    (turnM S L).2.2.limit = L.limit ∧ (turnM S L).2.2.next = L.next ∧ (Calm S → (turnM S L).1 = 0 ∧ Calm (turnM S L).2.1) ∧ (turnM S L).2.1.room = S.room ∧ (turnM S L).2.1.used ≤ S.used := by
  obtain ⟨k, w, e1, e2, e3, e4, dn, cm⟩ := lsync_spec h
  obtain ⟨z1, z2⟩ := lsync_size S L
  unfold turnM
  by_cases h0 : (lsync S L).1 = 0
  · rw [if_neg (fun e => e h0)]
    obtain ⟨d1, d2, d3, d4⟩ := dn h0
    obtain ⟨⟨ext', r1, r1'⟩, r2, r3, r4, r5⟩ := replace_spec d4.toWk d1 d4.next1 d4.next2 d4.nextb d4.nexte
    by_cases hr : (replaceM (lsync S L).2.1 (nameM (lsync S L).2.2.next)).1 = 0
    · rw [if_neg (fun e => e hr)]
      obtain ⟨f, rfl, hfd⟩ := r1' hr
      obtain ⟨n1, n2, n3, n4, n5, n6⟩ := names_spec r1 r2
      by_cases hn : syncNamesC (replaceM (lsync S L).2.1 (nameM (lsync S L).2.2.next)).2 = 0
      · rw [if_neg (fun e => e hn)]
        obtain ⟨c1, c2⟩ := n3 hn
        have hd : ((syncNamesS (replaceM (lsync S L).2.1 (nameM (lsync S L).2.2.next)).2).file f).data = [] := (c2 ⟨(lsync S L).2.2.next, f, []⟩ (by simp)).trans hfd
        refine ⟨⟨_, n1.le h.safe.bound, fun _ => ⟨f, by rw [e2], by rw [e2], rfl, ⟨n1, d4.next1, d4.next2, d4.nextb, fun g hg => by rw [List.mem_singleton] at hg; rw [hg], fun e => absurd e (noName_ne _), fun _ => ⟨d2, c1, base, _, rfl, rfl, by rw [hd]; rfl, rfl, n2, fun _ => n2⟩⟩⟩⟩, e1, e2, fun c => ⟨rfl, (n4 (r3 (cm c).2).2).2⟩, n5.trans (r4.trans z1), ?_⟩
        show (syncNamesS (replaceM (lsync S L).2.1 (nameM (lsync S L).2.2.next)).2).used ≤ _
        omega
      · rw [if_pos hn]
        refine ⟨⟨_, n1.le h.safe.bound, fun e => absurd e hn⟩, e1, e2, fun c => absurd (n4 (r3 (cm c).2).2).1 hn, n5.trans (r4.trans z1), ?_⟩
        show (syncNamesS (replaceM (lsync S L).2.1 (nameM (lsync S L).2.2.next)).2).used ≤ _
        omega
    · rw [if_pos hr]
      refine ⟨⟨ext', r1.le h.safe.bound, fun e => absurd e hr⟩, e1, e2, fun c => absurd (r3 (cm c).2).1 hr, r4.trans z1, ?_⟩
      show (replaceM (lsync S L).2.1 (nameM (lsync S L).2.2.next)).2.used ≤ _
      omega
  · rw [if_pos h0]
    exact ⟨⟨ext, w, fun e => absurd e h0⟩, e1, e2, fun c => absurd (cm c).1 h0, z1, by omega⟩
end Go.Proofs.YtdffpbfllekcgaaGreatDoor
namespace Go.Proofs.YtdffpbfllekcgaaGreatDoor
set_option maxRecDepth 100000
open Go.RowKit M

theorem findN_of {S : DS} {x : ByteArray} (h : findC S x = 0) : findN S x = kget S.names x := by
  unfold findC at h
  unfold findN
  split at h
  · cases h
  · rename_i hd; rw [if_neg hd]
/-- what is ahead of the new record's frame -/
theorem ahead_spec {S : DS} {L : LS} {q0 n s : Nat} {base ext : List Seg} (h : St S L q0 base ext n s) (fr : List Nat) :
    (∃ ext', Wk (ahead S L fr).2.1 q0 base ext' n s ∧ ((ahead S L fr).1 = 0 → (ahead S L fr).2.2.file ≠ noName ∧ St (ahead S L fr).2.1 (ahead S L fr).2.2 q0 base ext' n s)) ∧
    (ahead S L fr).2.2.limit = L.limit ∧ (ahead S L fr).2.2.next = L.next ∧ (Calm S → (ahead S L fr).1 = 0 ∧ Calm (ahead S L fr).2.1) ∧ (ahead S L fr).2.1.room = S.room ∧ (ahead S L fr).2.1.used ≤ S.used := by
  unfold ahead
  by_cases c : mustTurn L fr
  · rw [if_pos c]
    obtain ⟨⟨ext', w, d⟩, a1, a2, a3, a4, a5⟩ := turn_spec h
    refine ⟨⟨ext', w, fun e => ?_⟩, a1, a2, a3, a4, a5⟩
    obtain ⟨f, _, d2, _, d4⟩ := d e
    refine ⟨by rw [d2]; exact noName_ne _, ⟨⟨d4.inv, d4.now, d4.safe.le h.safe.bound, d4.pend⟩, d4.next1, d4.next2, d4.nextb, d4.nexte, d4.none, d4.some⟩⟩
  · rw [if_neg c]
    refine ⟨⟨ext, h.toWk, fun _ => ⟨fun e => c (.inl e), h⟩⟩, rfl, rfl, fun hc => ⟨rfl, hc⟩, rfl, Int.le_refl _⟩

/-- what Append leaves -/
theorem lappend_spec {S : DS} {L : LS} {q0 n s : Nat} {base ext : List Seg} {r : List Nat} (h : St S L q0 base ext n s) (hn : L.next + 1 ≤ n) (hr : r.length ≤ 60 ∧ ∀ d ∈ r, d < 2 ^ 8) :
    (∃ q1 base' ext', (q0 = 1 → q1 = 1) ∧ Wk (lappend S L r).2.1 q1 base' ext' n s ∧ (recs base' = recs base ∨ ((lappend S L r).1 = 0 ∨ (lappend S L r).1 = 9) ∧ recs base' = recs base ++ [r]) ∧
      ((lappend S L r).1 = 0 → recs base' = recs base ++ [r] ∧ (lappend S L r).2.2.next = L.next + 1 ∧ St (lappend S L r).2.1 (lappend S L r).2.2 q1 base' ext' n s)) ∧
    (lappend S L r).2.2.limit = L.limit ∧ (lappend S L r).2.1.room = S.room ∧ (Calm S → S.used + 78 ≤ S.room → (lappend S L r).1 = 0 ∧ Calm (lappend S L r).2.1) := by
  obtain ⟨⟨ext', w, dn⟩, a1, a2, a3, a4, a5⟩ := ahead_spec h (frN L.next r)
  have fl : (frN L.next r).length = 18 + r.length := frN_length _ _
  unfold lappend
  obtain ⟨fr, hfr⟩ : ∃ fr, fr = frN L.next r := ⟨_, rfl⟩
  rw [← hfr] at w dn a1 a2 a3 a4 a5 fl ⊢
  generalize ahead S L fr = A at *
  obtain ⟨c, S1, L1⟩ := A
  dsimp only at w dn a1 a2 a3 a4 a5 ⊢
  by_cases h0 : c = 0
  · rw [if_neg (fun e => e h0)]
    obtain ⟨nf, st⟩ := dn h0
    obtain ⟨f1, f2, init, g, eq, hname, hd, hz, fi, fd⟩ := st.some nf
    have kg := st.toWk.kget (g := g) (by rw [eq]; simp)
    have hrs : L1.next = g.q + g.rs.length := by
      rcases st.now.ok with e | ⟨x, e, x2, _⟩
      · rw [e, List.append_nil] at eq
        have hne : base ≠ [] := by rw [eq]; simp
        rw [st.nextb (.inl hne), eq, recs_append, recs_one, List.length_append]
        have hc := st.inv.chain
        rw [eq] at hc
        have := ((chain_append init [g] q0).1 hc).2.1
        omega
      · rw [e] at eq
        obtain ⟨_, e'⟩ := List.append_inj' eq rfl
        obtain rfl : x = g := by simpa using e'
        rw [x2]
        exact st.nexte x (by rw [e]; simp)
    have efr : fr = frN (g.q + g.rs.length) r := by rw [hfr, ← a2, hrs]
    have keep : ∀ {Z : DS} {cd : Int}, SameN S1 Z → Z.room = S1.room → cd ≠ 0 → (Calm S → S.used + 78 ≤ S.room → cd = 0) →
        (∃ q1 base' ext', (q0 = 1 → q1 = 1) ∧ Wk Z q1 base' ext' n s ∧ (recs base' = recs base ∨ (cd = 0 ∨ cd = 9) ∧ recs base' = recs base ++ [r]) ∧ (cd = 0 → recs base' = recs base ++ [r] ∧ L1.next = L.next + 1 ∧ St Z L1 q1 base' ext' n s)) ∧ L1.limit = L.limit ∧ Z.room = S.room ∧ (Calm S → S.used + 78 ≤ S.room → cd = 0 ∧ Calm Z) := fun {Z cd} k hz hc hcalm =>
      ⟨⟨q0, base, ext', fun e => e, w.same k, .inl rfl, fun e => absurd e hc⟩, a1, hz.trans a4, fun c1 c2 => absurd (hcalm c1 c2) hc⟩
    by_cases hdd : S1.dead = true
    · have ac : appendC S1 L1.file fr = 9 := by unfold appendC findC; rw [if_pos hdd]; rfl
      have az : appendS S1 L1.file fr = S1 := by unfold appendS findN; rw [if_pos hdd]
      rw [ac, az, if_pos (by decide)]
      exact keep (SameN.refl _) rfl (show (9 : Int) ≠ 0 by decide) (fun c1 _ => by rw [(a3 c1).2.1] at hdd; cases hdd)
    · have fc : findC S1 L1.file = 0 := by unfold findC; rw [if_neg hdd, hname, kg]; rfl
      have fn : findN S1 L1.file = some g.f := by rw [findN_of fc, hname, kg]
      by_cases hfree : S1.free < (fr.length : Int)
      · have ac : appendC S1 L1.file fr = 7 := by unfold appendC; rw [fc, if_neg (fun e => e rfl), if_pos hfree]
        have az : appendS S1 L1.file fr = S1 := by unfold appendS; rw [fn]; dsimp only; rw [if_pos hfree]
        rw [ac, az, if_pos (by decide)]
        refine keep (SameN.refl _) rfl (show (7 : Int) ≠ 0 by decide) (fun c1 c2 => ?_)
        exfalso
        unfold DS.free at hfree
        have := hr.1
        omega
      · have ac : appendC S1 L1.file fr = beginC S1 := by unfold appendC; rw [fc, if_neg (fun e => e rfl), if_neg hfree]
        rcases begCs S1 with b | b | b
        · have az : appendS S1 L1.file fr = appF (beginS S1) g.f fr := by unfold appendS; rw [fn]; dsimp only; rw [if_neg hfree, b, if_neg (by decide)]
          rw [ac, az, b, if_neg (fun e => e rfl)]
          obtain ⟨q1, i1, i2, i3, i4, i5, i51, i6⟩ := inv_append (r := r) (st.inv.same (same_begin S1) (Nat.le_refl _) st.inv.n1) (st.now.same (same_begin S1) (Nat.le_refl _)) (st.safe.same st.inv (same_begin S1)) (by rw [(beginS_keeps S1).2.2.1]; exact f2) eq (by rw [(beginS_keeps S1).2.2.2.2]; exact hd) (fun e => (st.pend (.inr e)).begin) (by omega) hr
          rw [← efr] at i1 i2 i3 i6
          have i7 : Wk (appF (beginS S1) g.f fr) q1 (init ++ [⟨g.q, g.f, g.rs ++ [r]⟩]) [] n s := ⟨i1, i2, i3, fun e => by
            rcases e with e | e
            · exact absurd (show (appF (beginS S1) g.f fr).chg = [] from (beginS_keeps S1).2.2.1.trans f2) e
            · exact absurd rfl e⟩
          have fz : ((appF (beginS S1) g.f fr).file g.f).data = frs g.q (g.rs ++ [r]) := by
            show (if g.f = g.f then (⟨((beginS S1).file g.f).data ++ fr, ((beginS S1).file g.f).safe, ((beginS S1).file g.f).named⟩ : FileS) else (beginS S1).file g.f).data = _
            rw [if_pos rfl]
            show ((beginS S1).file g.f).data ++ fr = _
            rw [(beginS_keeps S1).2.2.2.2, hd, frs_snoc, efr]
          refine ⟨⟨q1, _, [], i51, i7, .inr ⟨.inl rfl, i4⟩, fun _ => ⟨i4, by show L1.next + 1 = _; rw [a2], ⟨i7, by show 1 ≤ L1.next + 1; omega, by show L1.next + 1 ≤ n; omega, fun _ => ?_, fun x hx => (nomatch hx), fun e => absurd e nf, fun _ => ⟨f1, (beginS_keeps S1).2.2.1.trans f2, init, ⟨g.q, g.f, g.rs ++ [r]⟩, List.append_nil _, hname, fz, ?_, i6, fun e => by cases e⟩⟩⟩⟩, a1, (begin_size S1).1.trans a4, fun c1 _ => ⟨rfl, (a3 c1).2.begin.2⟩⟩
          · show L1.next + 1 = q1 + (recs (init ++ [⟨g.q, g.f, g.rs ++ [r]⟩])).length
            rw [i4, List.length_append, hrs, i5]; rfl
          · show L1.size + fr.length = (frs g.q (g.rs ++ [r])).length
            rw [frs_snoc, List.length_append, hz, efr]
        · have az : appendS S1 L1.file fr = beginS S1 := by unfold appendS; rw [fn]; dsimp only; rw [if_neg hfree, b, if_pos rfl]
          rw [ac, az, b, if_pos (by decide)]
          exact keep (same_begin S1) (begin_size S1).1 (show (8 : Int) ≠ 0 by decide) (fun c1 _ => by have := (a3 c1).2.begin.1; rw [b] at this; cases this)
        · have az : appendS S1 L1.file fr = appF (beginS S1) g.f fr := by unfold appendS; rw [fn]; dsimp only; rw [if_neg hfree, b, if_neg (by decide)]
          rw [ac, az, b, if_pos (by decide)]
          obtain ⟨q1, i1, i2, i3, i4, i5, i51, i6⟩ := inv_append (r := r) (st.inv.same (same_begin S1) (Nat.le_refl _) st.inv.n1) (st.now.same (same_begin S1) (Nat.le_refl _)) (st.safe.same st.inv (same_begin S1)) (by rw [(beginS_keeps S1).2.2.1]; exact f2) eq (by rw [(beginS_keeps S1).2.2.2.2]; exact hd) (fun e => (st.pend (.inr e)).begin) (by omega) hr
          rw [← efr] at i1 i2 i3 i6
          refine ⟨⟨q1, _, [], i51, ⟨i1, i2, i3, fun e => ?_⟩, .inr ⟨.inr rfl, i4⟩, fun e => absurd (show (9 : Int) = 0 from e) (by decide)⟩, a1, (begin_size S1).1.trans a4, fun c1 _ => by have := (a3 c1).2.begin.1; rw [b] at this; cases this⟩
          rcases e with e | e
          · exact absurd (show (appF (beginS S1) g.f fr).chg = [] from (beginS_keeps S1).2.2.1.trans f2) e
          · exact absurd rfl e
  · rw [if_pos h0]
    exact ⟨⟨q0, base, ext', fun e => e, w, .inl rfl, fun e => absurd e h0⟩, a1, a4, fun c1 _ => absurd (a3 c1).1 h0⟩
end Go.Proofs.YtdffpbfllekcgaaGreatDoor
