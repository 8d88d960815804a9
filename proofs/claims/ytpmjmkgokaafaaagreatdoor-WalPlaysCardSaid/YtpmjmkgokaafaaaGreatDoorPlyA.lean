/- A log in any state, as mathematics: what names there may be behind a restart, also where a Retire was broken off. -/
import Derived.Test.YtpmjmkgokaafaaaGreatDoorGonA
namespace Go.Proofs.YtpmjmkgokaafaaaGreatDoor
set_option maxRecDepth 100000
open Go.RowKit M

/-! ### names that a log can go on with -/
/-- the last file's records may not be safe yet -/
def Half (T : DS) (base ext : List Seg) : Prop := Full T base ∨ (ext = [] ∧ ∃ init g, base = init ++ [g] ∧ Full T init)
def VOk (T : DS) (n : Nat) (N : KL) : Prop :=
  ∃ q base ext, N.Perm (ents (base ++ ext)) ∧ 1 ≤ q ∧ ChainQ q base ∧ q + (recs base).length ≤ n ∧ ExtOk T q base n ext ∧ (∀ g ∈ base, Small g.rs) ∧ (∀ g ∈ base, HoldsR (T.file g.f).data g.q g.rs) ∧ (base.map (·.f)).Nodup ∧ (∀ g ∈ base, g.f ≤ T.made) ∧ Half T base ext
/-- the disk whose names are those of view p -/
def viewD (S : DS) (p : Nat) : DS := { S with names := foldP S p, safe := foldP S p, chg := [] }
theorem rest0_view (S : DS) (ch : List Int) : rest0 (viewD S (pickN ch 0 S.chg.length)) ch = rest0 S ch := by
  unfold rest0 settleS viewD
  simp only [List.take_nil, List.foldl_nil]
  rfl
theorem restartI_view (S : DS) (ch : List Int) : restartI (viewD S (pickN ch 0 S.chg.length)) ch = restartI S ch := by
  unfold restartI
  rw [rest0_view]
theorem foldP_view (S : DS) (p i : Nat) : foldP (viewD S p) i = foldP S p := by
  show List.foldl _ (foldP S p) (List.take i ([] : List Chg)) = _
  rw [List.take_nil]; rfl
/-- a restart finds a log that is safe -/
theorem VOk.restart {S : DS} {n : Nat} (hn : n ≤ bigQ) (ch : List Int) (h : VOk S n (foldP S (pickN ch 0 S.chg.length))) : ∃ q base ext, Wk (restartI S ch) q base ext n (recs base).length := by
  obtain ⟨q, base, ext, h1, h2, h3, h4, h5, h6, h7, h8, h9, h10⟩ := h
  rw [← restartI_view S ch]
  obtain ⟨V, hV⟩ : ∃ V, V = viewD S (pickN ch 0 S.chg.length) := ⟨_, rfl⟩
  have e1 : V.chg = [] := by rw [hV]; rfl
  have e2 : V.names = foldP S (pickN ch 0 S.chg.length) := by rw [hV]; rfl
  have e3 : V.file = S.file := by rw [hV]; rfl
  have e4 : V.made = S.made := by rw [hV]; rfl
  have e5 : ∀ i, foldP V i = foldP S (pickN ch 0 S.chg.length) := fun i => by rw [hV]; exact foldP_view S _ i
  rw [← hV]
  have ok : ExtOk V q base n ext := h5.move (fun i _ => by rw [e3]) (by rw [e4]; exact Nat.le_refl _) (Nat.le_refl _)
  have inv : Inv V q base n := ⟨hn, h2, h3, h6, fun g hg => by rw [e3]; exact h7 g hg, h8, fun g hg => by rw [e4]; exact h9 g hg, h4, fun i _ => ⟨ext, by rw [e5]; exact h1, ok⟩⟩
  have fu : ∀ l, Full S l → Full V l := fun l h g hg => by rw [e3]; exact h g hg
  have len : V.names.length = base.length + ext.length := by
    rw [e2, h1.length_eq]
    show (List.map _ _).length = _
    rw [List.length_map, List.length_append]
  have safe : SafeN V base 0 := by
    rcases h10 with h | ⟨h, init, g, e, f⟩
    · exact .inl ⟨fu _ h, Nat.zero_le _⟩
    · subst h
      exact .inr ⟨e1, by rw [len]; simp, init, g, 0, e, fu _ f, Nat.zero_le _, Nat.zero_le _, by rw [List.take_zero]; exact Nat.zero_le _⟩
  obtain ⟨base', ext', i1, i2, i3, _, _⟩ := inv_restart0 inv (fun _ hl => by
    have : ext = [] := List.length_eq_zero_iff.1 (by omega)
    rw [e5]
    rw [this, List.append_nil] at h1
    exact h1) safe ch
  exact ⟨q, base', ext', i1, i2, .inl ⟨i3, Nat.le_refl _⟩, fun _ => i3⟩
theorem Half.move {T T' : DS} {base ext : List Seg} (h : Half T base ext) (hs : ∀ i, (T'.file i).safe = (T.file i).safe) : Half T' base ext := by
  rcases h with h | ⟨h, init, g, e, f⟩
  · exact .inl fun x hx => by rw [hs]; exact h x hx
  · exact .inr ⟨h, init, g, e, fun x hx => by rw [hs]; exact f x hx⟩
theorem VOk.move {T T' : DS} {n n' : Nat} {N : KL} (h : VOk T n N) (hd : ∀ i, (T'.file i).data = (T.file i).data ∧ (T'.file i).safe = (T.file i).safe) (hm : T'.made = T.made) (hn : n ≤ n') : VOk T' n' N := by
  obtain ⟨q, base, ext, h1, h2, h3, h4, h5, h6, h7, h8, h9, h10⟩ := h
  exact ⟨q, base, ext, h1, h2, h3, by omega, h5.move (fun i _ => (hd i).1) (by rw [hm]; exact Nat.le_refl _) hn, h6, fun g hg => by rw [(hd g.f).1]; exact h7 g hg, h8, fun g hg => by rw [hm]; exact h9 g hg, h10.move fun i => (hd i).2⟩
theorem VOk.nil (T : DS) {n : Nat} (h : 1 ≤ n) : VOk T n [] :=
  ⟨1, [], [], List.Perm.refl _, Nat.le_refl _, trivial, by show 1 + 0 ≤ n; omega, .inl rfl, fun g hg => (nomatch hg), fun g hg => (nomatch hg), List.nodup_nil, fun g hg => (nomatch hg), .inl fun g hg => (nomatch hg)⟩
theorem VOk.vals {T : DS} {n : Nat} {N : KL} (h : VOk T n N) : (N.map (·.2)).Nodup := by
  obtain ⟨q, base, ext, h1, _, _, _, h5, _, _, h8, _⟩ := h
  have e : ((ents (base ++ ext)).map (·.2)) = (base ++ ext).map (·.f) := by unfold ents; rw [List.map_map]; rfl
  rw [(h1.map (·.2)).nodup_iff, e]
  exact ext_fs h8 h5

/-! ### a disk of which any names will do -/
structure BRK (S : DS) (n : Nat) : Prop where
  n0 : 1 ≤ n
  n1 : n ≤ bigQ
  views : ∀ p, p ≤ S.chg.length → VOk S n (foldP S p)
theorem BRK.restart {S : DS} {n : Nat} (h : BRK S n) (ch : List Int) : ∃ q base ext, Wk (restartI S ch) q base ext n (recs base).length :=
  VOk.restart h.n1 ch (h.views _ (pickN_le _ _ _))
theorem BRK.vals {S : DS} {n : Nat} (h : BRK S n) {p : Nat} (hp : p ≤ S.chg.length) : ((foldP S p).map (·.2)).Nodup := (h.views p hp).vals
theorem BRK.same {S S' : DS} {n : Nat} (h : BRK S n) (e1 : S'.safe = S.safe) (e2 : S'.chg = S.chg) (e3 : S'.made = S.made) (e4 : S'.file = S.file) : BRK S' n :=
  ⟨h.n0, h.n1, fun p hp => by
    have e : foldP S' p = foldP S p := by unfold foldP; rw [e1, e2]
    rw [e]
    exact (h.views p (by rw [e2] at hp; exact hp)).move (fun i => by rw [e4]; exact ⟨rfl, rfl⟩) e3 (Nat.le_refl _)⟩
theorem BRK.begin {S : DS} {n : Nat} (h : BRK S n) : BRK (beginS S) n := by
  obtain ⟨_, b, c, d, e⟩ := beginS_keeps S
  exact h.same b c d e
theorem Wk.half {S : DS} {q0 n s : Nat} {base ext : List Seg} (h : Wk S q0 base ext n s) : Half S base ext := by
  rcases h.safe with ⟨f, _⟩ | ⟨cz, nl, init, g, j, e, f, _⟩
  · exact .inl f
  · have e2 := h.now.names.length_eq
    have e3 : (ents (base ++ ext)).length = base.length + ext.length := by show (List.map _ _).length = _; rw [List.length_map, List.length_append]
    rw [e3, nl] at e2
    exact .inr ⟨List.length_eq_zero_iff.1 (by omega), init, g, e, f⟩
theorem Wk.brk {S : DS} {q0 n s : Nat} {base ext : List Seg} (h : Wk S q0 base ext n s) : BRK S n := by
  have i := h.inv
  have q1 := i.q1
  have bd := i.bound
  refine ⟨by omega, i.n1, fun p hp => ?_⟩
  by_cases cz : S.chg = []
  · have p0 : p = S.chg.length := by rw [cz] at hp ⊢; exact Nat.le_zero.1 hp
    rw [p0]
    exact ⟨q0, base, ext, h.now.last, i.q1, i.chain, i.bound, h.now.ok, i.small, i.holds, i.fs, i.fle, h.half⟩
  · obtain ⟨e2, a, b⟩ := i.views p hp
    exact ⟨q0, base, e2, a, i.q1, i.chain, i.bound, b, i.small, i.holds, i.fs, i.fle, .inl (h.pend (.inl cz))⟩
/-- the files from some one on -/
theorem Wk.suf {S : DS} {q0 n s : Nat} {base ext : List Seg} (h : Wk S q0 base ext n s) (k : Nat) : VOk S n (ents ((base ++ ext).drop k)) := by
  have i := h.inv
  have q1 := i.q1
  have bd := i.bound
  by_cases hk : k ≤ base.length
  · rw [List.drop_append_of_le_length hk]
    have rt : (recs (base.take k)).length + (recs (base.drop k)).length = (recs base).length := by
      rw [← List.length_append, ← recs_append, List.take_append_drop]
    have hc2 : ChainQ q0 (base.take k ++ base.drop k) := by rw [List.take_append_drop]; exact i.chain
    obtain ⟨_, c2⟩ := (chain_append _ _ q0).1 hc2
    refine ⟨q0 + (recs (base.take k)).length, base.drop k, ext, List.Perm.refl _, by omega, c2, by omega, ?_, fun g hg => i.small g (List.mem_of_mem_drop hg), fun g hg => i.holds g (List.mem_of_mem_drop hg), i.fs.sublist ((List.drop_sublist k base).map _), fun g hg => i.fle g (List.mem_of_mem_drop hg), ?_⟩
    · rcases h.now.ok with e | ⟨g, e, x2, x3, x4, x5, x6, x7, x8⟩
      · exact .inl e
      · refine .inr ⟨g, e, x2, x3, fun hh => ?_, x5, x6, x7, fun y hy => x8 y (List.mem_of_mem_drop hy)⟩
        have hor : base ≠ [] ∨ q0 = 1 := by
          rcases hh with hh | hh
          · exact .inl fun e => hh (by rw [e]; simp)
          · exact .inr (by omega)
        rw [x4 hor]; omega
    · rcases h.half with f | ⟨f, init, g, e, fi⟩
      · exact .inl fun x hx => f x (List.mem_of_mem_drop hx)
      · by_cases hki : k ≤ init.length
        · refine .inr ⟨f, init.drop k, g, ?_, fun x hx => fi x (List.mem_of_mem_drop hx)⟩
          rw [e, List.drop_append_of_le_length hki]
        · refine .inl fun x hx => ?_
          have : base.drop k = [] := by
            refine List.drop_eq_nil_of_le ?_
            rw [e, List.length_append, List.length_singleton]; omega
          rw [this] at hx
          exact nomatch hx
  · have e : (base ++ ext).drop k = [] := by
      refine List.drop_eq_nil_of_le ?_
      rw [List.length_append]
      have : ext.length ≤ 1 := by rcases h.now.ok with e | ⟨g, e, _⟩ <;> rw [e] <;> simp
      omega
    rw [e]
    exact VOk.nil S (by omega)

/-! ### Retire, whatever goes wrong -/
theorem remS_dead {T : DS} (hd : T.dead = true) : ∀ l, l ≠ [] → remS l T = (9, T)
  | [], h => absurd rfl h
  | g :: l, _ => by
    have f : findC T (nameM g.q) = 9 := by unfold findC; rw [if_pos hd]
    have r : removeC T (nameM g.q) = 9 := by unfold removeC; rw [f, if_pos (by decide)]
    have n : findN T (nameM g.q) = none := by unfold findN; rw [if_pos hd]
    have s : removeS T (nameM g.q) = T := by unfold removeS; rw [n]
    unfold remS
    rw [r, s, if_pos (by decide)]
theorem begin_zero {T : DS} (h : beginC T = 0) : (beginS T).dead = T.dead := by
  unfold beginC at h
  unfold beginS
  by_cases f : T.fail = 0
  · rw [if_pos f] at h; cases h
  · rw [if_neg f] at h ⊢
    by_cases c : T.crash = 0
    · rw [if_pos c] at h; cases h
    · rw [if_neg c]
theorem remS_any {n : Nat} (hn : n ≤ bigQ) : ∀ (l : List Seg) (T : DS), l.Pairwise (fun a b => a.q < b.q) → (∀ x ∈ l, x.q ≤ n) → (∀ k, VOk T n (ents (l.drop k))) → BRK T n → T.names.Perm (ents l) → (foldP T T.chg.length).Perm (ents l) → T.dead = false →
    BRK (remS l T).2 n ∧ ((remS l T).1 = 0 → foldP (remS l T).2 (remS l T).2.chg.length = [] ∧ (remS l T).2.names = [] ∧ (remS l T).2.dead = false)
  | [], T, _, _, _, h, hn2, hp, hd => ⟨h, fun _ => ⟨hp.eq_nil, hn2.eq_nil, hd⟩⟩
  | g :: l, T, hr, hq, hv, h, hnm, hp, hd => by
    have hk : ((ents (g :: l)).map (·.1)).Nodup := ents_keys hn hr hq
    have kS : kget T.names (nameM g.q) = some g.f := kget_ents hnm hk (by simp)
    have f0 : findC T (nameM g.q) = 0 := by unfold findC; rw [hd, kS]; rfl
    have n0 : findN T (nameM g.q) = some g.f := by unfold findN; rw [hd, kS]; rfl
    obtain ⟨b1, b2, b3, b4, b5⟩ := beginS_keeps T
    have rc : removeC T (nameM g.q) = beginC T := by unfold removeC; rw [f0, if_neg (fun e => e rfl)]
    by_cases c8 : beginC T = 8
    · have rs : removeS T (nameM g.q) = beginS T := by unfold removeS; rw [n0]; dsimp only; rw [if_pos c8]
      unfold remS
      rw [rc, rs, if_pos (by rw [c8]; decide)]
      exact ⟨h.begin, fun e => by rw [c8] at e; cases e⟩
    · have rs : removeS T (nameM g.q) = renS (beginS T) (nameM g.q) ⟨#[]⟩ g.f := by unfold removeS; rw [n0]; dsimp only; rw [if_neg c8]
      obtain ⟨U, hU⟩ : ∃ U, U = beginS T := ⟨_, rfl⟩
      rw [← hU] at b1 b2 b3 b4 b5 rs
      have hUb : BRK U n := by rw [hU]; exact h.begin
      have un : U.names.Perm (ents (g :: l)) := by rw [b1]; exact hnm
      have uf : foldP U U.chg.length = foldP T T.chg.length := by unfold foldP; rw [b2, b3]
      have ul : (foldP U U.chg.length).Perm (ents (g :: l)) := by rw [uf]; exact hp
      have he : kget U.names ⟨#[]⟩ = none := kget_empty un
      have fl := gone_file U (nameM g.q) g.f he
      obtain ⟨em, _, _, _, _, _, es, ed⟩ := ren_same U (nameM g.q) ⟨#[]⟩ g.f
      have ec : (renS U (nameM g.q) ⟨#[]⟩ g.f).chg = U.chg ++ [⟨nameM g.q, ⟨#[]⟩, g.f, kget U.names ⟨#[]⟩⟩] := rfl
      have en : (renS U (nameM g.q) ⟨#[]⟩ g.f).names = (⟨nameM g.q, ⟨#[]⟩, g.f, kget U.names ⟨#[]⟩⟩ : Chg).app U.names := rfl
      have dat : ∀ i, ((renS U (nameM g.q) ⟨#[]⟩ g.f).file i).data = (U.file i).data ∧ ((renS U (nameM g.q) ⟨#[]⟩ g.f).file i).safe = (U.file i).safe := fun i => by
        rw [fl]
        by_cases e : i = g.f
        · rw [if_pos e, e]; exact ⟨rfl, rfl⟩
        · rw [if_neg e]; exact ⟨rfl, rfl⟩
      have dat2 : ∀ i, ((renS U (nameM g.q) ⟨#[]⟩ g.f).file i).data = (T.file i).data ∧ ((renS U (nameM g.q) ⟨#[]⟩ g.f).file i).safe = (T.file i).safe := fun i => by
        have := dat i
        rw [b5] at this
        exact this
      have hr' : (([] : List Seg) ++ g :: l).Pairwise (fun a b => a.q < b.q) := hr
      have hq' : ∀ x ∈ ([] : List Seg) ++ g :: l, x.q ≤ n := hq
      obtain ⟨fp, fpl⟩ := foldP_snoc es ec
      obtain ⟨R, hR⟩ : ∃ R, R = renS U (nameM g.q) ⟨#[]⟩ g.f := ⟨_, rfl⟩
      rw [← hR] at em es ed ec en dat dat2 fp fpl rs
      have last : (foldP R R.chg.length).Perm (ents l) := by rw [fpl]; exact app_remove (a := []) hn ul hr' hq'
      have now : R.names.Perm (ents l) := by rw [en]; exact app_remove (a := []) hn un hr' hq'
      have hv' : ∀ k, VOk R n (ents (l.drop k)) := fun k => by
        have := hv (k + 1)
        rw [List.drop_succ_cons] at this
        exact this.move dat2 (em.trans b4) (Nat.le_refl _)
      have brk : BRK R n := ⟨h.n0, hn, fun p hp2 => by
        rcases Nat.lt_or_ge U.chg.length p with hlt | hge
        · have e : p = R.chg.length := by rw [ec, List.length_append] at hp2 ⊢; simp only [List.length_singleton] at hp2 ⊢; omega
          rw [e]
          obtain ⟨q, base, ext, h1, hh⟩ := hv' 0
          exact ⟨q, base, ext, last.trans (by rw [List.drop_zero] at h1; exact h1), hh⟩
        · rw [fp p hge]
          exact (hUb.views p hge).move dat em (Nat.le_refl _)⟩
      unfold remS
      rw [rc, rs]
      by_cases c0 : beginC T = 0
      · rw [if_neg (fun e => e c0)]
        have ud : U.dead = false := by rw [hU, begin_zero c0]; exact hd
        exact remS_any hn l R (List.pairwise_cons.1 hr).2 (fun x hx => hq x (List.mem_cons_of_mem _ hx)) hv' brk now last (by rw [ed]; exact ud)
      · rw [if_pos c0]
        exact ⟨brk, fun e => absurd e c0⟩
/-- a log whose records have gone -/
def goneL (L : LS) : LS := { L with found := [], file := noName, size := 0, dirty := false }
theorem retS_any {S : DS} {L : LS} {q0 n s : Nat} {base ext : List Seg} (h : St S L q0 base ext n s) (hd : S.dead = false) :
    BRK (retS (base ++ ext) S).2 n ∧ ((retS (base ++ ext) S).1 = 0 → ∃ q1, St (retS (base ++ ext) S).2 (goneL L) q1 [] [] n 0) := by
  have i := h.inv
  have hr := ext_rise i.chain h.now.ok
  have hq := ext_small i.chain i.bound h.now.ok
  obtain ⟨a1, a2⟩ := remS_any i.n1 (base ++ ext) S hr hq h.toWk.suf h.toWk.brk h.now.names h.now.last hd
  have f0 : ∀ T : DS, Full T [] := fun T g hg => nomatch hg
  have st : ∀ {T : DS} {q1 : Nat}, Wk T q1 [] [] n 0 → (q1 = 1 → L.next = q1) → St T (goneL L) q1 [] [] n 0 := fun {T q1} wk hq1 =>
    ⟨wk, h.next1, h.next2, fun e => by
      rcases e with e | e
      · exact absurd rfl e
      · show L.next = q1 + 0
        rw [hq1 e]; rfl, fun g hg => (nomatch hg), fun _ => ⟨rfl, fun x hx => (nomatch hx), .inl (f0 T)⟩, fun e => absurd rfl e⟩
  unfold retS
  by_cases e : (remS (base ++ ext) S).1 = 0
  · rw [if_neg (fun h => h e)]
    obtain ⟨d1, d2, d3⟩ := a2 e
    by_cases l0 : base ++ ext = []
    · rw [if_pos l0]
      obtain ⟨rfl, rfl⟩ := List.append_eq_nil_iff.1 l0
      refine ⟨a1, fun _ => ⟨q0, st (h.toWk.le (Nat.zero_le _)) fun e1 => ?_⟩⟩
      have := h.nextb (.inr e1)
      rw [this]; rfl
    · rw [if_neg l0]
      obtain ⟨Z, hZ⟩ : ∃ Z, Z = (remS (base ++ ext) S).2 := ⟨_, rfl⟩
      rw [← hZ] at a1 d1 d2 d3 ⊢
      show BRK (syncNamesS Z) n ∧ (syncNamesC Z = 0 → ∃ q1, St (syncNamesS Z) (goneL L) q1 [] [] n 0)
      have zC : syncNamesC Z = beginC Z := by unfold syncNamesC; rw [d3]; rfl
      obtain ⟨b1, b2, b3, b4, b5⟩ := beginS_keeps Z
      rw [zC]
      by_cases c0 : beginC Z = 0
      · obtain ⟨k1, k2, k3, k4⟩ := relAll_keeps (beginS Z) Z.chg
        have zS : syncNamesS Z = settleS (relAll (beginS Z) Z.chg) Z.chg.length := by unfold syncNamesS; rw [d3, if_neg (by decide), if_pos c0]
        have ez : ∀ p, foldP (syncNamesS Z) p = [] := fun p => by
          rw [zS]
          unfold foldP
          show List.foldl _ _ (List.take p ([] : List Chg)) = _
          rw [List.take_nil]
          show List.foldl _ (relAll (beginS Z) Z.chg).safe ((relAll (beginS Z) Z.chg).chg.take Z.chg.length) = _
          rw [k2, k3, b2, b3]
          exact d1
        have en : (syncNamesS Z).names = [] := by
          rw [zS]
          show (relAll (beginS Z) Z.chg).names = []
          rw [k1, b1]; exact d2
        have n1 := h.next1
        have n2 := h.next2
        refine ⟨⟨by omega, i.n1, fun p _ => by rw [ez]; exact VOk.nil _ (by omega)⟩, fun _ => ⟨L.next, st ⟨⟨i.n1, n1, trivial, fun g hg => (nomatch hg), fun g hg => (nomatch hg), List.nodup_nil, fun g hg => (nomatch hg), by show L.next + 0 ≤ n; omega, fun p _ => ⟨[], by rw [ez]; exact List.Perm.refl _, .inl rfl⟩⟩, ⟨by rw [en]; exact List.Perm.refl _, by rw [ez]; exact List.Perm.refl _, .inl rfl, fun g hg => (nomatch hg)⟩, .inl ⟨f0 _, Nat.zero_le _⟩, fun _ => f0 _⟩ fun _ => rfl⟩⟩
      · have zS : syncNamesS Z = beginS Z := by unfold syncNamesS; rw [d3, if_neg (by decide), if_neg c0]
        rw [zS]
        exact ⟨a1.begin, fun e => absurd e c0⟩
  · rw [if_pos e]
    exact ⟨a1, fun e2 => absurd e2 e⟩
end Go.Proofs.YtpmjmkgokaafaaaGreatDoor
