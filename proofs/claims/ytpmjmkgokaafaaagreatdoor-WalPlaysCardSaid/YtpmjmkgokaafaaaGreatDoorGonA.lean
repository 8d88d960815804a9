/- Retire, as mathematics: the oldest files go first, so that an end of the records is there yet wherever it stops. -/
import Derived.Test.YtpmjmkgokaafaaaGreatDoorWalY
namespace Go.Proofs.YtpmjmkgokaafaaaGreatDoor
set_option maxRecDepth 100000
open Go.RowKit M

def remS : List Seg → DS → Int × DS
  | [], S => (0, S)
  | g :: l, S => if removeC S (nameM g.q) ≠ 0 then (removeC S (nameM g.q), removeS S (nameM g.q)) else remS l (removeS S (nameM g.q))
def retS (l : List Seg) (S : DS) : Int × DS :=
  if (remS l S).1 ≠ 0 then remS l S else if l = [] then (0, (remS l S).2) else (syncNamesC (remS l S).2, syncNamesS (remS l S).2)

theorem remS_sz : ∀ (l : List Seg) {S : DS} {k c : Nat}, Sz S k c → Sz (remS l S).2 (k + l.length) (c + l.length)
  | [], _, _, _, h => h
  | g :: l, S, k, c, h => by
    have z := h.remove (a := nameM g.q) (by rw [nameM_size]; unfold maxLen; decide)
    unfold remS
    split
    · exact z.up (by rw [List.length_cons]; omega) (by rw [List.length_cons]; omega)
    · exact (remS_sz l z).up (by rw [List.length_cons]; omega) (by rw [List.length_cons]; omega)
theorem retS_sz (l : List Seg) {S : DS} {k c : Nat} (h : Sz S k c) : Sz (retS l S).2 (k + l.length) (c + l.length + 1) := by
  have z := remS_sz l h
  unfold retS
  split
  · exact z.up (Nat.le_refl _) (by omega)
  · split
    · exact z.up (Nat.le_refl _) (by omega)
    · exact z.syncNames

/-- what the names say behind a restart: files from some one on -/
def View (T : DS) (base : List Seg) (n : Nat) (N : KL) : Prop := ∃ q i ext, N.Perm (ents (base.drop i ++ ext)) ∧ 1 ≤ q ∧ ChainQ q (base.drop i) ∧ q + (recs (base.drop i)).length ≤ n ∧ ExtOk T q (base.drop i) n ext
structure RW (T : DS) (base : List Seg) (n : Nat) : Prop where
  n1 : n ≤ bigQ
  small : ∀ g ∈ base, Small g.rs
  holds : ∀ g ∈ base, HoldsR (T.file g.f).data g.q g.rs
  fs : (base.map (·.f)).Nodup
  fle : ∀ g ∈ base, g.f ≤ T.made
  full : Full T base
  views : ∀ p, p ≤ T.chg.length → View T base n (foldP T p)
theorem View.move {T T' : DS} {base : List Seg} {n : Nat} {N : KL} (h : View T base n N) (hd : ∀ i, (T'.file i).data = (T.file i).data) (hm : T'.made = T.made) : View T' base n N := by
  obtain ⟨q, i, ext, a, b, c, d, e⟩ := h
  exact ⟨q, i, ext, a, b, c, d, e.move (fun i _ => hd i) (by rw [hm]; exact Nat.le_refl _) (Nat.le_refl _)⟩
theorem RW.begin {T : DS} {base : List Seg} {n : Nat} (h : RW T base n) : RW (beginS T) base n := by
  obtain ⟨a, b, c, d, e⟩ := beginS_keeps T
  exact ⟨h.n1, h.small, fun g hg => by rw [e]; exact h.holds g hg, h.fs, fun g hg => by rw [d]; exact h.fle g hg, h.full.begin, fun p hp => by
    rw [c] at hp
    have ef : foldP (beginS T) p = foldP T p := by unfold foldP; rw [b, c]
    rw [ef]
    exact (h.views p hp).move (fun i => by rw [e]) d⟩
theorem view_drop {T : DS} {base ext : List Seg} {n : Nat} {N : KL} (hc : ChainQ 1 base) (hb : 1 + (recs base).length ≤ n) (hx : ExtOk T 1 base n ext) (k : Nat) (hN : N.Perm (ents ((base ++ ext).drop k))) : View T base n N := by
  have rt : (recs (base.take k)).length + (recs (base.drop k)).length = (recs base).length := by
    rw [← List.length_append, ← recs_append, List.take_append_drop]
  by_cases hk : k ≤ base.length
  · rw [List.drop_append_of_le_length hk] at hN
    have hc2 : ChainQ 1 (base.take k ++ base.drop k) := by rw [List.take_append_drop]; exact hc
    obtain ⟨_, c2⟩ := (chain_append _ _ 1).1 hc2
    refine ⟨1 + (recs (base.take k)).length, k, ext, hN, by omega, c2, by omega, ?_⟩
    rcases hx with e | ⟨g, e, x2, x3, x4, x5, x6, x7, x8⟩
    · exact .inl e
    · exact .inr ⟨g, e, x2, x3, fun _ => by rw [x4 (.inr rfl)]; omega, x5, x6, x7, fun y hy => x8 y (List.mem_of_mem_drop hy)⟩
  · have e : (base ++ ext).drop k = [] := by
      refine List.drop_eq_nil_of_le ?_
      rw [List.length_append]
      have : ext.length ≤ 1 := by rcases hx with e | ⟨g, e, _⟩ <;> rw [e] <;> simp
      omega
    rw [e] at hN
    exact ⟨1, base.length, [], by rw [List.drop_length, List.append_nil]; exact hN, Nat.le_refl _, by rw [List.drop_length]; trivial, by rw [List.drop_length, recs_nil, List.length_nil]; omega, .inl rfl⟩

/-- one file goes -/
theorem RW.gone {T : DS} {base ext l : List Seg} {g : Seg} {n k : Nat} (h : RW T base n) (hc : ChainQ 1 base) (hb : 1 + (recs base).length ≤ n) (hx : ExtOk T 1 base n ext) (hl : (base ++ ext).drop k = g :: l) (hn : T.names.Perm (ents (g :: l))) (hp : (foldP T T.chg.length).Perm (ents (g :: l))) :
    RW (renS T (nameM g.q) ⟨#[]⟩ g.f) base n ∧ ExtOk (renS T (nameM g.q) ⟨#[]⟩ g.f) 1 base n ext ∧ (renS T (nameM g.q) ⟨#[]⟩ g.f).names.Perm (ents l) ∧ (foldP (renS T (nameM g.q) ⟨#[]⟩ g.f) (renS T (nameM g.q) ⟨#[]⟩ g.f).chg.length).Perm (ents l) := by
  have nb := h.n1
  have he : kget T.names ⟨#[]⟩ = none := kget_empty hn
  have fl := gone_file T (nameM g.q) g.f he
  obtain ⟨em, _, _, _, _, _, es, _⟩ := ren_same T (nameM g.q) ⟨#[]⟩ g.f
  have ec : (renS T (nameM g.q) ⟨#[]⟩ g.f).chg = T.chg ++ [⟨nameM g.q, ⟨#[]⟩, g.f, kget T.names ⟨#[]⟩⟩] := rfl
  have en : (renS T (nameM g.q) ⟨#[]⟩ g.f).names = (⟨nameM g.q, ⟨#[]⟩, g.f, kget T.names ⟨#[]⟩⟩ : Chg).app T.names := rfl
  have dat : ∀ i, ((renS T (nameM g.q) ⟨#[]⟩ g.f).file i).data = (T.file i).data ∧ ((renS T (nameM g.q) ⟨#[]⟩ g.f).file i).safe = (T.file i).safe := fun i => by
    rw [fl]
    by_cases e : i = g.f
    · rw [if_pos e, e]; exact ⟨rfl, rfl⟩
    · rw [if_neg e]; exact ⟨rfl, rfl⟩
  have rise : (([] : List Seg) ++ g :: l).Pairwise (fun a b => a.q < b.q) := by
    rw [List.nil_append, ← hl]; exact (ext_rise hc hx).sublist (List.drop_sublist k _)
  have low : ∀ x ∈ ([] : List Seg) ++ g :: l, x.q ≤ n := fun x hx2 => by
    rw [List.nil_append, ← hl] at hx2; exact ext_small hc hb hx x (List.mem_of_mem_drop hx2)
  have hl2 : (base ++ ext).drop (k + 1) = l := by rw [← List.drop_drop, hl]; rfl
  have hx' : ExtOk (renS T (nameM g.q) ⟨#[]⟩ g.f) 1 base n ext := hx.move (fun i _ => (dat i).1) (by rw [em]; exact Nat.le_refl _) (Nat.le_refl _)
  obtain ⟨fp, fpl⟩ := foldP_snoc es ec
  have last : (foldP (renS T (nameM g.q) ⟨#[]⟩ g.f) (renS T (nameM g.q) ⟨#[]⟩ g.f).chg.length).Perm (ents l) := by
    rw [fpl]; exact app_remove (a := []) nb hp rise low
  refine ⟨⟨nb, h.small, fun y hy => by rw [(dat y.f).1]; exact h.holds y hy, h.fs, fun y hy => by rw [em]; exact h.fle y hy, fun y hy => by rw [(dat y.f).2]; exact h.full y hy, fun p hp2 => ?_⟩, hx', ?_, last⟩
  · rcases Nat.lt_or_ge T.chg.length p with hlt | hge
    · have e : p = (renS T (nameM g.q) ⟨#[]⟩ g.f).chg.length := by rw [ec, List.length_append] at hp2 ⊢; simp only [List.length_singleton] at hp2 ⊢; omega
      rw [e]
      exact view_drop hc hb hx' (k + 1) (by rw [hl2]; exact last)
    · rw [fp p hge]
      exact (h.views p hge).move (fun i => (dat i).1) em
  · rw [en]; exact app_remove (a := []) nb hn rise low

theorem begin_alive {T : DS} (hd : T.dead = false) (hf : T.fail = -1) : (beginC T = 0 ∧ (beginS T).dead = false ∧ (beginS T).fail = -1) ∨ beginC T = 9 := by
  have n1 : ¬ T.fail = 0 := by rw [hf]; decide
  unfold beginC beginS
  rw [if_neg n1, if_neg n1]
  by_cases hc : T.crash = 0
  · rw [if_pos hc]; exact .inr rfl
  · rw [if_neg hc, if_neg hc]
    exact .inl ⟨rfl, hd, by show max (T.fail - 1) (-1) = -1; omega⟩
theorem remS_spec {base ext : List Seg} {n : Nat} (hc : ChainQ 1 base) (hb : 1 + (recs base).length ≤ n) : ∀ (l : List Seg) (k : Nat) (T : DS), (base ++ ext).drop k = l → RW T base n → ExtOk T 1 base n ext → T.names.Perm (ents l) → (foldP T T.chg.length).Perm (ents l) → T.dead = false → T.fail = -1 →
    RW (remS l T).2 base n ∧ ((remS l T).1 = 0 ∨ (remS l T).1 = 9) ∧ ((remS l T).1 = 0 → foldP (remS l T).2 (remS l T).2.chg.length = [] ∧ (remS l T).2.dead = false ∧ (remS l T).2.fail = -1)
  | [], _, T, _, h, _, _, hp, hd, hf => ⟨h, .inl rfl, fun _ => ⟨hp.eq_nil, hd, hf⟩⟩
  | g :: l, k, T, hl, h, hx, hn, hp, hd, hf => by
    have hk : ((ents (g :: l)).map (·.1)).Nodup := by
      rw [← hl]
      exact ents_keys h.n1 ((ext_rise hc hx).sublist (List.drop_sublist k _)) (fun x hx2 => ext_small hc hb hx x (List.mem_of_mem_drop hx2))
    have kS : kget T.names (nameM g.q) = some g.f := kget_ents hn hk (by simp)
    have f0 : findC T (nameM g.q) = 0 := by unfold findC; rw [hd, kS]; rfl
    have n0 : findN T (nameM g.q) = some g.f := by unfold findN; rw [hd, kS]; rfl
    obtain ⟨b1, b2, b3, b4, b5⟩ := beginS_keeps T
    have ef : foldP (beginS T) (beginS T).chg.length = foldP T T.chg.length := by unfold foldP; rw [b2, b3]
    have hx0 : ExtOk (beginS T) 1 base n ext := hx.move (fun i _ => by rw [b5]) (by rw [b4]; exact Nat.le_refl _) (Nat.le_refl _)
    obtain ⟨g1, g2, g3, g4⟩ := h.begin.gone hc hb hx0 hl (by rw [b1]; exact hn) (by rw [ef]; exact hp)
    have hl2 : (base ++ ext).drop (k + 1) = l := by rw [← List.drop_drop, hl]; rfl
    obtain ⟨_, _, _, r4, r5, _, _, r8⟩ := ren_same (beginS T) (nameM g.q) ⟨#[]⟩ g.f
    unfold remS
    rcases begin_alive hd hf with ⟨c0, c1, c2⟩ | c9
    · have rc : removeC T (nameM g.q) = 0 := by unfold removeC; rw [f0, if_neg (fun e => e rfl)]; exact c0
      have rs : removeS T (nameM g.q) = renS (beginS T) (nameM g.q) ⟨#[]⟩ g.f := by unfold removeS; rw [n0]; dsimp only; rw [c0, if_neg (by decide)]
      rw [rc, rs, if_neg (fun e => e rfl)]
      exact remS_spec hc hb l (k + 1) _ hl2 g1 g2 g3 g4 (r8.trans c1) (r5.trans c2)
    · have rc : removeC T (nameM g.q) = 9 := by unfold removeC; rw [f0, if_neg (fun e => e rfl)]; exact c9
      have rs : removeS T (nameM g.q) = renS (beginS T) (nameM g.q) ⟨#[]⟩ g.f := by unfold removeS; rw [n0]; dsimp only; rw [c9, if_neg (by decide)]
      rw [rc, rs, if_pos (show (9 : Int) ≠ 0 by decide)]
      exact ⟨g1, .inr rfl, fun e => absurd e (show ¬ (9 : Int) = 0 by decide)⟩
/-- what Retire leaves -/
theorem retS_spec {base ext : List Seg} {n : Nat} {T : DS} (hc : ChainQ 1 base) (hb : 1 + (recs base).length ≤ n) (h : RW T base n) (hx : ExtOk T 1 base n ext) (hn : T.names.Perm (ents (base ++ ext))) (hp : (foldP T T.chg.length).Perm (ents (base ++ ext))) (hd : T.dead = false) (hf : T.fail = -1) :
    ∃ base', (base' = base ∨ base' = []) ∧ RW (retS (base ++ ext) T).2 base' n ∧ ((retS (base ++ ext) T).1 = 0 ∨ (retS (base ++ ext) T).1 = 9) ∧ ((retS (base ++ ext) T).1 = 0 → base' = []) := by
  obtain ⟨a1, a2, a3⟩ := remS_spec hc hb (base ++ ext) 0 T rfl h hx hn hp hd hf
  unfold retS
  by_cases e : (remS (base ++ ext) T).1 = 0
  · rw [if_neg (fun h => h e)]
    obtain ⟨d1, d2, d3⟩ := a3 e
    by_cases l0 : base ++ ext = []
    · rw [if_pos l0]
      obtain ⟨rfl, rfl⟩ := List.append_eq_nil_iff.1 l0
      exact ⟨[], .inl rfl, a1, .inl rfl, fun _ => rfl⟩
    · rw [if_neg l0]
      obtain ⟨Z, hZ⟩ : ∃ Z, Z = (remS (base ++ ext) T).2 := ⟨_, rfl⟩
      rw [← hZ] at a1 d1 d2 d3 ⊢
      show ∃ base', (base' = base ∨ base' = []) ∧ RW (syncNamesS Z) base' n ∧ (syncNamesC Z = 0 ∨ syncNamesC Z = 9) ∧ (syncNamesC Z = 0 → base' = [])
      have zC : syncNamesC Z = beginC Z := by unfold syncNamesC; rw [d2]; rfl
      obtain ⟨b1, b2, b3, b4, b5⟩ := beginS_keeps Z
      rw [zC]
      rcases begin_alive d2 d3 with ⟨c0, c1, c2⟩ | c9
      · obtain ⟨k1, k2, k3, k4⟩ := relAll_keeps (beginS Z) Z.chg
        have zS : syncNamesS Z = settleS (relAll (beginS Z) Z.chg) Z.chg.length := by unfold syncNamesS; rw [d2, if_neg (by decide), if_pos c0]
        refine ⟨[], .inr rfl, ⟨h.n1, fun g hg => (nomatch hg), fun g hg => (nomatch hg), List.nodup_nil, fun g hg => (nomatch hg), fun g hg => (nomatch hg), fun p hp => ?_⟩, .inl c0, fun _ => rfl⟩
        have ez : foldP (syncNamesS Z) p = [] := by
          rw [zS]
          unfold foldP
          show List.foldl _ _ (List.take p ([] : List Chg)) = _
          rw [List.take_nil]
          show List.foldl _ (relAll (beginS Z) Z.chg).safe ((relAll (beginS Z) Z.chg).chg.take Z.chg.length) = _
          rw [k2, k3, b2, b3]
          exact d1
        rw [ez]
        exact ⟨1, 0, [], List.Perm.refl _, Nat.le_refl _, trivial, by show 1 + 0 ≤ n; omega, .inl rfl⟩
      · have zS : syncNamesS Z = beginS Z := by unfold syncNamesS; rw [d2, if_neg (by decide), if_neg (by rw [c9]; decide)]
        rw [zS]
        exact ⟨base, .inl rfl, a1.begin, .inr c9, fun e => by rw [c9] at e; cases e⟩
  · rw [if_pos e]
    exact ⟨base, .inl rfl, a1, a2, fun e2 => absurd e2 e⟩

theorem SafeN.all {S : DS} {base : List Seg} (h : SafeN S base (recs base).length) : Full S base := by
  rcases h with ⟨a, _⟩ | ⟨_, _, init, g, j, e, f, j1, j2, j3⟩
  · exact a
  · subst e
    rw [recs_append, List.length_append, recs_one] at j2
    intro x hx
    rcases List.mem_append.1 hx with hx | hx
    · exact f x hx
    · rw [List.mem_singleton] at hx
      subst hx
      rw [List.take_of_length_le (by omega)] at j3
      exact j3
theorem Wk.rw {S : DS} {n : Nat} {base ext : List Seg} (h : Wk S 1 base ext n (recs base).length) : RW S base n :=
  ⟨h.inv.n1, h.inv.small, h.inv.holds, h.inv.fs, h.inv.fle, h.safe.all, fun p hp => by
    obtain ⟨e2, a, b⟩ := h.inv.views p hp
    exact view_drop h.inv.chain h.inv.bound b 0 a⟩
/-- a restart behind Retire: an end of the records -/
theorem RW.restart {S : DS} {base : List Seg} {n : Nat} (h : RW S base n) (ch : List Int) : ∃ q i ext, Wk (restartI S ch) q (base.drop i) ext n 0 := by
  obtain ⟨p, hp⟩ : ∃ p, p = pickN ch 0 S.chg.length := ⟨_, rfl⟩
  have ple : p ≤ S.chg.length := by rw [hp]; exact pickN_le _ _ _
  obtain ⟨q, i, ex, v, q1, cq, bd, ok⟩ := h.views p ple
  have hfs : ((base.drop i).map (·.f)).Nodup := h.fs.sublist ((List.drop_sublist i base).map _)
  have hin : ∀ g ∈ base.drop i, g ∈ base := fun g hg => List.mem_of_mem_drop hg
  have hd : ((foldP S p).map (·.2)).Nodup := by
    have e : ((ents (base.drop i ++ ex)).map (·.2)) = (base.drop i ++ ex).map (·.f) := by unfold ents; rw [List.map_map]; rfl
    rw [(v.map (·.2)).nodup_iff, e]
    exact ext_fs hfs ok
  rw [hp] at hd
  obtain ⟨a1, a2, a3, a4, a5, _⟩ := restart_spec S ch hd
  rw [← hp] at a1 a2 a5
  have fp : ∀ i, foldP (restartI S ch) i = foldP S p := fun i => by unfold foldP; rw [a3, List.take_nil]; exact a2
  have cut : ∀ g ∈ base.drop i ++ ex, ∃ m, ((restartI S ch).file g.f).data = (S.file g.f).data.take m ∧ (S.file g.f).safe ≤ m ∧ ((restartI S ch).file g.f).safe = ((restartI S ch).file g.f).data.length ∧ ((restartI S ch).file g.f).named = true := fun g hg =>
    a5 (nameM g.q, g.f) (v.mem_iff.2 (List.mem_map.2 ⟨g, hg, rfl⟩))
  have whole : ∀ g ∈ base.drop i ++ ex, HoldsR (S.file g.f).data g.q g.rs → Small g.rs → (frs g.q g.rs).length ≤ (S.file g.f).safe → HoldsR ((restartI S ch).file g.f).data g.q g.rs := fun g hg hh hsm hf => by
    obtain ⟨m, m1, m2, _⟩ := cut g hg
    obtain ⟨j, j1, j2, j3⟩ := HoldsR.take g.rs _ g.q m hh hsm
    have e := j3 g.rs.length (Nat.le_refl _) (by rw [List.take_length]; omega)
    rw [m1]
    rw [List.take_of_length_le e] at j2
    exact j2
  have hb : ∀ g ∈ base.drop i, HoldsR ((restartI S ch).file g.f).data g.q g.rs := fun g hg => whole g (List.mem_append.2 (.inl hg)) (h.holds g (hin g hg)) (h.small g (hin g hg)) (h.full g (hin g hg))
  have ok' : ExtOk (restartI S ch) q (base.drop i) n ex := by
    rcases ok with e | ⟨x, e, x2, x3, x4, x5, x6, x7, x8⟩
    · exact .inl e
    · refine .inr ⟨x, e, x2, ?_, x4, x5, x6, by rw [a4]; exact x7, x8⟩
      have := whole x (by rw [e]; simp) (by rw [x2]; exact x3) (by rw [x2]; exact Small.nil) (by rw [x2]; exact Nat.zero_le _)
      rw [x2] at this; exact this
  have fl : Full (restartI S ch) (base.drop i) := fun g hg => by
    obtain ⟨m, _, _, m3, _⟩ := cut g (List.mem_append.2 (.inl hg))
    obtain ⟨t, e, _⟩ := hb g hg
    rw [m3, e, List.length_append]; omega
  refine ⟨q, i, ex, ⟨⟨h.n1, q1, cq, fun g hg => h.small g (hin g hg), hb, hfs, fun g hg => by rw [a4]; exact h.fle g (hin g hg), bd, fun j _ => ⟨ex, by rw [fp]; exact v, ok'⟩⟩, ⟨by rw [a1]; exact v, by rw [fp]; exact v, ok', fun g hg => ?_⟩, .inl ⟨fl, Nat.zero_le _⟩, fun _ => fl⟩⟩
  obtain ⟨m, _, _, _, m4⟩ := cut g hg
  exact m4
/-- sizes are in order -/
theorem Sz.restOk {S : DS} {t : Nat} (z : Sz S (7 * t) (8000 * t)) (ht : t ≤ 1000) (ch : List Int) : RestOk S ch := by
  obtain ⟨C, zz⟩ := z
  refine wrestOk_small (700 * t) (7 * t) ?_ ?_ (by omega) (by omega) ?_ (fun n => ⟨by have := zz.data n; omega, by have := zz.dsafe n; omega⟩)
  · rw [wrest0_names]
    have := foldl_length (S.chg.take (pickN ch 0 S.chg.length)) S.safe
    have ht' : (S.chg.take (pickN ch 0 S.chg.length)).length ≤ S.chg.length := List.length_take_le' _ _
    have sc := zz.sc
    unfold foldP
    omega
  · have : 700 * t * (7 * t) ≤ 700000 * 7000 := Nat.mul_le_mul (by omega) (by omega)
    omega
  · rw [wrest0_names]
    exact wfold_mem (P := fun n => 1 ≤ n ∧ n ≤ S.made) (S.chg.take (pickN ch 0 S.chg.length)) S.safe (fun p hp => ⟨(zz.sref p hp).1, (zz.sref p hp).2.1⟩) (fun c hc => ⟨(zz.cref c (List.mem_of_mem_take hc)).1.1, (zz.cref c (List.mem_of_mem_take hc)).1.2.1⟩)
theorem recs_end (base : List Seg) (i : Nat) : ∃ m, m ≤ (recs base).length ∧ recs (base.drop i) = (recs base).drop m ∧ (recs base).length - m = (recs (base.drop i)).length := by
  have e : recs base = recs (base.take i) ++ recs (base.drop i) := by rw [← recs_append, List.take_append_drop]
  refine ⟨(recs (base.take i)).length, by rw [e, List.length_append]; omega, by rw [e, List.drop_left], by rw [e, List.length_append]; omega⟩
end Go.Proofs.YtpmjmkgokaafaaaGreatDoor
