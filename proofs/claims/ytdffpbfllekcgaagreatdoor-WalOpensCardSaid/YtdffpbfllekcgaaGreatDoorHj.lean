/- DiskJ, DiskK, DiskL, WalB, in one text. -/
import Derived.Test.YtdffpbfllekcgaaGreatDoorHi
namespace Go.Proofs.YtdffpbfllekcgaaGreatDoor
set_option maxRecDepth 100000
open Go.RowKit M

theorem d_conv {w : World} {v : Value} {l : List Nat} (h : w.ownsRow 0 5 1 v l.length (byts l)) : (convert 52 9 v).run Tryz.prog w = .ok (.string (bs l)) w := by
  rcases h.2 with ⟨rfl, h0⟩ | ⟨g, cap, cur, hv, _⟩
  · obtain rfl : l = [] := List.eq_nil_of_length_eq_zero h0
    exact run_convert_bytes_nil (P := Tryz.prog) w 52 5 Tryz.underlying52 Tryz.underlying5 0 0 9 Tryz.underlying9
  · subst hv
    exact conv_bytes h

set_option maxHeartbeats 400000 in
theorem dread_any (L : Lay) (S : DS) (name : ByteArray) (w : World) (h : DiskAt w L S) (hr : ∀ p ∈ S.names, 1 ≤ p.2 ∧ p.2 ≤ S.made) (hn : name.size ≤ maxLen) :
    Calls Tryz.prog 10 #[.pointer (some ⟨L.b, 0, none⟩), .string name] w fun e w' => e = .returned (.tuple #[.string (bs (readD S name)), .int .i64 (findC S name)]) ∧ w = w' := by
  have cf := find_any L S w h name hn
  unfold readD
  cases hg : findN S name with
  | none =>
    rw [hg] at cf
    have hc := findC_ne hg
    obtain ⟨r, hr⟩ : ∃ r, r = findC S name := ⟨_, rfl⟩
    rw [← hr] at cf hc ⊢
    have e1 : (r != 0) = true := by rcases hc with e | e <;> rw [e] <;> rfl
    have CF := Box.mk cf
    clear h hg hr hc cf
    go_enter Tryz.func10, Tryz.ntmps10
    go_wp2_with (go_at_call 21; ((with_reducible refine CF.out.mono ?_); rintro e w1 ⟨rfl, rfl⟩))
    go_ret2
    exact ⟨rfl, rfl⟩
  | some n =>
    rw [hg] at cf
    obtain ⟨h1, h2⟩ := findN_ref hg hr
    rw [findC_zero hg] at cf ⊢
    have CF := Box.mk cf
    have c1 := (h.file n h1 h2).c1
    have hcv := d_conv (h.file n h1 h2).row
    clear h hg cf hr
    go_enter Tryz.func10, Tryz.ntmps10
    go_wp2_with (go_at_call 21; ((with_reducible refine CF.out.mono ?_); rintro e w1 ⟨rfl, rfl⟩))
    go_ret2
    exact ⟨rfl, rfl⟩

theorem beginC_zero {S : DS} (h : beginC S ≠ 0) : beginC S = 8 ∨ beginC S = 9 := by
  rcases beginC_cases S with e | e | e
  · exact .inl e
  · exact .inr e
  · exact absurd e h

set_option maxRecDepth 100000 in
set_option maxHeartbeats 600000 in
theorem sync_any (L : Lay) (S : DS) (name : ByteArray) (w : World) (h : DiskAt w L S) (hf : Fine S) (hn : name.size ≤ maxLen) :
    Calls Tryz.prog 32 #[.pointer (some ⟨L.b, 0, none⟩), .string name] w (RanP L w (.int .i64 (syncC S name)) (syncS S name)) := by
  have cf := find_any L S w h name hn
  unfold syncC syncS
  have HD := Box.mk h
  cases hg : findN S name with
  | none =>
    rw [hg] at cf
    have hc := findC_ne hg
    obtain ⟨r, hr⟩ : ∃ r, r = findC S name := ⟨_, rfl⟩
    rw [← hr] at cf hc ⊢
    have e1 : (r != 0) = true := by rcases hc with e | e <;> rw [e] <;> rfl
    rw [if_pos (by rcases hc with e | e <;> rw [e] <;> decide)]
    have CF := Box.mk cf
    clear h hg hr hc cf
    go_enter Tryz.func32, Tryz.ntmps32
    go_wp2_with (go_at_call 21; ((with_reducible refine CF.out.mono ?_); rintro e w1 ⟨rfl, rfl⟩))
    go_ret
    exact ⟨rfl, Ran.refl HD.out⟩
  | some n =>
    rw [hg] at cf
    obtain ⟨h1, h2⟩ := findN_ref hg hf.nref
    rw [findC_zero hg] at cf ⊢
    rw [if_neg (show ¬ ((0 : Int) ≠ 0) by simp)]
    have CF := Box.mk cf
    have cb := dbegin_any L S w h hf
    have hk := beginS_keeps S
    simp only
    by_cases h0 : beginC S = 0
    · rw [if_pos h0]
      rw [h0] at cb ⊢
      have h2' : n ≤ (beginS S).made := by rw [hk.2.2.2.1]; exact h2
      have CB := Box.mk cb
      clear h hg h0 hk cb cf
      have hv : ∀ w1, DiskAt w1 L (beginS S) → ∃ q cap, L.dat n = .slice q ((beginS S).file n).data.length cap := fun w1 d1 => by
        rcases (d1.file n h1 h2').row.2 with ⟨hv, h0⟩ | ⟨g, cap, cur, hv, _⟩
        · exact ⟨none, 0, by rw [hv, h0]⟩
        · exact ⟨_, _, hv⟩
      have HV := Box.mk hv; clear hv
      go_enter Tryz.func32, Tryz.ntmps32
      go_wp2_with (first
        | (go_at_call 21; ((with_reducible refine CF.out.mono ?_); rintro e w1 ⟨rfl, rfl⟩))
        | (go_at_call 19; ((with_reducible refine CB.out.mono ?_); rintro e w1 ⟨rfl, d1, o1⟩; obtain ⟨q, cap, hv⟩ := HV.out w1 d1; have y1 := (d1.file n h1 h2').c1; rw [hv] at y1; have y2 := (d1.file n h1 h2').c2; have z2 := (d1.file n h1 h2').fz 2; have D1 := Box.mk d1; have O1 := Box.mk o1; clear d1 o1 hv)))
      go_ret
      refine ⟨rfl, Ran.of (T := fun t => t ≠ .free) (D1.out.setSafe h1 h2' _) ?_ (fun t e => e)⟩
      exact (O1.out.mono (fun t e => by rw [e]; simp)).setCell (fun _ => by show L.own (L.loc n) ≠ .free; rw [D1.out.tags.loc n h1 h2']; simp) _
    · rw [if_neg h0]
      have hc := beginC_zero h0
      obtain ⟨r, hr⟩ : ∃ r, r = beginC S := ⟨_, rfl⟩
      rw [← hr] at cb hc ⊢
      have e1 : (r == 0) = false := by rcases hc with e | e <;> rw [e] <;> rfl
      have CB := Box.mk cb
      clear h hg h0 hk cb cf hr hc
      go_enter Tryz.func32, Tryz.ntmps32
      go_wp2_with (first
        | (go_at_call 21; ((with_reducible refine CF.out.mono ?_); rintro e w1 ⟨rfl, rfl⟩))
        | (go_at_call 19; ((with_reducible refine CB.out.mono ?_); rintro e w1 ⟨rfl, d1, o1⟩; have D1 := Box.mk d1; have O1 := Box.mk o1; clear d1 o1)))
      go_ret
      exact ⟨rfl, Ran.of D1.out O1.out (fun t e => by rw [e]; simp)⟩

end Go.Proofs.YtdffpbfllekcgaaGreatDoor
namespace Go.Proofs.YtdffpbfllekcgaaGreatDoor
set_option maxRecDepth 100000
open Go.RowKit M

theorem list_bne {a b : ByteArray} (h : a ≠ b) : (a.toList == b.toList) = false := by
  rw [beq_eq_false_iff_ne, ByteArray.toList_eq, ByteArray.toList_eq]
  intro e
  exact h (ByteArray.ext (Array.toList_inj.1 e))
theorem Ran.call {w w1 : World} {L : Lay} {S' : DS} {w2 : World} (o : Chn (fun t => t = .disk) L.own w w1) (h : Ran w1 L S' w2) : Ran w L S' w2 :=
  Ran.after (o.mono (fun t e => by rw [e]; simp)) rfl (fun _ _ => rfl) h

set_option maxRecDepth 100000 in
set_option maxHeartbeats 600000 in
theorem remove_any (L : Lay) (S : DS) (name : ByteArray) (w : World) (h : DiskAt w L S) (hf : Fine S) (hn : name.size ≤ maxLen) :
    Calls Tryz.prog 80 #[.pointer (some ⟨L.b, 0, none⟩), .string name] w (RanP L w (.int .i64 (removeC S name)) (removeS S name)) := by
  have cf := find_any L S w h name hn
  unfold removeC removeS
  have HD := Box.mk h
  cases hg : findN S name with
  | none =>
    rw [hg] at cf
    have hc := findC_ne hg
    obtain ⟨r, hr⟩ : ∃ r, r = findC S name := ⟨_, rfl⟩
    rw [← hr] at cf hc ⊢
    have e1 : (r != 0) = true := by rcases hc with e | e <;> rw [e] <;> rfl
    rw [if_pos (by rcases hc with e | e <;> rw [e] <;> decide)]
    have CF := Box.mk cf
    clear h hg hr hc cf
    go_enter Tryz.func80, Tryz.ntmps80
    go_wp2_with (go_at_call 21; ((with_reducible refine CF.out.mono ?_); rintro e w1 ⟨rfl, rfl⟩))
    go_ret
    exact ⟨rfl, Ran.refl HD.out⟩
  | some n =>
    rw [hg] at cf
    obtain ⟨h1, h2⟩ := findN_ref hg hf.nref
    rw [findC_zero hg] at cf ⊢
    rw [if_neg (show ¬ ((0 : Int) ≠ 0) by simp)]
    have CF := Box.mk cf
    have cb := dbegin_any L S w h hf
    have hk := beginS_keeps S
    simp only
    by_cases h8 : beginC S = 8
    · rw [if_pos h8]
      rw [h8] at cb ⊢
      have CB := Box.mk cb
      clear h hg h8 hk cb cf
      go_enter Tryz.func80, Tryz.ntmps80
      go_wp2_with (first
        | (go_at_call 21; ((with_reducible refine CF.out.mono ?_); rintro e w1 ⟨rfl, rfl⟩))
        | (go_at_call 19; ((with_reducible refine CB.out.mono ?_); rintro e w1 ⟨rfl, d1, o1⟩; have D1 := Box.mk d1; have O1 := Box.mk o1; clear d1 o1)))
      go_ret
      exact ⟨rfl, Ran.of D1.out O1.out (fun t e => by rw [e]; simp)⟩
    · rw [if_neg h8]
      obtain ⟨r, hr⟩ : ∃ r, r = beginC S := ⟨_, rfl⟩
      rw [← hr] at cb ⊢
      have e2 : (r != 8) = true := by rw [hr]; simpa using h8
      have hok : RenOk (beginS S) := hf.ren.of hk.1 hk.2.2.1 (by rw [hk.2.2.2.1]; exact Nat.le_refl _)
      have h2' : n ≤ (beginS S).made := by rw [hk.2.2.2.1]; exact h2
      have hre := fun w1 (d1 : DiskAt w1 L (beginS S)) => ren_any L (beginS S) name ⟨#[]⟩ n w1 d1 hok h1 h2' hn (by unfold maxLen; show 0 ≤ _; omega)
      have CB := Box.mk cb; have HRE := Box.mk hre
      clear h hg h8 hk cb hr hf hok hre cf
      go_enter Tryz.func80, Tryz.ntmps80
      go_wp2_with (first
        | (go_at_call 21; ((with_reducible refine CF.out.mono ?_); rintro e w1 ⟨rfl, rfl⟩))
        | (go_at_call 19; ((with_reducible refine CB.out.mono ?_); rintro e w1 ⟨rfl, d1, o1⟩; have RE := Box.mk (HRE.out w1 d1); have O1 := Box.mk o1; clear d1 o1))
        | (go_at_call 20; ((with_reducible refine RE.out.mono ?_); rintro e w2 ⟨rfl, r2⟩; have R2 := Box.mk r2; clear r2)))
      go_ret
      exact ⟨rfl, Ran.call O1.out R2.out⟩

end Go.Proofs.YtdffpbfllekcgaaGreatDoor
namespace Go.Proofs.YtdffpbfllekcgaaGreatDoor
set_option maxRecDepth 100000
open Go.RowKit M

theorem relF_keeps (S : DS) (n : Nat) : (relF S n).names = S.names ∧ (relF S n).safe = S.safe ∧ (relF S n).chg = S.chg ∧ (relF S n).made = S.made := by
  unfold relF
  split
  · exact ⟨rfl, rfl, rfl, rfl⟩
  · exact ⟨rfl, rfl, rfl, rfl⟩
theorem relO_keeps (S : DS) (o : Option Nat) : (relO S o).names = S.names ∧ (relO S o).safe = S.safe ∧ (relO S o).chg = S.chg ∧ (relO S o).made = S.made := by
  cases o with
  | none => exact ⟨rfl, rfl, rfl, rfl⟩
  | some n => exact relF_keeps S n
theorem relAll_keeps (S : DS) (l : List Chg) : (relAll S l).names = S.names ∧ (relAll S l).safe = S.safe ∧ (relAll S l).chg = S.chg ∧ (relAll S l).made = S.made := by
  induction l generalizing S with
  | nil => exact ⟨rfl, rfl, rfl, rfl⟩
  | cons c l ih =>
    obtain ⟨a, b, d, e⟩ := ih (relC S c)
    obtain ⟨a1, b1, d1, e1⟩ := relO_keeps (relF S c.file) c.over
    obtain ⟨a2, b2, d2, e2⟩ := relF_keeps S c.file
    exact ⟨a.trans (a1.trans a2), b.trans (b1.trans b2), d.trans (d1.trans d2), e.trans (e1.trans e2)⟩
theorem relAll_snoc (S : DS) (l : List Chg) (c : Chg) : relAll S (l ++ [c]) = relC (relAll S l) c := by
  induction l generalizing S with
  | nil => rfl
  | cons d l ih => exact ih (relC S d)

/-- sizes at all releases of SyncNames -/
def RelsOk (S : DS) : Prop := ∀ k c, S.chg[k]? = some c → RelOk (relAll (beginS S) (S.chg.take k)) c.file ∧ ∀ n, c.over = some n → RelOk (relF (relAll (beginS S) (S.chg.take k)) c.file) n

theorem rel_opt (L : Lay) (S : DS) (o : Option Nat) (w : World) (h : DiskAt w L S) (ho : ∀ n, o = some n → (1 ≤ n ∧ n ≤ S.made) ∧ RelOk S n) :
    Calls Tryz.prog 81 #[.pointer (some ⟨L.b, 0, none⟩), .pointer (o.map fun n => ⟨L.loc n, 0, none⟩)] w (RelP L w (relO S o)) := by
  cases o with
  | none => exact rel_none L S w h
  | some n =>
    obtain ⟨⟨h1, h2⟩, h3⟩ := ho n rfl
    exact rel_some L S n w h h1 h2 h3

/-- as far as the releases have come -/
structure At (w0 wr : World) (L : Lay) (S : DS) (Lk : Lay) : Prop where
  d : DiskAt wr Lk S
  b : Lk.b = L.b
  loc : Lk.loc = L.loc
  ch : Lk.ch = L.ch
  own : ∀ k, k < w0.heap.size → Lk.own k = L.own k
  chn : Chn (fun t => t ≠ .free ∧ t ≠ .chg) L.own w0 wr
theorem At.step {w0 wr w1 : World} {L Lk : Lay} {S S' : DS} {e : Ending} (h : At w0 wr L S Lk) (hr : RelP Lk wr S' e w1) : ∃ L', At w0 w1 L S' L' := by
  obtain ⟨_, L', d, b, l, c, o, ch⟩ := hr
  refine ⟨L', d, b.trans h.b, l.trans h.loc, c.trans h.ch, fun k hk => (o k (Nat.lt_of_lt_of_le hk h.chn.size)).trans (h.own k hk), ?_⟩
  refine ⟨ch.os.trans h.chn.os, ch.tape.trans h.chn.tape, ch.output.trans h.chn.output, Nat.le_trans h.chn.size ch.size, fun k hk hn => ?_⟩
  have hn' : ¬ (Lk.own k ≠ .free ∧ Lk.own k ≠ .chg) := by rw [h.own k hk]; exact hn
  exact (ch.block k (Nat.lt_of_lt_of_le hk h.chn.size) hn').trans (h.chn.block k hk hn)
theorem At.below {w0 wr w1 : World} {L Lk : Lay} {S : DS} (h : At w0 wr L S Lk) (hb : Below wr.heap.size wr w1) : At w0 w1 L S Lk :=
  ⟨h.d.below hb, h.b, h.loc, h.ch, h.own, h.chn.below hb⟩

/-- what a release leaves, as far as the releases have come -/
def RelA (w0 : World) (L Lk : Lay) (W : World) (S' : DS) (e : Ending) (w' : World) : Prop :=
  e = .returned (.tuple #[]) ∧ (∃ L', At w0 w' L S' L') ∧ ∀ k, k < W.heap.size → Lk.own k = .free → w'.heap[k]? = W.heap[k]?
theorem rel_at (w0 W : World) (L Lk : Lay) (S : DS) (o : Option Nat) (a : At w0 W L S Lk) (ho : ∀ n, o = some n → (1 ≤ n ∧ n ≤ S.made) ∧ RelOk S n) :
    Calls Tryz.prog 81 #[.pointer (some ⟨L.b, 0, none⟩), .pointer (o.map fun n => ⟨L.loc n, 0, none⟩)] W (RelA w0 L Lk W (relO S o)) := by
  have c := rel_opt Lk S o W a.d ho
  rw [a.b, a.loc] at c
  refine c.mono fun e w' h => ⟨h.1, a.step h, fun k hk hf => ?_⟩
  obtain ⟨_, L', _, _, _, _, _, ch⟩ := h
  exact ch.block k hk (by rw [hf]; simp)

set_option maxRecDepth 100000 in
set_option maxHeartbeats 1000000 in
theorem syncNames_main (L : Lay) (S : DS) (w : World) (h : DiskAt w L S) (hf : Fine S) (hro : RelsOk S) (hd : S.dead = false) (h0 : beginC S = 0) (hne : S.chg ≠ []) :
    Calls Tryz.prog 53 #[.pointer (some ⟨L.b, 0, none⟩)] w (RanP L w (.int .i64 0) (settleS (relAll (beginS S) S.chg) S.chg.length)) := by
  have c8 := h.head.c8
  rw [hd] at c8
  have cb := dbegin_any L S w h hf
  have hk := beginS_keeps S
  rw [h0] at cb
  have q1 := hf.chg
  have hset : SetOk (relAll (beginS S) S.chg) := by
    obtain ⟨a, b, c, d⟩ := relAll_keeps (beginS S) S.chg
    exact hf.set.of (c.trans hk.2.2.1) (b.trans hk.2.1) (d.trans hk.2.2.2.1)
  have hcref : ∀ k c, S.chg[k]? = some c → (∀ n, some c.file = some n → (1 ≤ n ∧ n ≤ (relAll (beginS S) (S.chg.take k)).made) ∧ RelOk (relAll (beginS S) (S.chg.take k)) n) ∧ (∀ n, c.over = some n → (1 ≤ n ∧ n ≤ (relF (relAll (beginS S) (S.chg.take k)) c.file).made) ∧ RelOk (relF (relAll (beginS S) (S.chg.take k)) c.file) n) := fun k c hc => by
    obtain ⟨r1, r2, _⟩ := hf.cref c (List.mem_of_getElem? hc)
    obtain ⟨a, b⟩ := hro k c hc
    have hm : (relAll (beginS S) (S.chg.take k)).made = S.made := (relAll_keeps _ _).2.2.2.trans hk.2.2.2.1
    have hm2 : (relF (relAll (beginS S) (S.chg.take k)) c.file).made = S.made := (relF_keeps _ _).2.2.2.trans hm
    exact ⟨fun n e => by cases e; rw [hm]; exact ⟨r1, a⟩, fun n e => by rw [hm2]; exact ⟨r2 n e, b n e⟩⟩
  have hlen : (relAll (beginS S) S.chg).chg.length = S.chg.length := by rw [(relAll_keeps _ _).2.2.1, hk.2.2.1]
  obtain ⟨m, hm⟩ : ∃ m, m = S.chg.length := ⟨_, rfl⟩
  have hch : ∀ w1, DiskAt w1 L (beginS S) → ∃ g cap, L.ch = .slice (some ⟨g, 0, none⟩) m cap ∧ m ≤ cap ∧ cap ≤ maxLen ∧ g < w1.heap.size ∧ L.own g = .chg ∧ ∀ k c, S.chg[k]? = some c →
      w1.cell? ⟨g, k * 4, none⟩ = some (.string c.src) ∧ w1.cell? ⟨g, k * 4 + 1, none⟩ = some (.string c.dst) ∧ w1.cell? ⟨g, k * 4 + 2, none⟩ = some (.pointer (some ⟨L.loc c.file, 0, none⟩)) ∧ w1.cell? ⟨g, k * 4 + 3, none⟩ = some (.pointer (c.over.map fun n => ⟨L.loc n, 0, none⟩)) := fun w1 d1 => by
    have := d1.changes (by rw [hk.2.2.1]; exact hne)
    rw [hk.2.2.1, ← hm] at this
    exact this
  rw [← hm] at q1 hlen ⊢
  have CB := Box.mk cb; have HSET := Box.mk hset; have HCR := Box.mk hcref; have HLEN := Box.mk hlen; have HCH := Box.mk hch; have HM := Box.mk hm
  clear h hd h0 hk cb hro hf hset hcref hlen hch hm hne
  go_enter Tryz.func53, Tryz.ntmps53
  go_wp2_with (go_at_call 19; ((with_reducible refine CB.out.mono ?_); rintro e w1 ⟨rfl, d1, o1⟩; obtain ⟨g, cap, hv, hmc, hcm, hgl, hgo, hcell⟩ := HCH.out w1 d1; have y2 := d1.head.c2; rw [hv] at y2; have HC := Box.mk hcell; have HGO := Box.mk hgo; have HV := Box.mk hv; have D1 := Box.mk d1; have O1 := Box.mk o1; clear d1 o1 hcell hgo hv; unfold maxLen at hcm))
  go_loopw [19] (fun i wr => ∃ k : Nat, k ≤ m ∧ i = .int .i64 (k : Int) ∧ ∃ Lk, Box (At w1 wr L (relAll (beginS S) (S.chg.take k)) Lk)) (fun i _ => m - (intOf i).toNat)
  case atStart => exact ⟨0, by omega, rfl, L, ⟨⟨D1.out, rfl, rfl, rfl, fun _ _ => rfl, Chn.refl _ _ _⟩⟩⟩
  case round =>
    obtain ⟨k, hk, rfl, Lk, ha⟩ := hrel
    by_cases hlt : k < m
    · obtain ⟨c, hc⟩ : ∃ c, S.chg[k]? = some c := ⟨_, List.getElem?_eq_getElem (by rw [← HM.out]; omega)⟩
      obtain ⟨p0, p1, p2, p3⟩ := HC.out k c hc
      have hgk : wr.heap[g]? = w1.heap[g]? := ha.out.chn.block g hgl (by rw [HGO.out]; simp)
      have p0 := (cell_keep (o := k * 4) hgk).trans p0
      have p1 := (cell_keep (o := k * 4 + 1) hgk).trans p1
      have p2 := (cell_keep (o := k * 4 + 2) hgk).trans p2
      have p3 := (cell_keep (o := k * 4 + 3) hgk).trans p3
      have hgw : g < wr.heap.size := Nat.lt_of_lt_of_le hgl ha.out.chn.size
      obtain ⟨r1, r2⟩ := HCR.out k c hc
      obtain ⟨ov, hov⟩ : ∃ ov, ov = c.over.map fun n => (⟨L.loc n, 0, none⟩ : Addr) := ⟨_, rfl⟩
      have hA : At w1 (wr.alloc (.cells #[.string c.src, .string c.dst, .pointer (some ⟨L.loc c.file, 0, none⟩), .pointer ov] 78)) L (relAll (beginS S) (S.chg.take k)) Lk := ha.out.below ((Below.refl _ _).alloc (Nat.le_refl _) _)
      have hfree : Lk.own wr.heap.size = .free := ha.out.d.tags.out _ (Nat.le_refl _)
      have hr1 : Calls Tryz.prog 81 #[.pointer (some ⟨L.b, 0, none⟩), .pointer (some ⟨L.loc c.file, 0, none⟩)] (wr.alloc (.cells #[.string c.src, .string c.dst, .pointer (some ⟨L.loc c.file, 0, none⟩), .pointer ov] 78)) (RelA w1 L Lk (wr.alloc (.cells #[.string c.src, .string c.dst, .pointer (some ⟨L.loc c.file, 0, none⟩), .pointer ov] 78)) (relF (relAll (beginS S) (S.chg.take k)) c.file)) := rel_at w1 _ L Lk _ (some c.file) hA r1
      have hr2 := fun w2 L2 (a2 : At w1 w2 L (relF (relAll (beginS S) (S.chg.take k)) c.file) L2) => rel_at w1 w2 L L2 _ c.over a2 r2
      rw [← hov] at p3 hr2
      have R1 := Box.mk hr1; have R2 := Box.mk hr2; have HF := Box.mk hfree; have HCc := Box.mk hc
      clear hr1 hr2 hfree hc hov r1 r2 hgk
      go_wp2_with (first
        | (go_at_call 81; ((with_reducible refine R1.out.mono ?_); rintro e w2 ⟨rfl, ⟨L2, a2⟩, hold⟩; obtain ⟨l0, l1, l2, l3⟩ := local4 (w := wr) (W := w2) (a := .string c.src) (b := .string c.dst) (c := .pointer (some ⟨L.loc c.file, 0, none⟩)) (d := .pointer ov) (t := 78) (hold _ (by simp) HF.out); have RR := Box.mk (R2.out w2 L2 a2); clear a2 hold R1))
        | (go_at_call 81; ((with_reducible refine RR.out.mono ?_); rintro e w3 ⟨rfl, ⟨L3, a3⟩, -⟩; have A3 := Box.mk a3; clear a3)))
      go_roundw
      case rel =>
        refine ⟨k + 1, by omega, by go_num, L3, ⟨?_⟩⟩
        rw [List.take_add_one, HCc.out, Option.toList_some, relAll_snoc]
        exact A3.out
      case measure => simp [intOf]; omega
    · obtain rfl : m = k := by omega
      have hall : S.chg.take m = S.chg := List.take_of_length_le (by rw [← HM.out]; exact Nat.le_refl _)
      rw [hall] at ha
      have a := ha.out
      have x2 := a.d.head.c2
      rw [a.b, a.ch, HV.out] at x2
      have cs := settle_any Lk (relAll (beginS S) S.chg) m wr a.d HSET.out (by rw [HLEN.out]; exact Nat.le_refl _)
      rw [a.b] at cs
      have CS := Box.mk cs
      clear a cs hall
      go_wp2_with (go_at_call 33; ((with_reducible refine CS.out.mono ?_); rintro e w2 ⟨rfl, r2⟩; have R2 := Box.mk r2; clear r2))
      go_ret
      refine ⟨rfl, Ran.call O1.out ?_⟩
      exact Ran.after (L1 := Lk) (ha.out.chn.mono (fun t e => e.1)) ha.out.b ha.out.own R2.out

set_option maxRecDepth 100000 in
set_option maxHeartbeats 1000000 in
theorem syncNames_any (L : Lay) (S : DS) (w : World) (h : DiskAt w L S) (hf : Fine S) (hro : RelsOk S) :
    Calls Tryz.prog 53 #[.pointer (some ⟨L.b, 0, none⟩)] w (RanP L w (.int .i64 (syncNamesC S)) (syncNamesS S)) := by
  have c8 := h.head.c8
  unfold syncNamesC syncNamesS
  have HD := Box.mk h
  by_cases hd : S.dead = true
  · rw [if_pos hd, if_pos hd]
    rw [hd] at c8
    clear h hd
    go_enter Tryz.func53, Tryz.ntmps53
    go_wp2
    go_ret
    exact ⟨rfl, Ran.refl HD.out⟩
  · have hd : S.dead = false := by simpa using hd
    rw [hd, if_neg (show ¬ (false = true) by simp), if_neg (show ¬ (false = true) by simp)]
    rw [hd] at c8
    have cb := dbegin_any L S w h hf
    have hk := beginS_keeps S
    by_cases h0 : beginC S = 0
    · rw [if_pos h0]
      rw [h0] at cb ⊢
      by_cases hne : S.chg = []
      · rw [hne]
        show Calls _ _ _ w (RanP L w (.int .i64 0) (settleS (beginS S) 0))
        have hz : ∀ w1, DiskAt w1 L (beginS S) → ∃ q cap, L.ch = .slice q 0 cap := fun w1 d1 => by
          have hl : (beginS S).chg.length = 0 := by rw [hk.2.2.1, hne]; rfl
          rcases d1.chg.2 with ⟨hv, _⟩ | ⟨g, cap, cur, hv, _⟩
          · exact ⟨_, _, hv⟩
          · rw [hl] at hv; exact ⟨_, _, hv⟩
        have hset : SetOk (beginS S) := hf.set.of hk.2.2.1 hk.2.1 hk.2.2.2.1
        have hse : ∀ w1, DiskAt w1 L (beginS S) → Calls Tryz.prog 33 #[.pointer (some ⟨L.b, 0, none⟩), .int .i64 0] w1 (RanP L w1 (.tuple #[]) (settleS (beginS S) 0)) := fun w1 (d1 : DiskAt w1 L (beginS S)) => settle_any L (beginS S) 0 w1 d1 hset (Nat.zero_le _)
        have hv : ∃ q cap, L.ch = .slice q 0 cap := by
          have hl : S.chg.length = 0 := by rw [hne]; rfl
          rcases h.chg.2 with ⟨hv, _⟩ | ⟨g, cap, cur, hv, _⟩
          · exact ⟨_, _, hv⟩
          · rw [hl] at hv; exact ⟨_, _, hv⟩
        obtain ⟨q, cap, hv⟩ := hv
        have CB := Box.mk cb; have HV := Box.mk hv; have HSE := Box.mk hse
        clear h hd h0 hk cb hro hf hz hset hv hse hne
        go_enter Tryz.func53, Tryz.ntmps53
        go_wp2_with (go_at_call 19; ((with_reducible refine CB.out.mono ?_); rintro e w1 ⟨rfl, d1, o1⟩; have y2 := d1.head.c2; rw [HV.out] at y2; have SE := Box.mk (HSE.out w1 d1); have D1 := Box.mk d1; have O1 := Box.mk o1; clear d1 o1))
        go_loopw [19] (fun i wr => i = .int .i64 0 ∧ wr = w1) (fun _ _ => 0)
        case atStart => exact ⟨rfl, rfl⟩
        case round =>
          obtain ⟨rfl, rfl⟩ := hrel
          go_wp2_with (go_at_call 33; ((with_reducible refine SE.out.mono ?_); rintro e w2 ⟨rfl, r2⟩; have R2 := Box.mk r2; clear r2))
          go_ret
          exact ⟨rfl, Ran.call O1.out R2.out⟩
      · exact syncNames_main L S w h hf hro hd h0 hne
    · rw [if_neg h0]
      have hc := beginC_zero h0
      obtain ⟨r, hr⟩ : ∃ r, r = beginC S := ⟨_, rfl⟩
      rw [← hr] at cb hc ⊢
      have e1 : (r == 0) = false := by rcases hc with e | e <;> rw [e] <;> rfl
      have CB := Box.mk cb
      clear h hd h0 hk cb hr hc hro
      go_enter Tryz.func53, Tryz.ntmps53
      go_wp2_with (go_at_call 19; ((with_reducible refine CB.out.mono ?_); rintro e w1 ⟨rfl, d1, o1⟩; have D1 := Box.mk d1; have O1 := Box.mk o1; clear d1 o1))
      go_ret
      exact ⟨rfl, Ran.of D1.out O1.out (fun t e => by rw [e]; simp)⟩

end Go.Proofs.YtdffpbfllekcgaaGreatDoor
namespace Go.Proofs.YtdffpbfllekcgaaGreatDoor
set_option maxRecDepth 100000
open Go.RowKit M

def sumC (C : Nat → Bool) (f : Nat → FileS) : Nat → Nat
  | 0 => 0
  | n + 1 => sumC C f n + if C (n + 1) then (f (n + 1)).data.length else 0
theorem sumC_congr {C D : Nat → Bool} {f g : Nat → FileS} (n : Nat) (h : ∀ i, 1 ≤ i → i ≤ n → (if C i then (f i).data.length else 0) = (if D i then (g i).data.length else 0)) : sumC C f n = sumC D g n := by
  induction n with
  | zero => rfl
  | succ n ih => unfold sumC; rw [ih (fun i h1 h2 => h i h1 (by omega)), h (n + 1) (by omega) (Nat.le_refl _)]
theorem sumC_le {C D : Nat → Bool} {f g : Nat → FileS} (n : Nat) (h : ∀ i, 1 ≤ i → i ≤ n → (if C i then (f i).data.length else 0) ≤ (if D i then (g i).data.length else 0)) : sumC C f n ≤ sumC D g n := by
  induction n with
  | zero => exact Nat.le_refl _
  | succ n ih => unfold sumC; have := ih (fun i h1 h2 => h i h1 (by omega)); have := h (n + 1) (by omega) (Nat.le_refl _); omega
theorem sumC_set (C : Nat → Bool) (f : Nat → FileS) (x : FileS) (n k : Nat) (h1 : 1 ≤ k) (h2 : k ≤ n) (hc : C k = true) : sumC C (fun i => if i = k then x else f i) n + (f k).data.length = sumC C f n + x.data.length := by
  induction n with
  | zero => omega
  | succ n ih =>
    unfold sumC
    by_cases e : n + 1 = k
    · subst e
      rw [if_pos rfl, hc, sumC_congr (D := C) (g := f) n (fun i h3 h4 => by rw [if_neg (by omega : ¬ i = n + 1)])]
      simp only [if_true]
      omega
    · rw [if_neg e]
      have := ih (by omega)
      omega
theorem sumC_ge (C : Nat → Bool) (f : Nat → FileS) (n k : Nat) (h1 : 1 ≤ k) (h2 : k ≤ n) (hc : C k = true) : (f k).data.length ≤ sumC C f n := by
  have := sumC_set C f ⟨[], 0, false⟩ n k h1 h2 hc
  have e : ([] : List Nat).length = 0 := rfl
  simp only [e] at this
  omega
/-- one more file counts -/
theorem sumC_add (C : Nat → Bool) (f : Nat → FileS) (n k : Nat) (h1 : 1 ≤ k) (h2 : k ≤ n) (hc : C k = false) : sumC (fun i => decide (i = k) || C i) f n = sumC C f n + (f k).data.length := by
  induction n with
  | zero => omega
  | succ n ih =>
    unfold sumC
    by_cases e : n + 1 = k
    · subst e
      rw [sumC_congr (D := C) (g := f) n (fun i h3 h4 => by rw [decide_eq_false (by omega : ¬ i = n + 1), Bool.false_or])]
      simp [hc]
    · rw [decide_eq_false e, Bool.false_or]
      have := ih (by omega)
      omega

def RefC (S : DS) (C : Nat → Bool) (n : Nat) : Prop := 1 ≤ n ∧ n ≤ S.made ∧ C n = true
structure SzC (S : DS) (C : Nat → Bool) (k c : Nat) : Prop where
  room0 : 0 ≤ S.room
  room1 : S.room ≤ 9223372036854775807
  crash0 : -1 ≤ S.crash
  crash1 : S.crash ≤ 9223372036854775807
  fail0 : -1 ≤ S.fail
  fail1 : S.fail ≤ 9223372036854775807
  made : S.made ≤ k
  calls : S.calls ≤ c
  names : S.names.length ≤ k
  sc : S.safe.length + S.chg.length ≤ k
  data : ∀ n, (S.file n).data.length ≤ 100 * k
  dsafe : ∀ n, (S.file n).safe ≤ 100 * k
  used1 : S.used ≤ (100 * k : Nat)
  used : S.used = (sumC C S.file S.made : Nat)
  nref : ∀ p ∈ S.names, RefC S C p.2
  sref : ∀ p ∈ S.safe, RefC S C p.2
  cref : ∀ d ∈ S.chg, RefC S C d.file ∧ (∀ g, d.over = some g → RefC S C g) ∧ d.src.size ≤ maxLen ∧ d.dst.size ≤ maxLen
def Sz (S : DS) (k c : Nat) : Prop := ∃ C, SzC S C k c

theorem SzC.up {S : DS} {C : Nat → Bool} {k c k' c' : Nat} (h : SzC S C k c) (hk : k ≤ k') (hc : c ≤ c') : SzC S C k' c' :=
  ⟨h.room0, h.room1, h.crash0, h.crash1, h.fail0, h.fail1, Nat.le_trans h.made hk, Nat.le_trans h.calls hc, Nat.le_trans h.names hk, Nat.le_trans h.sc hk, fun n => by have := h.data n; omega, fun n => by have := h.dsafe n; omega, by have := h.used1; omega, h.used, h.nref, h.sref, h.cref⟩
theorem Sz.up {S : DS} {k c k' c' : Nat} (h : Sz S k c) (hk : k ≤ k') (hc : c ≤ c') : Sz S k' c' := by
  obtain ⟨C, h⟩ := h; exact ⟨C, h.up hk hc⟩
theorem Sz.fine {S : DS} {k c : Nat} (h : Sz S k c) (hk : k ≤ 100000) (hc : c ≤ 100000000) : Fine S := by
  obtain ⟨C, h⟩ := h
  have a1 := h.used1
  have a2 := h.used
  have a3 := h.made
  have a4 := h.calls
  have a5 := h.names
  have a6 := h.sc
  exact ⟨by omega, h.room0, h.room1, by omega, by omega, h.crash0, h.crash1, h.fail0, h.fail1, by omega, by omega, by omega, by omega, fun n _ _ => by have := h.data n; omega,
    fun p hp => ⟨(h.nref p hp).1, (h.nref p hp).2.1⟩, fun p hp => ⟨(h.sref p hp).1, (h.sref p hp).2.1⟩, fun d hd => by
      obtain ⟨r1, r2, r3, r4⟩ := h.cref d hd
      exact ⟨⟨r1.1, r1.2.1⟩, fun g hg => ⟨(r2 g hg).1, (r2 g hg).2.1⟩, r3, r4⟩⟩
theorem SzC.begin {S : DS} {C : Nat → Bool} {k c : Nat} (h : SzC S C k c) : SzC (beginS S) C k (c + 1) := by
  have c0 := h.crash0; have c1 := h.crash1; have f0 := h.fail0; have f1 := h.fail1; have cc := h.calls
  unfold beginS
  split
  · exact ⟨h.room0, h.room1, h.crash0, h.crash1, by show (-1 : Int) ≤ -1; omega, by show (-1 : Int) ≤ _; omega, h.made, by show S.calls ≤ _; omega, h.names, h.sc, h.data, h.dsafe, h.used1, h.used, h.nref, h.sref, h.cref⟩
  · split
    · exact ⟨h.room0, h.room1, h.crash0, h.crash1, h.fail0, h.fail1, h.made, by show S.calls ≤ _; omega, h.names, h.sc, h.data, h.dsafe, h.used1, h.used, h.nref, h.sref, h.cref⟩
    · exact ⟨h.room0, h.room1, by show -1 ≤ max (S.crash - 1) (-1); omega, by show max (S.crash - 1) (-1) ≤ _; omega, by show -1 ≤ max (S.fail - 1) (-1); omega, by show max (S.fail - 1) (-1) ≤ _; omega, h.made, by show S.calls + 1 ≤ _; omega, h.names, h.sc, h.data, h.dsafe, h.used1, h.used, h.nref, h.sref, h.cref⟩

/-- a file takes a name, or loses one -/
theorem ren_file (S : DS) (src dst : ByteArray) (f i : Nat) : ∃ nm, (renS S src dst f).file i = { S.file i with named := nm } := by
  unfold renS DS.unname
  split
  · rename_i g hg
    show ∃ nm, (if i = f then _ else if i = g then _ else S.file i) = _
    by_cases e : i = f
    · subst e
      rw [if_pos rfl]
      show ∃ nm, (⟨(if i = g then _ else S.file i).data, (if i = g then _ else S.file i).safe, _⟩ : FileS) = _
      by_cases e : i = g
      · subst e; rw [if_pos rfl]; exact ⟨_, rfl⟩
      · rw [if_neg e]; exact ⟨_, rfl⟩
    · rw [if_neg e]
      by_cases e : i = g
      · subst e; rw [if_pos rfl]; exact ⟨_, rfl⟩
      · rw [if_neg e]; exact ⟨_, rfl⟩
  · show ∃ nm, (if i = f then _ else S.file i) = _
    by_cases e : i = f
    · subst e; rw [if_pos rfl]; exact ⟨_, rfl⟩
    · rw [if_neg e]; exact ⟨_, rfl⟩
theorem wapp_mem {c : Chg} {l : KL} {p : ByteArray × Nat} (h : p ∈ c.app l) : p ∈ l ∨ p = (c.dst, c.file) := by
  unfold Chg.app at h
  split at h
  · exact .inl (mem_kdel.1 h).1
  · unfold kput at h
    rcases List.mem_cons.1 h with e | h
    · exact .inr e
    · exact .inl (mem_kdel.1 (mem_kdel.1 h).1).1
theorem wfold_mem {P : Nat → Prop} (cs : List Chg) : ∀ (l : KL), (∀ p ∈ l, P p.2) → (∀ c ∈ cs, P c.file) → ∀ p ∈ cs.foldl (fun l c => c.app l) l, P p.2 := by
  induction cs with
  | nil => intro l h _; exact h
  | cons c cs ih =>
    intro l h hc
    rw [List.foldl_cons]
    refine ih _ (fun p hp => ?_) (fun d hd => hc d (List.mem_cons_of_mem _ hd))
    rcases wapp_mem hp with hp | rfl
    · exact h p hp
    · exact hc c List.mem_cons_self
theorem ren_same (S : DS) (src dst : ByteArray) (f : Nat) : (renS S src dst f).made = S.made ∧ (renS S src dst f).room = S.room ∧ (renS S src dst f).used = S.used ∧ (renS S src dst f).crash = S.crash ∧ (renS S src dst f).fail = S.fail ∧ (renS S src dst f).calls = S.calls ∧ (renS S src dst f).safe = S.safe ∧ (renS S src dst f).dead = S.dead := by
  unfold renS DS.unname
  split <;> exact ⟨rfl, rfl, rfl, rfl, rfl, rfl, rfl, rfl⟩
theorem SzC.ren {S : DS} {C : Nat → Bool} {k c : Nat} (h : SzC S C k c) {src dst : ByteArray} {f : Nat} (hf : RefC S C f) (hs : src.size ≤ maxLen) (hd : dst.size ≤ maxLen) : SzC (renS S src dst f) C (k + 1) c := by
  obtain ⟨g1, g2, g3, g4, g5, g6, g7, _⟩ := ren_same S src dst f
  have g8 : (renS S src dst f).names = (mkC S src dst f).app S.names := rfl
  have g9 : (renS S src dst f).chg = S.chg ++ [mkC S src dst f] := rfl
  have al := app_length (mkC S src dst f) S.names
  have hn := h.names; have hsc := h.sc; have hm := h.made; have hu := h.used1
  have hR : ∀ n, RefC S C n → RefC (renS S src dst f) C n := fun n ⟨a, b, d⟩ => ⟨a, by rw [g1]; exact b, d⟩
  refine ⟨by rw [g2]; exact h.room0, by rw [g2]; exact h.room1, by rw [g4]; exact h.crash0, by rw [g4]; exact h.crash1, by rw [g5]; exact h.fail0, by rw [g5]; exact h.fail1, by rw [g1]; omega, by rw [g6]; exact h.calls, by rw [g8]; omega, by rw [g7, g9, List.length_append]; simp only [List.length_singleton]; omega, fun n => ?_, fun n => ?_, by rw [g3]; omega, ?_, fun p hp => hR _ ?_, fun p hp => hR _ ?_, fun d hdm => ?_⟩
  · obtain ⟨nm, e⟩ := ren_file S src dst f n; rw [e]; have := h.data n; show (S.file n).data.length ≤ _; omega
  · obtain ⟨nm, e⟩ := ren_file S src dst f n; rw [e]; have := h.dsafe n; show (S.file n).safe ≤ _; omega
  · rw [g3, g1, h.used, sumC_congr (C := C) (D := C) (f := (renS S src dst f).file) (g := S.file) S.made (fun i _ _ => by obtain ⟨nm, e⟩ := ren_file S src dst f i; rw [e])]
  · rw [g8] at hp
    rcases wapp_mem hp with hp | rfl
    · exact h.nref p hp
    · exact hf
  · rw [g7] at hp; exact h.sref p hp
  · rw [g9] at hdm
    rcases List.mem_append.1 hdm with hdm | hdm
    · obtain ⟨r1, r2, r3, r4⟩ := h.cref d hdm
      exact ⟨hR _ r1, fun g hg => hR _ (r2 g hg), r3, r4⟩
    · rw [List.mem_singleton] at hdm
      subst hdm
      exact ⟨hR _ hf, fun g hg => hR _ (h.nref _ (kget_some hg)), hs, hd⟩
theorem SzC.new {S : DS} {C : Nat → Bool} {k c : Nat} (h : SzC S C k c) : SzC ({ S with made := S.made + 1 }.setF (S.made + 1) ⟨[], 0, false⟩) (fun i => decide (i = S.made + 1) || C i) (k + 1) c := by
  have hn := h.names; have hsc := h.sc; have hm := h.made; have hu := h.used1
  have hR : ∀ n, RefC S C n → RefC ({ S with made := S.made + 1 }.setF (S.made + 1) ⟨[], 0, false⟩) (fun i => decide (i = S.made + 1) || C i) n := fun n ⟨a, b, d⟩ => ⟨a, Nat.le_succ_of_le b, by simp [d]⟩
  refine ⟨h.room0, h.room1, h.crash0, h.crash1, h.fail0, h.fail1, by show S.made + 1 ≤ _; omega, h.calls, by show S.names.length ≤ _; omega, by show S.safe.length + S.chg.length ≤ _; omega, fun n => ?_, fun n => ?_, by show S.used ≤ _; omega, ?_, fun p hp => hR _ (h.nref p hp), fun p hp => hR _ (h.sref p hp), fun d hd => ?_⟩
  · show (if n = S.made + 1 then (⟨[], 0, false⟩ : FileS) else S.file n).data.length ≤ _
    by_cases e : n = S.made + 1
    · rw [if_pos e]; exact Nat.zero_le _
    · rw [if_neg e]; have := h.data n; omega
  · show (if n = S.made + 1 then (⟨[], 0, false⟩ : FileS) else S.file n).safe ≤ _
    by_cases e : n = S.made + 1
    · rw [if_pos e]; exact Nat.zero_le _
    · rw [if_neg e]; have := h.dsafe n; omega
  · show S.used = ((sumC (fun i => decide (i = S.made + 1) || C i) (fun i => if i = S.made + 1 then ⟨[], 0, false⟩ else S.file i) (S.made + 1) : Nat) : Int)
    unfold sumC
    rw [sumC_congr (D := C) (g := S.file) S.made (fun i _ h2 => by rw [if_neg (by omega : ¬ i = S.made + 1), decide_eq_false (by omega : ¬ i = S.made + 1), Bool.false_or]), h.used]
    simp
  · obtain ⟨r1, r2, r3, r4⟩ := h.cref d hd
    exact ⟨hR _ r1, fun g hg => hR _ (r2 g hg), r3, r4⟩
theorem SzC.appF {S : DS} {C : Nat → Bool} {k c : Nat} (h : SzC S C k c) {n : Nat} (s : List Nat) (hn : RefC S C n) (hs : s.length ≤ 100) : SzC (appF S n s) C (k + 1) c := by
  obtain ⟨h1, h2, h3⟩ := hn
  have sm := sumC_set C S.file ⟨(S.file n).data ++ s, (S.file n).safe, (S.file n).named⟩ S.made n h1 h2 h3
  simp only [List.length_append] at sm
  have e := h.used
  have hnm := h.names; have hsc := h.sc; have hm := h.made; have hu := h.used1
  have d1 := h.data n
  have d2 := h.dsafe n
  refine ⟨h.room0, h.room1, h.crash0, h.crash1, h.fail0, h.fail1, by show S.made ≤ _; omega, h.calls, by show S.names.length ≤ _; omega, by show S.safe.length + S.chg.length ≤ _; omega, fun i => ?_, fun i => ?_, by show S.used + (s.length : Int) ≤ _; omega, ?_, h.nref, h.sref, h.cref⟩
  · show (if i = n then (⟨(S.file n).data ++ s, (S.file n).safe, (S.file n).named⟩ : FileS) else S.file i).data.length ≤ _
    by_cases e : i = n
    · rw [if_pos e]
      show ((S.file n).data ++ s).length ≤ _
      rw [List.length_append]; omega
    · rw [if_neg e]; have := h.data i; omega
  · show (if i = n then (⟨(S.file n).data ++ s, (S.file n).safe, (S.file n).named⟩ : FileS) else S.file i).safe ≤ _
    by_cases e : i = n
    · rw [if_pos e]; show (S.file n).safe ≤ _; omega
    · rw [if_neg e]; have := h.dsafe i; omega
  · show S.used + (s.length : Int) = ((sumC C (fun i => if i = n then ⟨(S.file n).data ++ s, (S.file n).safe, (S.file n).named⟩ else S.file i) S.made : Nat) : Int)
    omega
theorem SzC.syncF {S : DS} {C : Nat → Bool} {k c : Nat} (h : SzC S C k c) (n : Nat) : SzC (syncF S n) C k c := by
  refine ⟨h.room0, h.room1, h.crash0, h.crash1, h.fail0, h.fail1, h.made, h.calls, h.names, h.sc, fun i => ?_, fun i => ?_, h.used1, ?_, h.nref, h.sref, h.cref⟩
  · show (if i = n then (⟨(S.file n).data, (S.file n).data.length, (S.file n).named⟩ : FileS) else S.file i).data.length ≤ _
    by_cases e : i = n
    · rw [if_pos e]; exact h.data n
    · rw [if_neg e]; exact h.data i
  · show (if i = n then (⟨(S.file n).data, (S.file n).data.length, (S.file n).named⟩ : FileS) else S.file i).safe ≤ _
    by_cases e : i = n
    · rw [if_pos e]; exact h.data n
    · rw [if_neg e]; exact h.dsafe i
  · show S.used = ((sumC C (fun i => if i = n then (⟨(S.file n).data, (S.file n).data.length, (S.file n).named⟩ : FileS) else S.file i) S.made : Nat) : Int)
    rw [h.used, sumC_congr (C := C) (D := C) (f := S.file) (g := fun i => if i = n then (⟨(S.file n).data, (S.file n).data.length, (S.file n).named⟩ : FileS) else S.file i) S.made (fun i _ _ => by
      by_cases e : i = n
      · rw [if_pos e, e]
      · rw [if_neg e])]
theorem SzC.relF {S : DS} {C : Nat → Bool} {k c : Nat} (h : SzC S C k c) {n : Nat} (hn : RefC S C n) : SzC (relF S n) C k c ∧ (relF S n).made = S.made ∧ (relF S n).chg = S.chg := by
  unfold Proofs.YtdffpbfllekcgaaGreatDoor.relF
  split
  · exact ⟨h, rfl, rfl⟩
  · obtain ⟨h1, h2, h3⟩ := hn
    have s := sumC_set C S.file ⟨[], (S.file n).safe, (S.file n).named⟩ S.made n h1 h2 h3
    have e0 : ([] : List Nat).length = 0 := rfl
    simp only [e0] at s
    have e := h.used
    have sn := h.dsafe n
    have u1 := h.used1
    refine ⟨⟨h.room0, h.room1, h.crash0, h.crash1, h.fail0, h.fail1, h.made, h.calls, h.names, h.sc, fun i => ?_, fun i => ?_, ?_, ?_, h.nref, h.sref, h.cref⟩, rfl, rfl⟩
    · show (if i = n then (⟨[], (S.file n).safe, (S.file n).named⟩ : FileS) else S.file i).data.length ≤ _
      by_cases e : i = n
      · rw [if_pos e]; exact Nat.zero_le _
      · rw [if_neg e]; exact h.data i
    · show (if i = n then (⟨[], (S.file n).safe, (S.file n).named⟩ : FileS) else S.file i).safe ≤ _
      by_cases e : i = n
      · rw [if_pos e]; exact sn
      · rw [if_neg e]; exact h.dsafe i
    · show S.used - ((S.file n).data.length : Int) ≤ _; omega
    · show S.used - ((S.file n).data.length : Int) = ((sumC C (fun i => if i = n then ⟨[], (S.file n).safe, (S.file n).named⟩ else S.file i) S.made : Nat) : Int)
      omega
theorem SzC.relC {S : DS} {C : Nat → Bool} {k c : Nat} (h : SzC S C k c) {d : Chg} (hd : d ∈ S.chg) : SzC (relC S d) C k c ∧ (relC S d).made = S.made ∧ (relC S d).chg = S.chg := by
  obtain ⟨r1, r2, _⟩ := h.cref d hd
  obtain ⟨a, b, e⟩ := h.relF r1
  unfold Proofs.YtdffpbfllekcgaaGreatDoor.relC relO
  split
  · rename_i g hg
    obtain ⟨g1, g2, g3⟩ := r2 g hg
    obtain ⟨a', b', d'⟩ := a.relF (n := g) ⟨g1, by rw [b]; exact g2, g3⟩
    exact ⟨a', b'.trans b, d'.trans e⟩
  · exact ⟨a, b, e⟩
theorem SzC.relAll {C : Nat → Bool} {k c : Nat} (l : List Chg) : ∀ {S : DS}, SzC S C k c → (∀ d ∈ l, d ∈ S.chg) → SzC (relAll S l) C k c ∧ (relAll S l).made = S.made ∧ (relAll S l).chg = S.chg := by
  induction l with
  | nil => intro S h _; exact ⟨h, rfl, rfl⟩
  | cons d l ih =>
    intro S h hl
    obtain ⟨a, b, e⟩ := h.relC (hl d List.mem_cons_self)
    obtain ⟨a', b', d'⟩ := ih a (fun x hx => by rw [e]; exact hl x (List.mem_cons_of_mem _ hx))
    exact ⟨a', b'.trans b, d'.trans e⟩
theorem SzC.settle {S : DS} {C : Nat → Bool} {k c : Nat} (h : SzC S C k c) (n : Nat) : SzC (settleS S n) C k c := by
  have hl := foldl_length (S.chg.take n) S.safe
  have sc := h.sc
  have ht : (S.chg.take n).length ≤ S.chg.length := List.length_take_le' _ _
  exact ⟨h.room0, h.room1, h.crash0, h.crash1, h.fail0, h.fail1, h.made, h.calls, h.names, by show ((S.chg.take n).foldl (fun l c => c.app l) S.safe).length + 0 ≤ _; omega, h.data, h.dsafe, h.used1, h.used, h.nref,
    wfold_mem (P := RefC S C) (S.chg.take n) S.safe h.sref (fun c hc => (h.cref c (List.mem_of_mem_take hc)).1), fun c hc => (nomatch (show c ∈ ([] : List Chg) from hc))⟩

/-! ### each call -/
theorem Sz.create {S : DS} {k c : Nat} (h : Sz S k c) {a : ByteArray} (hs : a.size ≤ maxLen) : Sz (createS S a) (k + 2) (c + 1) := by
  obtain ⟨C, h⟩ := h
  unfold createS
  split
  · exact ⟨C, h.up (by omega) (by omega)⟩
  · split
    · exact ⟨C, h.up (by omega) (by omega)⟩
    · split
      · exact ⟨C, h.up (by omega) (by omega)⟩
      · split
        · exact ⟨C, h.begin.up (by omega) (by omega)⟩
        · exact ⟨_, h.begin.new.ren ⟨by omega, Nat.le_refl _, by simp⟩ (by unfold maxLen; decide) hs⟩
theorem Sz.append {S : DS} {k c : Nat} (h : Sz S k c) (a : ByteArray) {s : List Nat} (hs : s.length ≤ 100) : Sz (appendS S a s) (k + 1) (c + 1) := by
  obtain ⟨C, h⟩ := h
  unfold appendS findN
  split
  · exact ⟨C, h.up (by omega) (by omega)⟩
  · rename_i n hn
    split at hn
    · cases hn
    · split
      · exact ⟨C, h.up (by omega) (by omega)⟩
      · split
        · exact ⟨C, h.begin.up (by omega) (by omega)⟩
        · have r := h.nref _ (kget_some hn)
          exact ⟨C, h.begin.appF s ⟨r.1, by rw [(beginS_keeps S).2.2.2.1]; exact r.2.1, r.2.2⟩ hs⟩
theorem Sz.sync {S : DS} {k c : Nat} (h : Sz S k c) (a : ByteArray) : Sz (syncS S a) k (c + 1) := by
  obtain ⟨C, h⟩ := h
  unfold syncS
  split
  · exact ⟨C, h.up (by omega) (by omega)⟩
  · split
    · exact ⟨C, h.begin.syncF _⟩
    · exact ⟨C, h.begin⟩
theorem Sz.remove {S : DS} {k c : Nat} (h : Sz S k c) {a : ByteArray} (hs : a.size ≤ maxLen) : Sz (removeS S a) (k + 1) (c + 1) := by
  obtain ⟨C, h⟩ := h
  unfold removeS findN
  split
  · exact ⟨C, h.up (by omega) (by omega)⟩
  · rename_i n hn
    split at hn
    · cases hn
    · split
      · exact ⟨C, h.begin.up (by omega) (by omega)⟩
      · have r := h.nref _ (kget_some hn)
        exact ⟨C, h.begin.ren ⟨r.1, by rw [(beginS_keeps S).2.2.2.1]; exact r.2.1, r.2.2⟩ hs (by unfold maxLen; decide)⟩
theorem Sz.syncNames {S : DS} {k c : Nat} (h : Sz S k c) : Sz (syncNamesS S) k (c + 1) := by
  obtain ⟨C, h⟩ := h
  unfold syncNamesS
  split
  · exact ⟨C, h.up (by omega) (by omega)⟩
  · split
    · obtain ⟨a, b, d⟩ := h.begin.relAll S.chg (fun x hx => by rw [(beginS_keeps S).2.2.1]; exact hx)
      exact ⟨C, a.settle _⟩
    · exact ⟨C, h.begin⟩
theorem Sz.rels {S : DS} {k c : Nat} (h : Sz S k c) (hk : k ≤ 100000) : RelsOk S := by
  obtain ⟨C, h⟩ := h
  have ok : ∀ {Z : DS} {n : Nat}, SzC Z C k (c + 1) → RelOk Z n := fun {Z n} h => by
    have a1 := h.used1; have a2 := h.used; have a3 := h.data n
    exact ⟨by omega, by omega, by omega⟩
  intro i d hd
  have hm : d ∈ S.chg := List.mem_of_getElem? hd
  obtain ⟨a, b, e⟩ := h.begin.relAll (S.chg.take i) (fun x hx => by rw [(beginS_keeps S).2.2.1]; exact List.mem_of_mem_take hx)
  obtain ⟨r1, _, _⟩ := h.cref d hm
  refine ⟨ok a, fun n _ => ?_⟩
  obtain ⟨x, _, _⟩ := a.relF (n := d.file) ⟨r1.1, by rw [b, (beginS_keeps S).2.2.2.1]; exact r1.2.1, r1.2.2⟩
  exact ok x
theorem Sz.crash {S : DS} {k c : Nat} (h : Sz S k c) {n : Int} (hn : n ≤ 9223372036854775807) : Sz { S with crash := max n (-1) } k c := by
  obtain ⟨C, h⟩ := h
  exact ⟨C, h.room0, h.room1, by show -1 ≤ max n (-1); omega, by show max n (-1) ≤ _; omega, h.fail0, h.fail1, h.made, h.calls, h.names, h.sc, h.data, h.dsafe, h.used1, h.used, h.nref, h.sref, h.cref⟩
theorem Sz.fail {S : DS} {k c : Nat} (h : Sz S k c) {n : Int} (hn : n ≤ 9223372036854775807) : Sz { S with fail := max n (-1) } k c := by
  obtain ⟨C, h⟩ := h
  exact ⟨C, h.room0, h.room1, h.crash0, h.crash1, by show -1 ≤ max n (-1); omega, by show max n (-1) ≤ _; omega, h.made, h.calls, h.names, h.sc, h.data, h.dsafe, h.used1, h.used, h.nref, h.sref, h.cref⟩
theorem Sz.room {S : DS} {k c : Nat} (h : Sz S k c) {n : Int} (hn : n ≤ 9223372036854775807) : Sz { S with room := max n 0 } k c := by
  obtain ⟨C, h⟩ := h
  exact ⟨C, by show 0 ≤ max n 0; omega, by show max n 0 ≤ _; omega, h.crash0, h.crash1, h.fail0, h.fail1, h.made, h.calls, h.names, h.sc, h.data, h.dsafe, h.used1, h.used, h.nref, h.sref, h.cref⟩
theorem Sz.begun (room : Int) (h : room ≤ 9223372036854775807) : Sz (newS room) 0 0 :=
  ⟨fun _ => false, by show 0 ≤ max room 0; omega, by show max room 0 ≤ _; omega, by show (-1 : Int) ≤ -1; omega, by show (-1 : Int) ≤ _; omega, by show (-1 : Int) ≤ -1; omega, by show (-1 : Int) ≤ _; omega, Nat.le_refl _, Nat.le_refl _, Nat.le_refl _, Nat.le_refl _, fun _ => Nat.le_refl _, fun _ => Nat.le_refl _, by show (0 : Int) ≤ _; omega, rfl, fun p hp => (nomatch (show p ∈ ([] : KL) from hp)), fun p hp => (nomatch (show p ∈ ([] : KL) from hp)), fun p hp => (nomatch (show p ∈ ([] : List Chg) from hp))⟩
end Go.Proofs.YtdffpbfllekcgaaGreatDoor
