/- Contracts of disk: SyncNames. -/
import Derived.Test.YtalinhjalnndhaaDiskK
namespace Go.Proofs.Ytalinhjalnndhaa
set_option maxRecDepth 100000
open Go.RowKit M

theorem relF_keeps (S : DS) (n : Nat) : (relF S n).names = S.names ∧ (relF S n).safe = S.safe ∧ (relF S n).chg = S.chg ∧ (relF S n).made = S.made := by
  unfold relF
  split
  · exact ⟨rfl, rfl, rfl, rfl⟩
  · exact ⟨rfl, rfl, rfl, rfl⟩
theorem relO_keeps (S : DS) (o : Option Nat) : (relO S o).names = S.names ∧ (relO S o).safe = S.safe ∧ (relO S o).chg = S.chg ∧ (relO S o).made = S.made := by
  cases o with
  | none => exact ⟨rfl, rfl, rfl, rfl⟩
  | some n => exact relF_keeps S n
theorem relAll_keeps (S : DS) (l : List Chg) : (relAll S l).names = S.names ∧ (relAll S l).safe = S.safe ∧ (relAll S l).chg = S.chg ∧ (relAll S l).made = S.made := by
  induction l generalizing S with
  | nil => exact ⟨rfl, rfl, rfl, rfl⟩
  | cons c l ih =>
    obtain ⟨a, b, d, e⟩ := ih (relC S c)
    obtain ⟨a1, b1, d1, e1⟩ := relO_keeps (relF S c.file) c.over
    obtain ⟨a2, b2, d2, e2⟩ := relF_keeps S c.file
    exact ⟨a.trans (a1.trans a2), b.trans (b1.trans b2), d.trans (d1.trans d2), e.trans (e1.trans e2)⟩
theorem relAll_snoc (S : DS) (l : List Chg) (c : Chg) : relAll S (l ++ [c]) = relC (relAll S l) c := by
  induction l generalizing S with
  | nil => rfl
  | cons d l ih => exact ih (relC S d)

/-- sizes at all releases of SyncNames -/
def RelsOk (S : DS) : Prop := ∀ k c, S.chg[k]? = some c → RelOk (relAll (beginS S) (S.chg.take k)) c.file ∧ ∀ n, c.over = some n → RelOk (relF (relAll (beginS S) (S.chg.take k)) c.file) n

theorem rel_opt (L : Lay) (S : DS) (o : Option Nat) (w : World) (h : DiskAt w L S) (ho : ∀ n, o = some n → (1 ≤ n ∧ n ≤ S.made) ∧ RelOk S n) :
    Calls Try.prog 42 #[.pointer (some ⟨L.b, 0, none⟩), .pointer (o.map fun n => ⟨L.loc n, 0, none⟩)] w (RelP L w (relO S o)) := by
  cases o with
  | none => exact rel_none L S w h
  | some n =>
    obtain ⟨⟨h1, h2⟩, h3⟩ := ho n rfl
    exact rel_some L S n w h h1 h2 h3

/-- as far as the releases have come -/
structure At (w0 wr : World) (L : Lay) (S : DS) (Lk : Lay) : Prop where
  d : DiskAt wr Lk S
  b : Lk.b = L.b
  loc : Lk.loc = L.loc
  ch : Lk.ch = L.ch
  own : ∀ k, k < w0.heap.size → Lk.own k = L.own k
  chn : Chn (fun t => t ≠ .free ∧ t ≠ .chg) L.own w0 wr
theorem At.step {w0 wr w1 : World} {L Lk : Lay} {S S' : DS} {e : Ending} (h : At w0 wr L S Lk) (hr : RelP Lk wr S' e w1) : ∃ L', At w0 w1 L S' L' := by
  obtain ⟨_, L', d, b, l, c, o, ch⟩ := hr
  refine ⟨L', d, b.trans h.b, l.trans h.loc, c.trans h.ch, fun k hk => (o k (Nat.lt_of_lt_of_le hk h.chn.size)).trans (h.own k hk), ?_⟩
  refine ⟨ch.os.trans h.chn.os, ch.tape.trans h.chn.tape, ch.output.trans h.chn.output, Nat.le_trans h.chn.size ch.size, fun k hk hn => ?_⟩
  have hn' : ¬ (Lk.own k ≠ .free ∧ Lk.own k ≠ .chg) := by rw [h.own k hk]; exact hn
  exact (ch.block k (Nat.lt_of_lt_of_le hk h.chn.size) hn').trans (h.chn.block k hk hn)
theorem At.below {w0 wr w1 : World} {L Lk : Lay} {S : DS} (h : At w0 wr L S Lk) (hb : Below wr.heap.size wr w1) : At w0 w1 L S Lk :=
  ⟨h.d.below hb, h.b, h.loc, h.ch, h.own, h.chn.below hb⟩

/-- what a release leaves, as far as the releases have come -/
def RelA (w0 : World) (L Lk : Lay) (W : World) (S' : DS) (e : Ending) (w' : World) : Prop :=
  e = .returned (.tuple #[]) ∧ (∃ L', At w0 w' L S' L') ∧ ∀ k, k < W.heap.size → Lk.own k = .free → w'.heap[k]? = W.heap[k]?
theorem rel_at (w0 W : World) (L Lk : Lay) (S : DS) (o : Option Nat) (a : At w0 W L S Lk) (ho : ∀ n, o = some n → (1 ≤ n ∧ n ≤ S.made) ∧ RelOk S n) :
    Calls Try.prog 42 #[.pointer (some ⟨L.b, 0, none⟩), .pointer (o.map fun n => ⟨L.loc n, 0, none⟩)] W (RelA w0 L Lk W (relO S o)) := by
  have c := rel_opt Lk S o W a.d ho
  rw [a.b, a.loc] at c
  refine c.mono fun e w' h => ⟨h.1, a.step h, fun k hk hf => ?_⟩
  obtain ⟨_, L', _, _, _, _, _, ch⟩ := h
  exact ch.block k hk (by rw [hf]; simp)

set_option maxRecDepth 100000 in
set_option maxHeartbeats 1000000 in
theorem syncNames_main (L : Lay) (S : DS) (w : World) (h : DiskAt w L S) (hf : Fine S) (hro : RelsOk S) (hd : S.dead = false) (h0 : beginC S = 0) (hne : S.chg ≠ []) :
    Calls Try.prog 16 #[.pointer (some ⟨L.b, 0, none⟩)] w (RanP L w (.int .i64 0) (settleS (relAll (beginS S) S.chg) S.chg.length)) := by
  have c8 := h.head.c8
  rw [hd] at c8
  have cb := dbegin_any L S w h hf
  have hk := beginS_keeps S
  rw [h0] at cb
  have q1 := hf.chg
  have hset : SetOk (relAll (beginS S) S.chg) := by
    obtain ⟨a, b, c, d⟩ := relAll_keeps (beginS S) S.chg
    exact hf.set.of (c.trans hk.2.2.1) (b.trans hk.2.1) (d.trans hk.2.2.2.1)
  have hcref : ∀ k c, S.chg[k]? = some c → (∀ n, some c.file = some n → (1 ≤ n ∧ n ≤ (relAll (beginS S) (S.chg.take k)).made) ∧ RelOk (relAll (beginS S) (S.chg.take k)) n) ∧ (∀ n, c.over = some n → (1 ≤ n ∧ n ≤ (relF (relAll (beginS S) (S.chg.take k)) c.file).made) ∧ RelOk (relF (relAll (beginS S) (S.chg.take k)) c.file) n) := fun k c hc => by
    obtain ⟨r1, r2, _⟩ := hf.cref c (List.mem_of_getElem? hc)
    obtain ⟨a, b⟩ := hro k c hc
    have hm : (relAll (beginS S) (S.chg.take k)).made = S.made := (relAll_keeps _ _).2.2.2.trans hk.2.2.2.1
    have hm2 : (relF (relAll (beginS S) (S.chg.take k)) c.file).made = S.made := (relF_keeps _ _).2.2.2.trans hm
    exact ⟨fun n e => by cases e; rw [hm]; exact ⟨r1, a⟩, fun n e => by rw [hm2]; exact ⟨r2 n e, b n e⟩⟩
  have hlen : (relAll (beginS S) S.chg).chg.length = S.chg.length := by rw [(relAll_keeps _ _).2.2.1, hk.2.2.1]
  obtain ⟨m, hm⟩ : ∃ m, m = S.chg.length := ⟨_, rfl⟩
  have hch : ∀ w1, DiskAt w1 L (beginS S) → ∃ g cap, L.ch = .slice (some ⟨g, 0, none⟩) m cap ∧ m ≤ cap ∧ cap ≤ maxLen ∧ g < w1.heap.size ∧ L.own g = .chg ∧ ∀ k c, S.chg[k]? = some c →
      w1.cell? ⟨g, k * 4, none⟩ = some (.string c.src) ∧ w1.cell? ⟨g, k * 4 + 1, none⟩ = some (.string c.dst) ∧ w1.cell? ⟨g, k * 4 + 2, none⟩ = some (.pointer (some ⟨L.loc c.file, 0, none⟩)) ∧ w1.cell? ⟨g, k * 4 + 3, none⟩ = some (.pointer (c.over.map fun n => ⟨L.loc n, 0, none⟩)) := fun w1 d1 => by
    have := d1.changes (by rw [hk.2.2.1]; exact hne)
    rw [hk.2.2.1, ← hm] at this
    exact this
  rw [← hm] at q1 hlen ⊢
  have CB := Box.mk cb; have HSET := Box.mk hset; have HCR := Box.mk hcref; have HLEN := Box.mk hlen; have HCH := Box.mk hch; have HM := Box.mk hm
  clear h hd h0 hk cb hro hf hset hcref hlen hch hm hne
  go_enter Try.func16, Try.ntmps16
  go_wp2_with (go_at_call 39; ((with_reducible refine CB.out.mono ?_); rintro e w1 ⟨rfl, d1, o1⟩; obtain ⟨g, cap, hv, hmc, hcm, hgl, hgo, hcell⟩ := HCH.out w1 d1; have y2 := d1.head.c2; rw [hv] at y2; have HC := Box.mk hcell; have HGO := Box.mk hgo; have HV := Box.mk hv; have D1 := Box.mk d1; have O1 := Box.mk o1; clear d1 o1 hcell hgo hv; unfold maxLen at hcm))
  go_loopw [19] (fun i wr => ∃ k : Nat, k ≤ m ∧ i = .int .i64 (k : Int) ∧ ∃ Lk, Box (At w1 wr L (relAll (beginS S) (S.chg.take k)) Lk)) (fun i _ => m - (intOf i).toNat)
  case atStart => exact ⟨0, by omega, rfl, L, ⟨⟨D1.out, rfl, rfl, rfl, fun _ _ => rfl, Chn.refl _ _ _⟩⟩⟩
  case round =>
    obtain ⟨k, hk, rfl, Lk, ha⟩ := hrel
    by_cases hlt : k < m
    · obtain ⟨c, hc⟩ : ∃ c, S.chg[k]? = some c := ⟨_, List.getElem?_eq_getElem (by rw [← HM.out]; omega)⟩
      obtain ⟨p0, p1, p2, p3⟩ := HC.out k c hc
      have hgk : wr.heap[g]? = w1.heap[g]? := ha.out.chn.block g hgl (by rw [HGO.out]; simp)
      have p0 := (cell_keep (o := k * 4) hgk).trans p0
      have p1 := (cell_keep (o := k * 4 + 1) hgk).trans p1
      have p2 := (cell_keep (o := k * 4 + 2) hgk).trans p2
      have p3 := (cell_keep (o := k * 4 + 3) hgk).trans p3
      have hgw : g < wr.heap.size := Nat.lt_of_lt_of_le hgl ha.out.chn.size
      obtain ⟨r1, r2⟩ := HCR.out k c hc
      obtain ⟨ov, hov⟩ : ∃ ov, ov = c.over.map fun n => (⟨L.loc n, 0, none⟩ : Addr) := ⟨_, rfl⟩
      have hA : At w1 (wr.alloc (.cells #[.string c.src, .string c.dst, .pointer (some ⟨L.loc c.file, 0, none⟩), .pointer ov] 82)) L (relAll (beginS S) (S.chg.take k)) Lk := ha.out.below ((Below.refl _ _).alloc (Nat.le_refl _) _)
      have hfree : Lk.own wr.heap.size = .free := ha.out.d.tags.out _ (Nat.le_refl _)
      have hr1 : Calls Try.prog 42 #[.pointer (some ⟨L.b, 0, none⟩), .pointer (some ⟨L.loc c.file, 0, none⟩)] (wr.alloc (.cells #[.string c.src, .string c.dst, .pointer (some ⟨L.loc c.file, 0, none⟩), .pointer ov] 82)) (RelA w1 L Lk (wr.alloc (.cells #[.string c.src, .string c.dst, .pointer (some ⟨L.loc c.file, 0, none⟩), .pointer ov] 82)) (relF (relAll (beginS S) (S.chg.take k)) c.file)) := rel_at w1 _ L Lk _ (some c.file) hA r1
      have hr2 := fun w2 L2 (a2 : At w1 w2 L (relF (relAll (beginS S) (S.chg.take k)) c.file) L2) => rel_at w1 w2 L L2 _ c.over a2 r2
      rw [← hov] at p3 hr2
      have R1 := Box.mk hr1; have R2 := Box.mk hr2; have HF := Box.mk hfree; have HCc := Box.mk hc
      clear hr1 hr2 hfree hc hov r1 r2 hgk
      go_wp2_with (first
        | (go_at_call 42; ((with_reducible refine R1.out.mono ?_); rintro e w2 ⟨rfl, ⟨L2, a2⟩, hold⟩; obtain ⟨l0, l1, l2, l3⟩ := local4 (w := wr) (W := w2) (a := .string c.src) (b := .string c.dst) (c := .pointer (some ⟨L.loc c.file, 0, none⟩)) (d := .pointer ov) (t := 82) (hold _ (by simp) HF.out); have RR := Box.mk (R2.out w2 L2 a2); clear a2 hold R1))
        | (go_at_call 42; ((with_reducible refine RR.out.mono ?_); rintro e w3 ⟨rfl, ⟨L3, a3⟩, -⟩; have A3 := Box.mk a3; clear a3)))
      go_roundw
      case rel =>
        refine ⟨k + 1, by omega, by go_num, L3, ⟨?_⟩⟩
        rw [List.take_add_one, HCc.out, Option.toList_some, relAll_snoc]
        exact A3.out
      case measure => simp [intOf]; omega
    · obtain rfl : m = k := by omega
      have hall : S.chg.take m = S.chg := List.take_of_length_le (by rw [← HM.out]; exact Nat.le_refl _)
      rw [hall] at ha
      have a := ha.out
      have x2 := a.d.head.c2
      rw [a.b, a.ch, HV.out] at x2
      have cs := settle_any Lk (relAll (beginS S) S.chg) m wr a.d HSET.out (by rw [HLEN.out]; exact Nat.le_refl _)
      rw [a.b] at cs
      have CS := Box.mk cs
      clear a cs hall
      go_wp2_with (go_at_call 43; ((with_reducible refine CS.out.mono ?_); rintro e w2 ⟨rfl, r2⟩; have R2 := Box.mk r2; clear r2))
      go_ret
      refine ⟨rfl, Ran.call O1.out ?_⟩
      exact Ran.after (L1 := Lk) (ha.out.chn.mono (fun t e => e.1)) ha.out.b ha.out.own R2.out

set_option maxRecDepth 100000 in
set_option maxHeartbeats 1000000 in
theorem syncNames_any (L : Lay) (S : DS) (w : World) (h : DiskAt w L S) (hf : Fine S) (hro : RelsOk S) :
    Calls Try.prog 16 #[.pointer (some ⟨L.b, 0, none⟩)] w (RanP L w (.int .i64 (syncNamesC S)) (syncNamesS S)) := by
  have c8 := h.head.c8
  unfold syncNamesC syncNamesS
  have HD := Box.mk h
  by_cases hd : S.dead = true
  · rw [if_pos hd, if_pos hd]
    rw [hd] at c8
    clear h hd
    go_enter Try.func16, Try.ntmps16
    go_wp2
    go_ret
    exact ⟨rfl, Ran.refl HD.out⟩
  · have hd : S.dead = false := by simpa using hd
    rw [hd, if_neg (show ¬ (false = true) by simp), if_neg (show ¬ (false = true) by simp)]
    rw [hd] at c8
    have cb := dbegin_any L S w h hf
    have hk := beginS_keeps S
    by_cases h0 : beginC S = 0
    · rw [if_pos h0]
      rw [h0] at cb ⊢
      by_cases hne : S.chg = []
      · rw [hne]
        show Calls _ _ _ w (RanP L w (.int .i64 0) (settleS (beginS S) 0))
        have hz : ∀ w1, DiskAt w1 L (beginS S) → ∃ q cap, L.ch = .slice q 0 cap := fun w1 d1 => by
          have hl : (beginS S).chg.length = 0 := by rw [hk.2.2.1, hne]; rfl
          rcases d1.chg.2 with ⟨hv, _⟩ | ⟨g, cap, cur, hv, _⟩
          · exact ⟨_, _, hv⟩
          · rw [hl] at hv; exact ⟨_, _, hv⟩
        have hset : SetOk (beginS S) := hf.set.of hk.2.2.1 hk.2.1 hk.2.2.2.1
        have hse : ∀ w1, DiskAt w1 L (beginS S) → Calls Try.prog 43 #[.pointer (some ⟨L.b, 0, none⟩), .int .i64 0] w1 (RanP L w1 (.tuple #[]) (settleS (beginS S) 0)) := fun w1 (d1 : DiskAt w1 L (beginS S)) => settle_any L (beginS S) 0 w1 d1 hset (Nat.zero_le _)
        have hv : ∃ q cap, L.ch = .slice q 0 cap := by
          have hl : S.chg.length = 0 := by rw [hne]; rfl
          rcases h.chg.2 with ⟨hv, _⟩ | ⟨g, cap, cur, hv, _⟩
          · exact ⟨_, _, hv⟩
          · rw [hl] at hv; exact ⟨_, _, hv⟩
        obtain ⟨q, cap, hv⟩ := hv
        have CB := Box.mk cb; have HV := Box.mk hv; have HSE := Box.mk hse
        clear h hd h0 hk cb hro hf hz hset hv hse hne
        go_enter Try.func16, Try.ntmps16
        go_wp2_with (go_at_call 39; ((with_reducible refine CB.out.mono ?_); rintro e w1 ⟨rfl, d1, o1⟩; have y2 := d1.head.c2; rw [HV.out] at y2; have SE := Box.mk (HSE.out w1 d1); have D1 := Box.mk d1; have O1 := Box.mk o1; clear d1 o1))
        go_loopw [19] (fun i wr => i = .int .i64 0 ∧ wr = w1) (fun _ _ => 0)
        case atStart => exact ⟨rfl, rfl⟩
        case round =>
          obtain ⟨rfl, rfl⟩ := hrel
          go_wp2_with (go_at_call 43; ((with_reducible refine SE.out.mono ?_); rintro e w2 ⟨rfl, r2⟩; have R2 := Box.mk r2; clear r2))
          go_ret
          exact ⟨rfl, Ran.call O1.out R2.out⟩
      · exact syncNames_main L S w h hf hro hd h0 hne
    · rw [if_neg h0]
      have hc := beginC_zero h0
      obtain ⟨r, hr⟩ : ∃ r, r = beginC S := ⟨_, rfl⟩
      rw [← hr] at cb hc ⊢
      have e1 : (r == 0) = false := by rcases hc with e | e <;> rw [e] <;> rfl
      have CB := Box.mk cb
      clear h hd h0 hk cb hr hc hro
      go_enter Try.func16, Try.ntmps16
      go_wp2_with (go_at_call 39; ((with_reducible refine CB.out.mono ?_); rintro e w1 ⟨rfl, d1, o1⟩; have D1 := Box.mk d1; have O1 := Box.mk o1; clear d1 o1))
      go_ret
      exact ⟨rfl, Ran.of D1.out O1.out (fun t e => by rw [e]; simp)⟩

end Go.Proofs.Ytalinhjalnndhaa
