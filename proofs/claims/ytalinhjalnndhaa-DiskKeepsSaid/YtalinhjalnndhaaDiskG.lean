/- Contracts of disk: settle, release. -/
import Derived.Test.YtalinhjalnndhaaDiskF
namespace Go.Proofs.Ytalinhjalnndhaa
set_option maxRecDepth 100000
open Go.RowKit M

theorem flat_get (loc : Nat → Nat) : ∀ (l : List Chg) (k j : Nat) (c : Chg), l[k]? = some c → j < 4 → (l.flatMap (chgCells loc))[k * 4 + j]? = (chgCells loc c)[j]?
  | [], k, j, c, h, _ => by simp at h
  | x :: l, 0, j, c, h, hj => by
    simp at h; subst h
    rw [List.flatMap_cons, List.getElem?_append_left (by simp [chgCells]; omega)]
    congr 1; omega
  | x :: l, k + 1, j, c, h, hj => by
    rw [List.flatMap_cons, List.getElem?_append_right (by simp [chgCells]; omega)]
    have e : (k + 1) * 4 + j - (chgCells loc x).length = k * 4 + j := by simp [chgCells]; omega
    rw [e]
    exact flat_get loc l k j c (by simpa using h) hj

/-- the changes can be read -/
theorem DiskAt.changes {w : World} {L : Lay} {S : DS} (h : DiskAt w L S) (hn : S.chg ≠ []) :
    ∃ g cap, L.ch = .slice (some ⟨g, 0, none⟩) S.chg.length cap ∧ S.chg.length ≤ cap ∧ cap ≤ maxLen ∧ g < w.heap.size ∧ L.own g = .chg ∧ ∀ k c, S.chg[k]? = some c →
      w.cell? ⟨g, k * 4, none⟩ = some (.string c.src) ∧ w.cell? ⟨g, k * 4 + 1, none⟩ = some (.string c.dst) ∧ w.cell? ⟨g, k * 4 + 2, none⟩ = some (.pointer (some ⟨L.loc c.file, 0, none⟩)) ∧ w.cell? ⟨g, k * 4 + 3, none⟩ = some (.pointer (c.over.map fun n => ⟨L.loc n, 0, none⟩)) := by
  have hr := h.chg
  rcases hr.2 with ⟨_, h0⟩ | ⟨g, cap, cur, hv, _, hg, hnc, hcm, hcs, ht⟩
  · exact absurd (List.eq_nil_of_length_eq_zero h0) hn
  · have hr' := hr
    rw [hv] at hr'
    refine ⟨g, cap, hv, hnc, hcm, ?_, h.tags.ch g (by rw [hv]; rfl), fun k c hc => ?_⟩
    · rcases Nat.lt_or_ge g w.heap.size with e | e
      · exact e
      · rw [Array.getElem?_eq_none e] at hg; cases hg
    · have hk : k < S.chg.length := (List.getElem?_eq_some_iff.1 hc).1
      have hat : ∀ j, j < 4 → w.cell? ⟨g, k * 4 + j, none⟩ = (chgCells L.loc c)[j]? := fun j hj => by
        rw [hr'.cellAt (k * 4 + j) (by omega)]
        exact flat_get L.loc S.chg k j c hc hj
      exact ⟨hat 0 (by omega), hat 1 (by omega), hat 2 (by omega), hat 3 (by omega)⟩

theorem foldl_length (l : List Chg) (m : KL) : (l.foldl (fun l c => c.app l) m).length ≤ m.length + l.length := by
  induction l generalizing m with
  | nil => simp
  | cons c l ih =>
    rw [List.foldl_cons]
    have h1 := ih (c.app m)
    have h2 := app_length c m
    simp only [List.length_cons]
    omega

structure SetOk (S : DS) : Prop where
  chg : S.chg.length ≤ 1099511627776
  safe : S.safe.length ≤ 1099511627776
  cref : ∀ c ∈ S.chg, (1 ≤ c.file ∧ c.file ≤ S.made) ∧ (∀ g, c.over = some g → 1 ≤ g ∧ g ≤ S.made) ∧ c.src.size ≤ maxLen ∧ c.dst.size ≤ maxLen
theorem Fine.set {S : DS} (h : Fine S) : SetOk S := ⟨h.chg, h.safe, h.cref⟩
theorem SetOk.of {S S' : DS} (h : SetOk S) (e1 : S'.chg = S.chg) (e2 : S'.safe = S.safe) (e3 : S'.made = S.made) : SetOk S' :=
  ⟨by rw [e1]; exact h.chg, by rw [e2]; exact h.safe, by rw [e1, e3]; exact h.cref⟩

set_option maxRecDepth 100000 in
set_option maxHeartbeats 1000000 in
theorem settle_any (L : Lay) (S : DS) (n : Nat) (w : World) (h : DiskAt w L S) (hf : SetOk S) (hn : n ≤ S.chg.length) :
    Calls Try.prog 43 #[.pointer (some ⟨L.b, 0, none⟩), .int .i64 (n : Int)] w (RanP L w (.tuple #[]) (settleS S n)) := by
  rcases Nat.eq_zero_or_pos S.chg.length with h0 | h0
  · obtain rfl : n = 0 := by omega
    have hz : ∃ q cap, L.ch = .slice q 0 cap := by
      rcases h.chg.2 with ⟨hv, _⟩ | ⟨g, cap, cur, hv, _⟩
      · exact ⟨_, _, hv⟩
      · rw [h0] at hv; exact ⟨_, _, hv⟩
    obtain ⟨q, cap, hv⟩ := hz
    have c2 := h.head.c2
    rw [hv] at c2
    have f2 := h.head.fz 2
    have e0 : (settleS S 0) = { S with chg := [] } := by unfold settleS; rfl
    rw [e0]
    have HD := Box.mk h; have HV := Box.mk hv
    clear h hf e0 hv h0 hn
    cases q
    all_goals
      go_enter Try.func43, Try.ntmps43
      go_wp2_with fail
      go_loopw [13] (fun i wr => i = .int .i64 0 ∧ wr = w) (fun _ _ => 0)
      case atStart => exact ⟨rfl, rfl⟩
      case round =>
        obtain ⟨rfl, rfl⟩ := hrel
        go_wp2_with fail
        go_end0
        have D1 := HD.out
        have fin := D1.reChg (v := .slice none 0 0) (cs := []) ((Chn.refl _ _ wr).setCell (p := ⟨L.b, 2, none⟩) (fun _ => .inr D1.tags.b) (.slice none 0 0)) (D1.head.s2 _) (World.ownsRow_nil _ _ _ _) (.inr (fun k e => by cases e))
        refine ⟨rfl, _, fin.1, rfl, fun k hk => fin.2 k hk, ?_⟩
        exact (Chn.refl _ _ _).setCell (fun _ => by show L.own L.b ≠ .free; rw [HD.out.tags.b]; simp) _
  · obtain ⟨g, cap, hv, hnc, hcm, hg, hgo, hcells⟩ := h.changes (fun e => by rw [e] at h0; exact absurd h0 (by simp))
    have c2 := h.head.c2
    rw [hv] at c2
    have f2 := h.head.fz 2
    have q1 := hf.chg; have q2 := hf.safe
    have hcr := hf.cref
    have hbl := h.b_lt
    unfold maxLen at hcm
    have HD := Box.mk h; have HC := Box.mk hcells; have HV := Box.mk hv; have HG := Box.mk hgo; have HCR := Box.mk hcr
    obtain ⟨m, hm⟩ : ∃ m, m = S.chg.length := ⟨_, rfl⟩
    rw [← hm] at c2 hn hnc q1 h0
    have HM := Box.mk hm
    clear h hf hcells hv hgo hm hcr
    go_enter Try.func43, Try.ntmps43
    go_wp2_with fail
    go_loopw [13] (fun i wr => ∃ k : Nat, k ≤ n ∧ i = .int .i64 (k : Int) ∧ Box (MapL wr L.sb L.loc ((S.chg.take k).foldl (fun l c => c.app l) S.safe)) ∧ Box (Chn (fun t => t = .safe) L.own w wr)) (fun i _ => n - (intOf i).toNat)
    case atStart => exact ⟨0, by omega, rfl, ⟨HD.out.safe⟩, ⟨Chn.refl _ _ _⟩⟩
    case round =>
      obtain ⟨k, hk, rfl, hmap, hch⟩ := hrel
      by_cases hlt : k < n
      · obtain ⟨c, hc⟩ : ∃ c, S.chg[k]? = some c := ⟨_, List.getElem?_eq_getElem (by rw [← HM.out]; omega)⟩
        obtain ⟨p0, p1, p2, p3⟩ := HC.out k c hc
        have hgk : wr.heap[g]? = w.heap[g]? := hch.out.block g hg (by rw [HG.out]; simp)
        have p0 := (cell_keep (o := k * 4) hgk).trans p0
        have p1 := (cell_keep (o := k * 4 + 1) hgk).trans p1
        have p2 := (cell_keep (o := k * 4 + 2) hgk).trans p2
        have p3 := (cell_keep (o := k * 4 + 3) hgk).trans p3
        have hbk : wr.heap[L.b]? = w.heap[L.b]? := hch.out.block L.b hbl (by rw [HD.out.tags.b]; simp)
        have x1 := (cell_keep (o := 1) hbk).trans HD.out.head.c1
        have hsz := hch.out.size
        obtain ⟨-, -, z1, z2⟩ := HCR.out c (List.mem_of_getElem? hc)
        obtain ⟨ov, hov⟩ : ∃ ov, ov = c.over.map fun n => (⟨L.loc n, 0, none⟩ : Addr) := ⟨_, rfl⟩
        rw [← hov] at p3
        have hfl := foldl_length (S.chg.take k) S.safe
        have htl : (S.chg.take k).length ≤ k := List.length_take_le _ _
        have hap := fun W hW => apply_any c (.pointer ov) L.loc L.sb ((S.chg.take k).foldl (fun l c => c.app l) S.safe) W hW z1 z2 (by unfold maxLen; omega)
        have HAP := Box.mk hap; have HCc := Box.mk hc
        clear hap hfl htl hov hgk hbk hc
        go_wp2_with fail
        obtain ⟨l0, l1, l2, l3⟩ := local4 (w := wr) (W := wr.alloc (.cells #[.string c.src, .string c.dst, .pointer (some ⟨L.loc c.file, 0, none⟩), .pointer ov] 82)) (a := .string c.src) (b := .string c.dst) (c := .pointer (some ⟨L.loc c.file, 0, none⟩)) (d := .pointer ov) (t := 82) rfl
        have x1' : (wr.alloc (.cells #[.string c.src, .string c.dst, .pointer (some ⟨L.loc c.file, 0, none⟩), .pointer ov] 82)).cell? ⟨L.b, 1, none⟩ = some (.map (some L.sb)) := (cell_keep (Below.heap_alloc _ _ _ (by omega))).trans x1
        have HBW : Box (Below wr.heap.size wr (wr.alloc (.cells #[.string c.src, .string c.dst, .pointer (some ⟨L.loc c.file, 0, none⟩), .pointer ov] 82))) := ⟨(Below.refl _ _).alloc (Nat.le_refl _) _⟩
        generalize hW : wr.alloc (.cells #[.string c.src, .string c.dst, .pointer (some ⟨L.loc c.file, 0, none⟩), .pointer ov] 82) = W at l0 l1 l2 l3 x1' HBW ⊢
        clear hW x1
        have hap := HAP.out W.drew (hmap.out.keep (HBW.out.block _ hmap.out.lt))
        have HAP1 := Box.mk hap; clear hap
        go_still_tail 5, (by kernel_rfl)
        change wpList _ _ _ _ _ (World.drew _)
        go_wp2_with (go_at_call 56; ((with_reducible refine HAP1.out.mono ?_); rintro e w2 ⟨rfl, m1, o1⟩; have M1 := Box.mk m1; have O1 := Box.mk o1; clear m1 o1))
        go_roundw
        case rel =>
          refine ⟨k + 1, by omega, by go_num, ⟨?_⟩, ⟨?_⟩⟩
          · rw [List.take_add_one, HCc.out, Option.toList_some, List.foldl_append]
            exact M1.out
          · refine (hch.out.trans ?_)
            exact ((Chn.of_below HBW.out).drew).trans (O1.out.to HD.out.tags.sb)
        case measure => simp [intOf]; omega
      · obtain rfl : n = k := by omega
        have D1 := HD.out.reSafe hch.out hmap.out
        have x2 : wr.cell? ⟨L.b, 2, none⟩ = some L.ch := D1.head.c2
        rw [HV.out] at x2
        have y2 := D1.head.fz 2
        have D1B := Box.mk D1
        clear D1
        go_wp2_with fail
        go_end0
        have D1 := D1B.out
        have fin := D1.reChg (v := .slice none 0 0) (cs := []) ((Chn.refl _ _ wr).setCell (p := ⟨L.b, 2, none⟩) (fun _ => .inr D1.tags.b) (.slice none 0 0)) (D1.head.s2 _) (World.ownsRow_nil _ _ _ _) (.inr (fun k e => by cases e))
        refine ⟨rfl, _, fin.1, rfl, fun k hk => fin.2 k (Nat.lt_of_lt_of_le hk hch.out.size), ?_⟩
        exact (hch.out.mono (fun t e => by rw [e]; simp)).setCell (fun _ => by show L.own L.b ≠ .free; rw [HD.out.tags.b]; simp) _

theorem DiskAt.drew {w : World} {L : Lay} {S : DS} (h : DiskAt w L S) : DiskAt w.drew L S := h.keep (Nat.le_refl _) fun _ _ => rfl
theorem DiskAt.drewN {w : World} {L : Lay} {S : DS} (h : DiskAt w L S) (n : Nat) : DiskAt (w.drewN n) L S := h.keep (Nat.le_refl _) fun _ _ => rfl
theorem FileAt.setData {w : World} {p n : Nat} {v : Value} {f : FileS} (h : FileAt w p n v f) : FileAt (w.setCell ⟨p, 1, none⟩ (.slice none 0 0)) p n (.slice none 0 0) { f with data := [] } :=
  ⟨(World.cell?_setCell_other _ _ _ _ (by simp)).trans h.c0, World.cell?_setCell_same _ _ _ h.c1, (World.cell?_setCell_other _ _ _ _ (by simp)).trans h.c2, (World.cell?_setCell_other _ _ _ _ (by simp)).trans h.c3, fun o => by rw [frozen_setCell]; exact h.fz o,
    World.ownsRow_nil _ _ _ _⟩

/-- what a release leaves -/
def RelP (L : Lay) (w : World) (S' : DS) (e : Ending) (w' : World) : Prop :=
  e = .returned (.tuple #[]) ∧ ∃ L', DiskAt w' L' S' ∧ L'.b = L.b ∧ L'.loc = L.loc ∧ L'.ch = L.ch ∧ (∀ k, k < w.heap.size → L'.own k = L.own k) ∧ Chn (fun t => t ≠ .free ∧ t ≠ .chg) L.own w w'
/-- sizes at a release -/
structure RelOk (S : DS) (n : Nat) : Prop where
  u1 : S.used ≤ 1099511627776
  u2 : -1099511627776 ≤ S.used - (S.file n).data.length
  l : (S.file n).data.length ≤ 1099511627776
theorem rel_none (L : Lay) (S : DS) (w : World) (h : DiskAt w L S) :
    Calls Try.prog 42 #[.pointer (some ⟨L.b, 0, none⟩), .pointer none] w (RelP L w S) := by
  have HD := Box.mk h; clear h
  go_enter Try.func42, Try.ntmps42
  go_wp2
  go_end0
  exact ⟨rfl, L, HD.out, rfl, rfl, rfl, fun _ _ => rfl, Chn.refl _ _ _⟩

set_option maxHeartbeats 400000 in
theorem rel_some (L : Lay) (S : DS) (n : Nat) (w : World) (h : DiskAt w L S) (h1 : 1 ≤ n) (h2 : n ≤ S.made) (ho : RelOk S n) :
    Calls Try.prog 42 #[.pointer (some ⟨L.b, 0, none⟩), .pointer (some ⟨L.loc n, 0, none⟩)] w (RelP L w (relF S n)) := by
  obtain ⟨hu1, hu2, hl⟩ := ho
  have F := h.file n h1 h2
  have c1 := F.c1; have c3 := F.c3; have z1 := F.fz 1
  have c5 := h.head.c5; have z5 := h.head.fz 5
  unfold relF
  by_cases hnm : (S.file n).named = true
  · rw [if_pos hnm]
    rw [hnm] at c3
    have HD := Box.mk h
    clear h F hnm
    go_enter Try.func42, Try.ntmps42
    go_wp2
    go_end0
    exact ⟨rfl, L, HD.out, rfl, rfl, rfl, fun _ _ => rfl, Chn.refl _ _ _⟩
  · have hnm : (S.file n).named = false := by simpa using hnm
    rw [hnm]
    rw [hnm] at c3
    have hv : ∃ q cap, L.dat n = .slice q (S.file n).data.length cap := by
      rcases F.row.2 with ⟨hv, h0⟩ | ⟨g, cap, cur, hv, _⟩
      · exact ⟨none, 0, by rw [hv, h0]⟩
      · exact ⟨_, _, hv⟩
    obtain ⟨q, cap, hv⟩ := hv
    rw [hv] at c1
    have hne : L.loc n ≠ L.b := h.loc_ne h1 h2
    have hne' : L.b ≠ L.loc n := fun e => hne e.symm
    have hbl := h.b_lt
    have hll := h.loc_lt h1 h2
    obtain ⟨x, hx⟩ : ∃ x, x = S.used - ((S.file n).data.length : Int) := ⟨_, rfl⟩
    have e1 : IntKind.i64.wrap (S.used - ((S.file n).data.length : Int)) = x := by rw [IntWalk.i64_in _ (by omega)]; exact hx.symm
    rw [← hx] at hu2
    have HX := Box.mk hx
    have D1 : DiskAt (w.setCell ⟨L.b, 5, none⟩ (.int .i64 x)) L { S with used := x } := h.reHead ((Chn.refl _ _ _).setCell (fun _ => h.tags.b) _) (h.head.s5 x) rfl rfl rfl rfl rfl
    have F1 := D1.file n h1 h2
    have fin := D1.reData (n := n) h1 h2 (v := .slice none 0 0) (f := { S.file n with data := [] }) ((Chn.refl _ _ _).setCell (p := ⟨L.loc n, 1, none⟩) (fun _ => .inl (D1.tags.loc n h1 h2)) (.slice none 0 0)) F1.setData (.inr (.inl rfl))
    have hC : Chn (fun t => t ≠ .free ∧ t ≠ .chg) L.own w ((w.setCell ⟨L.b, 5, none⟩ (.int .i64 x)).setCell ⟨L.loc n, 1, none⟩ (.slice none 0 0)) :=
      ((Chn.refl _ _ _).setCell (fun _ => by show L.own L.b ≠ .free ∧ L.own L.b ≠ .chg; rw [h.tags.b]; simp) _).setCell (fun _ => by show L.own (L.loc n) ≠ .free ∧ L.own (L.loc n) ≠ .chg; rw [h.tags.loc n h1 h2]; simp) _
    have hsz : (w.setCell ⟨L.b, 5, none⟩ (.int .i64 x)).heap.size = w.heap.size := by simp [World.setCell]
    rw [hsz] at fin
    have FIN := Box.mk fin; have HC := Box.mk hC
    clear h F D1 F1 fin hC hsz hx
    generalize (S.file n).data.length = l at *
    rw [if_neg (by simp)]
    go_enter Try.func42, Try.ntmps42
    go_wp2_with fail
    go_still_tail 12, (by kernel_rfl)
    change wpList _ _ _ _ _ w.drew
    go_wp2_with fail
    go_end0
    rw [← HX.out]
    exact ⟨rfl, _, DiskAt.drew FIN.out.1, rfl, rfl, rfl, fun k hk => FIN.out.2 k hk, HC.out.drew⟩

end Go.Proofs.Ytalinhjalnndhaa
