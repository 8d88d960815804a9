/- Contracts of the litmus rows: Few. -/
import Derived.Test.YtccjekgbhablpaaGb
namespace Go.Proofs.Ytccjekgbhablpaa
set_option maxRecDepth 100000
open Go.RowKit

theorem flatTake {α β : Type} (f : α → List β) (z : Nat) (hf : ∀ x, (f x).length = z) : ∀ (l : List α) (k : Nat), (l.take k).flatMap f = (l.flatMap f).take (k * z)
  | [], k => by simp
  | x :: l, 0 => by simp
  | x :: l, k + 1 => by
    have h1 : (f x).take ((k + 1) * z) = f x := List.take_of_length_le (by rw [hf, Nat.succ_mul]; omega)
    rw [List.take_succ_cons, List.flatMap_cons, List.flatMap_cons, List.take_append, h1, hf, flatTake f z hf l k, show (k + 1) * z - z = k * z by rw [Nat.succ_mul]; omega]
theorem flatLen' {α β : Type} (f : α → List β) (z : Nat) (hf : ∀ x, (f x).length = z) (X : List α) : (X.flatMap f).length = X.length * z := by
  induction X with
  | nil => simp
  | cons x X ih => rw [List.flatMap_cons, List.length_append, ih, hf, List.length_cons, Nat.succ_mul]; omega
theorem ins_one (l : List Ins) : ∀ u ∈ l.flatMap insC, u.oneCell' = true := by
  intro u hu
  obtain ⟨x, _, hx⟩ := List.mem_flatMap.1 hu
  simp only [insC, List.mem_cons, List.not_mem_nil, or_false] at hx
  rcases hx with rfl | rfl | rfl | rfl | rfl | rfl | rfl | rfl | rfl | rfl | rfl | rfl | rfl <;> rfl
theorem ask_one (l : List (Int × Int × Int)) : ∀ u ∈ l.flatMap askC, u.oneCell' = true := by
  intro u hu
  obtain ⟨x, _, hx⟩ := List.mem_flatMap.1 hu
  simp only [askC, List.mem_cons, List.not_mem_nil, or_false] at hx
  rcases hx with rfl | rfl | rfl <;> rfl
theorem newRow (w : World) (B : Nat) (e : TypeId) (z : Nat) (h : B ≤ w.heap.size) : (w.alloc (.cells #[] e)).ownsRow B e z (.slice (some ⟨w.heap.size, 0, none⟩) 0 0) 0 [] :=
  ⟨by simp, .inr ⟨_, 0, #[], rfl, h, heap_alloc_new _ _, Nat.le_refl _, Nat.zero_le _, by simp, by simp⟩⟩
theorem few_fin {w W : World} {B : Nat} {t : TestM} {lv tv av : Value} {m q : Nat} (hrow : w.ownsRow B 80 2 lv m (((t.locs.take 12).map cutL).flatMap locC)) (hthr : ThrRow w B tv ((t.thr.take 6).map (·.take 12))) (hask : w.ownsRow B 90 3 av q ((t.asks.take 50).flatMap askC))
    (hk : ∀ b, B ≤ b → W.heap[b]? = w.heap[b]?) : RowTest W B lv tv av (fewM t) := by
  have r1 := rowKeep hrow (fun b hb => hk b (rowLt hrow b hb).1)
  have r3 := rowKeep hask (fun b hb => hk b (rowLt hask b hb).1)
  have r2 := hthr.keep (w' := W) (fun b hb _ => hk b hb)
  obtain rfl : m = ((t.locs.take 12).map cutL).length := by
    have := r1.1
    rw [flatLen' locC 2 (fun _ => rfl)] at this; omega
  obtain rfl : q = (t.asks.take 50).length := by
    have := r3.1
    rw [flatLen' askC 3 (fun _ => rfl)] at this; omega
  exact ⟨r1, r2, r3⟩
theorem init_thr : (80 : TypeId) ≠ 81 := by decide
theorem takeLe {α : Type} {l : List α} {m n : Nat} (h1 : m ≤ l.length) (h2 : m ≤ n) (h : ¬ (m < l.length ∧ m < n)) : l.take m = l.take n := by
  by_cases e : m = n
  · rw [e]
  · have : m = l.length := by omega
    rw [this, List.take_length, List.take_of_length_le (by omega)]

set_option maxHeartbeats 25600000 in
theorem few_any (lv tv av : Value) (t : TestM) (hl : t.locs.length ≤ maxLen) (hn : ∀ l ∈ t.locs, l.1.length ≤ maxLen) (hl2 : t.thr.length ≤ maxLen) (hl3 : ∀ l ∈ t.thr, l.length ≤ maxLen) (hl4 : t.asks.length ≤ maxLen) (w : World) (h : CapIn w lv tv av t) :
    Calls Try.prog 4 #[.agg #[lv, tv, av]] w fun e w' => (∃ lv' tv' av', e = .returned (.agg #[lv', tv', av']) ∧ RowTest w' w.heap.size lv' tv' av' (fewM t)) ∧ Below w.heap.size w w' := by
  unfold maxLen at hl hl2 hl4
  obtain ⟨hlo, hlcap, ⟨vs, hvl, hth, hins⟩, htcap, hasks, hacap⟩ := h
  obtain ⟨lp, lc, rfl⟩ := hlo.slice
  obtain ⟨tp, tc, rfl⟩ := hth.slice
  obtain ⟨ap, ac, rfl⟩ := hasks.slice
  have HLO := Bx.mk hlo; have HTH := Bx.mk hth; have HIN := Bx.mk hins; have HAS := Bx.mk hasks; have HVL := Bx.mk hvl; have HNN := Bx.mk hn; have HL3 := Bx.mk hl3; have HAC := Bx.mk hacap
  clear hlo hth hins hasks hvl hn hl3 hlcap htcap hacap
  go_enter Try.func4, Try.ntmps4
  go_upto_block 0 with fail
  go_cut [] (fun wx => ∃ (m : Nat) (p : Option Addr) (c : Nat), m ≤ 12 ∧ Bx (FewH wx w.heap.size (.slice lp t.locs.length lc) (.slice tp t.thr.length tc) (.slice ap t.asks.length ac) (.slice p m c) (.slice none 0 0) (.slice none 0 0)) ∧ Bx (wx.ownsRow (w.heap.size + 1 + 1 + 1) 80 2 (.slice p m c) m (((t.locs.take 12).map cutL).flatMap locC)) ∧ Bx (Below w.heap.size w wx))
  case first =>
    go_wp2_with fail
    go_loopw [4] (fun i wr => ∃ (m : Nat) (p : Option Addr) (c : Nat), i = .int .i64 (m : Int) ∧ m ≤ t.locs.length ∧ m ≤ 12 ∧ Bx (FewH wr w.heap.size (.slice lp t.locs.length lc) (.slice tp t.thr.length tc) (.slice ap t.asks.length ac) (.slice p m c) (.slice none 0 0) (.slice none 0 0)) ∧ Bx (wr.ownsRow (w.heap.size + 1 + 1 + 1) 80 2 (.slice p m c) m (((t.locs.take m).map cutL).flatMap locC)) ∧ Bx (Below w.heap.size w wr)) (fun i _ => t.locs.length - (intOf i).toNat)
    case atStart =>
      refine ⟨0, none, 0, rfl, by omega, by omega, ⟨few_start _ _ _ _⟩, ⟨World.ownsRow_nil _ _ _ _⟩, ⟨bel (bel (aset _ _) (aset _ _)) (aset _ _)⟩⟩
    case round =>
      obtain ⟨m, p, c, rfl, hm1, hm2, hfew, hrow, hb⟩ := hrel
      by_cases hboth : m < t.locs.length ∧ m < 12
      · obtain ⟨hlt, hlt2⟩ := hboth
        obtain ⟨bb, off, c', hv, hbl, hcl⟩ := HLO.out.at (by omega)
        obtain ⟨rfl, _, rfl⟩ := Value.slice.inj hv
        obtain ⟨l, hlk⟩ : ∃ l, t.locs[m]? = some l := ⟨_, List.getElem?_eq_getElem hlt⟩
        obtain ⟨i0, hi, hz0, hz1, hz2⟩ := info_parts info_init
        have f0 := flatAt locC 2 (fun _ => rfl) t.locs m 0 l hlk (by decide)
        have f1 := flatAt locC 2 (fun _ => rfl) t.locs m 1 l hlk (by decide)
        have q0 : wr.cell? ⟨bb, off + m * 2, none⟩ = some (.string (st l.1)) := (hb.out.cell hbl).trans (hcl _ _ f0)
        have q1 : wr.cell? ⟨bb, off + m * 2 + 1, none⟩ = some (.int .u64 l.2) := by
          rw [Nat.add_assoc]; exact (hb.out.cell hbl).trans (hcl _ _ f1)
        have ee : ((t.locs.take (m + 1)).map cutL).flatMap locC = ((t.locs.take m).map cutL).flatMap locC ++ [.string (st (l.1.take 20)), .int .u64 l.2] := by
          have e1 : t.locs.take (m + 1) = t.locs.take m ++ [l] := by rw [List.take_add_one, hlk]; rfl
          rw [e1, List.map_append, List.flatMap_append]; rfl
        have g0 : wr.cell? ⟨w.heap.size, 0, none⟩ = some (.slice (some ⟨bb, off, none⟩) t.locs.length lc) := by rw [cOf hfew.out.b0]; rfl
        have g1 : wr.cell? ⟨w.heap.size + 1 + 1, 0, none⟩ = some (.slice p m c) := by rw [cOf hfew.out.b2]; rfl
        have g2 : wr.frozen? ⟨w.heap.size + 1 + 1, 0, none⟩ = false := tOf hfew.out.b2 _
        have cl := fun W => cutF_any (st l.1) 20 W
        rw [cut_st] at cl
        have cl : ∀ W, Calls Try.prog 14 #[.string (st l.1), .int .i64 20] W fun e w' => e = .returned (.string (st (l.1.take 20))) ∧ W = w' := cl
        generalize st l.1 = S1 at *
        generalize st (l.1.take 20) = S2 at *
        generalize l.2 = v2 at *
        have CL := Bx.mk cl; have EE := Bx.mk ee
        have hnr : ∀ k, (Value.slice p m c).ownBlock = some k → w.heap.size + 1 + 1 < k := fun k e => by have := (rowLt hrow.out _ e).1; omega
        have HNR := Bx.mk hnr
        clear cl ee hv hcl hlk f0 f1 hnr
        go_wp2_with fail
        have d0 := (Below.refl wr.heap.size wr).drew
        have hrow' := rowBel hrow.out d0
        have hfew' := hfew.out.bel d0
        have g1' := cBel g1 d0
        have g2' : wr.drew.frozen? ⟨w.heap.size + 1 + 1, 0, none⟩ = false := by simpa using g2
        have hbD := hfew'.lt
        have HROW := Bx.mk hrow'; have HF := Bx.mk hfew'
        have D0 := Bx.mk (bel hb.out d0)
        clear hrow' hfew' d0
        refine wp_region_held_drew (S := fun w' => w'.cell? ⟨w.heap.size, 0, none⟩ = some (.slice (some ⟨bb, off, none⟩) t.locs.length lc) ∧ w'.cell? ⟨bb, off + m * 2, none⟩ = some (.string S1) ∧ w'.cell? ⟨bb, off + m * 2 + 1, none⟩ = some (.int .u64 v2)) (by kernel_rfl) ⟨by simpa using g0, by simpa using q0, by simpa using q1⟩ (fun hHeld => ?_)
        clear g0 q0 q1 g1 g2
        generalize wr.drew = wd at *
        refine wpAnyH_take (i := 0) (v := .pointer (some ⟨w.heap.size + 1 + 1, 0, none⟩)) rfl (by kernel_rfl) (by kernel_rfl) (by kernel_rfl) (fun _ _ _ h => h) (Or.inl ⟨by rfl, fun w' hw' => by obtain ⟨s1, s2, s3⟩ := hw'; go_simp; try rfl⟩) hHeld ?_
        refine wpAnyH_take (i := 2) (v := .pointer (some ⟨w.heap.size, 0, none⟩)) rfl (by kernel_rfl) (by kernel_rfl) (by kernel_rfl) (fun _ _ _ h => h) (Or.inl ⟨by rfl, fun w' hw' => by obtain ⟨s1, s2, s3⟩ := hw'; go_simp; try rfl⟩) hHeld ?_
        refine wpAnyH_take (i := 3) (v := .slice (some ⟨bb, off, none⟩) t.locs.length lc) rfl (by kernel_rfl) (by kernel_rfl) (by kernel_rfl) (fun _ _ _ h => h) (Or.inl ⟨by rfl, fun w' hw' => by obtain ⟨s1, s2, s3⟩ := hw'; go_simp; try rfl⟩) hHeld ?_
        refine wpAnyH_take (i := 4) (v := .int .i64 (m : Int)) rfl (by kernel_rfl) (by kernel_rfl) (by kernel_rfl) (fun _ _ _ h => h) (Or.inl ⟨by rfl, fun w' hw' => by obtain ⟨s1, s2, s3⟩ := hw'; go_simp; try rfl⟩) hHeld ?_
        refine wpAnyH_take (i := 5) (v := .pointer (some ⟨bb, off + m * 2, none⟩)) rfl (by kernel_rfl) (by kernel_rfl) (by kernel_rfl) (fun _ _ _ h => h) (Or.inl ⟨by rfl, fun w' hw' => by obtain ⟨s1, s2, s3⟩ := hw'; go_simp; try rfl⟩) hHeld ?_
        refine wpAnyH_take (i := 6) (v := .pointer (some ⟨bb, off + m * 2, none⟩)) rfl (by kernel_rfl) (by kernel_rfl) (by kernel_rfl) (fun _ _ _ h => h) (Or.inl ⟨by rfl, fun w' hw' => by obtain ⟨s1, s2, s3⟩ := hw'; go_simp; try rfl⟩) hHeld ?_
        refine wpAnyH_take (i := 7) (v := .string S1) rfl (by kernel_rfl) (by kernel_rfl) (by kernel_rfl) (fun _ _ _ h => h) (Or.inl ⟨by rfl, fun w' hw' => by obtain ⟨s1, s2, s3⟩ := hw'; go_simp; try rfl⟩) hHeld ?_
        refine wpAnyH_take (i := 9) (v := .pointer (some ⟨w.heap.size, 0, none⟩)) rfl (by kernel_rfl) (by kernel_rfl) (by kernel_rfl) (fun _ _ _ h => h) (Or.inl ⟨by rfl, fun w' hw' => by obtain ⟨s1, s2, s3⟩ := hw'; go_simp; try rfl⟩) hHeld ?_
        refine wpAnyH_take (i := 10) (v := .slice (some ⟨bb, off, none⟩) t.locs.length lc) rfl (by kernel_rfl) (by kernel_rfl) (by kernel_rfl) (fun _ _ _ h => h) (Or.inl ⟨by rfl, fun w' hw' => by obtain ⟨s1, s2, s3⟩ := hw'; go_simp; try rfl⟩) hHeld ?_
        refine wpAnyH_take (i := 11) (v := .int .i64 (m : Int)) rfl (by kernel_rfl) (by kernel_rfl) (by kernel_rfl) (fun _ _ _ h => h) (Or.inl ⟨by rfl, fun w' hw' => by obtain ⟨s1, s2, s3⟩ := hw'; go_simp; try rfl⟩) hHeld ?_
        refine wpAnyH_take (i := 12) (v := .pointer (some ⟨bb, off + m * 2, none⟩)) rfl (by kernel_rfl) (by kernel_rfl) (by kernel_rfl) (fun _ _ _ h => h) (Or.inl ⟨by rfl, fun w' hw' => by obtain ⟨s1, s2, s3⟩ := hw'; go_simp; try rfl⟩) hHeld ?_
        refine wpAnyH_take (i := 13) (v := .pointer (some ⟨bb, off + m * 2 + 1, none⟩)) rfl (by kernel_rfl) (by kernel_rfl) (by kernel_rfl) (fun _ _ _ h => h) (Or.inl ⟨by rfl, fun w' hw' => by obtain ⟨s1, s2, s3⟩ := hw'; go_simp; try rfl⟩) hHeld ?_
        refine wpAnyH_take (i := 14) (v := .int .u64 v2) rfl (by kernel_rfl) (by kernel_rfl) (by kernel_rfl) (fun _ _ _ h => h) (Or.inl ⟨by rfl, fun w' hw' => by obtain ⟨s1, s2, s3⟩ := hw'; go_simp; try rfl⟩) hHeld ?_
        refine wpAnyH_ready (rs := [1, 8]) (by kernel_rfl) (by simp) ?_
        refine AllReadyH.cons rfl (fun K hK => ?_) (AllReadyH.cons rfl (fun K hK => ?_) AllReadyH.nil)
        go_simp
        refine hK.out _ _ hHeld (fun hHeld => ?_)
        clear hK K
        refine wpAnyH_ready (rs := [8]) (by kernel_rfl) (by simp) ?_
        refine AllReadyH.cons rfl (fun K hK => ?_) AllReadyH.nil
        go_simp
        go_at_call 14; ((with_reducible refine (CL.out _).mono ?_); rintro e w' ⟨rfl, rfl⟩)
        refine hK.out _ _ hHeld (fun hHeld => ?_)
        clear hK K
        refine wpAnyH_take (i := 15) (v := .agg #[.string S2, .int .u64 v2]) rfl (by kernel_rfl) (by kernel_rfl) (by kernel_rfl) (fun _ _ _ h => h) (Or.inl ⟨by rfl, fun w' hw' => by obtain ⟨s1, s2, s3⟩ := hw'; go_simp; try rfl⟩) hHeld ?_
        refine wpAnyH_ready (rs := [16]) (by kernel_rfl) (by simp) ?_
        refine AllReadyH.cons rfl (fun K hK => ?_) AllReadyH.nil
        go_simp
        refine hK.out _ _ ⟨cBel hHeld.1 (aset _ _), cBel hHeld.2.1 (aset _ _), cBel hHeld.2.2 (aset _ _)⟩ (fun hHeld => ?_)
        clear hK K
        rotate_left
        go_simp
        go_at_call 14; ((with_reducible refine (CL.out _).mono ?_); rintro e w' ⟨rfl, rfl⟩)
        refine hK.out _ _ hHeld (fun hHeld => ?_)
        clear hK K
        refine wpAnyH_take (i := 15) (v := .agg #[.string S2, .int .u64 v2]) rfl (by kernel_rfl) (by kernel_rfl) (by kernel_rfl) (fun _ _ _ h => h) (Or.inl ⟨by rfl, fun w' hw' => by obtain ⟨s1, s2, s3⟩ := hw'; go_simp; try rfl⟩) hHeld ?_
        refine wpAnyH_ready (rs := [1, 16]) (by kernel_rfl) (by simp) ?_
        refine AllReadyH.cons rfl (fun K hK => ?_) (AllReadyH.cons rfl (fun K hK => ?_) AllReadyH.nil)
        go_simp
        refine hK.out _ _ hHeld (fun hHeld => ?_)
        clear hK K
        refine wpAnyH_ready (rs := [16]) (by kernel_rfl) (by simp) ?_
        refine AllReadyH.cons rfl (fun K hK => ?_) AllReadyH.nil
        go_simp
        refine hK.out _ _ ⟨cBel hHeld.1 (aset _ _), cBel hHeld.2.1 (aset _ _), cBel hHeld.2.2 (aset _ _)⟩ (fun hHeld => ?_)
        clear hK K
        rotate_left
        go_simp
        refine hK.out _ _ ⟨cBel hHeld.1 (aset _ _), cBel hHeld.2.1 (aset _ _), cBel hHeld.2.2 (aset _ _)⟩ (fun hHeld => ?_)
        clear hK K
        refine wpAnyH_ready (rs := [1]) (by kernel_rfl) (by simp) ?_
        refine AllReadyH.cons rfl (fun K hK => ?_) AllReadyH.nil
        go_simp
        refine hK.out _ _ hHeld (fun hHeld => ?_)
        clear hK K
        all_goals
          refine wpAnyH_ready (rs := [17]) (by kernel_rfl) (by simp) ?_
          refine AllReadyH.cons rfl (fun K hK => ?_) AllReadyH.nil
          refine step_append_lies _ (by rfl) _ _ _ (by rfl) (w.heap.size + 1 + 1 + 1) 80 i0 _ 2 24 Try.underlying22 hi hz0 hz1 hz2 rfl (by omega) _ _ _ (by rfl) (HROW.out.alloc _) ⟨wd.heap.size, 0, none⟩ 1 1 [.string S2, .int .u64 v2] (by rfl) (by rfl) (World.news_of_block (cs := #[.string S2, .int .u64 v2]) (t := 80) (fr := (0, 0)) (heap_alloc_new _ _)) (by simp [Value.oneCell']) (by omega) (by unfold maxLen; omega) (by omega) (by simp; omega) (wd.heap.size + 1) (by simp) ?_
          intro gg cc w2 hown1 hgrow hat hlt2'
          have F2 := (HF.out.bel (aset wd (.cells #[.string S2, .int .u64 v2] 80))).grown hgrow HNR.out
          have z1 : w2.cell? ⟨w.heap.size + 1 + 1, 0, none⟩ = some (.slice p m c) := by rw [cOf F2.b2]; rfl
          have z2 : w2.frozen? ⟨w.heap.size + 1 + 1, 0, none⟩ = false := tOf F2.b2 _
          have nb : (Value.slice p m c).ownBlock ≠ some bb := fun e => by have := HNR.out _ e; omega
          have nB : (Value.slice p m c).ownBlock ≠ some w.heap.size := fun e => by have := HNR.out _ e; omega
          refine hK.out _ _ ⟨keepC (grownC (Below.refl _ _) hgrow (World.block_lt_of_cell? _ _ hHeld.1) nB) hHeld.1, keepC (grownC (Below.refl _ _) hgrow (World.block_lt_of_cell? _ _ hHeld.2.1) nb) hHeld.2.1, keepC (grownC (Below.refl _ _) hgrow (World.block_lt_of_cell? _ _ hHeld.2.1) nb) hHeld.2.2⟩ (fun hHeld => ?_)
          clear hK K
          refine wpAnyH_take (i := 18) (v := .pointer (some ⟨w.heap.size + 1 + 1, 0, none⟩)) rfl (by kernel_rfl) (by kernel_rfl) (by kernel_rfl) (fun _ _ _ h => h) (Or.inl ⟨by rfl, fun w' hw' => by obtain ⟨s1, s2, s3⟩ := hw'; go_simp; try rfl⟩) hHeld ?_
          refine wpAnyH_ready (rs := [19]) (by kernel_rfl) (by simp) ?_
          refine AllReadyH.cons rfl (fun K hK => ?_) AllReadyH.nil
          go_simp
          have bs : Below (w.heap.size + 1 + 1) w2 (w2.setCell ⟨w.heap.size + 1 + 1, 0, none⟩ (.slice (some ⟨gg, 0, none⟩) (m + 1) cc)) := (Below.refl _ _).setCell (p := ⟨w.heap.size + 1 + 1, 0, none⟩) (Nat.le_refl _) _
          refine hK.out _ _ ⟨(bs.cell (p := ⟨w.heap.size, 0, none⟩) (by show w.heap.size < _; omega)).trans hHeld.1, (bs.cell (p := ⟨bb, off + m * 2, none⟩) (by show bb < _; omega)).trans hHeld.2.1, (bs.cell (p := ⟨bb, off + m * 2 + 1, none⟩) (by show bb < _; omega)).trans hHeld.2.2⟩ (fun hHeld => ?_)
          clear hK K
          refine wpAnyH_done (by kernel_rfl) ?_ _
          have F3 := Bx.mk (F2.set 0 (.slice (some ⟨gg, 0, none⟩) (m + 1) cc) rfl)
          have R3 : Bx ((w2.setCell ⟨w.heap.size + 1 + 1, 0, none⟩ (.slice (some ⟨gg, 0, none⟩) (m + 1) cc)).ownsRow (w.heap.size + 1 + 1 + 1) 80 2 (.slice (some ⟨gg, 0, none⟩) (m + 1) cc) (m + 1) (((t.locs.take (m + 1)).map cutL).flatMap locC)) := ⟨by
            rw [EE.out]
            exact rowKeep hown1 fun k hk => Below.heap_setCell _ _ _ _ (by have := (rowLt hown1 k hk).1; show k ≠ w.heap.size + 1 + 1; omega)⟩
          have B3 : Bx (Below w.heap.size w (w2.setCell ⟨w.heap.size + 1 + 1, 0, none⟩ (.slice (some ⟨gg, 0, none⟩) (m + 1) cc))) := ⟨((D0.out.alloc D0.out.size _).grown hgrow (by have := D0.out.size; simp; omega) (fun k e => by have := HNR.out k e; omega)).setCell (by show w.heap.size ≤ w.heap.size + 1 + 1; omega) _⟩
          clear F2 z1 z2 hown1 hgrow hat hlt2' hHeld bs nb nB g1' g2' HROW HF
          go_wp2_with fail
          go_roundw
          case rel => exact ⟨m + 1, _, _, by go_num, by omega, by omega, F3, R3, B3⟩
          case measure => simp [intOf] <;> omega
      · have htk := takeLe hm1 hm2 hboth
        have R4 : Bx (wr.ownsRow (w.heap.size + 1 + 1 + 1) 80 2 (.slice p m c) m (((t.locs.take 12).map cutL).flatMap locC)) := ⟨by rw [← htk]; exact hrow.out⟩
        have g0 : wr.cell? ⟨w.heap.size, 0, none⟩ = some (.slice lp t.locs.length lc) := by rw [cOf hfew.out.b0]; rfl
        clear htk
        by_cases hlt : m < t.locs.length
        · have hlt2 : ¬ m < 12 := fun h => hboth ⟨hlt, h⟩
          go_wp2_with fail
          go_meet
          exact ⟨m, p, c, hm2, hfew, R4, hb⟩
        · go_wp2_with fail
          go_meet
          exact ⟨m, p, c, hm2, hfew, R4, hb⟩
  case rest =>
    obtain ⟨m, p, c, hm12, hfew, hrow, hb⟩ := hcut
    go_upto_block 2 with fail
    go_cut [] (fun wx => ∃ (k : Nat) (p2 : Option Addr) (c2 : Nat), Bx (FewH wx w.heap.size (.slice lp t.locs.length lc) (.slice tp t.thr.length tc) (.slice ap t.asks.length ac) (.slice p m c) (.slice p2 k c2) (.slice none 0 0)) ∧ Bx (wx.ownsRow (w.heap.size + 1 + 1 + 1) 80 2 (.slice p m c) m (((t.locs.take 12).map cutL).flatMap locC)) ∧ Bx (ThrRow wx (w.heap.size + 1 + 1 + 1) (.slice p2 k c2) ((t.thr.take 6).map (·.take 12))) ∧ Bx (Below w.heap.size w wx))
    case first =>
      go_wp2_with fail
      go_loopw [5] (fun i wr => ∃ (k : Nat) (p2 : Option Addr) (c2 : Nat), i = .int .i64 (k : Int) ∧ k ≤ t.thr.length ∧ k ≤ 6 ∧ Bx (FewH wr w.heap.size (.slice lp t.locs.length lc) (.slice tp t.thr.length tc) (.slice ap t.asks.length ac) (.slice p m c) (.slice p2 k c2) (.slice none 0 0)) ∧ Bx (wr.ownsRow (w.heap.size + 1 + 1 + 1) 80 2 (.slice p m c) m (((t.locs.take 12).map cutL).flatMap locC)) ∧ Bx (ThrRow wr (w.heap.size + 1 + 1 + 1) (.slice p2 k c2) ((t.thr.take k).map (·.take 12))) ∧ Bx (Below w.heap.size w wr)) (fun i _ => t.thr.length - (intOf i).toNat)
      case atStart => exact ⟨0, none, 0, rfl, by omega, by omega, hfew, hrow, ⟨ThrRow.nil _ _⟩, hb⟩
      case round =>
        obtain ⟨k, p2, c2, rfl, hk1, hk2, hfew, hrow, hthr, hb⟩ := hrel
        by_cases hboth : k < t.thr.length ∧ k < 6
        · obtain ⟨hlt, hlt2⟩ := hboth
          obtain ⟨bb, off, c', hv, hbl, hcl⟩ := HTH.out.at (by omega)
          obtain ⟨rfl, _, rfl⟩ := Value.slice.inj hv
          obtain ⟨u, hvk⟩ : ∃ u, vs[k]? = some u := ⟨_, List.getElem?_eq_getElem (by rw [HVL.out]; exact hlt)⟩
          obtain ⟨hcap, l, hlk, hsl⟩ := HIN.out k u hvk
          obtain ⟨ip, ic, rfl⟩ := hsl.slice
          obtain ⟨n, hn⟩ : ∃ n, n = l.length := ⟨_, rfl⟩
          have hnc : n ≤ ic := by obtain ⟨_, _, _, e, h⟩ := hcap; obtain ⟨_, h2, h3⟩ := Value.slice.inj e; omega
          have hnm : n ≤ 9223372036854775807 := by have := HL3.out l (List.mem_of_getElem? hlk); unfold maxLen at this; omega
          have q0 : wr.cell? ⟨bb, off + k, none⟩ = some (.slice ip n ic) := by rw [hn]; exact (hb.out.cell hbl).trans (hcl k _ hvk)
          have ee : (t.thr.take (k + 1)).map (fun l => l.take 12) = (t.thr.take k).map (fun l => l.take 12) ++ [l.take 12] := by
            have e1 : t.thr.take (k + 1) = t.thr.take k ++ [l] := by rw [List.take_add_one, hlk]; rfl
            rw [e1, List.map_append]; rfl
          have g0 : wr.cell? ⟨w.heap.size, 1, none⟩ = some (.slice (some ⟨bb, off, none⟩) t.thr.length tc) := by rw [cOf hfew.out.b0]; rfl
          have g1 : wr.cell? ⟨w.heap.size + 1 + 1, 1, none⟩ = some (.slice p2 k c2) := by rw [cOf hfew.out.b2]; rfl
          have g2 : wr.frozen? ⟨w.heap.size + 1 + 1, 1, none⟩ = false := tOf hfew.out.b2 _
          obtain ⟨X, hX, hown, hall⟩ := hthr.out
          have hkX : X.length = k := by
            have : ((t.thr.take k).map (fun l => l.take 12)).length = X.length := by rw [hX, List.length_map]
            rw [List.length_map, List.length_take] at this; omega
          rw [hkX] at hown
          obtain ⟨mn, hmn0⟩ : ∃ mn, mn = min n 12 := ⟨_, rfl⟩
          have hmin : (if (12 : Int) < (n : Int) then 12 else (n : Int)) = (mn : Int) := by split <;> omega
          have hKn : mn ≤ n := by omega
          have hK12 : mn ≤ 12 := by omega
          have hKc : (mn : Int) ≤ (ic : Int) := by omega
          have htl : (l.take 12).length = mn := by rw [List.length_take, ← hn]; omega
          have EE := Bx.mk ee; have HSL := Bx.mk hsl; have HN := Bx.mk hn; have HTL := Bx.mk htl; have HALL := Bx.mk hall; have HX := Bx.mk hX; have HKX := Bx.mk hkX
          have hnr : ∀ k', (Value.slice p2 k c2).ownBlock = some k' → w.heap.size + 1 + 1 < k' := fun k' e => by have := (rowLt hown _ e).1; omega
          have HNR := Bx.mk hnr
          clear ee hsl hn htl hall hX hkX hnr hv hcl hlk hvk hcap hthr hmn0
          go_wp2_with fail
          have d0 := (Below.refl wr.heap.size wr).drew
          have hrow' := rowBel hrow.out d0
          have hown' := rowBel hown d0
          have hall' : ∀ x ∈ X, wr.drew.ownsRow (w.heap.size + 1 + 1 + 1) 84 13 x.1 x.2.length (x.2.flatMap insC) := fun x hx => rowBel (HALL.out x hx) d0
          have hfew' := hfew.out.bel d0
          have g1' := cBel g1 d0
          have g2' : wr.drew.frozen? ⟨w.heap.size + 1 + 1, 1, none⟩ = false := by simpa using g2
          have hbD := hfew'.lt
          have hsl' := (HSL.out.below (bel' hb.out hb.out.size d0))
          have HROW := Bx.mk hrow'; have HF := Bx.mk hfew'; have HOWN := Bx.mk hown'; have HALL' := Bx.mk hall'; have HSL' := Bx.mk hsl'
          have D0 := Bx.mk (bel hb.out d0)
          clear hrow' hfew' hown' hall' hsl' hown d0
          refine wp_region_held_drew (S := fun _ => True) (by kernel_rfl) trivial (fun hHeld => ?_)
          clear g0 q0 g1 g2
          generalize wr.drew = wd at *
          obtain ⟨j0, hj, hj0, hj1, hj2⟩ := info_parts info_ins
          obtain ⟨k0, hk, hkz0, hkz1, hkz2⟩ := info_parts info_thr
          by_cases hpos : 0 < mn
          · obtain ⟨ib, io, ic', hvv, hil, hicl⟩ := HSL'.out.at (by rw [← HN.out]; omega)
            obtain ⟨rfl, _, rfl⟩ := Value.slice.inj hvv
            have HNL : Bx (((l.take 12).flatMap insC).length = mn * 13) := ⟨by rw [flatLen' insC 13 (fun _ => rfl), HTL.out]⟩
            have HNEWS : Bx (∀ W, Below wd.heap.size wd W → ∀ j u, ((l.take 12).flatMap insC)[j]? = some u → W.cell? ((⟨ib, io, none⟩ : Addr).add j) = some u) := ⟨fun W hW j u hu => by
              rw [flatTake insC 13 (fun _ => rfl), List.getElem?_take] at hu
              split at hu
              · rw [WideShapes.add_plain]; exact cBel (hicl j u hu) hW
              · cases hu⟩
            clear hvv hicl
            refine wpAnyH_take (i := 0) (v := .pointer (some ⟨w.heap.size + 1 + 1, 1, none⟩)) rfl (by kernel_rfl) (by kernel_rfl) (by kernel_rfl) (fun _ _ _ h => h) (Or.inl ⟨by rfl, fun w' _ => by go_simp; try rfl⟩) hHeld ?_
            refine wpAnyH_take (i := 3) (v := .slice (some ⟨ib, io, none⟩) n ic) rfl (by kernel_rfl) (by kernel_rfl) (by kernel_rfl) (fun _ _ _ h => h) (Or.inl ⟨by rfl, fun w' _ => by go_simp; try rfl⟩) hHeld ?_
            refine wpAnyH_take (i := 4) (v := .slice (some ⟨ib, io, none⟩) n ic) rfl (by kernel_rfl) (by kernel_rfl) (by kernel_rfl) (fun _ _ _ h => h) (Or.inl ⟨by rfl, fun w' _ => by go_simp; try rfl⟩) hHeld ?_
            refine wpAnyH_take (i := 5) (v := .int .i64 (n : Int)) rfl (by kernel_rfl) (by kernel_rfl) (by kernel_rfl) (fun _ _ _ h => h) (Or.inl ⟨by rfl, fun w' _ => by go_simp; try rfl⟩) hHeld ?_
            refine wpAnyH_take (i := 6) (v := .int .i64 (mn : Int)) rfl (by kernel_rfl) (by kernel_rfl) (by kernel_rfl) (fun _ _ _ h => h) (Or.inl ⟨by rfl, fun w' _ => by go_simp; try rfl⟩) hHeld ?_
            refine wpAnyH_take (i := 7) (v := .slice (some ⟨ib, io, none⟩) mn ic) rfl (by kernel_rfl) (by kernel_rfl) (by kernel_rfl) (fun _ _ _ h => h) (Or.inl ⟨by rfl, fun w' _ => by go_simp; try rfl⟩) hHeld ?_
            refine wpAnyH_ready (rs := [1, 2]) (by kernel_rfl) (by simp) ?_
            refine AllReadyH.cons rfl (fun K hK => ?_) (AllReadyH.cons rfl (fun K hK => ?_) AllReadyH.nil)
            go_simp
            refine hK.out _ _ trivial (fun hHeld => ?_)
            clear hK K
            refine wpAnyH_ready (rs := [2]) (by kernel_rfl) (by simp) ?_
            refine AllReadyH.cons rfl (fun K hK => ?_) AllReadyH.nil
            go_simp
            refine hK.out _ _ trivial (fun hHeld => ?_)
            clear hK K
            refine wpAnyH_ready (rs := [8]) (by kernel_rfl) (by simp) ?_
            refine AllReadyH.cons rfl (fun K hK => ?_) AllReadyH.nil
            refine step_append_lies _ (by rfl) _ _ _ (by rfl) (w.heap.size + 1 + 1 + 1) 84 j0 _ 13 96 Try.underlying81 hj hj0 hj1 hj2 rfl (by omega) _ 0 [] (by rfl) (newRow wd _ _ 13 hbD) ⟨ib, io, none⟩ mn ic ((l.take 12).flatMap insC) (by rfl) HNL.out (HNEWS.out _ (aset wd _)) (ins_one _) hpos (by unfold maxLen; omega) (by omega) (by simp; omega) (wd.heap.size + 1) (by simp) ?_
            intro g8 c8 w2 hown8 hgrow8 hat8 hlt8
            have B8 : Bx (Below wd.heap.size wd w2) := ⟨((Below.refl _ _).alloc (Nat.le_refl _) _).grown hgrow8 (by simp) (fun k' e => by have h9 : wd.heap.size = k' := (by simpa [Value.ownBlock] using e); omega)⟩
            simp only [Nat.zero_add, List.nil_append] at hown8
            have O8 := Bx.mk hown8
            have g1w := cBel g1' B8.out
            have hbw : w.heap.size + 1 + 1 < w2.heap.size := Nat.lt_of_lt_of_le hbD B8.out.size
            clear hown8 hgrow8 hat8 hlt8
            simp only [Nat.zero_add]
            refine hK.out _ _ trivial (fun hHeld => ?_)
            clear hK K
            refine wpAnyH_ready (rs := [9]) (by kernel_rfl) (by simp) ?_
            refine AllReadyH.cons rfl (fun K hK => ?_) AllReadyH.nil
            go_simp
            refine hK.out _ _ trivial (fun hHeld => ?_)
            clear hK K
            rotate_left
            go_simp
            refine hK.out _ _ trivial (fun hHeld => ?_)
            clear hK K
            refine wpAnyH_ready (rs := [1, 8]) (by kernel_rfl) (by simp) ?_
            refine AllReadyH.cons rfl (fun K hK => ?_) (AllReadyH.cons rfl (fun K hK => ?_) AllReadyH.nil)
            go_simp
            refine hK.out _ _ trivial (fun hHeld => ?_)
            clear hK K
            refine wpAnyH_ready (rs := [8]) (by kernel_rfl) (by simp) ?_
            refine AllReadyH.cons rfl (fun K hK => ?_) AllReadyH.nil
            refine step_append_lies _ (by rfl) _ _ _ (by rfl) (w.heap.size + 1 + 1 + 1) 84 j0 _ 13 96 Try.underlying81 hj hj0 hj1 hj2 rfl (by omega) _ 0 [] (by rfl) (newRow wd _ _ 13 hbD) ⟨ib, io, none⟩ mn ic ((l.take 12).flatMap insC) (by rfl) HNL.out (HNEWS.out _ (aset wd _)) (ins_one _) hpos (by unfold maxLen; omega) (by omega) (by simp; omega) (wd.heap.size + 1) (by simp) ?_
            intro g8 c8 w2 hown8 hgrow8 hat8 hlt8
            have B8 : Bx (Below wd.heap.size wd w2) := ⟨((Below.refl _ _).alloc (Nat.le_refl _) _).grown hgrow8 (by simp) (fun k' e => by have h9 : wd.heap.size = k' := (by simpa [Value.ownBlock] using e); omega)⟩
            simp only [Nat.zero_add, List.nil_append] at hown8
            have O8 := Bx.mk hown8
            have g1w := cBel g1' B8.out
            have hbw : w.heap.size + 1 + 1 < w2.heap.size := Nat.lt_of_lt_of_le hbD B8.out.size
            clear hown8 hgrow8 hat8 hlt8
            simp only [Nat.zero_add]
            refine hK.out _ _ trivial (fun hHeld => ?_)
            clear hK K
            refine wpAnyH_ready (rs := [9]) (by kernel_rfl) (by simp) ?_
            refine AllReadyH.cons rfl (fun K hK => ?_) AllReadyH.nil
            go_simp
            refine hK.out _ _ trivial (fun hHeld => ?_)
            clear hK K
            rotate_left
            refine step_append_lies _ (by rfl) _ _ _ (by rfl) (w.heap.size + 1 + 1 + 1) 84 j0 _ 13 96 Try.underlying81 hj hj0 hj1 hj2 rfl (by omega) _ 0 [] (by rfl) (newRow wd _ _ 13 hbD) ⟨ib, io, none⟩ mn ic ((l.take 12).flatMap insC) (by rfl) HNL.out (HNEWS.out _ (aset wd _)) (ins_one _) hpos (by unfold maxLen; omega) (by omega) (by simp; omega) (wd.heap.size + 1) (by simp) ?_
            intro g8 c8 w2 hown8 hgrow8 hat8 hlt8
            have B8 : Bx (Below wd.heap.size wd w2) := ⟨((Below.refl _ _).alloc (Nat.le_refl _) _).grown hgrow8 (by simp) (fun k' e => by have h9 : wd.heap.size = k' := (by simpa [Value.ownBlock] using e); omega)⟩
            simp only [Nat.zero_add, List.nil_append] at hown8
            have O8 := Bx.mk hown8
            have g1w := cBel g1' B8.out
            have hbw : w.heap.size + 1 + 1 < w2.heap.size := Nat.lt_of_lt_of_le hbD B8.out.size
            clear hown8 hgrow8 hat8 hlt8
            simp only [Nat.zero_add]
            refine hK.out _ _ trivial (fun hHeld => ?_)
            clear hK K
            refine wpAnyH_ready (rs := [1, 9]) (by kernel_rfl) (by simp) ?_
            refine AllReadyH.cons rfl (fun K hK => ?_) (AllReadyH.cons rfl (fun K hK => ?_) AllReadyH.nil)
            go_simp
            refine hK.out _ _ trivial (fun hHeld => ?_)
            clear hK K
            refine wpAnyH_ready (rs := [9]) (by kernel_rfl) (by simp) ?_
            refine AllReadyH.cons rfl (fun K hK => ?_) AllReadyH.nil
            go_simp
            refine hK.out _ _ trivial (fun hHeld => ?_)
            clear hK K
            rotate_left
            go_simp
            refine hK.out _ _ trivial (fun hHeld => ?_)
            clear hK K
            refine wpAnyH_ready (rs := [1]) (by kernel_rfl) (by simp) ?_
            refine AllReadyH.cons rfl (fun K hK => ?_) AllReadyH.nil
            go_simp
            refine hK.out _ _ trivial (fun hHeld => ?_)
            clear hK K
            all_goals
              refine wpAnyH_ready (rs := [10]) (by kernel_rfl) (by simp) ?_
              refine AllReadyH.cons rfl (fun K hK => ?_) AllReadyH.nil
              refine step_append_lies _ (by rfl) _ _ _ (by rfl) (w.heap.size + 1 + 1 + 1) 81 k0 _ 1 24 Try.underlying23 hk hkz0 hkz1 hkz2 rfl (by omega) _ k (X.map (·.1)) (by rfl) ((rowBel HOWN.out B8.out).alloc _) ⟨w2.heap.size, 0, none⟩ 1 1 [.slice (some ⟨g8, 0, none⟩) mn c8] (by rfl) (by rfl) (World.news_of_block (cs := #[.slice (some ⟨g8, 0, none⟩) mn c8]) (t := 81) (fr := (0, 0)) (heap_alloc_new _ _)) (by simp [Value.oneCell']) (by omega) (by unfold maxLen; omega) (by omega) (by have := B8.out.size; simp; omega) (w2.heap.size + 1) (by simp) ?_
              intro gg cc w3 hown10 hgrow10 hat10 hlt10
              have F2 := HF.out.bel B8.out
              have F3 := (F2.bel (aset w2 (.cells #[.slice (some ⟨g8, 0, none⟩) mn c8] 81))).grown hgrow10 HNR.out
              have z1 : w3.cell? ⟨w.heap.size + 1 + 1, 1, none⟩ = some (.slice p2 k c2) := by rw [cOf F3.b2]; rfl
              have z2 : w3.frozen? ⟨w.heap.size + 1 + 1, 1, none⟩ = false := tOf F3.b2 _
              refine hK.out _ _ trivial (fun hHeld => ?_)
              clear hK K
              refine wpAnyH_take (i := 11) (v := .pointer (some ⟨w.heap.size + 1 + 1, 1, none⟩)) rfl (by kernel_rfl) (by kernel_rfl) (by kernel_rfl) (fun _ _ _ h => h) (Or.inl ⟨by rfl, fun w' _ => by go_simp; try rfl⟩) hHeld ?_
              refine wpAnyH_ready (rs := [12]) (by kernel_rfl) (by simp) ?_
              refine AllReadyH.cons rfl (fun K hK => ?_) AllReadyH.nil
              go_simp
              refine hK.out _ _ trivial (fun hHeld => ?_)
              clear hK K
              refine wpAnyH_done (by kernel_rfl) ?_ _
              have F4 := Bx.mk (F3.set 1 (.slice (some ⟨gg, 0, none⟩) (k + 1) cc) rfl)
              have hset : ∀ b, w.heap.size + 1 + 1 + 1 ≤ b → (w3.setCell ⟨w.heap.size + 1 + 1, 1, none⟩ (.slice (some ⟨gg, 0, none⟩) (k + 1) cc)).heap[b]? = w3.heap[b]? := fun b hb => Below.heap_setCell _ _ _ _ (by show b ≠ w.heap.size + 1 + 1; omega)
              have ap8 := rowApart (rowBel HROW.out B8.out) (rowBel HOWN.out B8.out) init_thr
              have R3 : Bx ((w3.setCell ⟨w.heap.size + 1 + 1, 1, none⟩ (.slice (some ⟨gg, 0, none⟩) (k + 1) cc)).ownsRow (w.heap.size + 1 + 1 + 1) 80 2 (.slice p m c) m (((t.locs.take 12).map cutL).flatMap locC)) := ⟨rowKeep (rowBel HROW.out B8.out) fun b hb => (hset b (rowLt HROW.out b hb).1).trans (grownC (aset w2 _) hgrow10 (rowLt (rowBel HROW.out B8.out) b hb).2 (fun e => ap8 b hb e))⟩
              have T3 := ThrRow.push (by rw [HKX.out]; exact rowBel HOWN.out B8.out) (fun x hx => rowBel (HALL'.out x hx) B8.out) (by rw [HTL.out]; exact O8.out) hgrow10 (by rw [HKX.out]; exact hown10)
              have T4 : Bx (ThrRow (w3.setCell ⟨w.heap.size + 1 + 1, 1, none⟩ (.slice (some ⟨gg, 0, none⟩) (k + 1) cc)) (w.heap.size + 1 + 1 + 1) (.slice (some ⟨gg, 0, none⟩) (k + 1) cc) ((t.thr.take (k + 1)).map (·.take 12))) := ⟨by
                rw [EE.out, HX.out]
                rw [HKX.out] at T3
                exact T3.keep fun b hb _ => hset b hb⟩
              have B3 : Bx (Below w.heap.size w (w3.setCell ⟨w.heap.size + 1 + 1, 1, none⟩ (.slice (some ⟨gg, 0, none⟩) (k + 1) cc))) := ⟨(((D0.out.trans (B8.out.mono D0.out.size)).alloc (by have := D0.out.size; have := B8.out.size; omega) _).grown hgrow10 (by have := D0.out.size; have := B8.out.size; simp; omega) (fun k' e => by have := HNR.out k' e; omega)).setCell (p := ⟨w.heap.size + 1 + 1, 1, none⟩) (by show w.heap.size ≤ w.heap.size + 1 + 1; omega) _⟩
              clear F2 F3 z1 z2 hown10 hgrow10 hat10 hlt10 hHeld hset ap8 T3 g1' g2' HROW HF HOWN HALL' O8 B8
              go_wp2_with fail
              go_roundw
              case rel => exact ⟨k + 1, _, _, by go_num, by omega, by omega, F4, R3, T4, B3⟩
              case measure => simp [intOf] <;> omega
          · obtain rfl : n = 0 := by omega
            obtain rfl : mn = 0 := by omega
            have hl0 : l.take 12 = [] := List.eq_nil_of_length_eq_zero HTL.out
            have HL0 := Bx.mk hl0
            clear hl0 hKc hnc hKn hK12 hmin hpos hnm
            refine wpAnyH_take (i := 0) (v := .pointer (some ⟨w.heap.size + 1 + 1, 1, none⟩)) rfl (by kernel_rfl) (by kernel_rfl) (by kernel_rfl) (fun _ _ _ h => h) (Or.inl ⟨by rfl, fun w' _ => by go_simp; try rfl⟩) hHeld ?_
            refine wpAnyH_take (i := 3) (v := .slice ip 0 ic) rfl (by kernel_rfl) (by kernel_rfl) (by kernel_rfl) (fun _ _ _ h => h) (Or.inl ⟨by rfl, fun w' _ => by go_simp; try rfl⟩) hHeld ?_
            refine wpAnyH_take (i := 4) (v := .slice ip 0 ic) rfl (by kernel_rfl) (by kernel_rfl) (by kernel_rfl) (fun _ _ _ h => h) (Or.inl ⟨by rfl, fun w' _ => by go_simp; try rfl⟩) hHeld ?_
            refine wpAnyH_take (i := 5) (v := .int .i64 0) rfl (by kernel_rfl) (by kernel_rfl) (by kernel_rfl) (fun _ _ _ h => h) (Or.inl ⟨by rfl, fun w' _ => by go_simp; try rfl⟩) hHeld ?_
            refine wpAnyH_take (i := 6) (v := .int .i64 0) rfl (by kernel_rfl) (by kernel_rfl) (by kernel_rfl) (fun _ _ _ h => h) (Or.inl ⟨by rfl, fun w' _ => by go_simp; try rfl⟩) hHeld ?_
            refine wpAnyH_take (i := 7) (v := .slice ip 0 ic) rfl (by kernel_rfl) (by kernel_rfl) (by kernel_rfl) (fun _ _ _ h => h) (Or.inl ⟨by rfl, fun w' _ => by go_simp; try rfl⟩) hHeld ?_
            refine wpAnyH_ready (rs := [1, 2]) (by kernel_rfl) (by simp) ?_
            refine AllReadyH.cons rfl (fun K hK => ?_) (AllReadyH.cons rfl (fun K hK => ?_) AllReadyH.nil)
            go_simp
            refine hK.out _ _ trivial (fun hHeld => ?_)
            clear hK K
            refine wpAnyH_ready (rs := [2]) (by kernel_rfl) (by simp) ?_
            refine AllReadyH.cons rfl (fun K hK => ?_) AllReadyH.nil
            go_simp
            refine hK.out _ _ trivial (fun hHeld => ?_)
            clear hK K
            refine wpAnyH_ready (rs := [8]) (by kernel_rfl) (by simp) ?_
            refine AllReadyH.cons rfl (fun K hK => ?_) AllReadyH.nil
            refine step_append_zero (by rfl) _ _ _ (by rfl) 84 j0 Try.underlying81 hj wd.heap.size 0 0 (by rfl) ip ic (by rfl) ?_
            have O8 : Bx ((wd.alloc (.cells #[] 84)).ownsRow (w.heap.size + 1 + 1 + 1) 84 13 (.slice (some ⟨wd.heap.size, 0, none⟩) 0 0) 0 ((l.take 12).flatMap insC)) := ⟨by rw [HL0.out]; exact newRow wd _ _ 13 hbD⟩
            have B8 : Bx (Below wd.heap.size wd (wd.alloc (.cells #[] 84))) := ⟨aset _ _⟩
            generalize wd.alloc (.cells #[] 84) = w2 at *
            have g1w := cBel g1' B8.out
            have hbw : w.heap.size + 1 + 1 < w2.heap.size := Nat.lt_of_lt_of_le hbD B8.out.size
            refine hK.out _ _ trivial (fun hHeld => ?_)
            clear hK K
            refine wpAnyH_ready (rs := [9]) (by kernel_rfl) (by simp) ?_
            refine AllReadyH.cons rfl (fun K hK => ?_) AllReadyH.nil
            go_simp
            refine hK.out _ _ trivial (fun hHeld => ?_)
            clear hK K
            rotate_left
            go_simp
            refine hK.out _ _ trivial (fun hHeld => ?_)
            clear hK K
            refine wpAnyH_ready (rs := [1, 8]) (by kernel_rfl) (by simp) ?_
            refine AllReadyH.cons rfl (fun K hK => ?_) (AllReadyH.cons rfl (fun K hK => ?_) AllReadyH.nil)
            go_simp
            refine hK.out _ _ trivial (fun hHeld => ?_)
            clear hK K
            refine wpAnyH_ready (rs := [8]) (by kernel_rfl) (by simp) ?_
            refine AllReadyH.cons rfl (fun K hK => ?_) AllReadyH.nil
            refine step_append_zero (by rfl) _ _ _ (by rfl) 84 j0 Try.underlying81 hj wd.heap.size 0 0 (by rfl) ip ic (by rfl) ?_
            have O8 : Bx ((wd.alloc (.cells #[] 84)).ownsRow (w.heap.size + 1 + 1 + 1) 84 13 (.slice (some ⟨wd.heap.size, 0, none⟩) 0 0) 0 ((l.take 12).flatMap insC)) := ⟨by rw [HL0.out]; exact newRow wd _ _ 13 hbD⟩
            have B8 : Bx (Below wd.heap.size wd (wd.alloc (.cells #[] 84))) := ⟨aset _ _⟩
            generalize wd.alloc (.cells #[] 84) = w2 at *
            have g1w := cBel g1' B8.out
            have hbw : w.heap.size + 1 + 1 < w2.heap.size := Nat.lt_of_lt_of_le hbD B8.out.size
            refine hK.out _ _ trivial (fun hHeld => ?_)
            clear hK K
            refine wpAnyH_ready (rs := [9]) (by kernel_rfl) (by simp) ?_
            refine AllReadyH.cons rfl (fun K hK => ?_) AllReadyH.nil
            go_simp
            refine hK.out _ _ trivial (fun hHeld => ?_)
            clear hK K
            rotate_left
            refine step_append_zero (by rfl) _ _ _ (by rfl) 84 j0 Try.underlying81 hj wd.heap.size 0 0 (by rfl) ip ic (by rfl) ?_
            have O8 : Bx ((wd.alloc (.cells #[] 84)).ownsRow (w.heap.size + 1 + 1 + 1) 84 13 (.slice (some ⟨wd.heap.size, 0, none⟩) 0 0) 0 ((l.take 12).flatMap insC)) := ⟨by rw [HL0.out]; exact newRow wd _ _ 13 hbD⟩
            have B8 : Bx (Below wd.heap.size wd (wd.alloc (.cells #[] 84))) := ⟨aset _ _⟩
            generalize wd.alloc (.cells #[] 84) = w2 at *
            have g1w := cBel g1' B8.out
            have hbw : w.heap.size + 1 + 1 < w2.heap.size := Nat.lt_of_lt_of_le hbD B8.out.size
            refine hK.out _ _ trivial (fun hHeld => ?_)
            clear hK K
            refine wpAnyH_ready (rs := [1, 9]) (by kernel_rfl) (by simp) ?_
            refine AllReadyH.cons rfl (fun K hK => ?_) (AllReadyH.cons rfl (fun K hK => ?_) AllReadyH.nil)
            go_simp
            refine hK.out _ _ trivial (fun hHeld => ?_)
            clear hK K
            refine wpAnyH_ready (rs := [9]) (by kernel_rfl) (by simp) ?_
            refine AllReadyH.cons rfl (fun K hK => ?_) AllReadyH.nil
            go_simp
            refine hK.out _ _ trivial (fun hHeld => ?_)
            clear hK K
            rotate_left
            go_simp
            refine hK.out _ _ trivial (fun hHeld => ?_)
            clear hK K
            refine wpAnyH_ready (rs := [1]) (by kernel_rfl) (by simp) ?_
            refine AllReadyH.cons rfl (fun K hK => ?_) AllReadyH.nil
            go_simp
            refine hK.out _ _ trivial (fun hHeld => ?_)
            clear hK K
            all_goals
              refine wpAnyH_ready (rs := [10]) (by kernel_rfl) (by simp) ?_
              refine AllReadyH.cons rfl (fun K hK => ?_) AllReadyH.nil
              refine step_append_lies _ (by rfl) _ _ _ (by rfl) (w.heap.size + 1 + 1 + 1) 81 k0 _ 1 24 Try.underlying23 hk hkz0 hkz1 hkz2 rfl (by omega) _ k (X.map (·.1)) (by rfl) ((rowBel HOWN.out B8.out).alloc _) ⟨w2.heap.size, 0, none⟩ 1 1 [.slice (some ⟨wd.heap.size, 0, none⟩) 0 0] (by rfl) (by rfl) (World.news_of_block (cs := #[.slice (some ⟨wd.heap.size, 0, none⟩) 0 0]) (t := 81) (fr := (0, 0)) (heap_alloc_new _ _)) (by simp [Value.oneCell']) (by omega) (by unfold maxLen; omega) (by omega) (by have := B8.out.size; simp; omega) (w2.heap.size + 1) (by simp) ?_
              intro gg cc w3 hown10 hgrow10 hat10 hlt10
              have F2 := HF.out.bel B8.out
              have F3 := (F2.bel (aset w2 (.cells #[.slice (some ⟨wd.heap.size, 0, none⟩) 0 0] 81))).grown hgrow10 HNR.out
              have z1 : w3.cell? ⟨w.heap.size + 1 + 1, 1, none⟩ = some (.slice p2 k c2) := by rw [cOf F3.b2]; rfl
              have z2 : w3.frozen? ⟨w.heap.size + 1 + 1, 1, none⟩ = false := tOf F3.b2 _
              refine hK.out _ _ trivial (fun hHeld => ?_)
              clear hK K
              refine wpAnyH_take (i := 11) (v := .pointer (some ⟨w.heap.size + 1 + 1, 1, none⟩)) rfl (by kernel_rfl) (by kernel_rfl) (by kernel_rfl) (fun _ _ _ h => h) (Or.inl ⟨by rfl, fun w' _ => by go_simp; try rfl⟩) hHeld ?_
              refine wpAnyH_ready (rs := [12]) (by kernel_rfl) (by simp) ?_
              refine AllReadyH.cons rfl (fun K hK => ?_) AllReadyH.nil
              go_simp
              refine hK.out _ _ trivial (fun hHeld => ?_)
              clear hK K
              refine wpAnyH_done (by kernel_rfl) ?_ _
              have F4 := Bx.mk (F3.set 1 (.slice (some ⟨gg, 0, none⟩) (k + 1) cc) rfl)
              have hset : ∀ b, w.heap.size + 1 + 1 + 1 ≤ b → (w3.setCell ⟨w.heap.size + 1 + 1, 1, none⟩ (.slice (some ⟨gg, 0, none⟩) (k + 1) cc)).heap[b]? = w3.heap[b]? := fun b hb => Below.heap_setCell _ _ _ _ (by show b ≠ w.heap.size + 1 + 1; omega)
              have ap8 := rowApart (rowBel HROW.out B8.out) (rowBel HOWN.out B8.out) init_thr
              have R3 : Bx ((w3.setCell ⟨w.heap.size + 1 + 1, 1, none⟩ (.slice (some ⟨gg, 0, none⟩) (k + 1) cc)).ownsRow (w.heap.size + 1 + 1 + 1) 80 2 (.slice p m c) m (((t.locs.take 12).map cutL).flatMap locC)) := ⟨rowKeep (rowBel HROW.out B8.out) fun b hb => (hset b (rowLt HROW.out b hb).1).trans (grownC (aset w2 _) hgrow10 (rowLt (rowBel HROW.out B8.out) b hb).2 (fun e => ap8 b hb e))⟩
              have T3 := ThrRow.push (by rw [HKX.out]; exact rowBel HOWN.out B8.out) (fun x hx => rowBel (HALL'.out x hx) B8.out) (by rw [HTL.out]; exact O8.out) hgrow10 (by rw [HKX.out]; exact hown10)
              have T4 : Bx (ThrRow (w3.setCell ⟨w.heap.size + 1 + 1, 1, none⟩ (.slice (some ⟨gg, 0, none⟩) (k + 1) cc)) (w.heap.size + 1 + 1 + 1) (.slice (some ⟨gg, 0, none⟩) (k + 1) cc) ((t.thr.take (k + 1)).map (·.take 12))) := ⟨by
                rw [EE.out, HX.out]
                rw [HKX.out] at T3
                exact T3.keep fun b hb _ => hset b hb⟩
              have B3 : Bx (Below w.heap.size w (w3.setCell ⟨w.heap.size + 1 + 1, 1, none⟩ (.slice (some ⟨gg, 0, none⟩) (k + 1) cc))) := ⟨(((D0.out.trans (B8.out.mono D0.out.size)).alloc (by have := D0.out.size; have := B8.out.size; omega) _).grown hgrow10 (by have := D0.out.size; have := B8.out.size; simp; omega) (fun k' e => by have := HNR.out k' e; omega)).setCell (p := ⟨w.heap.size + 1 + 1, 1, none⟩) (by show w.heap.size ≤ w.heap.size + 1 + 1; omega) _⟩
              clear F2 F3 z1 z2 hown10 hgrow10 hat10 hlt10 hHeld hset ap8 T3 g1' g2' HROW HF HOWN HALL' O8 B8
              go_wp2_with fail
              go_roundw
              case rel => exact ⟨k + 1, _, _, by go_num, by omega, by omega, F4, R3, T4, B3⟩
              case measure => simp [intOf] <;> omega
        · have htk := takeLe hk1 hk2 hboth
          have T4 : Bx (ThrRow wr (w.heap.size + 1 + 1 + 1) (.slice p2 k c2) ((t.thr.take 6).map (·.take 12))) := ⟨by rw [← htk]; exact hthr.out⟩
          have g0 : wr.cell? ⟨w.heap.size, 1, none⟩ = some (.slice tp t.thr.length tc) := by rw [cOf hfew.out.b0]; rfl
          clear htk
          by_cases hlt : k < t.thr.length
          · have hlt2 : ¬ k < 6 := fun h => hboth ⟨hlt, h⟩
            go_wp2_with fail
            go_meet
            exact ⟨k, p2, c2, hfew, hrow, T4, hb⟩
          · go_wp2_with fail
            go_meet
            exact ⟨k, p2, c2, hfew, hrow, T4, hb⟩
    case rest =>
      obtain ⟨k, p2, c2, hfew2, hrow2, hthr2, hb2⟩ := hcut
      obtain ⟨a0, ha, haz0, haz1, haz2⟩ := info_parts info_atom
      obtain ⟨q, hq⟩ : ∃ q, q = (t.asks.take 50).length := ⟨_, rfl⟩
      have hq' : q = min 50 t.asks.length := by rw [hq, List.length_take]
      have hac : t.asks.length ≤ ac := by obtain ⟨_, _, _, e, h⟩ := HAC.out; obtain ⟨_, h2, h3⟩ := Value.slice.inj e; omega
      have hmin : (if (50 : Int) < (t.asks.length : Int) then 50 else (t.asks.length : Int)) = (q : Int) := by split <;> omega
      have hqc : (q : Int) ≤ (ac : Int) := by omega
      have hqn : q ≤ 50 := by omega
      have g0 : wc.cell? ⟨w.heap.size, 2, none⟩ = some (.slice ap t.asks.length ac) := by rw [cOf hfew2.out.b0]; rfl
      have g1 : wc.cell? ⟨w.heap.size + 1 + 1, 2, none⟩ = some (.slice none 0 0) := by rw [cOf hfew2.out.b2]; rfl
      have hbD := hfew2.out.lt
      have HQ := Bx.mk hq
      by_cases hpos : 0 < q
      · obtain ⟨ab, ao, ac', hvv, hal, hacl⟩ := HAS.out.at (by omega)
        obtain ⟨rfl, _, rfl⟩ := Value.slice.inj hvv
        have HNL : Bx (((t.asks.take 50).flatMap askC).length = q * 3) := ⟨by rw [flatLen' askC 3 (fun _ => rfl), ← HQ.out]⟩
        have HNEWS : Bx (∀ W, Below w.heap.size w W → ∀ j u, ((t.asks.take 50).flatMap askC)[j]? = some u → W.cell? ((⟨ab, ao, none⟩ : Addr).add j) = some u) := ⟨fun W hW j u hu => by
          rw [flatTake askC 3 (fun _ => rfl), List.getElem?_take] at hu
          split at hu
          · rw [WideShapes.add_plain]; exact cBel (hacl j u hu) hW
          · cases hu⟩
        clear hvv hacl hq hq' hac
        go_wp2_with fail
        go_still_tail 9, (by kernel_rfl)
        change wpList _ _ _ _ _ wc.drew
        have d0 := (Below.refl wc.heap.size wc).drew
        go_wp2_with (at_builtin; refine wpList_append_lies _ rfl (.tmp 67) (.tmp 74) 24 rfl (w.heap.size + 1 + 1 + 1) 90 a0 _ 3 24 Try.underlying24 ha haz0 haz1 haz2 rfl (by omega) _ 0 [] rfl (World.ownsRow_nil _ _ _ _) ⟨ab, ao, none⟩ q ac ((t.asks.take 50).flatMap askC) rfl HNL.out (HNEWS.out _ (bel hb2.out d0)) (ask_one _) hpos (by unfold maxLen; omega) (by omega) (by simp; omega) wc.heap.size (by simp) ?_; intro gg cc w3 hown hgrow hat hlt3; simp only [Nat.zero_add, List.nil_append] at hown; have F3 := (hfew2.out.bel d0).grown hgrow (fun k' e => by cases e); have K3 : Bx (Below wc.heap.size wc w3) := ⟨d0.grown hgrow (by simp) (fun k' e => by cases e)⟩; have y0 := cOf F3.b2 0; have y1 := cOf F3.b2 1; have y2 := cOf F3.b2 2; have yf := tOf F3.b2 2; have x0 := cOf F3.b1 0; have x1 := cOf F3.b1 1; have x2 := cOf F3.b1 2; have xf0 := tOf F3.b1 0; have xf1 := tOf F3.b1 1; have xf2 := tOf F3.b1 2; have xz := F3.lt; simp at y0 y1 y2 x0 x1 x2; have HO := Bx.mk hown; clear hown hgrow hat F3)
        refine bodyPost_ret (v := .agg #[.slice p m c, .slice p2 k c2, .slice (some ⟨gg, 0, none⟩) q cc]) (by simp [results, go_sem, x0, x1, x2]) rfl ⟨⟨_, _, _, rfl, (few_fin (rowBel hrow2.out K3.out) (hthr2.out.bel K3.out) HO.out (fun b hb => ?_)).mono (by omega)⟩, ?_⟩
        · rw [Below.heap_setCell _ _ _ _ (by show b ≠ w.heap.size + 1; omega), Below.heap_setCell _ _ _ _ (by show b ≠ w.heap.size + 1; omega), Below.heap_setCell _ _ _ _ (by show b ≠ w.heap.size + 1; omega), Below.heap_setCell _ _ _ _ (by show b ≠ w.heap.size + 1 + 1; omega)]
        · exact ((((bel' hb2.out hb2.out.size K3.out).setCell (p := ⟨w.heap.size + 1 + 1, 2, none⟩) (by show w.heap.size ≤ w.heap.size + 1 + 1; omega) _).setCell (p := ⟨w.heap.size + 1, 0, none⟩) (by show w.heap.size ≤ w.heap.size + 1; omega) _).setCell (p := ⟨w.heap.size + 1, 1, none⟩) (by show w.heap.size ≤ w.heap.size + 1; omega) _).setCell (p := ⟨w.heap.size + 1, 2, none⟩) (by show w.heap.size ≤ w.heap.size + 1; omega) _
      · have h0 : t.asks.length = 0 := by omega
        obtain rfl : q = 0 := by omega
        have ha0 : t.asks.take 50 = [] := List.eq_nil_of_length_eq_zero HQ.out.symm
        rw [h0] at g0 hmin
        have HA0 := Bx.mk ha0
        have F3 := hfew2.out.bel (Below.refl wc.heap.size wc).drew
        clear hq hq' hac hpos ha0 hmin
        rw [h0]
        have H0 := Bx.mk h0
        clear h0 HAS HAC
        go_wp2_with fail
        go_still_tail 9, (by kernel_rfl)
        change wpList _ _ _ _ _ wc.drew
        have K3 : Bx (Below wc.heap.size wc wc.drew) := ⟨(Below.refl wc.heap.size wc).drew⟩
        generalize wc.drew = w3 at *
        have y0 := cOf F3.b2 0; have y1 := cOf F3.b2 1; have y2 := cOf F3.b2 2; have yf := tOf F3.b2 2; have x0 := cOf F3.b1 0; have x1 := cOf F3.b1 1; have x2 := cOf F3.b1 2; have xf0 := tOf F3.b1 0; have xf1 := tOf F3.b1 1; have xf2 := tOf F3.b1 2; have xz := F3.lt; simp at y0 y1 y2 x0 x1 x2
        have HO : Bx (w3.ownsRow (w.heap.size + 1 + 1 + 1) 90 3 (.slice none 0 0) 0 ((t.asks.take 50).flatMap askC)) := ⟨by rw [HA0.out]; exact World.ownsRow_nil _ _ _ _⟩
        clear F3
        cases ap
        all_goals
          go_wp2_with fail
          refine bodyPost_ret (v := .agg #[.slice p m c, .slice p2 k c2, .slice none 0 0]) (by simp [results, go_sem, x0, x1, x2]) rfl ⟨⟨_, _, _, rfl, (few_fin (rowBel hrow2.out K3.out) (hthr2.out.bel K3.out) HO.out (fun b hb => ?_)).mono (by omega)⟩, ?_⟩
          · rw [Below.heap_setCell _ _ _ _ (by show b ≠ w.heap.size + 1; omega), Below.heap_setCell _ _ _ _ (by show b ≠ w.heap.size + 1; omega), Below.heap_setCell _ _ _ _ (by show b ≠ w.heap.size + 1; omega), Below.heap_setCell _ _ _ _ (by show b ≠ w.heap.size + 1 + 1; omega)]
          · exact ((((bel' hb2.out hb2.out.size K3.out).setCell (p := ⟨w.heap.size + 1 + 1, 2, none⟩) (by show w.heap.size ≤ w.heap.size + 1 + 1; omega) _).setCell (p := ⟨w.heap.size + 1, 0, none⟩) (by show w.heap.size ≤ w.heap.size + 1; omega) _).setCell (p := ⟨w.heap.size + 1, 1, none⟩) (by show w.heap.size ≤ w.heap.size + 1; omega) _).setCell (p := ⟨w.heap.size + 1, 2, none⟩) (by show w.heap.size ≤ w.heap.size + 1; omega) _
end Go.Proofs.Ytccjekgbhablpaa
