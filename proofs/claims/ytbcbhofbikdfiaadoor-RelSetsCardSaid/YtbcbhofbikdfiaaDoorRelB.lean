/- Contracts of rel: two relations together. -/
import Derived.Test.YtbcbhofbikdfiaaDoorRelA
namespace Go.Proofs.YtbcbhofbikdfiaaDoor
set_option maxRecDepth 100000
open Go.RowKit M

set_option maxRecDepth 100000 in
set_option maxHeartbeats 1000000 in
theorem or_any (r s : List Nat) (hr : R.Wf r) (hs : R.Wf s) (w : World) :
    Calls Tryd.prog 16 #[.agg (w16 r).toArray, .agg (w16 s).toArray] w fun e w' => e = .returned (.agg (w16 (R.orM r s)).toArray) ∧ Below w.heap.size w w' := by
  obtain ⟨f, hf⟩ : ∃ f : Nat → Nat, f = fun a => R.g r a ||| R.g s a := ⟨_, rfl⟩
  have hlt : ∀ a, a < 16 → f a < 65536 := by rw [hf]; exact fun a _ => R.or_lt (hr.lt a) (hs.lt a)
  have hfx : ∀ a, bits BinOp.or IntKind.u16 (R.g r a : Int) (R.g s a : Int) = (f a : Int) := fun a => by rw [hf]; exact or16 (hr.lt a) (hs.lt a)
  have hm : R.orM r s = R.rows f := by rw [hf]; rfl
  rw [hm]
  have hw := R.rows_wf hlt
  have HF := Box.mk hfx; have HL := Box.mk hlt; have HW := Box.mk hw; have HR := Box.mk hr; have HS := Box.mk hs
  clear hfx hlt hw hm hf
  go_enter Tryd.func16, Tryd.ntmps16
  go_wp2_with fail
  have b1 : Below w.heap.size w (((w.alloc (.cells (w16 r).toArray 25)).alloc (.cells (w16 s).toArray 25)).alloc (.cells (w16 R.zeroM).toArray 25)) := (aset w _).trans (((aset _ _).trans ((aset _ _).mono (by simp))).mono (by simp))
  have rb0 := ((RB.new w r).alloc (.cells (w16 s).toArray 25)).alloc (.cells (w16 R.zeroM).toArray 25)
  have rb1 := (RB.new (w.alloc (.cells (w16 r).toArray 25)) s).alloc (.cells (w16 R.zeroM).toArray 25)
  have rb2 := RB.new ((w.alloc (.cells (w16 r).toArray 25)).alloc (.cells (w16 s).toArray 25)) R.zeroM
  rw [sum_zero] at b1 rb0 rb1 rb2
  simp only [World.size_alloc] at rb1 rb2
  generalize (((w.alloc (.cells (w16 r).toArray 25)).alloc (.cells (w16 s).toArray 25)).alloc (.cells #[.int .u16 0, .int .u16 0, .int .u16 0, .int .u16 0, .int .u16 0, .int .u16 0, .int .u16 0, .int .u16 0, .int .u16 0, .int .u16 0, .int .u16 0, .int .u16 0, .int .u16 0, .int .u16 0, .int .u16 0, .int .u16 0] 25)) = W at *
  rw [← R.upTo_zero hr HL.out] at rb0
  have RB0 := Box.mk rb0; have RB1 := Box.mk rb1; have RB2 := Box.mk rb2; have B1 := Box.mk b1
  clear rb0 rb1 rb2 b1 hr hs
  go_loopw [6] (fun i wr => ∃ k : Nat, k ≤ 16 ∧ i = .int .i64 (k : Int) ∧ Box (RB wr w.heap.size (R.upTo f r k)) ∧ Box (RB wr (w.heap.size + 1) s) ∧ Box (RB wr (w.heap.size + 1 + 1) R.zeroM) ∧ Box (Below w.heap.size w wr)) (fun i _ => 16 - (intOf i).toNat)
  case atStart => exact ⟨0, by omega, rfl, RB0, RB1, RB2, B1⟩
  case round =>
    clear RB0 RB1 RB2 B1
    obtain ⟨k, hk, rfl, h0, h1, h2, hb⟩ := hrel
    by_cases hlt : k < 16
    · have k0 := h0.out.cell (R.upTo_wf HR.out HL.out k) hlt
      have z0 := h0.out.fz k
      have k1 := h1.out.cell HS.out hlt
      have n0 := HF.out k
      rw [R.upTo_get hlt (Nat.le_refl _)] at k0
      have i1 : (0 : Int) ≤ (k : Int) := by omega
      have i2 : (k : Int) < 16 := by omega
      have RS : Box (RB (wr.setCell ⟨w.heap.size, k, none⟩ (.int .u16 ((f k : Nat) : Int))).drew w.heap.size (R.upTo f r (k + 1))) := ⟨by rw [R.upTo_succ HR.out HL.out hlt]; exact h0.out.set k (f k)⟩
      generalize R.g r k = x at *
      generalize R.g s k = y at *
      generalize f k = z at *
      go_wp2_with fail
      go_still_tail 8, (by kernel_rfl)
      change wpList _ _ _ _ _ wr.drew
      go_wp2_with fail
      go_roundw
      case rel => exact ⟨k + 1, by omega, by go_num, RS, ⟨(h1.out.other (by omega) _ _).drew⟩, ⟨(h2.out.other (by omega) _ _).drew⟩, ⟨(bset hb.out _ _ _ (Nat.le_refl _)).drew⟩⟩
      case measure => simp [intOf]; omega
    · obtain rfl : k = 16 := by omega
      rw [R.upTo_all] at h0
      go_wp2_with (first
        | ((with_reducible refine at_load 25 (.tmp 2) ?_); refine wpList_load_mid rfl 25 (.tmp 2) (by rfl) w.heap.size 0 (by rfl) (w16 (R.rows f)) _ h0.out.range undR rfl (infoL HW.out) ?_)
        | ((with_reducible refine at_store 25 (.tmp 4) (.tmp 18) ?_); refine wpList_store_mid rfl 25 (.tmp 4) (.tmp 18) (by rfl) (w.heap.size + 1 + 1) 0 (w16 (R.rows f)).toArray (by rfl) (by rfl) (thereL h2.out HW.out) (infoA HW.out) (all_oneCell_toArray (w16_one _)) ?_))
      have RZ := h2.out.all R.zero_wf HW.out
      refine bodyPost_ret (v := .agg (w16 (R.rows f)).toArray) (results_one rfl (by rfl) (loadR RZ HW.out)) rfl ⟨rfl, ?_⟩
      exact bsets (by omega) _ _ _ hb.out

set_option maxRecDepth 100000 in
set_option maxHeartbeats 1000000 in
theorem and_any (r s : List Nat) (hr : R.Wf r) (hs : R.Wf s) (w : World) :
    Calls Tryd.prog 18 #[.agg (w16 r).toArray, .agg (w16 s).toArray] w fun e w' => e = .returned (.agg (w16 (R.andM r s)).toArray) ∧ Below w.heap.size w w' := by
  obtain ⟨f, hf⟩ : ∃ f : Nat → Nat, f = fun a => R.g r a &&& R.g s a := ⟨_, rfl⟩
  have hlt : ∀ a, a < 16 → f a < 65536 := by rw [hf]; exact fun a _ => R.and_lt (hr.lt a)
  have hfx : ∀ a, bits BinOp.and IntKind.u16 (R.g r a : Int) (R.g s a : Int) = (f a : Int) := fun a => by rw [hf]; exact and16 (hr.lt a) (hs.lt a)
  have hm : R.andM r s = R.rows f := by rw [hf]; rfl
  rw [hm]
  have hw := R.rows_wf hlt
  have HF := Box.mk hfx; have HL := Box.mk hlt; have HW := Box.mk hw; have HR := Box.mk hr; have HS := Box.mk hs
  clear hfx hlt hw hm hf
  go_enter Tryd.func18, Tryd.ntmps18
  go_wp2_with fail
  have b1 : Below w.heap.size w (((w.alloc (.cells (w16 r).toArray 25)).alloc (.cells (w16 s).toArray 25)).alloc (.cells (w16 R.zeroM).toArray 25)) := (aset w _).trans (((aset _ _).trans ((aset _ _).mono (by simp))).mono (by simp))
  have rb0 := ((RB.new w r).alloc (.cells (w16 s).toArray 25)).alloc (.cells (w16 R.zeroM).toArray 25)
  have rb1 := (RB.new (w.alloc (.cells (w16 r).toArray 25)) s).alloc (.cells (w16 R.zeroM).toArray 25)
  have rb2 := RB.new ((w.alloc (.cells (w16 r).toArray 25)).alloc (.cells (w16 s).toArray 25)) R.zeroM
  rw [sum_zero] at b1 rb0 rb1 rb2
  simp only [World.size_alloc] at rb1 rb2
  generalize (((w.alloc (.cells (w16 r).toArray 25)).alloc (.cells (w16 s).toArray 25)).alloc (.cells #[.int .u16 0, .int .u16 0, .int .u16 0, .int .u16 0, .int .u16 0, .int .u16 0, .int .u16 0, .int .u16 0, .int .u16 0, .int .u16 0, .int .u16 0, .int .u16 0, .int .u16 0, .int .u16 0, .int .u16 0, .int .u16 0] 25)) = W at *
  rw [← R.upTo_zero hr HL.out] at rb0
  have RB0 := Box.mk rb0; have RB1 := Box.mk rb1; have RB2 := Box.mk rb2; have B1 := Box.mk b1
  clear rb0 rb1 rb2 b1 hr hs
  go_loopw [6] (fun i wr => ∃ k : Nat, k ≤ 16 ∧ i = .int .i64 (k : Int) ∧ Box (RB wr w.heap.size (R.upTo f r k)) ∧ Box (RB wr (w.heap.size + 1) s) ∧ Box (RB wr (w.heap.size + 1 + 1) R.zeroM) ∧ Box (Below w.heap.size w wr)) (fun i _ => 16 - (intOf i).toNat)
  case atStart => exact ⟨0, by omega, rfl, RB0, RB1, RB2, B1⟩
  case round =>
    clear RB0 RB1 RB2 B1
    obtain ⟨k, hk, rfl, h0, h1, h2, hb⟩ := hrel
    by_cases hlt : k < 16
    · have k0 := h0.out.cell (R.upTo_wf HR.out HL.out k) hlt
      have z0 := h0.out.fz k
      have k1 := h1.out.cell HS.out hlt
      have n0 := HF.out k
      rw [R.upTo_get hlt (Nat.le_refl _)] at k0
      have i1 : (0 : Int) ≤ (k : Int) := by omega
      have i2 : (k : Int) < 16 := by omega
      have RS : Box (RB (wr.setCell ⟨w.heap.size, k, none⟩ (.int .u16 ((f k : Nat) : Int))).drew w.heap.size (R.upTo f r (k + 1))) := ⟨by rw [R.upTo_succ HR.out HL.out hlt]; exact h0.out.set k (f k)⟩
      generalize R.g r k = x at *
      generalize R.g s k = y at *
      generalize f k = z at *
      go_wp2_with fail
      go_still_tail 8, (by kernel_rfl)
      change wpList _ _ _ _ _ wr.drew
      go_wp2_with fail
      go_roundw
      case rel => exact ⟨k + 1, by omega, by go_num, RS, ⟨(h1.out.other (by omega) _ _).drew⟩, ⟨(h2.out.other (by omega) _ _).drew⟩, ⟨(bset hb.out _ _ _ (Nat.le_refl _)).drew⟩⟩
      case measure => simp [intOf]; omega
    · obtain rfl : k = 16 := by omega
      rw [R.upTo_all] at h0
      go_wp2_with (first
        | ((with_reducible refine at_load 25 (.tmp 2) ?_); refine wpList_load_mid rfl 25 (.tmp 2) (by rfl) w.heap.size 0 (by rfl) (w16 (R.rows f)) _ h0.out.range undR rfl (infoL HW.out) ?_)
        | ((with_reducible refine at_store 25 (.tmp 4) (.tmp 18) ?_); refine wpList_store_mid rfl 25 (.tmp 4) (.tmp 18) (by rfl) (w.heap.size + 1 + 1) 0 (w16 (R.rows f)).toArray (by rfl) (by rfl) (thereL h2.out HW.out) (infoA HW.out) (all_oneCell_toArray (w16_one _)) ?_))
      have RZ := h2.out.all R.zero_wf HW.out
      refine bodyPost_ret (v := .agg (w16 (R.rows f)).toArray) (results_one rfl (by rfl) (loadR RZ HW.out)) rfl ⟨rfl, ?_⟩
      exact bsets (by omega) _ _ _ hb.out

set_option maxRecDepth 100000 in
set_option maxHeartbeats 1000000 in
theorem less_any (r s : List Nat) (hr : R.Wf r) (hs : R.Wf s) (w : World) :
    Calls Tryd.prog 20 #[.agg (w16 r).toArray, .agg (w16 s).toArray] w fun e w' => e = .returned (.agg (w16 (R.lessM r s)).toArray) ∧ Below w.heap.size w w' := by
  obtain ⟨f, hf⟩ : ∃ f : Nat → Nat, f = fun a => R.andN (R.g r a) (R.g s a) := ⟨_, rfl⟩
  have hlt : ∀ a, a < 16 → f a < 65536 := by rw [hf]; exact fun a _ => R.andN_lt (hr.lt a)
  have hfx : ∀ a, bits BinOp.andNot IntKind.u16 (R.g r a : Int) (R.g s a : Int) = (f a : Int) := fun a => by rw [hf]; exact andN16 (hr.lt a) (hs.lt a)
  have hm : R.lessM r s = R.rows f := by rw [hf]; rfl
  rw [hm]
  have hw := R.rows_wf hlt
  have HF := Box.mk hfx; have HL := Box.mk hlt; have HW := Box.mk hw; have HR := Box.mk hr; have HS := Box.mk hs
  clear hfx hlt hw hm hf
  go_enter Tryd.func20, Tryd.ntmps20
  go_wp2_with fail
  have b1 : Below w.heap.size w (((w.alloc (.cells (w16 r).toArray 25)).alloc (.cells (w16 s).toArray 25)).alloc (.cells (w16 R.zeroM).toArray 25)) := (aset w _).trans (((aset _ _).trans ((aset _ _).mono (by simp))).mono (by simp))
  have rb0 := ((RB.new w r).alloc (.cells (w16 s).toArray 25)).alloc (.cells (w16 R.zeroM).toArray 25)
  have rb1 := (RB.new (w.alloc (.cells (w16 r).toArray 25)) s).alloc (.cells (w16 R.zeroM).toArray 25)
  have rb2 := RB.new ((w.alloc (.cells (w16 r).toArray 25)).alloc (.cells (w16 s).toArray 25)) R.zeroM
  rw [sum_zero] at b1 rb0 rb1 rb2
  simp only [World.size_alloc] at rb1 rb2
  generalize (((w.alloc (.cells (w16 r).toArray 25)).alloc (.cells (w16 s).toArray 25)).alloc (.cells #[.int .u16 0, .int .u16 0, .int .u16 0, .int .u16 0, .int .u16 0, .int .u16 0, .int .u16 0, .int .u16 0, .int .u16 0, .int .u16 0, .int .u16 0, .int .u16 0, .int .u16 0, .int .u16 0, .int .u16 0, .int .u16 0] 25)) = W at *
  rw [← R.upTo_zero hr HL.out] at rb0
  have RB0 := Box.mk rb0; have RB1 := Box.mk rb1; have RB2 := Box.mk rb2; have B1 := Box.mk b1
  clear rb0 rb1 rb2 b1 hr hs
  go_loopw [6] (fun i wr => ∃ k : Nat, k ≤ 16 ∧ i = .int .i64 (k : Int) ∧ Box (RB wr w.heap.size (R.upTo f r k)) ∧ Box (RB wr (w.heap.size + 1) s) ∧ Box (RB wr (w.heap.size + 1 + 1) R.zeroM) ∧ Box (Below w.heap.size w wr)) (fun i _ => 16 - (intOf i).toNat)
  case atStart => exact ⟨0, by omega, rfl, RB0, RB1, RB2, B1⟩
  case round =>
    clear RB0 RB1 RB2 B1
    obtain ⟨k, hk, rfl, h0, h1, h2, hb⟩ := hrel
    by_cases hlt : k < 16
    · have k0 := h0.out.cell (R.upTo_wf HR.out HL.out k) hlt
      have z0 := h0.out.fz k
      have k1 := h1.out.cell HS.out hlt
      have n0 := HF.out k
      rw [R.upTo_get hlt (Nat.le_refl _)] at k0
      have i1 : (0 : Int) ≤ (k : Int) := by omega
      have i2 : (k : Int) < 16 := by omega
      have RS : Box (RB (wr.setCell ⟨w.heap.size, k, none⟩ (.int .u16 ((f k : Nat) : Int))).drew w.heap.size (R.upTo f r (k + 1))) := ⟨by rw [R.upTo_succ HR.out HL.out hlt]; exact h0.out.set k (f k)⟩
      generalize R.g r k = x at *
      generalize R.g s k = y at *
      generalize f k = z at *
      go_wp2_with fail
      go_still_tail 8, (by kernel_rfl)
      change wpList _ _ _ _ _ wr.drew
      go_wp2_with fail
      go_roundw
      case rel => exact ⟨k + 1, by omega, by go_num, RS, ⟨(h1.out.other (by omega) _ _).drew⟩, ⟨(h2.out.other (by omega) _ _).drew⟩, ⟨(bset hb.out _ _ _ (Nat.le_refl _)).drew⟩⟩
      case measure => simp [intOf]; omega
    · obtain rfl : k = 16 := by omega
      rw [R.upTo_all] at h0
      go_wp2_with (first
        | ((with_reducible refine at_load 25 (.tmp 2) ?_); refine wpList_load_mid rfl 25 (.tmp 2) (by rfl) w.heap.size 0 (by rfl) (w16 (R.rows f)) _ h0.out.range undR rfl (infoL HW.out) ?_)
        | ((with_reducible refine at_store 25 (.tmp 4) (.tmp 18) ?_); refine wpList_store_mid rfl 25 (.tmp 4) (.tmp 18) (by rfl) (w.heap.size + 1 + 1) 0 (w16 (R.rows f)).toArray (by rfl) (by rfl) (thereL h2.out HW.out) (infoA HW.out) (all_oneCell_toArray (w16_one _)) ?_))
      have RZ := h2.out.all R.zero_wf HW.out
      refine bodyPost_ret (v := .agg (w16 (R.rows f)).toArray) (results_one rfl (by rfl) (loadR RZ HW.out)) rfl ⟨rfl, ?_⟩
      exact bsets (by omega) _ _ _ hb.out
end Go.Proofs.YtbcbhofbikdfiaaDoor
