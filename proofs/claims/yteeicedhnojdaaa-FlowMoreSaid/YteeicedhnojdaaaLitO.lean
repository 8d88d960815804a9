/- Contracts of litmus: checkAsks. -/
import Derived.Test.YteeicedhnojdaaaLitK
namespace Go.Proofs.Yteeicedhnojdaaa
set_option maxRecDepth 100000
open Go.RowKit

/-- the first thing that is wrong with what a test asks -/
def chkAsks (t : TestM) : Option (Int × Int × Int) → List (Int × Int × Int) → Nat
  | _, [] => 0
  | pv, a :: r => if hasM t a = false then 11 else if (match pv with | none => false | some p => decide (0 ≤ cmpA p a)) = true then 16 else chkAsks t (some a) r
theorem chkAsks_cons (t : TestM) (pv : Option (Int × Int × Int)) (a : Int × Int × Int) (r : List (Int × Int × Int)) : chkAsks t pv (a :: r) = if hasM t a = false then 11 else if (match pv with | none => false | some p => decide (0 ≤ cmpA p a)) = true then 16 else chkAsks t (some a) r := by
  cases pv <;> rfl

set_option maxHeartbeats 3200000 in
theorem checkAsks_any (b : Nat) (t : TestM) (hk : TestOk t) (w : World) (h : TestAt w b t) :
    Calls Try.prog 24 #[.pointer (some ⟨b, 0, none⟩)] w fun e w' => e = .returned (.int .i64 (chkAsks t none t.asks : Nat)) ∧ Below w.heap.size w w' := by
  have HT := Bx.mk h
  obtain ⟨lv, tv, av, h0, h1, h2, ⟨_, _, hlo⟩⟩ := h.test
  obtain ⟨lp, lc, rfl⟩ := hlo.slice
  have hnl := hk.asks
  have H2 := Bx.mk h2; have HLO := Bx.mk hlo
  clear h h0 h1 hlo hk
  go_enter Try.func24, Try.ntmps24
  go_wp2_with fail
  go_loopw [10] (fun i wr => ∃ (k : Nat) (pv : Option (Int × Int × Int)), i = .int .i64 (k : Int) ∧ k ≤ t.asks.length ∧ Bx (chkAsks t none t.asks = chkAsks t pv (t.asks.drop k)) ∧ Bx ((k = 0 ∧ pv = none) ∨ ∃ j l, k = j + 1 ∧ t.asks[j]? = some l ∧ pv = some l) ∧ Bx (Below w.heap.size w wr)) (fun i _ => t.asks.length - (intOf i).toNat)
  case atStart => exact ⟨0, none, rfl, by omega, ⟨rfl⟩, ⟨.inl ⟨rfl, rfl⟩⟩, ⟨Below.refl _ _⟩⟩
  case round =>
    obtain ⟨k, pv, rfl, hkn, hch, hpv, hb⟩ := hrel
    by_cases hlt : k < t.asks.length
    · obtain ⟨bb, off, c, hv, hbl, hcl⟩ := HLO.out.at (by omega)
      obtain ⟨rfl, _, rfl⟩ := Value.slice.inj hv
      obtain ⟨a, hl⟩ : ∃ a, t.asks[k]? = some a := ⟨_, List.getElem?_eq_getElem hlt⟩
      have f0 := flatAt askC 3 (fun _ => rfl) t.asks k 0 a hl (by decide)
      have f1 := flatAt askC 3 (fun _ => rfl) t.asks k 1 a hl (by decide)
      have f2 := flatAt askC 3 (fun _ => rfl) t.asks k 2 a hl (by decide)
      have c0 : wr.cell? ⟨bb, off + k * 3, none⟩ = some (.int .i64 a.1) := (hb.out.cell hbl).trans (hcl _ _ f0)
      have c1 : wr.cell? ⟨bb, off + k * 3 + 1, none⟩ = some (.int .i64 a.2.1) := by
        rw [Nat.add_assoc]; exact (hb.out.cell hbl).trans (hcl _ _ f1)
      have c2 : wr.cell? ⟨bb, off + k * 3 + 2, none⟩ = some (.int .u64 a.2.2) := by
        rw [Nat.add_assoc]; exact (hb.out.cell hbl).trans (hcl _ _ f2)
      have e := hch.out
      rw [atDrop hl, chkAsks_cons] at e
      have hbw : bb < wr.heap.size := Nat.lt_of_lt_of_le hbl hb.out.size
      have g2 : wr.cell? ⟨b, 2, none⟩ = _ := cBel H2.out hb.out
      have hbb : b < wr.heap.size := World.block_lt_of_cell? wr _ g2
      have hbn : Below w.heap.size w (wr.alloc (.cells #[.int .i64 a.1, .int .i64 a.2.1, .int .u64 a.2.2] 94)) := hb.out.alloc hb.out.size _
      have hn := has_any b t a (wr.alloc (.cells #[.int .i64 a.1, .int .i64 a.2.1, .int .u64 a.2.2] 94)) ⟨by obtain ⟨lv, tv, av, x0, x1, x2, x3⟩ := HT.out.test; exact ⟨lv, tv, av, cBel x0 hbn, cBel x1 hbn, cBel x2 hbn, x3.below hbn⟩⟩
      obtain ⟨a0, a1, a2⟩ := a
      unfold askV at hn
      simp only at hn c0 c1 c2 hbn
      cases hnm : hasM t (a0, a1, a2)
      · rw [hnm] at hn e
        rw [if_pos rfl] at e
        have hn := hn.mono fun e w' ⟨x, y⟩ => (⟨x, ⟨bel hbn y⟩⟩ : _ ∧ Bx (Below w.heap.size w w'))
        have HN := Bx.mk hn; have E := Bx.mk e
        clear hv hcl hl hn f0 f1 f2 e hch hpv hnm hbn
        go_wp2_with (go_at_call 44; ((with_reducible refine (HN.out).mono ?_); rintro e w' ⟨rfl, bq⟩))
        go_ret
        rw [E.out]
        exact ⟨rfl, bq.out⟩
      · rw [hnm] at hn e
        rw [if_neg (by decide)] at e
        have z0 : (wr.alloc (.cells #[.int .i64 a0, .int .i64 a1, .int .u64 a2] 94)).cell? ⟨wr.heap.size, 0, none⟩ = some (.int .i64 a0) := by simp
        have z1 : (wr.alloc (.cells #[.int .i64 a0, .int .i64 a1, .int .u64 a2] 94)).cell? ⟨wr.heap.size, 1, none⟩ = some (.int .i64 a1) := by simp
        have z2 : (wr.alloc (.cells #[.int .i64 a0, .int .i64 a1, .int .u64 a2] 94)).cell? ⟨wr.heap.size, 2, none⟩ = some (.int .u64 a2) := by simp
        rcases hpv.out with ⟨rfl, rfl⟩ | ⟨j, l0, rfl, hj, rfl⟩
        · have e : chkAsks t none t.asks = chkAsks t (some (a0, a1, a2)) (t.asks.drop (0 + 1)) := e
          rw [Nat.zero_mul, Nat.add_zero] at c0 c1 c2
          have E := Bx.mk e; have HL := Bx.mk hl
          have hn := hn.mono fun e w' ⟨x, y⟩ => (⟨x, ⟨bel hbn y⟩⟩ : _ ∧ Bx (Below w.heap.size w w'))
          have HN := Bx.mk hn
          clear hv hcl hn f0 f1 f2 e hch hpv hnm hl hbn z0 z1 z2
          go_wp2_with (go_at_call 44; ((with_reducible refine (HN.out).mono ?_); rintro e w' ⟨rfl, bq⟩))
          go_quiet (fail)
          go_wp2
          go_roundw
          case rel => exact ⟨1, some (a0, a1, a2), by first | rfl | go_num, by omega, E, ⟨.inr ⟨0, _, rfl, HL.out, rfl⟩⟩, ⟨belDr bq.out _⟩⟩
          case measure => simp [intOf] <;> omega
        · have e0 := flatAt askC 3 (fun _ => rfl) t.asks j 0 l0 hj (by decide)
          have e1 := flatAt askC 3 (fun _ => rfl) t.asks j 1 l0 hj (by decide)
          have e2 := flatAt askC 3 (fun _ => rfl) t.asks j 2 l0 hj (by decide)
          have k0 : w.cell? ⟨bb, off + j * 3, none⟩ = some (.int .i64 l0.1) := (hcl _ _ e0)
          have k1 : w.cell? ⟨bb, off + j * 3 + 1, none⟩ = some (.int .i64 l0.2.1) := by
            rw [Nat.add_assoc]; exact (hcl _ _ e1)
          have k2 : w.cell? ⟨bb, off + j * 3 + 2, none⟩ = some (.int .u64 l0.2.2) := by
            rw [Nat.add_assoc]; exact (hcl _ _ e2)
          have hn := hn.mono fun e w' ⟨x, y⟩ => (⟨x, ⟨cBel k0 (bel hbn y), cBel k1 (bel hbn y), cBel k2 (bel hbn y), cBel z0 y, cBel z1 y, cBel z2 y, cBel H2.out (bel hbn y), bel hbn y⟩⟩ : _ ∧ Bx (_ ∧ _ ∧ _ ∧ _ ∧ _ ∧ _ ∧ _ ∧ Below w.heap.size w w'))
          have cc := fun W => compareA_any l0 (a0, a1, a2) W
          have e : chkAsks t none t.asks = if (decide (0 ≤ cmpA l0 (a0, a1, a2))) = true then 16 else chkAsks t (some (a0, a1, a2)) (t.asks.drop (j + 1 + 1)) := e
          obtain ⟨y0, y1, y2⟩ := l0
          unfold askV at cc
          simp only at cc hn
          generalize cmpA (y0, y1, y2) (a0, a1, a2) = R at *
          have HN := Bx.mk hn; have CC := Bx.mk cc; have HL := Bx.mk hl
          have hk1 : ((j + 1 : Nat) : Int) - 1 = (j : Int) := by omega
          have hw1 : IntKind.i64.wrap (((j + 1 : Nat) : Int) - 1) = (j : Int) := by rw [hk1]; exact IntWalk.i64_in _ (by omega)
          have hw2 : IntKind.i64.wrap ((j : Int) + 1 - 1) = (j : Int) := by rw [IntWalk.i64_in _ (by omega)]; omega
          have hw3 : IntKind.i64.wrap (j : Int) = (j : Int) := IntWalk.i64_in _ (by omega)
          have hj0 : 0 ≤ (j : Int) := by omega
          have hj1 : (j : Int) < (t.asks.length : Int) := by omega
          clear hv hcl hn cc f0 f1 f2 e0 e1 e2 k0 k1 k2 hch hpv hnm hl hbn hj z0 z1 z2
          by_cases hR : 0 ≤ R
          · rw [if_pos (by simpa using hR)] at e
            have E := Bx.mk e
            clear e
            go_wp2_with (go_at_call 44; ((with_reducible refine (HN.out).mono ?_); rintro e w4 ⟨rfl, bq⟩))
            obtain ⟨m0, m1, m2, m3, m4, m5, m6, m7⟩ := bq.out
            clear bq c0 c1 c2 g2
            go_region_held3 (fun W => W.cell? ⟨bb, off + j * 3, none⟩ = some (.int .i64 y0) ∧ W.cell? ⟨bb, off + j * 3 + 1, none⟩ = some (.int .i64 y1) ∧ W.cell? ⟨bb, off + j * 3 + 2, none⟩ = some (.int .u64 y2) ∧ W.cell? ⟨wr.heap.size, 0, none⟩ = some (.int .i64 a0) ∧ W.cell? ⟨wr.heap.size, 1, none⟩ = some (.int .i64 a1) ∧ W.cell? ⟨wr.heap.size, 2, none⟩ = some (.int .u64 a2) ∧ W.cell? ⟨b, 2, none⟩ = some (.slice (some ⟨bb, off, none⟩) t.asks.length lc) ∧ Below w.heap.size w W)
              (first
                | (exact ⟨m0, m1, m2, m3, m4, m5, m6, m7.drew⟩)
                | (go_split_ands; refine ⟨cBel (by assumption) (by first | assumption | exact Below.refl _ _), cBel (by assumption) (by first | assumption | exact Below.refl _ _), cBel (by assumption) (by first | assumption | exact Below.refl _ _), cBel (by assumption) (by first | assumption | exact Below.refl _ _), cBel (by assumption) (by first | assumption | exact Below.refl _ _), cBel (by assumption) (by first | assumption | exact Below.refl _ _), cBel (by assumption) (by first | assumption | exact Below.refl _ _), bel (by assumption) (by first | assumption | exact Below.refl _ _)⟩))
              (first
                | (go_at_call 45; ((with_reducible refine (CC.out _).mono ?_); rintro e w5 ⟨rfl, hb1⟩)))
            rename_i hh
            have HB := Bx.mk hh.2.2.2.2.2.2.2
            clear hh
            go_wp2
            go_ret
            rw [E.out]
            exact ⟨rfl, HB.out⟩
          · rw [if_neg (by simpa using hR)] at e
            have E := Bx.mk e
            clear e
            go_wp2_with (go_at_call 44; ((with_reducible refine (HN.out).mono ?_); rintro e w4 ⟨rfl, bq⟩))
            obtain ⟨m0, m1, m2, m3, m4, m5, m6, m7⟩ := bq.out
            clear bq c0 c1 c2 g2
            go_region_held3 (fun W => W.cell? ⟨bb, off + j * 3, none⟩ = some (.int .i64 y0) ∧ W.cell? ⟨bb, off + j * 3 + 1, none⟩ = some (.int .i64 y1) ∧ W.cell? ⟨bb, off + j * 3 + 2, none⟩ = some (.int .u64 y2) ∧ W.cell? ⟨wr.heap.size, 0, none⟩ = some (.int .i64 a0) ∧ W.cell? ⟨wr.heap.size, 1, none⟩ = some (.int .i64 a1) ∧ W.cell? ⟨wr.heap.size, 2, none⟩ = some (.int .u64 a2) ∧ W.cell? ⟨b, 2, none⟩ = some (.slice (some ⟨bb, off, none⟩) t.asks.length lc) ∧ Below w.heap.size w W)
              (first
                | (exact ⟨m0, m1, m2, m3, m4, m5, m6, m7.drew⟩)
                | (go_split_ands; refine ⟨cBel (by assumption) (by first | assumption | exact Below.refl _ _), cBel (by assumption) (by first | assumption | exact Below.refl _ _), cBel (by assumption) (by first | assumption | exact Below.refl _ _), cBel (by assumption) (by first | assumption | exact Below.refl _ _), cBel (by assumption) (by first | assumption | exact Below.refl _ _), cBel (by assumption) (by first | assumption | exact Below.refl _ _), cBel (by assumption) (by first | assumption | exact Below.refl _ _), bel (by assumption) (by first | assumption | exact Below.refl _ _)⟩))
              (first
                | (go_at_call 45; ((with_reducible refine (CC.out _).mono ?_); rintro e w5 ⟨rfl, hb1⟩)))
            rename_i hh
            have HB := Bx.mk hh.2.2.2.2.2.2.2
            clear hh
            go_wp2
            go_roundw
            case rel => exact ⟨j + 1 + 1, some (a0, a1, a2), by go_num, by omega, E, ⟨.inr ⟨j + 1, _, rfl, HL.out, rfl⟩⟩, ⟨HB.out⟩⟩
            case measure => simp [intOf] <;> omega
    · obtain rfl : k = t.asks.length := by omega
      have he : chkAsks t none t.asks = 0 := by rw [hch.out, List.drop_length]; rfl
      have HE := Bx.mk he
      clear he hch
      go_wp2
      go_ret
      rw [HE.out]
      exact ⟨rfl, hb.out⟩
end Go.Proofs.Yteeicedhnojdaaa
