/- ShaC, ShaD, in one text. -/
import Derived.Test.YtacfdnjdjgdbcaaDoorJa
import Derived.Test.YtacfdnjdjgdbcaaDoorHd
import Derived.StillTailTactics
import Derived.Deep.RegionHeld3
import Derived.Deep.DeepCutAuto
namespace Go.Proofs.YtacfdnjdjgdbcaaDoor
set_option maxRecDepth 100000
open Go.RowKit M

/-- the first k words, and zeros -/
def padw (B : List Nat) (k : Nat) : List Nat := (sched B).take k ++ List.replicate (64 - k) 0
theorem padw_length (B : List Nat) {k : Nat} (h : k ≤ 64) : (padw B k).length = 64 := by
  simp [padw, sched_length]; omega
theorem padw_low (B : List Nat) {k j : Nat} (hk : k ≤ 64) (h : j < k) : (padw B k).getD j 0 = (sched B).getD j 0 := by
  unfold padw
  rw [List.getD, List.getElem?_append_left (by simp [sched_length]; omega), List.getElem?_take_of_lt h]
  rfl
theorem padw_set (B : List Nat) {k : Nat} (h : k < 64) : (padw B k).set k ((sched B).getD k 0) = padw B (k + 1) := by
  have hl : ((sched B).take k).length = k := by simp [sched_length]; omega
  unfold padw
  rw [List.set_append, if_neg (by omega), hl, Nat.sub_self, show 64 - k = (64 - (k + 1)) + 1 by omega, List.replicate_succ, List.set_cons_zero, List.take_succ_eq_append_getElem (by rw [sched_length]; exact h), List.append_assoc]
  simp [List.getD, sched_length, h]
theorem padw_full (B : List Nat) : padw B 64 = sched B := by
  unfold padw
  rw [List.take_of_length_le (by rw [sched_length]; omega)]; simp
theorem padw_zero (B : List Nat) : padw B 0 = List.replicate 64 0 := by simp [padw]

/-- a cell of a row is stored -/
theorem range_set {w : World} {b : Nat} {l : List Nat} (h : w.rangeAt b 0 (w32 l)) (k x : Nat) (hk : k < l.length) : (w.setCell ⟨b, k, none⟩ (.int .u32 (x : Int))).rangeAt b 0 (w32 (l.set k x)) := fun j v hv => by
  rw [Nat.zero_add]
  have hj : j < l.length := by
    have := (List.getElem?_eq_some_iff.1 hv).1
    simpa [w32] using this
  rw [w32_get (by simpa using hj)] at hv
  by_cases e : j = k
  · subst e
    have h1 := h j _ (w32_get hk)
    rw [Nat.zero_add] at h1
    rw [World.cell?_setCell_same _ _ _ h1]
    simpa [List.getD, hj] using hv
  · rw [World.cell?_setCell_other _ _ _ _ (by intro e2; cases e2; exact e rfl)]
    have h1 := h j _ (w32_get hj)
    rw [Nat.zero_add] at h1
    rw [h1, ← hv]
    simp [List.getD, show ¬ k = j by omega]
theorem there_set {w : World} {b o n : Nat} (h : w.there b o n) (p : Addr) (v : Value) : (w.setCell p v).there b o n := fun j hj => by
  obtain ⟨h1, h2⟩ := h j hj
  refine ⟨?_, by rw [frozen_setCell]; exact h2⟩
  obtain ⟨u, hu⟩ := Option.isSome_iff_exists.1 h1
  by_cases e : p = ⟨b, o + j, none⟩
  · subst e; rw [World.cell?_setCell_same _ _ _ hu]; rfl
  · rw [World.cell?_setCell_other _ _ _ _ e, hu]; rfl
theorem range_other {w : World} {b o : Nat} {cs : List Value} (h : w.rangeAt b o cs) (p : Addr) (v : Value) (hp : p.block ≠ b) : (w.setCell p v).rangeAt b o cs := fun j u hu => by
  rw [World.cell?_setCell_other _ _ _ _ (by intro e; subst e; exact hp rfl)]
  exact h j u hu

theorem or_add {a b i : Nat} (h : b < 2 ^ i) : a * 2 ^ i ||| b = a * 2 ^ i + b := by
  rw [Nat.mul_comm, ← Nat.two_pow_add_eq_or_of_lt h]
theorem or32 {a b : Nat} (ha : a < 4294967296) (hb : b < 4294967296) : bits BinOp.or IntKind.u32 (a : Int) (b : Int) = ((a ||| b : Nat) : Int) := u32_or_nat a b ha hb
theorem or4 {a b c d : Nat} (ha : a < 256) (hb : b < 256) (hc : c < 256) (hd : d < 256) :
    bits BinOp.or IntKind.u32 (bits BinOp.or IntKind.u32 (bits BinOp.or IntKind.u32 ((a : Int) * 16777216) ((b : Int) * 65536)) ((c : Int) * 256)) (d : Int) = ((a * 16777216 + b * 65536 + c * 256 + d : Nat) : Int) := by
  have e1 : (a * 16777216 ||| b * 65536) = (a * 256 + b) * 65536 := by
    rw [show a * 16777216 = a * 2 ^ 24 by rfl, or_add (by omega)]; omega
  have e2 : ((a * 256 + b) * 65536 ||| c * 256) = (a * 65536 + b * 256 + c) * 256 := by
    rw [show (a * 256 + b) * 65536 = (a * 256 + b) * 2 ^ 16 by rfl, or_add (by omega)]; omega
  have e3 : ((a * 65536 + b * 256 + c) * 256 ||| d) = a * 16777216 + b * 65536 + c * 256 + d := by
    rw [show (a * 65536 + b * 256 + c) * 256 = (a * 65536 + b * 256 + c) * 2 ^ 8 by rfl, or_add (by omega)]; omega
  rw [show (a : Int) * 16777216 = ((a * 16777216 : Nat) : Int) by omega, show (b : Int) * 65536 = ((b * 65536 : Nat) : Int) by omega, show (c : Int) * 256 = ((c * 256 : Nat) : Int) by omega]
  rw [or32 (by omega) (by omega), e1, or32 (by omega) (by omega), e2, or32 (by omega) (by omega), e3]
theorem i64_in {a : Int} (h1 : -9223372036854775808 ≤ a) (h2 : a ≤ 9223372036854775807) : IntKind.i64.wrap a = a := IntWalk.i64_in _ (by omega)

set_option maxRecDepth 100000 in
set_option maxHeartbeats 1000000 in
theorem schedule_any (B : List Nat) (hB : B.length = 64) (hBl : ∀ d ∈ B, d < 256) (w : World) :
    Calls Tryd.prog 53 #[.agg (byts B).toArray] w fun e w' => e = .returned (.agg (w32 (sched B)).toArray) ∧ Below w.heap.size w w' := by
  have HB := Box.mk hB; clear hB
  have HBL := Box.mk hBl; clear hBl
  go_enter Tryd.func53, Tryd.ntmps53
  go_wp2_with fail
  go_loopw [4, 5, 6, 7, 8, 9] (fun _ _ _ _ _ i wr => ∃ k : Nat, k ≤ 64 ∧ i = .int .i64 k ∧ Box (wr.rangeAt w.heap.size 0 (byts B)) ∧ Box (wr.rangeAt (w.heap.size + 1 + 1) 0 (w32 (padw B k))) ∧ Box (wr.there (w.heap.size + 1) 0 64) ∧ Box (wr.there (w.heap.size + 1 + 1) 0 64) ∧ Box (Below w.heap.size w wr))
    (fun _ _ _ _ _ i _ => 64 - (intOf i).toNat)
  case atStart =>
    refine ⟨0, by omega, rfl, ⟨?_⟩, ⟨?_⟩, ⟨?_⟩, ⟨?_⟩, ⟨?_⟩⟩
    · exact World.rangeAt_alloc (World.rangeAt_alloc (range_new _ _ _ _ rfl) _) _
    · rw [padw_zero]; exact range_new _ _ (w32 (List.replicate 64 0)) _ (by simp)
    · exact World.there_alloc (there_new _ _ (w32 (List.replicate 64 0)) _ _ _ (by simp) (by decide)) _
    · exact there_new _ _ (w32 (List.replicate 64 0)) _ _ _ (by simp) (by decide)
    · exact (((Below.refl _ _).alloc (Nat.le_refl _) _).alloc (by simp) _).alloc (by simp; omega) _
  case round =>
    obtain ⟨k, hk, rfl, hR, hP, hT1, hT2, hb⟩ := hrel
    by_cases hlt : k < 64
    · by_cases h16 : k < 16
      · obtain ⟨x0, hx0⟩ : ∃ x, x = 4 * k := ⟨_, rfl⟩
        obtain ⟨x1, hx1⟩ : ∃ x, x = 4 * k + 1 := ⟨_, rfl⟩
        obtain ⟨x2, hx2⟩ : ∃ x, x = 4 * k + 2 := ⟨_, rfl⟩
        obtain ⟨x3, hx3⟩ : ∃ x, x = 4 * k + 3 := ⟨_, rfl⟩
        have cellB : ∀ x, x < 64 → wr.cell? ⟨w.heap.size, x, none⟩ = some (.int .u8 ((B.getD x 0 : Nat) : Int)) := fun x hx => by
          have h := hR.out x (.int .u8 ((B.getD x 0 : Nat) : Int)) (by simp [byts, List.getD, HB.out, hx])
          rw [Nat.zero_add] at h; exact h
        have g0 := cellB x0 (by omega)
        have g1 := cellB x1 (by omega)
        have g2 := cellB x2 (by omega)
        have g3 := cellB x3 (by omega)
        have bl : ∀ x, x < 64 → B.getD x 0 < 256 := fun x hx => HBL.out _ (getD_mem (by rw [HB.out]; exact hx))
        have q0 := bl x0 (by omega)
        have q1 := bl x1 (by omega)
        have q2 := bl x2 (by omega)
        have q3 := bl x3 (by omega)
        have hw : (sched B).getD k 0 = B.getD x0 0 * 16777216 + B.getD x1 0 * 65536 + B.getD x2 0 * 256 + B.getD x3 0 := by rw [sched_low B k h16, hx0, hx1, hx2, hx3]; rfl
        clear cellB bl
        generalize B.getD x0 0 = b0 at *
        generalize B.getD x1 0 = b1 at *
        generalize B.getD x2 0 = b2 at *
        generalize B.getD x3 0 = b3 at *
        have i0 : (0 : Int) ≤ (x0 : Int) ∧ (x0 : Int) < 64 := by omega
        have i1 : (0 : Int) ≤ (x1 : Int) ∧ (x1 : Int) < 64 := by omega
        have i2 : (0 : Int) ≤ (x2 : Int) ∧ (x2 : Int) < 64 := by omega
        have i3 : (0 : Int) ≤ (x3 : Int) ∧ (x3 : Int) < 64 := by omega
        have n0 : IntKind.i64.wrap (4 * (k : Int)) = x0 := by rw [i64_in (by omega) (by omega)]; omega
        have n1 : IntKind.i64.wrap ((x0 : Int) + 1) = x1 := by rw [i64_in (by omega) (by omega)]; omega
        have n2 : IntKind.i64.wrap ((x0 : Int) + 2) = x2 := by rw [i64_in (by omega) (by omega)]; omega
        have n3 : IntKind.i64.wrap ((x0 : Int) + 3) = x3 := by rw [i64_in (by omega) (by omega)]; omega
        obtain ⟨i00, i01⟩ := i0
        obtain ⟨i10, i11⟩ := i1
        obtain ⟨i20, i21⟩ := i2
        obtain ⟨i30, i31⟩ := i3
        have HW4 := Box.mk hw; clear hw
        clear hx0 hx1 hx2 hx3
        obtain ⟨c1, c2⟩ := hT2.out k hlt
        obtain ⟨old, c1⟩ := Option.isSome_iff_exists.1 c1
        rw [Nat.zero_add] at c1 c2
        go_wp2_with fail
        go_still_tail 31, (by kernel_rfl)
        change wpList _ _ _ _ _ wr.drew
        go_wp2
        go_roundw
        case rel =>
          refine ⟨k + 1, by omega, by go_num, ⟨?_⟩, ⟨?_⟩, ⟨?_⟩, ⟨?_⟩, ⟨?_⟩⟩
          · exact (World.rangeAt_drew _ _ _ _).2 (range_other hR.out _ _ (by simp; omega))
          · refine (World.rangeAt_drew _ _ _ _).2 ?_
            rw [or4 q0 q1 q2 q3, ← HW4.out, ← padw_set B hlt]
            exact range_set hP.out k _ (by rw [padw_length B hk]; exact hlt)
          · exact (World.there_drew _ _ _ _).2 (there_set hT1.out _ _)
          · exact (World.there_drew _ _ _ _).2 (there_set hT2.out _ _)
          · exact (hb.out.setCell (by simp; omega) _).drew
        case measure => simp [intOf]; omega
      · obtain ⟨y2, hy2⟩ : ∃ x, x = k - 2 := ⟨_, rfl⟩
        obtain ⟨y15, hy15⟩ : ∃ x, x = k - 15 := ⟨_, rfl⟩
        obtain ⟨y16, hy16⟩ : ∃ x, x = k - 16 := ⟨_, rfl⟩
        obtain ⟨y7, hy7⟩ : ∃ x, x = k - 7 := ⟨_, rfl⟩
        have cellP : ∀ x, x < k → wr.cell? ⟨w.heap.size + 1 + 1, x, none⟩ = some (.int .u32 (((sched B).getD x 0 : Nat) : Int)) := fun x hx => by
          have h := hP.out x _ (w32_get (by rw [padw_length B hk]; omega))
          rw [Nat.zero_add, padw_low B hk hx] at h; exact h
        have g2 := cellP y2 (by omega)
        have g15 := cellP y15 (by omega)
        have g16 := cellP y16 (by omega)
        have g7 := cellP y7 (by omega)
        have q2 := sched_lt HBL.out y2
        have q15 := sched_lt HBL.out y15
        have q16 := sched_lt HBL.out y16
        have q7 := sched_lt HBL.out y7
        have hw : (sched B).getD k 0 = ((sched B).getD y16 0 + s0 ((sched B).getD y15 0) + (sched B).getD y7 0 + s1 ((sched B).getD y2 0)) % 4294967296 := by rw [sched_high B k (by omega) hlt, hy2, hy15, hy16, hy7]; rfl
        clear cellP
        generalize (sched B).getD y2 0 = v2 at *
        generalize (sched B).getD y15 0 = v15 at *
        generalize (sched B).getD y16 0 = v16 at *
        generalize (sched B).getD y7 0 = v7 at *
        have i2 : (0 : Int) ≤ (y2 : Int) ∧ (y2 : Int) < 64 := by omega
        have i15 : (0 : Int) ≤ (y15 : Int) ∧ (y15 : Int) < 64 := by omega
        have i16 : (0 : Int) ≤ (y16 : Int) ∧ (y16 : Int) < 64 := by omega
        have i7 : (0 : Int) ≤ (y7 : Int) ∧ (y7 : Int) < 64 := by omega
        have n2 : IntKind.i64.wrap ((k : Int) - 2) = y2 := by rw [i64_in (by omega) (by omega)]; omega
        have n15 : IntKind.i64.wrap ((k : Int) - 15) = y15 := by rw [i64_in (by omega) (by omega)]; omega
        have n16 : IntKind.i64.wrap ((k : Int) - 16) = y16 := by rw [i64_in (by omega) (by omega)]; omega
        have n7 : IntKind.i64.wrap ((k : Int) - 7) = y7 := by rw [i64_in (by omega) (by omega)]; omega
        obtain ⟨i20, i21⟩ := i2
        obtain ⟨i150, i151⟩ := i15
        obtain ⟨i160, i161⟩ := i16
        obtain ⟨i70, i71⟩ := i7
        have HW4 := Box.mk hw
        clear hy2 hy15 hy16 hy7 hw
        have c1 := fun w => turn_rr q15 7 (-7) (by decide) (by omega) (by omega) w
        have c2 := fun w => turn_rr q15 18 (-18) (by decide) (by omega) (by omega) w
        have c3 := fun w => turn_rr q2 17 (-17) (by decide) (by omega) (by omega) w
        have c4 := fun w => turn_rr q2 19 (-19) (by decide) (by omega) (by omega) w
        obtain ⟨p1, hp1⟩ : ∃ p, p = rr 7 v15 := ⟨_, rfl⟩
        obtain ⟨p2, hp2⟩ : ∃ p, p = rr 18 v15 := ⟨_, rfl⟩
        obtain ⟨p3, hp3⟩ : ∃ p, p = rr 17 v2 := ⟨_, rfl⟩
        obtain ⟨p4, hp4⟩ : ∃ p, p = rr 19 v2 := ⟨_, rfl⟩
        have l1 : p1 < 4294967296 := by rw [hp1]; exact rr_lt (by omega) q15
        have l2 : p2 < 4294967296 := by rw [hp2]; exact rr_lt (by omega) q15
        have l3 : p3 < 4294967296 := by rw [hp3]; exact rr_lt (by omega) q2
        have l4 : p4 < 4294967296 := by rw [hp4]; exact rr_lt (by omega) q2
        rw [← hp1] at c1; rw [← hp2] at c2; rw [← hp3] at c3; rw [← hp4] at c4
        have C1 := Box.mk c1; have C2 := Box.mk c2; have C3 := Box.mk c3; have C4 := Box.mk c4
        clear c1 c2 c3 c4
        obtain ⟨S0, hS0⟩ : ∃ p, p = s0 v15 := ⟨_, rfl⟩
        obtain ⟨S1, hS1⟩ : ∃ p, p = s1 v2 := ⟨_, rfl⟩
        have r1 : bits BinOp.xor IntKind.u32 (bits BinOp.xor IntKind.u32 (p1 : Int) (p2 : Int)) ((v15 : Int) / 8) = (S0 : Int) := by
          rw [show (v15 : Int) / 8 = ((v15 / 8 : Nat) : Int) by omega, xor32 l1 l2, xor32 (xor_lt32 l1 l2) (by omega), hS0, hp1, hp2]; rfl
        have r2 : bits BinOp.xor IntKind.u32 (bits BinOp.xor IntKind.u32 (p3 : Int) (p4 : Int)) ((v2 : Int) / 1024) = (S1 : Int) := by
          rw [show (v2 : Int) / 1024 = ((v2 / 1024 : Nat) : Int) by omega, xor32 l3 l4, xor32 (xor_lt32 l3 l4) (by omega), hS1, hp3, hp4]; rfl
        have LS0 : S0 < 4294967296 := by rw [hS0]; exact s0_lt q15
        have LS1 : S1 < 4294967296 := by rw [hS1]; exact s1_lt q2
        have P1 := Box.mk hp1; have P2 := Box.mk hp2; have P3 := Box.mk hp3; have P4 := Box.mk hp4
        have HS0 := Box.mk hS0; have HS1 := Box.mk hS1
        clear hp1 hp2 hp3 hp4 hS0 hS1
        obtain ⟨c1, c2⟩ := hT2.out k hlt
        obtain ⟨old, c1⟩ := Option.isSome_iff_exists.1 c1
        rw [Nat.zero_add] at c1 c2
        go_wp2_with fail
        go_quiet (fail)
        go_wp2_with (first
          | (go_at_call 68; ((with_reducible refine (C1.out _).mono ?_); rintro e w' ⟨rfl, rfl⟩))
          | (go_at_call 68; ((with_reducible refine (C2.out _).mono ?_); rintro e w' ⟨rfl, rfl⟩))
          | (go_at_call 68; ((with_reducible refine (C3.out _).mono ?_); rintro e w' ⟨rfl, rfl⟩))
          | (go_at_call 68; ((with_reducible refine (C4.out _).mono ?_); rintro e w' ⟨rfl, rfl⟩)))
        have k16 : (wr.drewN nq).cell? ⟨w.heap.size + 1 + 1, y16, none⟩ = some (.int .u32 (v16 : Int)) := g16
        have k7 : (wr.drewN nq).cell? ⟨w.heap.size + 1 + 1, y7, none⟩ = some (.int .u32 (v7 : Int)) := g7
        have kc1 : (wr.drewN nq).cell? ⟨w.heap.size + 1 + 1, k, none⟩ = some old := c1
        have kc2 : (wr.drewN nq).frozen? ⟨w.heap.size + 1 + 1, k, none⟩ = false := c2
        have kR : Box ((wr.drewN nq).rangeAt w.heap.size 0 (byts B)) := ⟨hR.out⟩
        have kP : Box ((wr.drewN nq).rangeAt (w.heap.size + 1 + 1) 0 (w32 (padw B k))) := ⟨hP.out⟩
        have kT1 : Box ((wr.drewN nq).there (w.heap.size + 1) 0 64) := ⟨hT1.out⟩
        have kT2 : Box ((wr.drewN nq).there (w.heap.size + 1 + 1) 0 64) := ⟨hT2.out⟩
        have kb : Box (Below w.heap.size w (wr.drewN nq)) := ⟨below_drewN hb.out _⟩
        generalize wr.drewN nq = W1 at k16 k7 kc1 kc2 kR kP kT1 kT2 kb ⊢
        clear g2 g15 g16 g7 c1 c2 hR hP hT1 hT2 hb
        go_still_tail 15, (by kernel_rfl)
        change wpList _ _ _ _ _ W1.drew
        go_wp2
        go_roundw
        case rel =>
          refine ⟨k + 1, by omega, by go_num, ⟨?_⟩, ⟨?_⟩, ⟨?_⟩, ⟨?_⟩, ⟨?_⟩⟩
          · exact (World.rangeAt_drew _ _ _ _).2 (range_other kR.out _ _ (by simp; omega))
          · refine (World.rangeAt_drew _ _ _ _).2 ?_
            rw [show ((v16 : Int) + S0 + v7 + S1) % 4294967296 = (((sched B).getD k 0 : Nat) : Int) by rw [HW4.out, HS0.out, HS1.out]; omega, ← padw_set B hlt]
            exact range_set kP.out k _ (by rw [padw_length B hk]; exact hlt)
          · exact (World.there_drew _ _ _ _).2 (there_set kT1.out _ _)
          · exact (World.there_drew _ _ _ _).2 (there_set kT2.out _ _)
          · exact (kb.out.setCell (by simp; omega) _).drew
        case measure => simp [intOf]; omega
    · obtain rfl : 64 = k := by omega
      have hfull := hP.out
      rw [padw_full] at hfull
      have hlen : (w32 (sched B)).length = 64 := by rw [w32_length, sched_length]
      have HF := Box.mk hfull; clear hfull
      obtain ⟨s1, s2⟩ := store_arr (T := 105) (cs := w32 (sched B)) (by rw [hlen]; exact hT1.out) (by rw [hlen]; kernel_rfl) (w32_one _) Tryd.underlying105 rfl
      have hb2 := below_setCells (b := w.heap.size + 1) (by omega) (w32 (sched B)) 0 w wr hb.out
      have HL := Box.mk hlen; clear hlen s1
      have S2 := Box.mk s2; clear s2
      have t1 : wr.there (w.heap.size + 1) 0 (w32 (sched B)).toArray.size := by
        have e : (w32 (sched B)).toArray.size = 64 := by simp [HL.out]
        rw [e]; exact hT1.out
      have t2 : (Tryd.prog.info? 105).map (·.size) = some (w32 (sched B)).toArray.size := by
        have e : (w32 (sched B)).toArray.size = 64 := by simp [HL.out]
        have k : (Tryd.prog.info? 105).map (fun i => i.size) = some 64 := by kernel_rfl
        rw [e]; exact k
      have t3 := all_oneCell_toArray (w32_one (sched B))
      have TT1 := Box.mk t1; have TT2 := Box.mk t2; have TT3 := Box.mk t3
      clear t1 t2 t3
      obtain ⟨X, hX⟩ : ∃ X, X = w32 (sched B) := ⟨_, rfl⟩
      rw [← hX] at HF HL S2 hb2 TT1 TT2 TT3
      have HX := Box.mk hX; clear hX
      go_wp2_with (first
        | ((with_reducible refine at_load 105 (.tmp 3) ?_); refine wpList_load_mid rfl 105 (.tmp 3) rfl (w.heap.size + 1 + 1) 0 rfl X _ HF.out Tryd.underlying105 rfl (by rw [HL.out]; kernel_rfl) ?_)
        | ((with_reducible refine at_store 105 (.tmp 2) (.tmp 85) ?_); refine wpList_store_mid rfl 105 (.tmp 2) (.tmp 85) rfl (w.heap.size + 1) 0 X.toArray rfl rfl TT1.out TT2.out TT3.out ?_))
      refine bodyPost_ret (v := .agg X.toArray) (results_one rfl rfl S2.out) rfl ⟨by rw [HX.out], hb2⟩
end Go.Proofs.YtacfdnjdjgdbcaaDoor
namespace Go.Proofs.YtacfdnjdjgdbcaaDoor
set_option maxRecDepth 100000
open Go.RowKit M

/-- block b alone of the old blocks may have changed -/
structure ShaChg (b : Nat) (w w' : World) : Prop where
  os : w'.os = w.os
  tape : w'.tape = w.tape
  output : w'.output = w.output
  size : w.heap.size ≤ w'.heap.size
  block : ∀ k, k < w.heap.size → k ≠ b → w'.heap[k]? = w.heap[k]?
theorem ShaChg.refl (b : Nat) (w : World) : ShaChg b w w := ⟨rfl, rfl, rfl, Nat.le_refl _, fun _ _ _ => rfl⟩
theorem ShaChg.trans {b : Nat} {w x y : World} (h : ShaChg b w x) (k : ShaChg b x y) : ShaChg b w y :=
  ⟨k.os.trans h.os, k.tape.trans h.tape, k.output.trans h.output, Nat.le_trans h.size k.size, fun i hi hb => (k.block i (Nat.lt_of_lt_of_le hi h.size) hb).trans (h.block i hi hb)⟩
theorem ShaChg.of_below {b : Nat} {w x : World} (h : Below w.heap.size w x) : ShaChg b w x := ⟨h.os, h.tape, h.output, h.size, fun i hi _ => h.block i hi⟩
theorem ShaChg.below {b B : Nat} {w x : World} (h : ShaChg b w x) (hb : B ≤ b) (hB : B ≤ w.heap.size) : Below B w x := ⟨h.os, h.tape, h.output, h.size, fun i hi => h.block i (by omega) (by omega)⟩
theorem ShaChg.at_least {B b : Nat} {w x : World} (h : Below B w x) (hB : ∀ k, k < w.heap.size → k ≠ b → k < B) : ShaChg b w x := ⟨h.os, h.tape, h.output, h.size, fun i hi hb => h.block i (hB i hi hb)⟩
theorem ShaChg.cell {b : Nat} {w x : World} (h : ShaChg b w x) {p : Addr} {v : Value} (hc : w.cell? p = some v) (hp : p.block ≠ b) : x.cell? p = some v := by
  rw [World.cell?_of_block (w := w) (h.block _ (World.block_lt_of_cell? w _ hc) hp)]; exact hc
theorem ShaChg.range {b b' o : Nat} {cs : List Value} {w x : World} (h : ShaChg b w x) (hr : w.rangeAt b' o cs) (hp : b' ≠ b) : x.rangeAt b' o cs := fun j v hv => h.cell (hr j v hv) hp
theorem ShaChg.there {b b' o n : Nat} {w x : World} (h : ShaChg b w x) (hr : w.there b' o n) (hp : b' ≠ b) : x.there b' o n := fun j hj => by
  obtain ⟨h1, h2⟩ := hr j hj
  obtain ⟨u, hu⟩ := Option.isSome_iff_exists.1 h1
  have hlt := World.block_lt_of_cell? w _ hu
  refine ⟨by rw [h.cell hu hp]; rfl, ?_⟩
  rw [World.frozen?_of_block (w := w) (h.block _ hlt hp)]; exact h2
theorem ShaChg.setCell {b : Nat} {w x : World} (h : ShaChg b w x) (o : Nat) (u : Value) : ShaChg b w (x.setCell ⟨b, o, none⟩ u) :=
  h.trans ⟨rfl, rfl, rfl, by simp [World.setCell], fun k _ hk => Below.heap_setCell _ _ _ _ (by simpa using hk)⟩
theorem ShaChg.drew {b : Nat} {w x : World} (h : ShaChg b w x) : ShaChg b w x.drew := ⟨h.os, h.tape, h.output, h.size, h.block⟩
theorem ShaChg.drewN {b : Nat} {w x : World} (h : ShaChg b w x) (n : Nat) : ShaChg b w (x.drewN n) := ⟨h.os, h.tape, h.output, h.size, h.block⟩
theorem ShaChg.alloc {b : Nat} {w x : World} (h : ShaChg b w x) (o : Obj) : ShaChg b w (x.alloc o) :=
  h.trans (ShaChg.of_below ((Below.refl _ _).alloc (Nat.le_refl _) o))
theorem ShaChg.setCells {b : Nat} : ∀ (vs : List Value) (o : Nat) (w x : World), ShaChg b w x → ShaChg b w (x.setCells b o vs)
  | [], _, _, _, h => h
  | v :: r, o, w, x, h => by
    rw [World.setCells]
    exact ShaChg.setCells r (o + 1) w _ (h.setCell o v)
theorem range_below {w x : World} {b o : Nat} {cs : List Value} (hb : Below w.heap.size w x) (h : w.rangeAt b o cs) : x.rangeAt b o cs := fun j v hv => by
  have hc := h j v hv
  rw [hb.cell (World.block_lt_of_cell? w _ hc)]; exact hc
theorem cell_below {w x : World} {p : Addr} {v : Value} (hb : Below w.heap.size w x) (h : w.cell? p = some v) : x.cell? p = some v := by
  rw [hb.cell (World.block_lt_of_cell? w _ h)]; exact h
theorem byts_one (l : List Nat) : ∀ u ∈ byts l, u.oneCell' = true := by
  intro u hu; simp [byts] at hu; obtain ⟨n, _, rfl⟩ := hu; rfl
theorem there_below {w x : World} {b o n : Nat} (hb : Below w.heap.size w x) (h : w.there b o n) : x.there b o n := fun j hj => by
  obtain ⟨h1, h2⟩ := h j hj
  obtain ⟨u, hu⟩ := Option.isSome_iff_exists.1 h1
  have hlt := World.block_lt_of_cell? w _ hu
  exact ⟨by rw [hb.cell hlt, hu]; rfl, by rw [hb.frozen hlt]; exact h2⟩
theorem there_mono {w : World} {b o n o' n' : Nat} (h : w.there b o n) (h1 : o ≤ o') (h2 : o' + n' ≤ o + n) : w.there b o' n' := fun j hj => by
  have := h (o' - o + j) (by omega)
  rwa [show o + (o' - o + j) = o' + j by omega] at this

theorem initial_any (w : World) : Calls Tryd.prog 51 #[] w fun e w' => e = .returned (.agg #[.int .u32 iV.a, .int .u32 iV.b, .int .u32 iV.c, .int .u32 iV.d, .int .u32 iV.e, .int .u32 iV.f, .int .u32 iV.g, .int .u32 iV.h]) ∧ Below w.heap.size w w' := by
  go_enter Tryd.func51, Tryd.ntmps51
  go_wp2
  refine bodyPost_ret (v := .agg #[.int .u32 iV.a, .int .u32 iV.b, .int .u32 iV.c, .int .u32 iV.d, .int .u32 iV.e, .int .u32 iV.f, .int .u32 iV.g, .int .u32 iV.h]) (by simp [results, Tryd.results51, go_sem, iV]) rfl ⟨rfl, (Below.refl _ _).alloc (Nat.le_refl _) _⟩

/-- the cells of eight words -/
def v8c (v : V8) : List Value := [.int .u32 v.a, .int .u32 v.b, .int .u32 v.c, .int .u32 v.d, .int .u32 v.e, .int .u32 v.f, .int .u32 v.g, .int .u32 v.h]
theorem v8c_eq (v : V8) : v8c v = w32 v.l := rfl
theorem V8.l_lt {v : V8} (h : v.ok) (k : Nat) : v.l.getD k 0 < 4294967296 := by
  have h1 := h.a; have h2 := h.b; have h3 := h.c; have h4 := h.d
  have h5 := h.e; have h6 := h.f; have h7 := h.g; have h8 := h.h
  rcases (by omega : k = 0 ∨ k = 1 ∨ k = 2 ∨ k = 3 ∨ k = 4 ∨ k = 5 ∨ k = 6 ∨ k = 7 ∨ 8 ≤ k) with rfl | rfl | rfl | rfl | rfl | rfl | rfl | rfl | h9
  all_goals first
    | assumption
    | (rw [List.getD, List.getElem?_eq_none (by simpa [V8.l] using h9)]; decide)
/-- half added -/
def adl (v r : V8) (k : Nat) : List Nat := (List.range 8).map fun j => if j < k then (r.l.getD j 0 + v.l.getD j 0) % 4294967296 else v.l.getD j 0
theorem adl_length (v r : V8) (k : Nat) : (adl v r k).length = 8 := by simp [adl]
theorem adl_zero (v r : V8) : adl v r 0 = v.l := by simp [adl, V8.l, List.range_succ]
theorem adl_full (v r : V8) : adl v r 8 = (add8 r v).l := by simp [adl, V8.l, List.range_succ, add8]
theorem adl_get (v r : V8) {k : Nat} (h : k < 8) : (adl v r k).getD k 0 = v.l.getD k 0 := by simp [adl, List.getD, h]
theorem adl_set (v r : V8) {k : Nat} (_h : k < 8) : (adl v r k).set k ((r.l.getD k 0 + v.l.getD k 0) % 4294967296) = adl v r (k + 1) := by
  apply List.ext_getElem
  · simp [adl]
  · intro i h1 h2
    simp only [List.length_set, adl_length] at h1
    rw [List.getElem_set]
    by_cases e : k = i
    · subst e; simp [adl]
    · rw [if_neg e]
      simp only [adl, List.getElem_map, List.getElem_range]
      by_cases h3 : i < k
      · rw [if_pos h3, if_pos (by omega)]
      · rw [if_neg h3, if_neg (by omega)]

/-- an element of an array by value -/
theorem index_arr {T E : TypeId} {n : Nat} {cs : List Value} {v : Value} {d : TypeDesc} (w : World) (hu : Tryd.prog.underlying T = some (.array n E)) (hE : (Tryd.prog.info? E).map (fun i => i.size) = some 1) (hd : Tryd.prog.underlying E = some d) (hr : d.isRow = false) (k : Nat) (hk : k < n) (hv : cs[k]? = some v) :
    (Instr.index T (.agg cs.toArray) (.int .i64 (k : Int))).run Tryd.prog w = .ok v w := by
  have hz : ∀ w, (sizeOf E).run Tryd.prog w = .ok 1 w := fun w => by
    cases hq : Tryd.prog.info? E with
    | none => simp [hq] at hE
    | some i =>
      have hs : i.size = 1 := by simpa [hq] using hE
      simp [sizeOf, typeInfo, hq, hs]
  have ha : ∀ w, (isAgg E).run Tryd.prog w = .ok false w := fun w => by
    unfold isAgg
    rw [Sem.run_bind, run_underlying hd w]
    cases d <;> simp_all [TypeDesc.isRow]
  simp [Instr.index, run_underlying hu, asIntOf, go_sem, hk, hz, ha, hv]

/-- what absorb leaves -/
def AbsPost (b n : Nat) (st : V8) (R : List Nat) (w : World) (e : Ending) (w' : World) : Prop :=
  e = .returned (.tuple #[]) ∧ w'.rangeAt b 0 (v8c (mixV (if n = 64 then iV else st) R)) ∧ w'.rangeAt b 8 (byts R) ∧ w'.cell? ⟨b, 72, none⟩ = some (.int .u64 n) ∧ w'.there b 0 73 ∧ ShaChg b w w'

set_option maxRecDepth 100000 in
set_option maxHeartbeats 1000000 in
theorem absorb_any (b n : Nat) (st : V8) (R : List Nat) (hR : R.length = 64) (hRl : ∀ d ∈ R, d < 256) (hst : st.ok) (_hn : n < 18446744073709551616) (w : World)
    (c1 : w.rangeAt b 0 (v8c st)) (c2 : w.rangeAt b 8 (byts R)) (c3 : w.cell? ⟨b, 72, none⟩ = some (.int .u64 n)) (ht : w.there b 0 73) (hK : KTab w) (hG : b ≠ 0) :
    Calls Tryd.prog 37 #[.pointer (some ⟨b, 0, none⟩)] w (AbsPost b n st R w) := by
  have HR := Box.mk hR; clear hR
  have HRL := Box.mk hRl; clear hRl
  have C1 := Box.mk c1; have C2 := Box.mk c2; have HT := Box.mk ht
  have HK := Box.mk hK; clear c1 c2 ht hK
  obtain ⟨v0, hv0⟩ : ∃ v, v = if n = 64 then iV else st := ⟨_, rfl⟩
  have hok : v0.ok := by rw [hv0]; split; exact iV_ok; exact hst
  have HV0 := Box.mk hv0; clear hv0
  have HOK := Box.mk hok; clear hok hst
  go_enter Tryd.func37, Tryd.ntmps37
  go_upto_if 8 with fail
  go_cut [] (fun wx => Box (wx.rangeAt b 0 (v8c v0)) ∧ Box (wx.rangeAt b 8 (byts R)) ∧ Box (wx.cell? ⟨b, 72, none⟩ = some (.int .u64 n)) ∧ Box (wx.there b 0 73) ∧ Box (ShaChg b w wx))
  case first =>
    by_cases e : n = 64
    · have hv := HV0.out
      rw [if_pos e] at hv
      have HVE := Box.mk hv; clear hv
      have c3' := c3
      rw [e] at c3'
      have t8 := there_mono HT.out (o' := 0) (n' := 8) (by omega) (by omega)
      have T8 := Box.mk t8; clear t8
      have C3 := Box.mk c3
      have e1 : ((n : Int) == 64) = true := by rw [beq_iff_eq]; omega
      have HE := Box.mk e; clear c3 e
      have hltb := World.block_lt_of_cell? w _ c3'
      go_wp2_with (first
        | (go_at_call 51; refine (initial_any _).mono ?_; rintro e w1 ⟨rfl, b1⟩; have T1 := Box.mk (there_below b1 T8.out))
        | ((with_reducible refine at_store 65 (.tmp 12) (.tmp 10) ?_); refine wpList_store_mid rfl 65 (.tmp 12) (.tmp 10) rfl b 0 (v8c iV).toArray rfl rfl T1.out (by kernel_rfl) (all_oneCell_toArray (w32_one iV.l)) ?_))
      go_meet
      have l8 : (v8c iV).length = 8 := rfl
      refine ⟨⟨?_⟩, ⟨?_⟩, ⟨?_⟩, ⟨?_⟩, ⟨?_⟩⟩
      · rw [HVE.out]; exact World.rangeAt_setCells_same w1 b 0 (v8c iV) T1.out
      · exact World.rangeAt_setCells_apart (range_below b1 C2.out) b 0 (v8c iV) (.inr (.inr (by rw [l8]; omega)))
      · have h := C3.out
        rw [World.cell?_setCells_out b (v8c iV) 0 w1 ⟨b, 72, none⟩ (fun _ _ => .inr (by rw [l8]; show 0 + 8 ≤ 72; omega)), b1.cell hltb]
        exact h
      · exact World.there_setCells (there_below b1 HT.out) _ _ _
      · exact ShaChg.setCells _ _ _ _ (ShaChg.of_below b1)
    · have hv := HV0.out
      rw [if_neg e] at hv
      have HVE := Box.mk hv; clear hv
      have C3 := Box.mk c3
      have e1 : ((n : Int) == 64) = false := by rw [beq_eq_false_iff_ne]; omega
      have e2 : (n == 64) = false := by rw [beq_eq_false_iff_ne]; exact e
      have e3 : decide (n = 64) = false := by simpa using e
      go_wp2
      go_meet
      exact ⟨⟨by rw [HVE.out]; exact C1.out⟩, C2, C3, HT, ⟨ShaChg.refl _ _⟩⟩
  case rest =>
    obtain ⟨D1, D2, D3, D4, D5⟩ := hcut
    have kt : KTab wc := fun t ht => D5.out.cell (HK.out t ht) (Ne.symm hG)
    have d1 := D1.out
    have d2 := D2.out
    have hu2 := Tryd.underlying66
    have hi2 : (Tryd.prog.info? 66).map (·.size) = some (byts R).length := by rw [byts_length, HR.out]; kernel_rfl
    have q0 : wc.cell? ⟨b, 0, none⟩ = some (.int .u32 v0.a) := d1 0 _ rfl
    have q1 : wc.cell? ⟨b, 1, none⟩ = some (.int .u32 v0.b) := d1 1 _ rfl
    have q2 : wc.cell? ⟨b, 2, none⟩ = some (.int .u32 v0.c) := d1 2 _ rfl
    have q3 : wc.cell? ⟨b, 3, none⟩ = some (.int .u32 v0.d) := d1 3 _ rfl
    have q4 : wc.cell? ⟨b, 4, none⟩ = some (.int .u32 v0.e) := d1 4 _ rfl
    have q5 : wc.cell? ⟨b, 5, none⟩ = some (.int .u32 v0.f) := d1 5 _ rfl
    have q6 : wc.cell? ⟨b, 6, none⟩ = some (.int .u32 v0.g) := d1 6 _ rfl
    have q7 : wc.cell? ⟨b, 7, none⟩ = some (.int .u32 v0.h) := d1 7 _ rfl
    have hlen : (byts R).length = 64 := by rw [byts_length, HR.out]
    have hone : ∀ v ∈ byts R, v.oneCell' = true := byts_one R
    have KT := Box.mk kt; clear kt d1
    go_wp2_with fail
    go_region_held3 (fun w' => w'.cell? ⟨b, 0, none⟩ = some (.int .u32 v0.a) ∧ w'.cell? ⟨b, 1, none⟩ = some (.int .u32 v0.b) ∧ w'.cell? ⟨b, 2, none⟩ = some (.int .u32 v0.c) ∧ w'.cell? ⟨b, 3, none⟩ = some (.int .u32 v0.d) ∧ w'.cell? ⟨b, 4, none⟩ = some (.int .u32 v0.e) ∧ w'.cell? ⟨b, 5, none⟩ = some (.int .u32 v0.f) ∧ w'.cell? ⟨b, 6, none⟩ = some (.int .u32 v0.g) ∧ w'.cell? ⟨b, 7, none⟩ = some (.int .u32 v0.h) ∧ w'.rangeAt b 8 (byts R) ∧ Below wc.heap.size wc w')
      (first
        | (refine ⟨q0, q1, q2, q3, q4, q5, q6, q7, d2, (Below.refl _ _).drew⟩)
        | (go_split_ands; refine ⟨cell_below (by assumption) (by assumption), cell_below (by assumption) (by assumption), cell_below (by assumption) (by assumption), cell_below (by assumption) (by assumption), cell_below (by assumption) (by assumption), cell_below (by assumption) (by assumption), cell_below (by assumption) (by assumption), cell_below (by assumption) (by assumption), range_below (by assumption) (by assumption), bch (by assumption) (by assumption)⟩)
        | go_keep_ranges)
      (first
        | (go_at_call 53; refine (schedule_any R HR.out HRL.out _).mono ?_; rintro e w1 ⟨rfl, b1⟩)
        | (go_at_call 52; refine (rounds_any v0 HOK.out (sched R) (sched_length R) (fun k => sched_lt HRL.out k) _ (ktab_below KT.out (by go_split_ands; assumption))).mono ?_; rintro e w2 ⟨rfl, b2⟩))
    have BB := Box.mk (bch ((Below.refl wc.heap.size wc).drew) (bch b1 b2))
    clear b1 b2
    clear q0 q1 q2 q3 q4 q5 q6 q7 hu2 hi2 hlen hone
    have e2 : Box (w2.rangeAt b 8 (byts R)) := ⟨range_below BB.out d2⟩
    have e1 : Box (w2.rangeAt b 0 (v8c v0)) := ⟨range_below BB.out D1.out⟩
    have e4 : Box (w2.there b 0 73) := ⟨there_below BB.out D4.out⟩
    have e3 : Box (w2.cell? ⟨b, 72, none⟩ = some (.int .u64 n)) := ⟨cell_below BB.out D3.out⟩
    have e5 : Box (ShaChg b w w2) := ⟨D5.out.trans (ShaChg.of_below BB.out)⟩
    clear D1 D2 D3 D4 D5 d2 BB KT
    have hrok := rds_ok (K := kN) (W := sched R) HOK.out 64
    obtain ⟨r, hr⟩ : ∃ r, r = rds kN (sched R) v0 64 := ⟨_, rfl⟩
    rw [← hr] at hrok ⊢
    have HRr := Box.mk hr; clear hr
    have HRO := Box.mk hrok; clear hrok
    go_wp2_with fail
    go_loopw [2, 3, 23] (fun _ _ i wr => ∃ k : Nat, k ≤ 8 ∧ i = .int .i64 k ∧ Box (wr.rangeAt b 0 (w32 (adl v0 r k))) ∧ Box (wr.rangeAt b 8 (byts R)) ∧ Box (wr.cell? ⟨b, 72, none⟩ = some (.int .u64 n)) ∧ Box (wr.there b 0 73) ∧ Box (ShaChg b w wr))
      (fun _ _ i _ => 8 - (intOf i).toNat)
    case atStart => exact ⟨0, by omega, rfl, ⟨by rw [adl_zero]; exact e1.out⟩, e2, e3, e4, e5⟩
    case round =>
      clear e1 e2 e3 e4 e5
      obtain ⟨k, hk, rfl, f1, f2, f3, f4, f5⟩ := hrel
      by_cases hlt : k < 8
      · have ix := fun w => index_arr (T := 65) (E := 64) (cs := v8c r) (v := .int .u32 ((r.l.getD k 0 : Nat) : Int)) w Tryd.underlying65 (by kernel_rfl) Tryd.underlying64 rfl k hlt (w32_get (l := r.l) (by simpa [V8.l] using hlt))
        have g1 : wr.cell? ⟨b, k, none⟩ = some (.int .u32 ((v0.l.getD k 0 : Nat) : Int)) := by
          have h := f1.out k _ (w32_get (by rw [adl_length]; exact hlt))
          rw [Nat.zero_add, adl_get v0 r hlt] at h; exact h
        have g2 : wr.frozen? ⟨b, k, none⟩ = false := by
          have h := (f4.out k (by omega)).2
          rwa [Nat.zero_add] at h
        have hset := adl_set v0 r hlt
        have HS := Box.mk hset; clear hset
        have L1 : v0.l.getD k 0 < 4294967296 := V8.l_lt HOK.out k
        have L2 : r.l.getD k 0 < 4294967296 := V8.l_lt HRO.out k
        generalize v0.l.getD k 0 = x at *
        generalize r.l.getD k 0 = y at *
        unfold v8c at ix
        go_wp2_with fail
        go_still_tail 11, (by kernel_rfl)
        change wpList _ _ _ _ _ wr.drew
        go_wp2
        go_roundw
        case rel =>
          refine ⟨k + 1, by omega, by go_num, ⟨?_⟩, ⟨?_⟩, ⟨?_⟩, ⟨?_⟩, ⟨?_⟩⟩
          · rw [show (((x : Int) + y) % 4294967296) = (((y + x) % 4294967296 : Nat) : Int) by omega, ← HS.out]
            exact (World.rangeAt_drew _ _ _ _).2 (range_set f1.out k _ (by rw [adl_length]; exact hlt))
          · intro j v hv
            have h := f2.out j v hv
            show (wr.setCell _ _).cell? _ = _
            rw [World.cell?_setCell_other _ _ _ _ (by intro e2; simp at e2 <;> omega)]
            exact h
          · show (wr.setCell _ _).cell? _ = _
            rw [World.cell?_setCell_other _ _ _ _ (by intro e2; simp at e2 <;> omega)]
            exact f3.out
          · exact (World.there_drew _ _ _ _).2 (there_set f4.out _ _)
          · exact (f5.out.setCell _ _).drew
        case measure => simp [intOf]; omega
      · obtain rfl : k = 8 := by omega
        have h := f1.out
        rw [adl_full, HRr.out] at h
        have HF := Box.mk h; clear h
        go_wp2
        go_end0
        exact ⟨rfl, by rw [← HV0.out]; exact HF.out, f2.out, f3.out, f4.out, f5.out⟩
end Go.Proofs.YtacfdnjdjgdbcaaDoor
