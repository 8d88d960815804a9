/- Contracts of sha: the words of a block. -/
import Derived.Test.YtdhbeeeofaheeaaDoorShaB
import Derived.Test.YtdhbeeeofaheeaaDoorCrcD
import Derived.StillTailTactics
namespace Go.Proofs.YtdhbeeeofaheeaaDoor
set_option maxRecDepth 100000
open Go.RowKit M

/-- the first k words, and zeros -/
def padw (B : List Nat) (k : Nat) : List Nat := (sched B).take k ++ List.replicate (64 - k) 0
theorem padw_length (B : List Nat) {k : Nat} (h : k ≤ 64) : (padw B k).length = 64 := by
  simp [padw, sched_length]; omega
theorem padw_low (B : List Nat) {k j : Nat} (hk : k ≤ 64) (h : j < k) : (padw B k).getD j 0 = (sched B).getD j 0 := by
  unfold padw
  rw [List.getD, List.getElem?_append_left (by simp [sched_length]; omega), List.getElem?_take_of_lt h]
  rfl
theorem padw_set (B : List Nat) {k : Nat} (h : k < 64) : (padw B k).set k ((sched B).getD k 0) = padw B (k + 1) := by
  have hl : ((sched B).take k).length = k := by simp [sched_length]; omega
  unfold padw
  rw [List.set_append, if_neg (by omega), hl, Nat.sub_self, show 64 - k = (64 - (k + 1)) + 1 by omega, List.replicate_succ, List.set_cons_zero, List.take_succ_eq_append_getElem (by rw [sched_length]; exact h), List.append_assoc]
  simp [List.getD, sched_length, h]
theorem padw_full (B : List Nat) : padw B 64 = sched B := by
  unfold padw
  rw [List.take_of_length_le (by rw [sched_length]; omega)]; simp
theorem padw_zero (B : List Nat) : padw B 0 = List.replicate 64 0 := by simp [padw]

/-- a cell of a row is stored -/
theorem range_set {w : World} {b : Nat} {l : List Nat} (h : w.rangeAt b 0 (w32 l)) (k x : Nat) (hk : k < l.length) : (w.setCell ⟨b, k, none⟩ (.int .u32 (x : Int))).rangeAt b 0 (w32 (l.set k x)) := fun j v hv => by
  rw [Nat.zero_add]
  have hj : j < l.length := by
    have := (List.getElem?_eq_some_iff.1 hv).1
    simpa [w32] using this
  rw [w32_get (by simpa using hj)] at hv
  by_cases e : j = k
  · subst e
    have h1 := h j _ (w32_get hk)
    rw [Nat.zero_add] at h1
    rw [World.cell?_setCell_same _ _ _ h1]
    simpa [List.getD, hj] using hv
  · rw [World.cell?_setCell_other _ _ _ _ (by intro e2; cases e2; exact e rfl)]
    have h1 := h j _ (w32_get hj)
    rw [Nat.zero_add] at h1
    rw [h1, ← hv]
    simp [List.getD, show ¬ k = j by omega]
theorem there_set {w : World} {b o n : Nat} (h : w.there b o n) (p : Addr) (v : Value) : (w.setCell p v).there b o n := fun j hj => by
  obtain ⟨h1, h2⟩ := h j hj
  refine ⟨?_, by rw [frozen_setCell]; exact h2⟩
  obtain ⟨u, hu⟩ := Option.isSome_iff_exists.1 h1
  by_cases e : p = ⟨b, o + j, none⟩
  · subst e; rw [World.cell?_setCell_same _ _ _ hu]; rfl
  · rw [World.cell?_setCell_other _ _ _ _ e, hu]; rfl
theorem range_other {w : World} {b o : Nat} {cs : List Value} (h : w.rangeAt b o cs) (p : Addr) (v : Value) (hp : p.block ≠ b) : (w.setCell p v).rangeAt b o cs := fun j u hu => by
  rw [World.cell?_setCell_other _ _ _ _ (by intro e; subst e; exact hp rfl)]
  exact h j u hu

theorem or_add {a b i : Nat} (h : b < 2 ^ i) : a * 2 ^ i ||| b = a * 2 ^ i + b := by
  rw [Nat.mul_comm, ← Nat.two_pow_add_eq_or_of_lt h]
theorem or32 {a b : Nat} (ha : a < 4294967296) (hb : b < 4294967296) : bits BinOp.or IntKind.u32 (a : Int) (b : Int) = ((a ||| b : Nat) : Int) := u32_or_nat a b ha hb
theorem or4 {a b c d : Nat} (ha : a < 256) (hb : b < 256) (hc : c < 256) (hd : d < 256) :
    bits BinOp.or IntKind.u32 (bits BinOp.or IntKind.u32 (bits BinOp.or IntKind.u32 ((a : Int) * 16777216) ((b : Int) * 65536)) ((c : Int) * 256)) (d : Int) = ((a * 16777216 + b * 65536 + c * 256 + d : Nat) : Int) := by
  have e1 : (a * 16777216 ||| b * 65536) = (a * 256 + b) * 65536 := by
    rw [show a * 16777216 = a * 2 ^ 24 by rfl, or_add (by omega)]; omega
  have e2 : ((a * 256 + b) * 65536 ||| c * 256) = (a * 65536 + b * 256 + c) * 256 := by
    rw [show (a * 256 + b) * 65536 = (a * 256 + b) * 2 ^ 16 by rfl, or_add (by omega)]; omega
  have e3 : ((a * 65536 + b * 256 + c) * 256 ||| d) = a * 16777216 + b * 65536 + c * 256 + d := by
    rw [show (a * 65536 + b * 256 + c) * 256 = (a * 65536 + b * 256 + c) * 2 ^ 8 by rfl, or_add (by omega)]; omega
  rw [show (a : Int) * 16777216 = ((a * 16777216 : Nat) : Int) by omega, show (b : Int) * 65536 = ((b * 65536 : Nat) : Int) by omega, show (c : Int) * 256 = ((c * 256 : Nat) : Int) by omega]
  rw [or32 (by omega) (by omega), e1, or32 (by omega) (by omega), e2, or32 (by omega) (by omega), e3]
theorem i64_in {a : Int} (h1 : -9223372036854775808 ≤ a) (h2 : a ≤ 9223372036854775807) : IntKind.i64.wrap a = a := IntWalk.i64_in _ (by omega)

set_option maxRecDepth 100000 in
set_option maxHeartbeats 1000000 in
theorem schedule_any (B : List Nat) (hB : B.length = 64) (hBl : ∀ d ∈ B, d < 256) (w : World) :
    Calls Tryd.prog 75 #[.agg (byts B).toArray] w fun e w' => e = .returned (.agg (w32 (sched B)).toArray) ∧ Below w.heap.size w w' := by
  have HB := Box.mk hB; clear hB
  have HBL := Box.mk hBl; clear hBl
  go_enter Tryd.func75, Tryd.ntmps75
  go_wp2_with fail
  go_loopw [4, 5, 6, 7, 8, 9] (fun _ _ _ _ _ i wr => ∃ k : Nat, k ≤ 64 ∧ i = .int .i64 k ∧ Box (wr.rangeAt w.heap.size 0 (byts B)) ∧ Box (wr.rangeAt (w.heap.size + 1 + 1) 0 (w32 (padw B k))) ∧ Box (wr.there (w.heap.size + 1) 0 64) ∧ Box (wr.there (w.heap.size + 1 + 1) 0 64) ∧ Box (Below w.heap.size w wr))
    (fun _ _ _ _ _ i _ => 64 - (intOf i).toNat)
  case atStart =>
    refine ⟨0, by omega, rfl, ⟨?_⟩, ⟨?_⟩, ⟨?_⟩, ⟨?_⟩, ⟨?_⟩⟩
    · exact World.rangeAt_alloc (World.rangeAt_alloc (range_new _ _ _ _ rfl) _) _
    · rw [padw_zero]; exact range_new _ _ (w32 (List.replicate 64 0)) _ (by simp)
    · exact World.there_alloc (there_new _ _ (w32 (List.replicate 64 0)) _ _ _ (by simp) (by decide)) _
    · exact there_new _ _ (w32 (List.replicate 64 0)) _ _ _ (by simp) (by decide)
    · exact (((Below.refl _ _).alloc (Nat.le_refl _) _).alloc (by simp) _).alloc (by simp; omega) _
  case round =>
    obtain ⟨k, hk, rfl, hR, hP, hT1, hT2, hb⟩ := hrel
    by_cases hlt : k < 64
    · by_cases h16 : k < 16
      · obtain ⟨x0, hx0⟩ : ∃ x, x = 4 * k := ⟨_, rfl⟩
        obtain ⟨x1, hx1⟩ : ∃ x, x = 4 * k + 1 := ⟨_, rfl⟩
        obtain ⟨x2, hx2⟩ : ∃ x, x = 4 * k + 2 := ⟨_, rfl⟩
        obtain ⟨x3, hx3⟩ : ∃ x, x = 4 * k + 3 := ⟨_, rfl⟩
        have cellB : ∀ x, x < 64 → wr.cell? ⟨w.heap.size, x, none⟩ = some (.int .u8 ((B.getD x 0 : Nat) : Int)) := fun x hx => by
          have h := hR.out x (.int .u8 ((B.getD x 0 : Nat) : Int)) (by simp [byts, List.getD, HB.out, hx])
          rw [Nat.zero_add] at h; exact h
        have g0 := cellB x0 (by omega)
        have g1 := cellB x1 (by omega)
        have g2 := cellB x2 (by omega)
        have g3 := cellB x3 (by omega)
        have bl : ∀ x, x < 64 → B.getD x 0 < 256 := fun x hx => HBL.out _ (getD_mem (by rw [HB.out]; exact hx))
        have q0 := bl x0 (by omega)
        have q1 := bl x1 (by omega)
        have q2 := bl x2 (by omega)
        have q3 := bl x3 (by omega)
        have hw : (sched B).getD k 0 = B.getD x0 0 * 16777216 + B.getD x1 0 * 65536 + B.getD x2 0 * 256 + B.getD x3 0 := by rw [sched_low B k h16, hx0, hx1, hx2, hx3]; rfl
        clear cellB bl
        generalize B.getD x0 0 = b0 at *
        generalize B.getD x1 0 = b1 at *
        generalize B.getD x2 0 = b2 at *
        generalize B.getD x3 0 = b3 at *
        have i0 : (0 : Int) ≤ (x0 : Int) ∧ (x0 : Int) < 64 := by omega
        have i1 : (0 : Int) ≤ (x1 : Int) ∧ (x1 : Int) < 64 := by omega
        have i2 : (0 : Int) ≤ (x2 : Int) ∧ (x2 : Int) < 64 := by omega
        have i3 : (0 : Int) ≤ (x3 : Int) ∧ (x3 : Int) < 64 := by omega
        have n0 : IntKind.i64.wrap (4 * (k : Int)) = x0 := by rw [i64_in (by omega) (by omega)]; omega
        have n1 : IntKind.i64.wrap ((x0 : Int) + 1) = x1 := by rw [i64_in (by omega) (by omega)]; omega
        have n2 : IntKind.i64.wrap ((x0 : Int) + 2) = x2 := by rw [i64_in (by omega) (by omega)]; omega
        have n3 : IntKind.i64.wrap ((x0 : Int) + 3) = x3 := by rw [i64_in (by omega) (by omega)]; omega
        obtain ⟨i00, i01⟩ := i0
        obtain ⟨i10, i11⟩ := i1
        obtain ⟨i20, i21⟩ := i2
        obtain ⟨i30, i31⟩ := i3
        have HW4 := Box.mk hw; clear hw
        clear hx0 hx1 hx2 hx3
        obtain ⟨c1, c2⟩ := hT2.out k hlt
        obtain ⟨old, c1⟩ := Option.isSome_iff_exists.1 c1
        rw [Nat.zero_add] at c1 c2
        go_wp2_with fail
        go_still_tail 31, (by kernel_rfl)
        change wpList _ _ _ _ _ wr.drew
        go_wp2
        go_roundw
        case rel =>
          refine ⟨k + 1, by omega, by go_num, ⟨?_⟩, ⟨?_⟩, ⟨?_⟩, ⟨?_⟩, ⟨?_⟩⟩
          · exact (World.rangeAt_drew _ _ _ _).2 (range_other hR.out _ _ (by simp; omega))
          · refine (World.rangeAt_drew _ _ _ _).2 ?_
            rw [or4 q0 q1 q2 q3, ← HW4.out, ← padw_set B hlt]
            exact range_set hP.out k _ (by rw [padw_length B hk]; exact hlt)
          · exact (World.there_drew _ _ _ _).2 (there_set hT1.out _ _)
          · exact (World.there_drew _ _ _ _).2 (there_set hT2.out _ _)
          · exact (hb.out.setCell (by simp; omega) _).drew
        case measure => simp [intOf]; omega
      · obtain ⟨y2, hy2⟩ : ∃ x, x = k - 2 := ⟨_, rfl⟩
        obtain ⟨y15, hy15⟩ : ∃ x, x = k - 15 := ⟨_, rfl⟩
        obtain ⟨y16, hy16⟩ : ∃ x, x = k - 16 := ⟨_, rfl⟩
        obtain ⟨y7, hy7⟩ : ∃ x, x = k - 7 := ⟨_, rfl⟩
        have cellP : ∀ x, x < k → wr.cell? ⟨w.heap.size + 1 + 1, x, none⟩ = some (.int .u32 (((sched B).getD x 0 : Nat) : Int)) := fun x hx => by
          have h := hP.out x _ (w32_get (by rw [padw_length B hk]; omega))
          rw [Nat.zero_add, padw_low B hk hx] at h; exact h
        have g2 := cellP y2 (by omega)
        have g15 := cellP y15 (by omega)
        have g16 := cellP y16 (by omega)
        have g7 := cellP y7 (by omega)
        have q2 := sched_lt HBL.out y2
        have q15 := sched_lt HBL.out y15
        have q16 := sched_lt HBL.out y16
        have q7 := sched_lt HBL.out y7
        have hw : (sched B).getD k 0 = ((sched B).getD y16 0 + s0 ((sched B).getD y15 0) + (sched B).getD y7 0 + s1 ((sched B).getD y2 0)) % 4294967296 := by rw [sched_high B k (by omega) hlt, hy2, hy15, hy16, hy7]; rfl
        clear cellP
        generalize (sched B).getD y2 0 = v2 at *
        generalize (sched B).getD y15 0 = v15 at *
        generalize (sched B).getD y16 0 = v16 at *
        generalize (sched B).getD y7 0 = v7 at *
        have i2 : (0 : Int) ≤ (y2 : Int) ∧ (y2 : Int) < 64 := by omega
        have i15 : (0 : Int) ≤ (y15 : Int) ∧ (y15 : Int) < 64 := by omega
        have i16 : (0 : Int) ≤ (y16 : Int) ∧ (y16 : Int) < 64 := by omega
        have i7 : (0 : Int) ≤ (y7 : Int) ∧ (y7 : Int) < 64 := by omega
        have n2 : IntKind.i64.wrap ((k : Int) - 2) = y2 := by rw [i64_in (by omega) (by omega)]; omega
        have n15 : IntKind.i64.wrap ((k : Int) - 15) = y15 := by rw [i64_in (by omega) (by omega)]; omega
        have n16 : IntKind.i64.wrap ((k : Int) - 16) = y16 := by rw [i64_in (by omega) (by omega)]; omega
        have n7 : IntKind.i64.wrap ((k : Int) - 7) = y7 := by rw [i64_in (by omega) (by omega)]; omega
        obtain ⟨i20, i21⟩ := i2
        obtain ⟨i150, i151⟩ := i15
        obtain ⟨i160, i161⟩ := i16
        obtain ⟨i70, i71⟩ := i7
        have HW4 := Box.mk hw
        clear hy2 hy15 hy16 hy7 hw
        have c1 := fun w => turn_rr q15 7 (-7) (by decide) (by omega) (by omega) w
        have c2 := fun w => turn_rr q15 18 (-18) (by decide) (by omega) (by omega) w
        have c3 := fun w => turn_rr q2 17 (-17) (by decide) (by omega) (by omega) w
        have c4 := fun w => turn_rr q2 19 (-19) (by decide) (by omega) (by omega) w
        obtain ⟨p1, hp1⟩ : ∃ p, p = rr 7 v15 := ⟨_, rfl⟩
        obtain ⟨p2, hp2⟩ : ∃ p, p = rr 18 v15 := ⟨_, rfl⟩
        obtain ⟨p3, hp3⟩ : ∃ p, p = rr 17 v2 := ⟨_, rfl⟩
        obtain ⟨p4, hp4⟩ : ∃ p, p = rr 19 v2 := ⟨_, rfl⟩
        have l1 : p1 < 4294967296 := by rw [hp1]; exact rr_lt (by omega) q15
        have l2 : p2 < 4294967296 := by rw [hp2]; exact rr_lt (by omega) q15
        have l3 : p3 < 4294967296 := by rw [hp3]; exact rr_lt (by omega) q2
        have l4 : p4 < 4294967296 := by rw [hp4]; exact rr_lt (by omega) q2
        rw [← hp1] at c1; rw [← hp2] at c2; rw [← hp3] at c3; rw [← hp4] at c4
        have C1 := Box.mk c1; have C2 := Box.mk c2; have C3 := Box.mk c3; have C4 := Box.mk c4
        clear c1 c2 c3 c4
        obtain ⟨S0, hS0⟩ : ∃ p, p = s0 v15 := ⟨_, rfl⟩
        obtain ⟨S1, hS1⟩ : ∃ p, p = s1 v2 := ⟨_, rfl⟩
        have r1 : bits BinOp.xor IntKind.u32 (bits BinOp.xor IntKind.u32 (p1 : Int) (p2 : Int)) ((v15 : Int) / 8) = (S0 : Int) := by
          rw [show (v15 : Int) / 8 = ((v15 / 8 : Nat) : Int) by omega, xor32 l1 l2, xor32 (xor_lt32 l1 l2) (by omega), hS0, hp1, hp2]; rfl
        have r2 : bits BinOp.xor IntKind.u32 (bits BinOp.xor IntKind.u32 (p3 : Int) (p4 : Int)) ((v2 : Int) / 1024) = (S1 : Int) := by
          rw [show (v2 : Int) / 1024 = ((v2 / 1024 : Nat) : Int) by omega, xor32 l3 l4, xor32 (xor_lt32 l3 l4) (by omega), hS1, hp3, hp4]; rfl
        have LS0 : S0 < 4294967296 := by rw [hS0]; exact s0_lt q15
        have LS1 : S1 < 4294967296 := by rw [hS1]; exact s1_lt q2
        have P1 := Box.mk hp1; have P2 := Box.mk hp2; have P3 := Box.mk hp3; have P4 := Box.mk hp4
        have HS0 := Box.mk hS0; have HS1 := Box.mk hS1
        clear hp1 hp2 hp3 hp4 hS0 hS1
        obtain ⟨c1, c2⟩ := hT2.out k hlt
        obtain ⟨old, c1⟩ := Option.isSome_iff_exists.1 c1
        rw [Nat.zero_add] at c1 c2
        go_wp2_with fail
        go_quiet (fail)
        go_wp2_with (first
          | (go_at_call 85; ((with_reducible refine (C1.out _).mono ?_); rintro e w' ⟨rfl, rfl⟩))
          | (go_at_call 85; ((with_reducible refine (C2.out _).mono ?_); rintro e w' ⟨rfl, rfl⟩))
          | (go_at_call 85; ((with_reducible refine (C3.out _).mono ?_); rintro e w' ⟨rfl, rfl⟩))
          | (go_at_call 85; ((with_reducible refine (C4.out _).mono ?_); rintro e w' ⟨rfl, rfl⟩)))
        have k16 : (wr.drewN nq).cell? ⟨w.heap.size + 1 + 1, y16, none⟩ = some (.int .u32 (v16 : Int)) := g16
        have k7 : (wr.drewN nq).cell? ⟨w.heap.size + 1 + 1, y7, none⟩ = some (.int .u32 (v7 : Int)) := g7
        have kc1 : (wr.drewN nq).cell? ⟨w.heap.size + 1 + 1, k, none⟩ = some old := c1
        have kc2 : (wr.drewN nq).frozen? ⟨w.heap.size + 1 + 1, k, none⟩ = false := c2
        have kR : Box ((wr.drewN nq).rangeAt w.heap.size 0 (byts B)) := ⟨hR.out⟩
        have kP : Box ((wr.drewN nq).rangeAt (w.heap.size + 1 + 1) 0 (w32 (padw B k))) := ⟨hP.out⟩
        have kT1 : Box ((wr.drewN nq).there (w.heap.size + 1) 0 64) := ⟨hT1.out⟩
        have kT2 : Box ((wr.drewN nq).there (w.heap.size + 1 + 1) 0 64) := ⟨hT2.out⟩
        have kb : Box (Below w.heap.size w (wr.drewN nq)) := ⟨below_drewN hb.out _⟩
        generalize wr.drewN nq = W1 at k16 k7 kc1 kc2 kR kP kT1 kT2 kb ⊢
        clear g2 g15 g16 g7 c1 c2 hR hP hT1 hT2 hb
        go_still_tail 15, (by kernel_rfl)
        change wpList _ _ _ _ _ W1.drew
        go_wp2
        go_roundw
        case rel =>
          refine ⟨k + 1, by omega, by go_num, ⟨?_⟩, ⟨?_⟩, ⟨?_⟩, ⟨?_⟩, ⟨?_⟩⟩
          · exact (World.rangeAt_drew _ _ _ _).2 (range_other kR.out _ _ (by simp; omega))
          · refine (World.rangeAt_drew _ _ _ _).2 ?_
            rw [show ((v16 : Int) + S0 + v7 + S1) % 4294967296 = (((sched B).getD k 0 : Nat) : Int) by rw [HW4.out, HS0.out, HS1.out]; omega, ← padw_set B hlt]
            exact range_set kP.out k _ (by rw [padw_length B hk]; exact hlt)
          · exact (World.there_drew _ _ _ _).2 (there_set kT1.out _ _)
          · exact (World.there_drew _ _ _ _).2 (there_set kT2.out _ _)
          · exact (kb.out.setCell (by simp; omega) _).drew
        case measure => simp [intOf]; omega
    · obtain rfl : 64 = k := by omega
      have hfull := hP.out
      rw [padw_full] at hfull
      have hlen : (w32 (sched B)).length = 64 := by rw [w32_length, sched_length]
      have HF := Box.mk hfull; clear hfull
      obtain ⟨s1, s2⟩ := store_arr (T := 116) (cs := w32 (sched B)) (by rw [hlen]; exact hT1.out) (by rw [hlen]; kernel_rfl) (w32_one _) Tryd.underlying116 rfl
      have hb2 := below_setCells (b := w.heap.size + 1) (by omega) (w32 (sched B)) 0 w wr hb.out
      have HL := Box.mk hlen; clear hlen s1
      have S2 := Box.mk s2; clear s2
      have t1 : wr.there (w.heap.size + 1) 0 (w32 (sched B)).toArray.size := by
        have e : (w32 (sched B)).toArray.size = 64 := by simp [HL.out]
        rw [e]; exact hT1.out
      have t2 : (Tryd.prog.info? 116).map (·.size) = some (w32 (sched B)).toArray.size := by
        have e : (w32 (sched B)).toArray.size = 64 := by simp [HL.out]
        have k : (Tryd.prog.info? 116).map (fun i => i.size) = some 64 := by kernel_rfl
        rw [e]; exact k
      have t3 := all_oneCell_toArray (w32_one (sched B))
      have TT1 := Box.mk t1; have TT2 := Box.mk t2; have TT3 := Box.mk t3
      clear t1 t2 t3
      obtain ⟨X, hX⟩ : ∃ X, X = w32 (sched B) := ⟨_, rfl⟩
      rw [← hX] at HF HL S2 hb2 TT1 TT2 TT3
      have HX := Box.mk hX; clear hX
      go_wp2_with (first
        | ((with_reducible refine at_load 116 (.tmp 3) ?_); refine wpList_load_mid rfl 116 (.tmp 3) rfl (w.heap.size + 1 + 1) 0 rfl X _ HF.out Tryd.underlying116 rfl (by rw [HL.out]; kernel_rfl) ?_)
        | ((with_reducible refine at_store 116 (.tmp 2) (.tmp 85) ?_); refine wpList_store_mid rfl 116 (.tmp 2) (.tmp 85) rfl (w.heap.size + 1) 0 X.toArray rfl rfl TT1.out TT2.out TT3.out ?_))
      refine bodyPost_ret (v := .agg X.toArray) (results_one rfl rfl S2.out) rfl ⟨by rw [HX.out], hb2⟩
end Go.Proofs.YtdhbeeeofaheeaaDoor
