/- The laws of layer 6 (frame): FrameBent: the walk. -/
import Derived.Test.YtdhbeeeofaheeaaDoorFrameH
import Derived.Test.YtdhbeeeofaheeaaDoorFrameG
import Derived.RegionTactic
import Derived.StillTailTactics
import Derived.Deep.DeepCutAuto
namespace Go.Proofs.YtdhbeeeofaheeaaDoor
set_option maxRecDepth 100000
open Go.RowKit M

set_option maxHeartbeats 1000000 in
theorem frameBent_out (p : Option Addr) (n c : Nat) (ss : Nat → ByteArray) (q : Nat) (wh pt a : Int) (m : Nat) (hq : q < 18446744073709551616) (hn : n ≤ 9223372036854775807) (w : World) (hH : Halves w) (hI : SIn w (.slice p n c) n ss)
    (ho : wh < 0 ∨ ((min n 6 : Nat) : Int) ≤ wh ∨ pt < 0 ∨ 2 < pt ∨ a < 0) :
    Calls Tryd.prog 10 #[.slice p n c, .int .u64 q, .int .i64 wh, .int .i64 pt, .int .i64 a, .int .u32 m] w fun e w' => e = .returned (.bool true) ∧ Below w.heap.size w w' := by
  have cl := laid_any p n c ss q hq w hH hI hn
  have HH := Box.mk hH; clear hH hI
  obtain ⟨K, hK⟩ : ∃ K, K = min n 6 := ⟨_, rfl⟩
  rw [← hK] at cl ho
  have hK6 : K ≤ 6 := by omega
  unfold LaidP at cl
  obtain ⟨A, hA⟩ : ∃ A, A = bs (lay q (rcN ss) K) := ⟨_, rfl⟩
  rw [← hA] at cl
  have CL := Box.mk cl
  have hd : decide (wh < 0) = true ∨ (decide (wh < 0) = false ∧ decide ((K : Int) ≤ wh) = true) ∨ (decide (wh < 0) = false ∧ decide ((K : Int) ≤ wh) = false ∧ decide (pt < 0) = true) ∨
      (decide (wh < 0) = false ∧ decide ((K : Int) ≤ wh) = false ∧ decide (pt < 0) = false ∧ decide (2 < pt) = true) ∨
      (decide (wh < 0) = false ∧ decide ((K : Int) ≤ wh) = false ∧ decide (pt < 0) = false ∧ decide (2 < pt) = false ∧ decide (a < 0) = true) := by
    simp only [decide_eq_true_eq, decide_eq_false_iff_not]
    omega
  clear cl hA hK ho
  rcases hd with d1 | ⟨d1, d2⟩ | ⟨d1, d2, d3⟩ | ⟨d1, d2, d3, d4⟩ | ⟨d1, d2, d3, d4, d5⟩
  all_goals
    go_enter Tryd.func10, Tryd.ntmps10
    go_wp2_with (first
      | (go_at_call 47; ((with_reducible refine CL.out.mono ?_); rintro e w1 ⟨v1, rfl, o1, b1⟩; obtain ⟨p1, k1, rfl⟩ := own_len o1; have B1 := Box.mk b1; have O1 := Box.mk o1; clear o1 b1))
      | (go_at_call 44; ((with_reducible refine (awake6_any _ (halves_below HH.out B1.out)).mono ?_); rintro e w2 ⟨rfl, b2⟩; have B2 := Box.mk (bch B1.out b2); have O2 := Box.mk (own_keep O1.out b2); clear b2))
      | (go_at_call 44; ((with_reducible refine (awake6_any _ (halves_below HH.out B2.out)).mono ?_); rintro e w3 ⟨rfl, b3⟩; have B3 := Box.mk (bch B2.out b3); clear b3)))
    go_ret
    exact ⟨rfl, B3.out⟩

set_option maxRecDepth 100000 in
set_option maxHeartbeats 1000000 in
theorem frameBent_in (p : Option Addr) (n c : Nat) (ss : Nat → ByteArray) (q : Nat) (j pt a : Nat) (m : Nat) (hq : q < 18446744073709551616) (hm : m < 4294967296) (hn : n ≤ 9223372036854775807) (ha : a ≤ 9223372036854775807) (w : World) (hH : Halves w) (hI : SIn w (.slice p n c) n ss)
    (hj : j < min n 6) (hpt : pt ≤ 2) :
    Calls Tryd.prog 10 #[.slice p n c, .int .u64 q, .int .i64 j, .int .i64 pt, .int .i64 a, .int .u32 m] w fun e w' => e = .returned (.bool true) ∧ Below w.heap.size w w' := by
  have cl := laid_any p n c ss q hq w hH hI hn
  have HH := Box.mk hH; clear hH hI
  obtain ⟨K, hK⟩ : ∃ K, K = min n 6 := ⟨_, rfl⟩
  rw [← hK] at cl hj
  have hK6 : K ≤ 6 := by omega
  have hlk := lay_length (q := q) (rcN_length ss) K
  have sA : (bs (lay q (rcN ss) K)).size = (lay q (rcN ss) K).length := bs_size _
  unfold LaidP at cl
  obtain ⟨A, hA⟩ : ∃ A, A = bs (lay q (rcN ss) K) := ⟨_, rfl⟩
  have hsA : sb A = lay q (rcN ss) K := by rw [hA, sb_bs _ (lay_lt (rcN_lt ss) K)]
  rw [← hA] at cl sA
  obtain ⟨M, hM⟩ : ∃ M, M = (lay q (rcN ss) K).length := ⟨_, rfl⟩
  rw [← hM] at sA hlk
  have hM6 : M ≤ 468 := by omega
  obtain ⟨B, hB⟩ : ∃ B, B = (lay q (rcN ss) j).length := ⟨_, rfl⟩
  obtain ⟨E, hE⟩ : ∃ E, E = (lay q (rcN ss) (j + 1)).length := ⟨_, rfl⟩
  obtain ⟨X, hX⟩ : ∃ X, X = 18 + (rcN ss j).length := ⟨_, rfl⟩
  have hEB : E = B + X := by rw [hE, lay_succ, ← hB, ← hX]
  have hEM : E ≤ M := by rw [hE, hM]; exact lay_mono hj
  obtain ⟨o1, ho1⟩ : ∃ o, o = [6, 14, 18].getD pt 0 := ⟨_, rfl⟩
  obtain ⟨o2, ho2⟩ : ∃ o, o = [14, 18, X].getD pt 0 := ⟨_, rfl⟩
  have hpp : (pt = 0 ∧ o1 = 6 ∧ o2 = 14) ∨ (pt = 1 ∧ o1 = 14 ∧ o2 = 18) ∨ (pt = 2 ∧ o1 = 18 ∧ o2 = X) := by
    rcases (by omega : pt = 0 ∨ pt = 1 ∨ pt = 2) with rfl | rfl | rfl
    · exact .inl ⟨rfl, ho1, ho2⟩
    · exact .inr (.inl ⟨rfl, ho1, ho2⟩)
    · exact .inr (.inr ⟨rfl, ho1, ho2⟩)
  obtain ⟨F, hF⟩ : ∃ F, F = B + o1 := ⟨_, rfl⟩
  obtain ⟨Z, hZ⟩ : ∃ Z, Z = B + o2 := ⟨_, rfl⟩
  obtain ⟨Wd, hWd⟩ : ∃ W, W = Z - F := ⟨_, rfl⟩
  have hX18 : 18 ≤ X := by omega
  have hZF : F + Wd = Z := by omega
  have hZM : Z ≤ M := by omega
  have hpart : (F = (lay q (rcN ss) j).length + 6 ∧ Wd = 8) ∨ (F = (lay q (rcN ss) j).length + 14 ∧ Wd = 4) ∨ (F = (lay q (rcN ss) j).length + 18 ∧ Wd = (rcN ss j).length) := by
    rw [← hB]; omega
  have e1 : (B : Int) + (o1 : Int) = (F : Int) := by omega
  have e2 : (B : Int) + (o2 : Int) = (Z : Int) := by omega
  have e3 : (Z : Int) - (F : Int) = (Wd : Int) := by omega
  have e4 : (E : Int) - (B : Int) = (X : Int) := by omega
  have hg1 : ∀ i, i < K → (ints (endsN q (rcN ss) K))[i]? = some (.int .i64 (((lay q (rcN ss) (i + 1)).length : Nat) : Int)) := fun i hi => ints_get hi
  have hgE : (ints (endsN q (rcN ss) K))[j]? = some (.int .i64 ((E : Nat) : Int)) := by rw [hE]; exact hg1 j hj
  have hgB : 0 < j → (ints (endsN q (rcN ss) K))[j - 1]? = some (.int .i64 ((B : Nat) : Int)) := fun h => by
    have h2 := hg1 (j - 1) (by omega)
    rw [show j - 1 + 1 = j by omega, ← hB] at h2; exact h2
  have hB0 : j = 0 → B = 0 := fun h => by rw [hB, h]; rfl
  have CL := Box.mk cl; have HGE := Box.mk hgE; have HGB := Box.mk hgB; have HP := Box.mk hpart; have HM := Box.mk hM; have HB := Box.mk hB; have HSA := Box.mk hsA; have HB0 := Box.mk hB0; have HO1 := Box.mk ho1; have HO2 := Box.mk ho2
  have d1 : decide ((j : Int) < 0) = false := by simp
  have d2 : decide ((K : Int) ≤ (j : Int)) = false := by simp; omega
  have d3 : decide ((pt : Int) < 0) = false := by simp
  have d4 : decide (2 < (pt : Int)) = false := by simp; omega
  have d5 : decide ((a : Int) < 0) = false := by simp
  have hFW : F + Wd ≤ M := by omega
  clear cl hg1 hgE hgB hpart hA hE hK hlk hpp ho1 ho2 hB0 hsA hM hB hX hF hZ hWd hEB hZF
  generalize ints (endsN q (rcN ss) K) = LE at *
  go_enter Tryd.func10, Tryd.ntmps10
  go_upto_if 55 with (first
      | (go_at_call 47; ((with_reducible refine CL.out.mono ?_); rintro e w1 ⟨v1, rfl, o1, b1⟩; obtain ⟨p1, k1, rfl⟩ := own_len o1; have B1 := Box.mk b1; have O1 := Box.mk o1; clear o1 b1))
      | (go_at_call 44; ((with_reducible refine (awake6_any _ (halves_below HH.out B1.out)).mono ?_); rintro e w2 ⟨rfl, b2⟩; have B2 := Box.mk (bch B1.out b2); have O2 := Box.mk (own_keep O1.out b2); clear b2)))
  have HO := Box.mk (O2.out)
  obtain ⟨g1, cap1, hv⟩ := O2.out.form (by omega)
  obtain ⟨rfl, _, rfl⟩ := Value.slice.inj hv.1
  clear hv
  go_cut [15] (fun s15 wx => s15 = .int .i64 (B : Int) ∧ w2 = wx)
  case first =>
    rcases Nat.eq_zero_or_pos j with h0 | h0
    · have hb := HB0.out h0
      subst h0
      subst hb
      go_wp2
      all_goals (go_meet; exact ⟨rfl, rfl⟩)
    · have hcb := O2.out.cellAt (j - 1) (by omega)
      rw [HGB.out h0] at hcb
      obtain ⟨i, rfl⟩ : ∃ i, j = i + 1 := ⟨j - 1, by omega⟩
      rw [Nat.add_sub_cancel] at hcb
      go_wp2
      all_goals (go_meet; exact ⟨rfl, rfl⟩)
  case rest =>
    obtain ⟨rfl, rfl⟩ := hcut
    have hws : (w2.alloc (.cells #[.int .i64 6, .int .i64 14, .int .i64 18] 3)).heap.size = w2.heap.size + 1 := by simp
    have f1 : (w2.alloc (.cells #[.int .i64 6, .int .i64 14, .int .i64 18] 3)).cell? ⟨w2.heap.size, pt, none⟩ = some (.int .i64 (o1 : Int)) := by
      rw [cell_of_row _ _ _ _ _ _ (heap_alloc_new w2 _), HO1.out]
      rcases (by omega : pt = 0 ∨ pt = 1 ∨ pt = 2) with rfl | rfl | rfl <;> rfl
    have f2 : ((w2.alloc (.cells #[.int .i64 6, .int .i64 14, .int .i64 18] 3)).alloc (.cells #[.int .i64 14, .int .i64 18, .int .i64 (X : Int)] 3)).cell? ⟨w2.heap.size + 1, pt, none⟩ = some (.int .i64 (o2 : Int)) := by
      rw [cell_of_row _ _ _ _ _ _ (heap_alloc2_new w2 _ _), HO2.out]
      rcases (by omega : pt = 0 ∨ pt = 1 ∨ pt = 2) with rfl | rfl | rfl <;> rfl
    have f3 : (w2.alloc (.cells #[.int .i64 6, .int .i64 14, .int .i64 18] 3)).cell? ⟨g1, j, none⟩ = some (.int .i64 (E : Int)) := by
      have h := (HO.out.alloc (.cells #[.int .i64 6, .int .i64 14, .int .i64 18] 3)).cellAt j (by omega)
      rw [h]; exact HGE.out
    have BW : Box (Below w.heap.size w ((w2.alloc (.cells #[.int .i64 6, .int .i64 14, .int .i64 18] 3)).alloc (.cells #[.int .i64 14, .int .i64 18, .int .i64 (X : Int)] 3))) := ⟨(B2.out.alloc B2.out.size _).alloc (by rw [hws]; have := B2.out.size; omega) _⟩
    obtain ⟨cap, W, hcv, hrow, hbW, hlt⟩ := str_row ((w2.alloc (.cells #[.int .i64 6, .int .i64 14, .int .i64 18] 3)).alloc (.cells #[.int .i64 14, .int .i64 18, .int .i64 (X : Int)] 3)) A
    have hgb : ((w2.alloc (.cells #[.int .i64 6, .int .i64 14, .int .i64 18] 3)).alloc (.cells #[.int .i64 14, .int .i64 18, .int .i64 (X : Int)] 3)).heap.size = w2.heap.size + 2 := by simp
    rw [hgb, sA] at hrow
    rw [hgb, sA] at hcv
    rw [HSA.out] at hrow
    have hbx : Below w.heap.size w W := bch BW.out hbW
    have HBX := Box.mk hbx; have HROW := Box.mk hrow
    have hgw : w.heap.size ≤ w2.heap.size + 2 := by have := B2.out.size; omega
    clear hbx hrow hbW hgb
    by_cases h8 : a < 8 * Wd
    · have d6 : decide (8 * (Wd : Int) ≤ (a : Int)) = false := by simp; omega
      obtain ⟨x, hx⟩ : ∃ x, x = m % 2 ^ (min 32 (8 * Wd - a)) := ⟨_, rfl⟩
      have hxl : x < 4294967296 := Nat.lt_of_le_of_lt (by rw [hx]; exact Nat.mod_le _ _) hm
      have hx2 : 2 ^ a * x < 2 ^ (8 * Wd) := by
        have h1 : x < 2 ^ (8 * Wd - a) := by
          rw [hx]
          refine Nat.lt_of_lt_of_le (Nat.mod_lt _ (Nat.pow_pos (by decide))) (Nat.pow_le_pow_right (by decide) (Nat.min_le_right _ _))
        have h2 : 2 ^ a * x < 2 ^ a * 2 ^ (8 * Wd - a) := Nat.mul_lt_mul_of_pos_left h1 (Nat.pow_pos (by decide))
        rwa [← Nat.pow_add, show a + (8 * Wd - a) = 8 * Wd by omega] at h2
      have HX := Box.mk hx; have HXL := Box.mk hxl; have HX2 := Box.mk hx2
      clear hx hxl hx2
      go_wp2_with fail
      go_loopw [19, 20] (fun ch i wr => ∃ (k : Nat) (l : List Nat) (c : Bool), k ≤ 32 ∧ i = .int .i64 k ∧ ch = .bool c ∧ RowB wr (w2.heap.size + 2) M l ∧ Below w.heap.size w wr ∧ Box (c = decide (brN m (8 * Wd - a) k ≠ 0) ∧ num 8 l = num 8 (lay q (rcN ss) K) ^^^ 2 ^ (8 * F + a) * brN m (8 * Wd - a) k ∧ ∀ d ∈ l, d < 2 ^ 8)) (fun _ i _ => 32 - (intOf i).toNat)
      case atStart =>
        refine ⟨0, lay q (rcN ss) K, false, by omega, rfl, rfl, HROW.out, HBX.out, ⟨?_, ?_, lay_lt (rcN_lt ss) K⟩⟩
        · simp [brN, Nat.mod_one]
        · simp [brN, Nat.mod_one]
      case round =>
        obtain ⟨k, l, c, hk, rfl, rfl, hrow, hb, hB⟩ := hrel
        clear f1 f2 f3 hcv hlt
        by_cases hlt : k < 32
        · by_cases h2 : a + k < 8 * Wd
          · have r1 := bit_math32 (k := k) hm
            by_cases h1 : m / 2 ^ k % 2 = 1
            · rw [decide_eq_true h1] at r1
              obtain ⟨y, hy⟩ : ∃ y, y = a + k := ⟨_, rfl⟩
              obtain ⟨p, hp⟩ : ∃ p, p = F + y / 8 := ⟨_, rfl⟩
              obtain ⟨z8, hq8⟩ : ∃ z, z = y % 8 := ⟨_, rfl⟩
              have hpl : p < M := by omega
              have hqq8 : z8 < 8 := by omega
              have hcell := hrow.cell p hpl
              have hfz := hrow.free p hpl
              have hdl : l.getD p 0 < 256 := by
                have := hB.out.2.2 (l.getD p 0) (getD_mem (by rw [hrow.len]; exact hpl))
                omega
              have hset := hrow.set p (l.getD p 0 ^^^ 2 ^ z8) hpl
              have hnum := num_set l p z8 hB.out.2.2 (by rw [hrow.len]; exact hpl) hqq8
              have hxl : l.getD p 0 ^^^ 2 ^ z8 < 2 ^ 8 := Nat.xor_lt_two_pow (by omega) (Nat.pow_lt_pow_right (by decide) hqq8)
              have hall := set_lt (p := p) hB.out.2.2 hxl
              have hst := brN_step (bits := m) (show k < 8 * Wd - a by omega)
              rw [h1, Nat.mul_one] at hst
              have hne := brN_ne (bits := m) (show k < 8 * Wd - a by omega) h1
              have hnum2 : num 8 (l.set p (l.getD p 0 ^^^ 2 ^ z8)) = num 8 (lay q (rcN ss) K) ^^^ 2 ^ (8 * F + a) * brN m (8 * Wd - a) (k + 1) := by
                rw [hnum, hB.out.2.1, hst, mul_pow_xor, ← Nat.pow_add, Nat.xor_assoc, show 8 * p + z8 = 8 * F + a + k by omega]
              have hx8 : bits BinOp.xor IntKind.u8 ((l.getD p 0 : Nat) : Int) ((2 ^ z8 : Nat) : Int) = ((l.getD p 0 ^^^ 2 ^ z8 : Nat) : Int) := u8_xor_nat _ _ hdl (by have := Nat.pow_lt_pow_right (show 1 < 2 by decide) hqq8; omega)
              have hsh : (2 : Int) ^ z8 = ((2 ^ z8 : Nat) : Int) := ipow z8
              have hpw : 2 ^ z8 < 256 := by have := Nat.pow_lt_pow_right (show 1 < 2 by decide) hqq8; omega
              have HN := Box.mk hnum2
              have HA := Box.mk hall
              have HE := Box.mk hne
              have HS := Box.mk hset
              clear hst hnum hnum2 hall hne hset hxl
              generalize l.set p (l.getD p 0 ^^^ 2 ^ z8) = l2 at *
              generalize l.getD p 0 ^^^ 2 ^ z8 = x8 at *
              generalize l.getD p 0 = d at *
              generalize 2 ^ z8 = z at *
              have s1 : IntKind.i64.wrap ((a : Int) + (k : Int)) = (y : Int) := by rw [IntWalk.i64_in _ (by omega)]; omega
              have dk : decide ((y : Int) < 8 * (Wd : Int)) = true := by simp; omega
              have s2 : (y : Int).tdiv 8 = ((y / 8 : Nat) : Int) := by rw [Int.tdiv_eq_ediv_of_nonneg (by omega)]; omega
              have s5 : (F : Int) + ((y / 8 : Nat) : Int) = (p : Int) := by omega
              have s6 : (F : Int) + (y : Int) / 8 = (p : Int) := by omega
              have s7 : F + y / 8 = p := hp.symm
              have s3 : (y : Int).tmod 8 = (z8 : Int) := by rw [IntWalk.rem_in _ _ (by omega)]; omega
              have s4 : (y : Int) % 8 = (z8 : Int) := by omega
              have hy64 : y ≤ 4800 := by omega
              have hp64 : p ≤ 4800 := by omega
              clear hy hq8 h1 hrow hp h2 h8 d6
              go_wp2_with fail
              go_region
              go_wp2
              go_roundw
              case rel => exact ⟨k + 1, l2, true, by omega, by go_num, rfl, HS.out.drew, (hb.setCell hgw _).drew, ⟨(decide_eq_true HE.out).symm, HN.out, HA.out⟩⟩
              case measure => simp [intOf]; omega
            · rw [decide_eq_false h1] at r1
              have hsk : brN m (8 * Wd - a) (k + 1) = brN m (8 * Wd - a) k := by
                rw [brN_step (show k < 8 * Wd - a by omega), show m / 2 ^ k % 2 = 0 by omega, Nat.mul_zero, Nat.xor_zero]
              rw [← hsk] at hB
              have dk : decide ((a : Int) + (k : Int) < 8 * (Wd : Int)) = true := by simp; omega
              clear hsk h1 h8 d6
              go_wp2
              go_roundw
              case rel => exact ⟨k + 1, l, c, by omega, by go_num, rfl, hrow, hb, hB⟩
              case measure => simp [intOf]; omega
          · have dk : decide ((a : Int) + (k : Int) < 8 * (Wd : Int)) = false := by simp; omega
            have hconv := conv_row (cap := cap) hrow
            have hlenl : l.length = (lay q (rcN ss) K).length := by rw [hrow.len, HM.out]
            have hX : brN m (8 * Wd - a) k = x := by rw [HX.out]; unfold brN; first | (with_reducible rfl) | (congr 2; omega)
            have hB2 := hB.out
            rw [hX] at hB2
            have hsz : (bs l).size ≤ 1000000 := by rw [bs_size, hrow.len]; omega
            have c3 := scan_any (bs l) hsz q hq wr (halves_below HH.out hb)
            rw [sb_bs _ hB2.2.2] at c3
            rcases Nat.eq_zero_or_pos x with hx0 | hx0
            · have hc : c = false := by rw [hB2.1, hx0]; rfl
              subst hc
              have hll : l = lay q (rcN ss) K := num_inj8 hlenl hB2.2.2 (lay_lt (rcN_lt ss) K) (by rw [hB2.2.1, hx0, Nat.mul_zero, Nat.xor_zero])
              have hs := scan_lay hq (rcN_length ss) K []
              rw [List.append_nil, scan_none, ← hll] at hs
              rw [hs] at c3
              simp only [List.append_nil, Nat.add_zero, hlenl, ← HM.out] at c3
              generalize bs l = S at *
              have C3 := Box.mk c3
              clear c3 hs hll hB2 hB hrow hlenl hX hsz
              go_wp2_with (first
                | (go_at_call 41; ((with_reducible refine C3.out.mono ?_); rintro e w3 ⟨v3, rfl, o3, b3⟩; obtain ⟨p3, k3, rfl⟩ := own_len o3; have B3 := Box.mk (bch hb b3); clear b3 o3))
                | (go_at_call 44; ((with_reducible refine (awake6_any _ (halves_below HH.out B3.out)).mono ?_); rintro e w4 ⟨rfl, b4⟩; have B4 := Box.mk (bch B3.out b4); clear b4)))
              go_ret
              exact ⟨rfl, B4.out⟩
            · have hc : c = true := by rw [hB2.1]; exact decide_eq_true (by omega)
              subst hc
              have hs := scan_bent hq (rcN_length ss) (rcN_lt ss) hj HP.out (by omega) HXL.out HX2.out (by omega) hB2.2.2 hlenl hB2.2.1
              rw [hs] at c3
              have hLs : ((List.range j).map (rcN ss)).length = j := by simp
              rw [hLs, ← HB.out] at c3
              generalize bs l = S at *
              have C3 := Box.mk c3
              clear c3 hs hB2 hB hrow hlenl hX hsz hLs
              go_wp2_with (first
                | (go_at_call 41; ((with_reducible refine C3.out.mono ?_); rintro e w3 ⟨v3, rfl, o3, b3⟩; obtain ⟨p3, k3, rfl⟩ := own_len o3; have B3 := Box.mk (bch hb b3); clear b3 o3))
                | (go_at_call 44; ((with_reducible refine (awake6_any _ (halves_below HH.out B3.out)).mono ?_); rintro e w4 ⟨rfl, b4⟩; have B4 := Box.mk (bch B3.out b4); clear b4)))
              go_ret
              exact ⟨rfl, B4.out⟩
        · obtain rfl : k = 32 := by omega
          have hconv := conv_row (cap := cap) hrow
          have hlenl : l.length = (lay q (rcN ss) K).length := by rw [hrow.len, HM.out]
          have hX : brN m (8 * Wd - a) 32 = x := by rw [HX.out]; unfold brN; first | (with_reducible rfl) | (congr 2; omega)
          have hB2 := hB.out
          rw [hX] at hB2
          have hsz : (bs l).size ≤ 1000000 := by rw [bs_size, hrow.len]; omega
          have c3 := scan_any (bs l) hsz q hq wr (halves_below HH.out hb)
          rw [sb_bs _ hB2.2.2] at c3
          rcases Nat.eq_zero_or_pos x with hx0 | hx0
          · have hc : c = false := by rw [hB2.1, hx0]; rfl
            subst hc
            have hll : l = lay q (rcN ss) K := num_inj8 hlenl hB2.2.2 (lay_lt (rcN_lt ss) K) (by rw [hB2.2.1, hx0, Nat.mul_zero, Nat.xor_zero])
            have hs := scan_lay hq (rcN_length ss) K []
            rw [List.append_nil, scan_none, ← hll] at hs
            rw [hs] at c3
            simp only [List.append_nil, Nat.add_zero, hlenl, ← HM.out] at c3
            generalize bs l = S at *
            have C3 := Box.mk c3
            clear c3 hs hll hB2 hB hrow hlenl hX hsz
            go_wp2_with (first
              | (go_at_call 41; ((with_reducible refine C3.out.mono ?_); rintro e w3 ⟨v3, rfl, o3, b3⟩; obtain ⟨p3, k3, rfl⟩ := own_len o3; have B3 := Box.mk (bch hb b3); clear b3 o3))
              | (go_at_call 44; ((with_reducible refine (awake6_any _ (halves_below HH.out B3.out)).mono ?_); rintro e w4 ⟨rfl, b4⟩; have B4 := Box.mk (bch B3.out b4); clear b4)))
            go_ret
            exact ⟨rfl, B4.out⟩
          · have hc : c = true := by rw [hB2.1]; exact decide_eq_true (by omega)
            subst hc
            have hs := scan_bent hq (rcN_length ss) (rcN_lt ss) hj HP.out (by omega) HXL.out HX2.out (by omega) hB2.2.2 hlenl hB2.2.1
            rw [hs] at c3
            have hLs : ((List.range j).map (rcN ss)).length = j := by simp
            rw [hLs, ← HB.out] at c3
            generalize bs l = S at *
            have C3 := Box.mk c3
            clear c3 hs hB2 hB hrow hlenl hX hsz hLs
            go_wp2_with (first
              | (go_at_call 41; ((with_reducible refine C3.out.mono ?_); rintro e w3 ⟨v3, rfl, o3, b3⟩; obtain ⟨p3, k3, rfl⟩ := own_len o3; have B3 := Box.mk (bch hb b3); clear b3 o3))
              | (go_at_call 44; ((with_reducible refine (awake6_any _ (halves_below HH.out B3.out)).mono ?_); rintro e w4 ⟨rfl, b4⟩; have B4 := Box.mk (bch B3.out b4); clear b4)))
            go_ret
            exact ⟨rfl, B4.out⟩
    · have d6 : decide (8 * (Wd : Int) ≤ (a : Int)) = true := by simp; omega
      go_wp2_with (go_at_call 44; ((with_reducible refine (awake6_any _ (halves_below HH.out BW.out)).mono ?_); rintro e w3 ⟨rfl, b3⟩; have B3 := Box.mk (bch BW.out b3); clear b3))
      go_ret
      exact ⟨rfl, B3.out⟩

theorem frameBent_walk (p : Option Addr) (n c : Nat) (ss : Nat → ByteArray) (q : Nat) (wh pt a : Int) (m : Nat) (hq : q < 18446744073709551616) (hm : m < 4294967296) (hn : n ≤ 9223372036854775807) (ha : a ≤ 9223372036854775807) (w : World) (hH : Halves w) (hI : SIn w (.slice p n c) n ss) :
    Calls Tryd.prog 10 #[.slice p n c, .int .u64 q, .int .i64 wh, .int .i64 pt, .int .i64 a, .int .u32 m] w fun e w' => e = .returned (.bool true) ∧ Below w.heap.size w w' := by
  by_cases ho : wh < 0 ∨ ((min n 6 : Nat) : Int) ≤ wh ∨ pt < 0 ∨ 2 < pt ∨ a < 0
  · exact frameBent_out p n c ss q wh pt a m hq hn w hH hI ho
  · obtain ⟨j, rfl⟩ : ∃ j : Nat, wh = j := ⟨wh.toNat, by omega⟩
    obtain ⟨t, rfl⟩ : ∃ t : Nat, pt = t := ⟨pt.toNat, by omega⟩
    obtain ⟨b, rfl⟩ : ∃ b : Nat, a = b := ⟨a.toNat, by omega⟩
    exact frameBent_in p n c ss q j t b m hq hm hn (by omega) w hH hI (by omega) (by omega)
end Go.Proofs.YtdhbeeeofaheeaaDoor
