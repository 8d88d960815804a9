/- The law of bursts: the walk. -/
import Derived.Test.YtemghjjgmjhcnaaDoorCrcD
namespace Go.Proofs.YtemghjjgmjhcnaaDoor
open Go.RowKit M

theorem bit_math32 {v k : Nat} (hv : v < 4294967296) : (bits BinOp.and IntKind.u32 ((v : Int) / 2 ^ k) 1 == 1) = decide (v / 2 ^ k % 2 = 1) := by
  rw [ipow, ← Int.natCast_ediv, and32_1 (Nat.lt_of_le_of_lt (Nat.div_le_self _ _) hv), Bool.eq_iff_iff]
  simp only [beq_iff_eq, decide_eq_true_eq]; omega

set_option maxRecDepth 100000 in
set_option maxHeartbeats 1000000 in
theorem crcBursts_in (s0 : ByteArray) (a m : Nat) (hm : m < 4294967296) (hin : a < 8 * (s0.extract 0 600).size) (w : World) (hH : Halves w) :
    Calls Tryd.prog 10 #[.string s0, .int .i64 a, .int .u32 m] w fun e w' => e = .returned (.bool true) ∧ Below w.heap.size w w' := by
  have HH := Box.mk hH; clear hH
  obtain ⟨s, hs⟩ : ∃ t, t = s0.extract 0 600 := ⟨_, rfl⟩
  have hss : s.size ≤ 600 := by rw [hs]; exact cut_size s0 600
  have c0 : ∀ w, Calls Tryd.prog 35 #[.string s0, .int .i64 600] w fun e w' => e = .returned (.string s) ∧ w = w' := fun w => by
    have h := cut_any s0 600 w
    rw [← hs] at h; exact h
  rw [← hs] at hin
  have C0 := Box.mk c0
  clear c0 hs
  obtain ⟨cap, W, hcv, hrow, hbW, hlt⟩ := str_row w s
  have HROW := Box.mk hrow; clear hrow
  have d1 : decide ((a : Int) < 0) = false := by simp
  have d2 : decide (8 * (s.size : Int) ≤ (a : Int)) = false := by simp; omega
  go_enter Tryd.func10, Tryd.ntmps10
  go_wp2_with (first
    | (go_at_call 35; ((with_reducible refine (C0.out _).mono ?_); rintro e w' ⟨rfl, rfl⟩)))
  go_loopw [8, 9] (fun ch i wr => ∃ (k : Nat) (l : List Nat) (c : Bool), k ≤ 32 ∧ i = .int .i64 k ∧ ch = .bool c ∧ RowB wr w.heap.size s.size l ∧ Below w.heap.size w wr ∧ Box (c = decide (brN m (8 * s.size - a) k ≠ 0) ∧ num 8 l = num 8 (sb s) ^^^ 2 ^ a * brN m (8 * s.size - a) k ∧ ∀ d ∈ l, d < 2 ^ 8)) (fun _ i _ => 32 - (intOf i).toNat)
  case atStart =>
    refine ⟨0, sb s, false, by omega, rfl, rfl, HROW.out, hbW, ⟨?_, ?_, sb_lt s⟩⟩
    · simp [brN, Nat.mod_one]
    · simp [brN, Nat.mod_one]
  case round =>
    obtain ⟨k, l, c, hk, rfl, rfl, hrow, hb, hB⟩ := hrel
    by_cases hlt : k < 32
    · have r1 := bit_math32 (k := k) hm
      by_cases h1 : m / 2 ^ k % 2 = 1
      · rw [decide_eq_true h1] at r1
        by_cases h2 : a + k < 8 * s.size
        · obtain ⟨y, hy⟩ : ∃ y, y = a + k := ⟨_, rfl⟩
          obtain ⟨p, hp⟩ : ∃ p, p = y / 8 := ⟨_, rfl⟩
          obtain ⟨q, hq⟩ : ∃ q, q = y % 8 := ⟨_, rfl⟩
          have hpl : p < s.size := by omega
          have hq8 : q < 8 := by omega
          have hcell := hrow.cell p hpl
          have hfz := hrow.free p hpl
          have hdl : l.getD p 0 < 256 := by
            have := hB.out.2.2 (l.getD p 0) (getD_mem (by rw [hrow.len]; exact hpl))
            omega
          have hset := hrow.set p (l.getD p 0 ^^^ 2 ^ q) hpl
          have hnum := num_set l p q hB.out.2.2 (by rw [hrow.len]; exact hpl) hq8
          have hxl : l.getD p 0 ^^^ 2 ^ q < 2 ^ 8 := Nat.xor_lt_two_pow (by omega) (Nat.pow_lt_pow_right (by decide) hq8)
          have hall := set_lt (p := p) hB.out.2.2 hxl
          have hst := brN_step (bits := m) (show k < 8 * s.size - a by omega)
          rw [h1, Nat.mul_one] at hst
          have hne := brN_ne (bits := m) (show k < 8 * s.size - a by omega) h1
          have hnum2 : num 8 (l.set p (l.getD p 0 ^^^ 2 ^ q)) = num 8 (sb s) ^^^ 2 ^ a * brN m (8 * s.size - a) (k + 1) := by
            rw [hnum, hB.out.2.1, hst, mul_pow_xor, ← Nat.pow_add, Nat.xor_assoc, show 8 * p + q = a + k by omega]
          have hx8 : bits BinOp.xor IntKind.u8 ((l.getD p 0 : Nat) : Int) ((2 ^ q : Nat) : Int) = ((l.getD p 0 ^^^ 2 ^ q : Nat) : Int) := u8_xor_nat _ _ hdl (by have := Nat.pow_lt_pow_right (show 1 < 2 by decide) hq8; omega)
          have hsh : (2 : Int) ^ q = ((2 ^ q : Nat) : Int) := ipow q
          have hpw : 2 ^ q < 256 := by have := Nat.pow_lt_pow_right (show 1 < 2 by decide) hq8; omega
          have HN := Box.mk hnum2
          have HA := Box.mk hall
          have HE := Box.mk hne
          have HS := Box.mk hset
          clear hst hnum hnum2 hall hne hset hxl
          generalize l.set p (l.getD p 0 ^^^ 2 ^ q) = l2 at *
          generalize l.getD p 0 ^^^ 2 ^ q = x at *
          generalize l.getD p 0 = d at *
          generalize 2 ^ q = z at *
          have s1 : IntKind.i64.wrap ((a : Int) + (k : Int)) = (y : Int) := by rw [IntWalk.i64_in _ (by omega)]; omega
          have s3 : (y : Int).tmod 8 = (q : Int) := by rw [IntWalk.rem_in _ _ (by omega)]; omega
          have s4 : (y : Int) % 8 = (q : Int) := by omega
          have d3 : decide ((y : Int) < 8 * (s.size : Int)) = true := by simp; omega
          have hy64 : y ≤ 4800 := by omega
          subst hp
          clear hy hq h1 hrow
          go_wp2_with fail
          go_region
          go_wp2
          go_roundw
          case rel => exact ⟨k + 1, l2, true, by omega, by go_num, rfl, HS.out.drew, (hb.setCell (Nat.le_refl _) _).drew, ⟨(decide_eq_true HE.out).symm, HN.out, HA.out⟩⟩
          case measure => simp [intOf]; omega
        · have d3 : decide ((a : Int) + (k : Int) < 8 * (s.size : Int)) = false := by simp; omega
          have hsk := brN_skip (bits := m) (show ¬ k < 8 * s.size - a by omega)
          rw [← hsk] at hB
          clear hsk h1
          go_wp2
          go_roundw
          case rel => exact ⟨k + 1, l, c, by omega, by go_num, rfl, hrow, hb, hB⟩
          case measure => simp [intOf]; omega
      · rw [decide_eq_false h1] at r1
        have hsk : brN m (8 * s.size - a) (k + 1) = brN m (8 * s.size - a) k := by
          by_cases h2 : k < 8 * s.size - a
          · rw [brN_step h2, show m / 2 ^ k % 2 = 0 by omega, Nat.mul_zero, Nat.xor_zero]
          · exact brN_skip h2
        rw [← hsk] at hB
        clear hsk h1
        go_wp2
        go_roundw
        case rel => exact ⟨k + 1, l, c, by omega, by go_num, rfl, hrow, hb, hB⟩
        case measure => simp [intOf]; omega
    · obtain rfl : k = 32 := by omega
      have hconv := conv_row (cap := cap) hrow
      have hlen : l.length = (sb s).length := by rw [hrow.len, sb_length]
      have hml : brN m (8 * s.size - a) 32 < 4294967296 := Nat.lt_of_le_of_lt (Nat.mod_le _ _) hm
      have htold := burst_told hlen (sb_lt s) hB.out.2.2 (by rw [sb_length]; exact hin) hml hB.out.2.1
      have hsz : (bs l).size ≤ 9223372036854775807 := by rw [bs_size, hrow.len]; omega
      have hH2 := halves_below HH.out hb
      have c1 := crcOf_any (bs l) hsz wr hH2
      rw [sb_bs l hB.out.2.2] at c1
      have c2 := crcOf_any s (by omega) wr hH2
      have ht : ((((ofN l : Nat) : Int) != ((ofN (sb s) : Nat) : Int)) == c) = true := by
        rw [hB.out.1, beq_iff_eq, Bool.eq_iff_iff]
        simp only [bne_iff_ne, decide_eq_true_eq]
        rw [← htold]
        omega
      generalize ofN l = X at *
      generalize ofN (sb s) = Y at *
      generalize bs l = S at *
      have H2 := Box.mk hH2
      have C1 := Box.mk c1
      have C2 := Box.mk c2
      clear c1 c2 hH2 htold hml hlen hrow hB hsz
      go_wp2_with (first
        | (go_at_call 46; refine (awake2_any _ H2.out).mono ?_; rintro e w' ⟨rfl, rfl⟩)
        | (go_at_call 47; ((with_reducible refine (C1.out).mono ?_); rintro e w' ⟨rfl, rfl⟩))
        | (go_at_call 47; ((with_reducible refine (C2.out).mono ?_); rintro e w' ⟨rfl, rfl⟩)))
      go_ret
      exact ⟨rfl, hb⟩

set_option maxHeartbeats 1000000 in
theorem crcBursts_walk (s0 : ByteArray) (a : Int) (m : Nat) (hm : m < 4294967296) (w : World) (hH : Halves w) :
    Calls Tryd.prog 10 #[.string s0, .int .i64 a, .int .u32 m] w fun e w' => e = .returned (.bool true) ∧ Below w.heap.size w w' := by
  by_cases h : 0 ≤ a ∧ a < 8 * (s0.extract 0 600).size
  · obtain ⟨b, rfl⟩ := Int.eq_ofNat_of_zero_le h.1
    exact crcBursts_in s0 b m hm (by omega) w hH
  · have HH := Box.mk hH; clear hH
    obtain ⟨s, hs⟩ : ∃ t, t = s0.extract 0 600 := ⟨_, rfl⟩
    have hss : s.size ≤ 600 := by rw [hs]; exact cut_size s0 600
    have c0 : ∀ w, Calls Tryd.prog 35 #[.string s0, .int .i64 600] w fun e w' => e = .returned (.string s) ∧ w = w' := fun w => by
      have h := cut_any s0 600 w
      rw [← hs] at h; exact h
    rw [← hs] at h
    have C0 := Box.mk c0
    clear c0 hs
    have hc : decide (a < 0) = true ∨ (decide (a < 0) = false ∧ decide (8 * (s.size : Int) ≤ a) = true) := by
      by_cases h1 : a < 0
      · exact .inl (by simpa using h1)
      · exact .inr ⟨by simpa using h1, by simp; omega⟩
    clear h
    rcases hc with d1 | ⟨d1, d2⟩
    all_goals
      go_enter Tryd.func10, Tryd.ntmps10
      go_wp2_with (first
        | (go_at_call 35; ((with_reducible refine (C0.out _).mono ?_); rintro e w' ⟨rfl, rfl⟩))
        | (go_at_call 46; refine (awake2_any _ HH.out).mono ?_; rintro e w' ⟨rfl, rfl⟩))
      go_ret
      exact ⟨rfl, Below.refl _ _⟩
end Go.Proofs.YtemghjjgmjhcnaaDoor
