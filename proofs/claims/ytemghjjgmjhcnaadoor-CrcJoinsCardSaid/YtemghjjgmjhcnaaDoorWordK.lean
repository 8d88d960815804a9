/- Contracts of ordealref01: fields that are laid; numbers that are turned and moved. -/
import Derived.Test.YtemghjjgmjhcnaaDoorWordJ
namespace Go.Proofs.YtemghjjgmjhcnaaDoor
open Go.RowKit M

/-- v's bits, but from a on (so many as i) those of x -/
def lyf (v x a i : Nat) : Nat → Nat := fun j => if a ≤ j ∧ j < a + i then x / 2 ^ (j - a) % 2 else v / 2 ^ j % 2
theorem lyf_zero (v x a : Nat) : fl (lyf v x a 0) = bl 64 v := by
  rw [fl_bl]; apply fl_congr; intro i _; unfold lyf; rw [if_neg (by omega)]
theorem lyf_step (v x a i : Nat) : (fun j => if j = a + i then x / 2 ^ i % 2 else lyf v x a i j) = lyf v x a (i + 1) := by
  funext j; unfold lyf
  by_cases h : j = a + i
  · subst h; rw [if_pos rfl, if_pos (by omega), show a + i - a = i by omega]
  · rw [if_neg h]
    by_cases h2 : a ≤ j ∧ j < a + i
    · rw [if_pos h2, if_pos (by omega)]
    · rw [if_neg h2, if_neg (by omega)]
theorem lyf_le (v x a i j : Nat) : lyf v x a i j ≤ 1 := by unfold lyf; split <;> omega

/-- so many bits are laid -/
def lyc (a n : Int) : Nat := if 0 ≤ a ∧ a < 64 then min (cl n) (64 - a.toNat) else 0

theorem mask_tb {a n i : Nat} (hn : n ≤ 64) (hi : i < 64) : (18446744073709551615 % 2 ^ n * 2 ^ a % 18446744073709551616).testBit i = decide (a ≤ i ∧ i < a + n) := by
  rw [show (18446744073709551616 : Nat) = 2 ^ 64 by rw [p64], Nat.testBit_mod_two_pow, Nat.mul_comm, Nat.testBit_two_pow_mul, Nat.testBit_mod_two_pow, show (18446744073709551615 : Nat) = 2 ^ 64 - 1 by rw [p64], Nat.testBit_two_pow_sub_one]
  by_cases h1 : a ≤ i
  · by_cases h2 : i < a + n
    · simp [hi, h1, h2]; omega
    · simp [hi, h2]; omega
  · simp [h1]

theorem lay_val {v x : Nat} (hv : v < 18446744073709551616) (a n : Int) : val (fl (lyf v x a.toNat (lyc a n))) = layN v a n x := by
  unfold layN lyc
  by_cases ha : 0 ≤ a ∧ a < 64
  · rw [if_pos ha, if_pos ha]
    have hcl : cl n ≤ 64 := by rcases cl_cases n with ⟨_, e⟩ | ⟨_, e⟩ | ⟨k, _, hk, e⟩ <;> omega
    have hm : maskN a n < 18446744073709551616 := Nat.mod_lt _ (by decide)
    have ha' : a.toNat < 64 := by omega
    refine val_fl (fun i _ => lyf_le _ _ _ _ i) ?_ (fun i hi => ?_)
    · rw [← p64]; exact Nat.or_lt_two_pow (Nat.lt_of_le_of_lt Nat.and_le_left (by rw [p64]; exact hv)) (Nat.lt_of_le_of_lt Nat.and_le_right (by rw [p64]; exact hm))
    · have e1 : 18446744073709551615 - maskN a n = 2 ^ 64 - (maskN a n + 1) := by rw [p64]; omega
      rw [Nat.testBit_or, Nat.testBit_and, Nat.testBit_and, e1, Nat.testBit_two_pow_sub_succ (by rw [p64]; exact hm)]
      have e2 : (maskN a n).testBit i = decide (a.toNat ≤ i ∧ i < a.toNat + cl n) := mask_tb hcl hi
      rw [e2]
      unfold lyf
      by_cases h : a.toNat ≤ i ∧ i < a.toNat + cl n
      · rw [if_pos ⟨h.1, by omega⟩]
        have e3 : (x * 2 ^ a.toNat % 18446744073709551616).testBit i = x.testBit (i - a.toNat) := by
          rw [show (18446744073709551616 : Nat) = 2 ^ 64 by rw [p64], Nat.testBit_mod_two_pow, Nat.mul_comm, Nat.testBit_two_pow_mul]
          simp [hi, h.1]
        rw [e3, bit_tb]
        simp [h, hi]
      · rw [if_neg (by omega), bit_tb, decide_eq_false h]
        simp [hi]
  · rw [if_neg ha, if_neg ha]
    rw [show fl (lyf v x a.toNat 0) = bl 64 v from lyf_zero _ _ _, val_bl]
    exact Nat.mod_eq_of_lt (by rw [p64]; exact hv)

/-- what is owned stays owned where only other blocks have turned -/
theorem own_below {w w' : World} {B e z g cap n C : Nat} {xs : List Value} (h : w.ownsRow B e z (.slice (some ⟨g, 0, none⟩) n cap) n xs) (hb : Below C w w') (hg : g < C) : w'.ownsRow B e z (.slice (some ⟨g, 0, none⟩) n cap) n xs := by
  refine ⟨h.1, ?_⟩
  rcases h.2 with hn | ⟨g', cap', cur, hv, hB, hgg, rest⟩
  · exact .inl hn
  · simp only [Value.slice.injEq, Option.some.injEq, Addr.mk.injEq, and_true, true_and] at hv
    obtain ⟨rfl, rfl⟩ := hv
    exact .inr ⟨g, cap, cur, rfl, hB, by rw [hb.block g hg]; exact hgg, rest⟩

/-- where the loop of Lay ends -/
theorem lay_end {b i : Nat} {n : Int} (hb : b < 64) (hi : i ≤ lyc (b : Int) n) (h : ¬ i < lyc (b : Int) n) : (decide ((i : Int) < 64) = false) ∨ (decide ((i : Int) < 64) = true ∧ decide ((i : Int) < n) = false) ∨
    (decide ((i : Int) < 64) = true ∧ decide ((i : Int) < n) = true ∧ decide ((b : Int) < 64 - (i : Int)) = false) := by
  unfold lyc at hi h
  rw [if_pos (by omega)] at hi h
  by_cases h1 : (i : Int) < 64
  · by_cases h2 : (i : Int) < n
    · refine .inr (.inr ⟨by simpa using h1, by simpa using h2, ?_⟩)
      simp
      rcases cl_cases n with ⟨_, e⟩ | ⟨_, e⟩ | ⟨k, _, hk, e⟩ <;> omega
    · exact .inr (.inl ⟨by simpa using h1, by simpa using h2⟩)
  · exact .inl (by simpa using h1)
theorem lay_go {b i : Nat} {n : Int} (hb : b < 64) (h : i < lyc (b : Int) n) : i < 64 ∧ (i : Int) < n ∧ b + i < 64 := by
  unfold lyc at h
  rw [if_pos (by omega)] at h
  rcases cl_cases n with ⟨_, e⟩ | ⟨_, e⟩ | ⟨k, _, hk, e⟩ <;> omega

set_option maxRecDepth 100000 in
set_option maxHeartbeats 1000000 in
theorem refLay_in (v : Nat) (b : Nat) (n : Int) (x : Nat) (hv : v < 18446744073709551616) (hx : x < 18446744073709551616) (hb64 : b < 64) (w : World) :
    Calls Tryd.prog 24 #[.int .u64 v, .int .i64 b, .int .i64 n, .int .u64 x] w fun e w' => e = .returned (.int .u64 (layN v b n x : Nat)) ∧ Below w.heap.size w w' := by
  have hfin := lay_val (x := x) hv (b : Int) n
  simp only [Int.toNat_natCast] at hfin
  have HF := Box.mk hfin; clear hfin
  obtain ⟨c, hc⟩ : ∃ c, c = lyc (b : Int) n := ⟨_, rfl⟩
  have hc64 : c ≤ 64 := by rw [hc]; unfold lyc; split <;> omega
  have HC := Box.mk hc; clear hc
  have d3 : decide (0 ≤ (b : Int)) = true := by simp
  go_enter Tryd.func24, Tryd.ntmps24
  go_wp2_with fail
  refine (bits_any v hv w).mono ?_
  rintro e w1 ⟨g, cap, rfl, hcap, hg, hown, hb⟩
  have HO := Box.mk hown; clear hown
  go_wp2_with fail
  refine (bits_any x hx w1).mono ?_
  rintro e w2 ⟨g2, cap2, rfl, hcap2, hg2, hown2, hb2⟩
  have HO2 := Box.mk hown2; clear hown2
  have HB := Box.mk hb; clear hb
  have HB2 := Box.mk hb2; clear hb2
  have hg3 : g < w1.heap.size := ((HO.out).lt g rfl).2
  go_wp2_with fail
  go_loopw [11] (fun i wr => ∃ j : Nat, j ≤ c ∧ i = .int .i64 j ∧ wr.ownsRow w.heap.size 3 1 (.slice (some ⟨g, 0, none⟩) 64 cap) 64 (ints (fl (lyf v x b j))) ∧ wr.ownsRow w1.heap.size 3 1 (.slice (some ⟨g2, 0, none⟩) 64 cap2) 64 (ints (fl fun i => x / 2 ^ i % 2)) ∧ Below w.heap.size w wr) (fun i _ => c - (intOf i).toNat)
  case atStart =>
    refine ⟨0, by omega, rfl, ?_, ?_, (HB.out).trans ((HB2.out).mono (HB.out).size)⟩
    · rw [lyf_zero]
      exact own_below HO.out HB2.out hg3
    · rw [← fl_bl]; exact HO2.out
  case round =>
    obtain ⟨j, hj, rfl, hown, hown2, hb⟩ := hrel
    by_cases hlt : j < c
    · have hl := lay_go hb64 (show j < lyc (b : Int) n by rw [← HC.out]; exact hlt)
      obtain ⟨hl1, hl2, hl3⟩ := hl
      have d1 : decide ((j : Int) < 64) = true := by simp; omega
      have d2 : decide ((j : Int) < n) = true := by simpa using hl2
      have d4 : decide ((b : Int) < 64 - (j : Int)) = true := by simp; omega
      have hcell := own_at hown2 j hl1
      have hcell2 := own_at hown (b + j) hl3
      have hfz := hown.frozenAt (b + j)
      have hst := own_store hown (b + j) (x / 2 ^ j % 2)
      rw [fl_set, lyf_step] at hst
      have hst2 : (wr.setCell ⟨g, b + j, none⟩ (.int .i64 ((x / 2 ^ j % 2 : Nat) : Int))).ownsRow w1.heap.size 3 1 (.slice (some ⟨g2, 0, none⟩) 64 cap2) 64 (ints (fl fun i => x / 2 ^ i % 2)) := ownsRow_setCell_below hown2 (by exact hg3) _
      obtain ⟨y, hy⟩ : ∃ y, y = x / 2 ^ j % 2 := ⟨_, rfl⟩
      rw [← hy] at hcell hst hst2
      clear hy
      have HST := Box.mk hst; clear hst
      have HST2 := Box.mk hst2; clear hst2
      clear hown hown2
      go_wp2
      go_roundw
      case rel => exact ⟨j + 1, by omega, by go_num, HST.out, HST2.out, hb.setCell hg _⟩
      case measure => simp [intOf]; omega
    · have he := lay_end hb64 (show j ≤ lyc (b : Int) n by rw [← HC.out]; exact hj) (by rw [← HC.out]; exact hlt)
      have ej : j = c := by omega
      rw [ej, HC.out] at hown
      have HO3 := Box.mk hown; clear hown hown2 ej
      rcases he with d1 | ⟨d1, d2⟩ | ⟨d1, d2, d4⟩
      all_goals
        go_wp2_with (go_at_call 53; refine (value_own _ (fun i _ => lyf_le _ _ _ _ i) HO3.out).mono ?_; rw [HF.out]; rintro e w3 ⟨rfl, rfl⟩)
        go_ret
        exact ⟨rfl, hb⟩

set_option maxHeartbeats 1000000 in
theorem refLay_out (v : Nat) (a n : Int) (x : Nat) (hv : v < 18446744073709551616) (hx : x < 18446744073709551616) (ha : ¬ (0 ≤ a ∧ a < 64)) (w : World) :
    Calls Tryd.prog 24 #[.int .u64 v, .int .i64 a, .int .i64 n, .int .u64 x] w fun e w' => e = .returned (.int .u64 (v : Nat)) ∧ Below w.heap.size w w' := by
  have hfin : val (fl fun i => v / 2 ^ i % 2) = v := by rw [← fl_bl, val_bl]; exact Nat.mod_eq_of_lt (by rw [p64]; exact hv)
  have HF := Box.mk hfin; clear hfin
  have hc : (decide (0 < n) = false) ∨ (decide (0 < n) = true ∧ decide (0 ≤ a) = false) ∨ (decide (0 < n) = true ∧ decide (0 ≤ a) = true ∧ decide (a < 64) = false) := by
    by_cases h1 : 0 < n
    · by_cases h2 : 0 ≤ a
      · exact .inr (.inr ⟨by simpa using h1, by simpa using h2, by simp; omega⟩)
      · exact .inr (.inl ⟨by simpa using h1, by simpa using h2⟩)
    · exact .inl (by simpa using h1)
  clear ha
  rcases hc with d1 | ⟨d1, d2⟩ | ⟨d1, d2, d3⟩
  all_goals
    go_enter Tryd.func24, Tryd.ntmps24
    go_wp2_with fail
    refine (bits_any v hv w).mono ?_
    rintro e w1 ⟨g, cap, rfl, hcap, hg, hown, hb⟩
    have HO := Box.mk hown; clear hown
    go_wp2_with fail
    refine (bits_any x hx w1).mono ?_
    rintro e w2 ⟨g2, cap2, rfl, hcap2, hg2, hown2, hb2⟩
    have hown : w2.ownsRow w.heap.size 3 1 (.slice (some ⟨g, 0, none⟩) 64 cap) 64 (ints (fl fun i => v / 2 ^ i % 2)) := by
      rw [← fl_bl]; exact own_below HO.out hb2 ((HO.out).lt g rfl).2
    have HO2 := Box.mk hown; clear hown2 hown
    go_wp2_with fail
    go_loop [11] (fun i => i = .int .i64 0) (fun _ => 0)
    case atStart => rfl
    case round =>
      subst hrel
      go_wp2_with (go_at_call 53; refine (value_own _ (fun i _ => bit_le v i) HO2.out).mono ?_; rw [HF.out]; rintro e w3 ⟨rfl, rfl⟩)
      go_ret
      exact ⟨rfl, hb.trans (hb2.mono hb.size)⟩

theorem refLay_any (v : Nat) (a n : Int) (x : Nat) (hv : v < 18446744073709551616) (hx : x < 18446744073709551616) (w : World) :
    Calls Tryd.prog 24 #[.int .u64 v, .int .i64 a, .int .i64 n, .int .u64 x] w fun e w' => e = .returned (.int .u64 (layN v a n x : Nat)) ∧ Below w.heap.size w w' := by
  by_cases ha : 0 ≤ a ∧ a < 64
  · obtain ⟨b, rfl⟩ := Int.eq_ofNat_of_zero_le ha.1
    exact refLay_in v b n x hv hx (by omega) w
  · have e : layN v a n x = v := by unfold layN; rw [if_neg ha]
    rw [e]
    exact refLay_out v a n x hv hx ha w
end Go.Proofs.YtemghjjgmjhcnaaDoor
