/- The laws of layer 1 (word): there and back; fields that are laid. -/
import Derived.Test.YtemghjjgmjhcnaaDoorWordO
namespace Go.Proofs.YtemghjjgmjhcnaaDoor
open Go.RowKit M

theorem rotN_tb {v s i : Nat} (hv : v < 18446744073709551616) (hs : s < 64) (hi : i < 64) : (rotN v s).testBit i = v.testBit ((i + 64 - s) % 64) := by
  rw [← rot64_same hv, ← rotA_val hs, testBit_val _ (flA_le fun i _ => by unfold tnf; split <;> omega), flA_getD, if_pos hi]
  unfold tnf
  rw [if_pos (Nat.mod_lt _ (by decide)), bit_tb]
theorem rotN_lt {v s : Nat} (hv : v < 18446744073709551616) : rotN v s < 18446744073709551616 := by
  unfold rotN
  have h1 : v * 2 ^ s % 18446744073709551616 < 2 ^ 64 := by rw [p64]; exact Nat.mod_lt _ (by decide)
  have h2 : v / 2 ^ (64 - s) < 2 ^ 64 := by rw [p64]; exact Nat.lt_of_le_of_lt (Nat.div_le_self _ _) hv
  rw [← p64]; exact Nat.or_lt_two_pow h1 h2
theorem eq_of_tb {a b : Nat} (ha : a < 18446744073709551616) (hb : b < 18446744073709551616) (h : ∀ i, i < 64 → a.testBit i = b.testBit i) : a = b := by
  apply Nat.eq_of_testBit_eq
  intro i
  by_cases hi : i < 64
  · exact h i hi
  · have e : ∀ x : Nat, x < 18446744073709551616 → x.testBit i = false := fun x hx =>
      Nat.testBit_lt_two_pow (Nat.lt_of_lt_of_le (by rw [← p64] at hx; exact hx) (Nat.pow_le_pow_right (by decide) (by omega)))
    rw [e a ha, e b hb]
theorem rot_back {v : Nat} (hv : v < 18446744073709551616) (n : Int) : rotN (rotN v (n % 64).toNat) ((-n) % 64).toNat = v := by
  refine eq_of_tb (rotN_lt (rotN_lt hv)) hv (fun i hi => ?_)
  rw [rotN_tb (rotN_lt hv) (by omega) hi, rotN_tb hv (by omega) (Nat.mod_lt _ (by decide))]
  congr 1
  omega

theorem num_digit : ∀ (l : List Nat) (_ : ∀ d ∈ l, d < 2 ^ 8) (i : Nat), num 8 l / 2 ^ (8 * i) % 256 = l.getD i 0
  | [], _, i => by simp [num]
  | d :: l, h, 0 => by
    have := h d (by simp)
    simp [num]; omega
  | d :: l, h, i + 1 => by
    have h1 := h d (by simp)
    have ih := num_digit l (fun c hc => h c (by simp [hc])) i
    have e : num 8 (d :: l) / 2 ^ (8 * (i + 1)) = num 8 l / 2 ^ (8 * i) := by
      rw [show 8 * (i + 1) = 8 + 8 * i by omega, Nat.pow_add, ← Nat.div_div_eq_div_mul]
      congr 1
      simp only [num]
      omega
    rw [e, ih]
    simp
theorem num_bytesN (k v : Nat) : num 8 (bytesN k v) = v % 2 ^ (8 * k) := by
  induction k with
  | zero => simp [bytesN, num, Nat.mod_one]
  | succ k ih =>
    rw [bytesN_succ, num_append, ih, bytesN_length, show 8 * (k + 1) = 8 * k + 8 by omega, Nat.pow_add, Nat.mod_mul]
    simp [num, byt]
theorem bytesN_num {l : List Nat} (h : ∀ d ∈ l, d < 2 ^ 8) : bytesN l.length (num 8 l) = l := by
  apply List.ext_getElem
  · simp [bytesN]
  · intro i h1 h2
    simp only [bytesN, List.getElem_map, List.getElem_range]
    have := num_digit l h i
    unfold byt
    rw [this]; simp [List.getD, h2]
theorem revN_lt8 (v : Nat) : revN 8 v < 18446744073709551616 := by
  have h1 := num_lt 8 (bytesN 8 v).reverse (fun b hb => bytesN_lt 8 v b (by simpa using hb))
  have e : (bytesN 8 v).reverse.length = 8 := by simp [bytesN]
  rw [e] at h1
  unfold revN; rw [← p64]; exact h1
theorem rev_back {v : Nat} (hv : v < 18446744073709551616) : revN 8 (revN 8 v) = v := by
  have h := bytesN_num (l := (bytesN 8 v).reverse) (fun b hb => bytesN_lt 8 v b (by simpa using hb))
  have e : (bytesN 8 v).reverse.length = 8 := by simp [bytesN]
  rw [e] at h
  show num 8 (bytesN 8 (num 8 (bytesN 8 v).reverse)).reverse = v
  rw [h, List.reverse_reverse, num_bytesN]
  exact Nat.mod_eq_of_lt (by rw [p64]; exact hv)
theorem num_back {v : Nat} (hv : v < 18446744073709551616) : numN (bs (bytesN 8 v)) = v := by
  rw [num_bnl _ (bytesN_length 8 v) (bytesN_lt 8 v), num_bytesN]
  exact Nat.mod_eq_of_lt (by rw [p64]; exact hv)
theorem fold_nonneg (z : Int) : ∃ m : Nat, foldI z = m := ⟨(foldI z).toNat, by unfold foldI; split <;> omega⟩
theorem unfold_fold {z : Int} {m : Nat} (h : foldI z = m) : unfoldI m = z := by
  unfold foldI at h; unfold unfoldI
  split at h <;> split <;> omega
theorem fold_unfold (v : Nat) : foldI (unfoldI v) = v := by
  unfold foldI unfoldI
  split <;> split <;> omega
theorem unfold_bd {v : Nat} (hv : v < 18446744073709551616) : -9223372036854775808 ≤ unfoldI v ∧ unfoldI v ≤ 9223372036854775807 := by
  unfold unfoldI
  split <;> omega

set_option maxRecDepth 100000 in
set_option maxHeartbeats 2000000 in
theorem wordBack_walk (v : Nat) (n : Int) (hv : v < 18446744073709551616) (w : World) (hT : Tab64 w) :
    Calls Tryd.prog 6 #[.int .u64 v, .int .i64 n] w fun e w' => e = .returned (.bool true) ∧ Below w.heap.size w w' := by
  have HT := Box.mk hT; clear hT
  rcases (by omega : n < -1000 ∨ 1000 < n ∨ (-1000 ≤ n ∧ n ≤ 1000)) with h | h | ⟨h, h2⟩
  · have d1 : decide (n < -1000) = true := by simpa using h
    go_enter Tryd.func6, Tryd.ntmps6
    go_wp2_with (go_at_call 12; refine (awake1_any _ HT.out).mono ?_; rintro e w' ⟨rfl, rfl⟩)
    go_ret
    exact ⟨rfl, Below.refl _ _⟩
  · have d1 : decide (n < -1000) = false := by simp; omega
    have d2 : decide (1000 < n) = true := by simpa using h
    go_enter Tryd.func6, Tryd.ntmps6
    go_wp2_with (go_at_call 12; refine (awake1_any _ HT.out).mono ?_; rintro e w' ⟨rfl, rfl⟩)
    go_ret
    exact ⟨rfl, Below.refl _ _⟩
  · have d1 : decide (n < -1000) = false := by simp; omega
    have d2 : decide (1000 < n) = false := by simp; omega
    obtain ⟨z, hz⟩ : ∃ z, z = wrap64 (v : Int) := ⟨_, rfl⟩
    have z1 : -9223372036854775808 ≤ z := by rw [hz]; unfold wrap64; omega
    have z2 : z ≤ 9223372036854775807 := by rw [hz]; unfold wrap64; omega
    have r1 : wrap64 (v : Int) = z := hz.symm
    clear hz
    obtain ⟨m, hm⟩ := fold_nonneg z
    have hm64 : m < 18446744073709551616 := by unfold foldI at hm; split at hm <;> omega
    have hum := unfold_fold hm
    have hfu := fold_unfold v
    obtain ⟨u1, u2⟩ := unfold_bd hv
    have hrb := rot_back hv n
    have hvb := rev_back hv
    have hnb := num_back hv
    have hsz : (bs (bytesN 8 v)).size ≤ 9223372036854775807 := by rw [bs_size, bytesN_length]; omega
    have hrl := rotN_lt (s := (n % 64).toNat) hv
    have hvl := revN_lt8 v
    have c1 : ∀ w, Calls Tryd.prog 25 #[.int .u64 v, .int .i64 n] w fun e w' => e = .returned (.int .u64 ((rotN v (n % 64).toNat : Nat) : Int)) ∧ w = w' := fun w => wordTurn_any v n hv w
    have c2 : ∀ w, Calls Tryd.prog 25 #[.int .u64 ((rotN v (n % 64).toNat : Nat) : Int), .int .i64 (-n)] w fun e w' => e = .returned (.int .u64 (v : Nat)) ∧ w = w' := fun w => by
      have h := wordTurn_any (rotN v (n % 64).toNat) (-n) hrl w
      rwa [hrb] at h
    have c3 : ∀ w, Calls Tryd.prog 41 #[.int .u64 v] w fun e w' => e = .returned (.int .u64 ((revN 8 v : Nat) : Int)) ∧ w = w' := fun w => wordSwap_any v hv w
    have c4 : ∀ w, Calls Tryd.prog 41 #[.int .u64 ((revN 8 v : Nat) : Int)] w fun e w' => e = .returned (.int .u64 (v : Nat)) ∧ w = w' := fun w => by
      have h := wordSwap_any (revN 8 v) hvl w
      rwa [hvb] at h
    have c5 : ∀ w, Calls Tryd.prog 43 #[.int .i64 z] w fun e w' => e = .returned (.int .u64 (m : Nat)) ∧ w = w' := fun w => by
      have h := wordFold_any z z1 z2 w
      rwa [hm] at h
    have c6 : ∀ w, Calls Tryd.prog 45 #[.int .u64 (m : Nat)] w fun e w' => e = .returned (.int .i64 z) ∧ w = w' := fun w => by
      have h := wordUnfold_any m hm64 w
      rwa [hum] at h
    have c7 : ∀ w, Calls Tryd.prog 45 #[.int .u64 (v : Nat)] w fun e w' => e = .returned (.int .i64 (unfoldI v)) ∧ w = w' := fun w => wordUnfold_any v hv w
    have c8 : ∀ w, Calls Tryd.prog 43 #[.int .i64 (unfoldI v)] w fun e w' => e = .returned (.int .u64 (v : Nat)) ∧ w = w' := fun w => by
      have h := wordFold_any (unfoldI v) u1 u2 w
      rwa [hfu] at h
    have c9 : ∀ w, Calls Tryd.prog 39 #[.string (bs (bytesN 8 v))] w fun e w' => e = .returned (.int .u64 (v : Nat)) ∧ w = w' := fun w => by
      have h := wordNumber_any (bs (bytesN 8 v)) hsz w
      rwa [hnb] at h
    have c0 : ∀ w, Calls Tryd.prog 37 #[.int .u64 v, .int .i64 8] w fun e w' => e = .returned (.string (bs (bytesN 8 v))) ∧ Below w.heap.size w w' := fun w => wordBytes_any v 8 w
    clear hm hm64 hum hfu u1 u2 hrb hvb hnb hsz hrl hvl
    generalize rotN v (n % 64).toNat = R at *
    generalize revN 8 v = V at *
    generalize unfoldI v = U at *
    generalize bs (bytesN 8 v) = S at *
    have C1 := Box.mk c1
    have C2 := Box.mk c2
    have C3 := Box.mk c3
    have C4 := Box.mk c4
    have C5 := Box.mk c5
    have C6 := Box.mk c6
    have C7 := Box.mk c7
    have C8 := Box.mk c8
    have C9 := Box.mk c9
    have C0 := Box.mk c0
    clear c0 c1 c2 c3 c4 c5 c6 c7 c8 c9
    go_enter Tryd.func6, Tryd.ntmps6
    go_wp2_with (first
      | (go_at_call 12; refine (awake1_any _ HT.out).mono ?_; rintro e w' ⟨rfl, rfl⟩)
      | (go_at_call 25; ((with_reducible refine (C1.out _).mono ?_); rintro e w' ⟨rfl, rfl⟩))
      | (go_at_call 25; ((with_reducible refine (C2.out _).mono ?_); rintro e w' ⟨rfl, rfl⟩))
      | (go_at_call 41; ((with_reducible refine (C3.out _).mono ?_); rintro e w' ⟨rfl, rfl⟩))
      | (go_at_call 41; ((with_reducible refine (C4.out _).mono ?_); rintro e w' ⟨rfl, rfl⟩))
      | (go_at_call 43; ((with_reducible refine (C5.out _).mono ?_); rintro e w' ⟨rfl, rfl⟩))
      | (go_at_call 45; ((with_reducible refine (C6.out _).mono ?_); rintro e w' ⟨rfl, rfl⟩))
      | (go_at_call 45; ((with_reducible refine (C7.out _).mono ?_); rintro e w' ⟨rfl, rfl⟩))
      | (go_at_call 43; ((with_reducible refine (C8.out _).mono ?_); rintro e w' ⟨rfl, rfl⟩))
      | (go_at_call 37; ((with_reducible refine (C0.out _).mono ?_); rintro e w1 ⟨rfl, b1⟩))
      | (go_at_call 39; ((with_reducible refine (C9.out _).mono ?_); rintro e w' ⟨rfl, rfl⟩)))
    go_ret
    exact ⟨rfl, b1⟩

theorem layN_lt {v x : Nat} (hv : v < 18446744073709551616) (a n : Int) : layN v a n x < 18446744073709551616 := by
  rw [← lay_val (x := x) hv a n]
  have := val_lt (fl (lyf v x a.toNat (lyc a n))) (fl_le fun i _ => lyf_le _ _ _ _ i)
  rwa [fl_length, p64] at this
theorem layN_tb {v x a n i : Nat} (hv : v < 18446744073709551616) (hn : n ≤ 64) (han : a + n ≤ 64) (hn1 : 1 ≤ n) (hi : i < 64) :
    (layN v a n x).testBit i = if a ≤ i ∧ i < a + n then x.testBit (i - a) else v.testBit i := by
  have hc : lyc (a : Int) (n : Int) = n := by
    unfold lyc
    rw [if_pos (by omega)]
    rcases cl_cases (n : Int) with ⟨_, e⟩ | ⟨_, e⟩ | ⟨k, h, hk, e⟩ <;> omega
  rw [← lay_val (x := x) hv (a : Int) (n : Int), testBit_val _ (fl_le fun i _ => lyf_le _ _ _ _ i), fl_getD, if_pos hi, hc]
  unfold lyf
  simp only [Int.toNat_natCast]
  split
  · rw [bit_tb]
  · rw [bit_tb]
theorem cl_nat {n : Nat} (h : n ≤ 64) : cl (n : Int) = n := by
  rcases cl_cases (n : Int) with ⟨_, e⟩ | ⟨_, e⟩ | ⟨k, h, hk, e⟩ <;> omega
theorem field_lay {v x a n : Nat} (hv : v < 18446744073709551616) (hn1 : 1 ≤ n) (han : a + n ≤ 64) : fieldN (layN v a n x) a n = x % 2 ^ n := by
  unfold fieldN
  rw [if_pos (by omega), cl_nat (by omega)]
  simp only [Int.toNat_natCast]
  apply Nat.eq_of_testBit_eq
  intro i
  rw [Nat.testBit_mod_two_pow, Nat.testBit_div_two_pow, Nat.testBit_mod_two_pow]
  by_cases h : i < n
  · rw [layN_tb hv (by omega) han hn1 (by omega), if_pos (by omega), show i + a - a = i by omega]
  · simp [h]
theorem lay_back {v x a n : Nat} (hv : v < 18446744073709551616) (hn1 : 1 ≤ n) (han : a + n ≤ 64) : layN (layN v a n x) a n (fieldN v a n) = v := by
  refine eq_of_tb (layN_lt (layN_lt hv _ _) _ _) hv (fun i hi => ?_)
  rw [layN_tb (layN_lt hv _ _) (by omega) han hn1 hi]
  by_cases h : a ≤ i ∧ i < a + n
  · rw [if_pos h]
    unfold fieldN
    rw [if_pos (by omega), cl_nat (by omega)]
    simp only [Int.toNat_natCast]
    rw [Nat.testBit_mod_two_pow, Nat.testBit_div_two_pow, show i - a + a = i by omega]
    simp; omega
  · rw [if_neg h, layN_tb hv (by omega) han hn1 hi, if_neg h]
theorem bit_lay {v x a n i : Nat} (hv : v < 18446744073709551616) (hn1 : 1 ≤ n) (han : a + n ≤ 64) (hi : i < 64) (h : ¬ (a ≤ i ∧ i < a + n)) : bitB (layN v a n x) i = bitB v i := by
  have e := layN_tb (x := x) hv (show n ≤ 64 by omega) han hn1 hi
  rw [if_neg h, ← bit_tb, ← bit_tb] at e
  unfold bitB
  simp only [Int.toNat_natCast]
  rw [Bool.eq_iff_iff] at e ⊢
  simp only [decide_eq_true_eq] at e ⊢
  omega

set_option maxRecDepth 100000 in
set_option maxHeartbeats 2000000 in
theorem wordLaid_in (v x a n : Nat) (hv : v < 18446744073709551616) (hx : x < 18446744073709551616) (hn1 : 1 ≤ n) (han : a + n ≤ 64) (w : World) (hT : Tab64 w) :
    Calls Tryd.prog 7 #[.int .u64 v, .int .u64 x, .int .i64 a, .int .i64 n] w fun e w' => e = .returned (.bool true) ∧ w = w' := by
  have HT := Box.mk hT; clear hT
  have hll := layN_lt (x := x) hv (a : Int) (n : Int)
  have c1 : ∀ w, Calls Tryd.prog 23 #[.int .u64 v, .int .i64 a, .int .i64 n, .int .u64 x] w fun e w' => e = .returned (.int .u64 (layN v a n x : Nat)) ∧ w = w' := fun w => wordLay_any v a n x hv w
  have c2 : ∀ w, Calls Tryd.prog 21 #[.int .u64 (layN v a n x : Nat), .int .i64 a, .int .i64 n] w fun e w' => e = .returned (.int .u64 (x % 2 ^ n : Nat)) ∧ w = w' := fun w => by
    have h := wordField_any (layN v a n x) a n hll w
    rwa [field_lay hv hn1 han] at h
  have c3 : ∀ w, Calls Tryd.prog 13 #[.int .u64 x, .int .i64 n] w fun e w' => e = .returned (.int .u64 (x % 2 ^ n : Nat)) ∧ w = w' := fun w => by
    have h := wordLow_any x n hx w
    rwa [cl_nat (by omega)] at h
  have c4 : ∀ w, Calls Tryd.prog 21 #[.int .u64 v, .int .i64 a, .int .i64 n] w fun e w' => e = .returned (.int .u64 (fieldN v a n : Nat)) ∧ w = w' := fun w => wordField_any v a n hv w
  have c5 : ∀ w, Calls Tryd.prog 23 #[.int .u64 (layN v a n x : Nat), .int .i64 a, .int .i64 n, .int .u64 (fieldN v a n : Nat)] w fun e w' => e = .returned (.int .u64 (v : Nat)) ∧ w = w' := fun w => by
    have h := wordLay_any (layN v a n x) a n (fieldN v a n) hll w
    rwa [lay_back hv hn1 han] at h
  have c6 : ∀ (i : Nat) (w : World), Calls Tryd.prog 17 #[.int .u64 v, .int .i64 i] w fun e w' => e = .returned (.bool (bitB v i)) ∧ w = w' := fun i w => wordBit_any v i hv w
  have c7 : ∀ (i : Nat) (_ : i < 64) (_ : ¬ (a ≤ i ∧ i < a + n)) (w : World), Calls Tryd.prog 17 #[.int .u64 (layN v a n x : Nat), .int .i64 i] w fun e w' => e = .returned (.bool (bitB v i)) ∧ w = w' := fun i hi ho w => by
    have h := wordBit_any (layN v a n x) i hll w
    rwa [bit_lay hv hn1 han hi ho] at h
  clear hll
  generalize layN v a n x = L at *
  generalize fieldN v a n = F at *
  generalize x % 2 ^ n = X at *
  have C1 := Box.mk c1
  have C2 := Box.mk c2
  have C3 := Box.mk c3
  have C4 := Box.mk c4
  have C5 := Box.mk c5
  have C6 := Box.mk c6
  have C7 := Box.mk c7
  clear c1 c2 c3 c4 c5 c6 c7
  have d1 : decide ((a : Int) < 0) = false := by simp
  have d2 : decide ((n : Int) < 1) = false := by simp; omega
  have d3 : decide (64 < (n : Int)) = false := by simp; omega
  have d4 : decide (64 - (n : Int) < (a : Int)) = false := by simp; omega
  go_enter Tryd.func7, Tryd.ntmps7
  go_wp2_with (go_at_call 23; ((with_reducible refine (C1.out _).mono ?_); rintro e w' ⟨rfl, rfl⟩))
  go_loop [10] (fun i => ∃ j : Nat, j ≤ 64 ∧ i = .int .i64 j) (fun i => 64 - (intOf i).toNat)
  case atStart => exact ⟨0, by omega, rfl⟩
  case round =>
    obtain ⟨j, hj, rfl⟩ := hrel
    by_cases hlt : j < 64
    · by_cases h1 : j < a
      · have e1 : decide ((j : Int) < (a : Int)) = true := by simpa using h1
        have c7 := Box.mk (C7.out j hlt (by omega))
        go_wp2_with (go_at_call 17; first | ((with_reducible refine (c7.out _).mono ?_); rintro e w' ⟨rfl, rfl⟩) | ((with_reducible refine (C6.out j _).mono ?_); rintro e w' ⟨rfl, rfl⟩))
        go_round
        case rel => exact ⟨j + 1, by omega, by go_num⟩
        case measure => simp [intOf]; omega
      · have e1 : decide ((j : Int) < (a : Int)) = false := by simpa using h1
        by_cases h2 : a + n ≤ j
        · have e2 : decide ((a : Int) + (n : Int) ≤ (j : Int)) = true := by simp; omega
          have c7 := Box.mk (C7.out j hlt (by omega))
          go_wp2_with (go_at_call 17; first | ((with_reducible refine (c7.out _).mono ?_); rintro e w' ⟨rfl, rfl⟩) | ((with_reducible refine (C6.out j _).mono ?_); rintro e w' ⟨rfl, rfl⟩))
          go_round
          case rel => exact ⟨j + 1, by omega, by go_num⟩
          case measure => simp [intOf]; omega
        · have e2 : decide ((a : Int) + (n : Int) ≤ (j : Int)) = false := by simp; omega
          go_wp2
          go_round
          case rel => exact ⟨j + 1, by omega, by go_num⟩
          case measure => simp [intOf]; omega
    · obtain rfl : j = 64 := by omega
      go_wp2_with (first
        | (go_at_call 12; refine (awake1_any _ HT.out).mono ?_; rintro e w' ⟨rfl, rfl⟩)
        | (go_at_call 21; ((with_reducible refine (C2.out _).mono ?_); rintro e w' ⟨rfl, rfl⟩))
        | (go_at_call 21; ((with_reducible refine (C4.out _).mono ?_); rintro e w' ⟨rfl, rfl⟩))
        | (go_at_call 13; ((with_reducible refine (C3.out _).mono ?_); rintro e w' ⟨rfl, rfl⟩))
        | (go_at_call 23; ((with_reducible refine (C5.out _).mono ?_); rintro e w' ⟨rfl, rfl⟩)))
      go_ret
      exact ⟨rfl, rfl⟩

set_option maxHeartbeats 1000000 in
theorem wordLaid_walk (v x : Nat) (a n : Int) (hv : v < 18446744073709551616) (hx : x < 18446744073709551616) (hn1 : -9223372036854775808 ≤ n) (hn2 : n ≤ 9223372036854775807) (w : World) (hT : Tab64 w) :
    Calls Tryd.prog 7 #[.int .u64 v, .int .u64 x, .int .i64 a, .int .i64 n] w fun e w' => e = .returned (.bool true) ∧ Below w.heap.size w w' := by
  by_cases h : 0 ≤ a ∧ 1 ≤ n ∧ n ≤ 64 ∧ a ≤ 64 - n
  · obtain ⟨h1, h2, h3, h4⟩ := h
    obtain ⟨b, rfl⟩ := Int.eq_ofNat_of_zero_le h1
    obtain ⟨m, rfl⟩ := Int.eq_ofNat_of_zero_le (show 0 ≤ n by omega)
    exact (wordLaid_in v x b m hv hx (by omega) (by omega) w hT).mono fun e w' ⟨he, hw⟩ => ⟨he, hw ▸ Below.refl _ _⟩
  · have HT := Box.mk hT; clear hT
    have hc : decide (a < 0) = true ∨ (decide (a < 0) = false ∧ decide (n < 1) = true) ∨ (decide (a < 0) = false ∧ decide (n < 1) = false ∧ decide (64 < n) = true) ∨ (decide (a < 0) = false ∧ decide (n < 1) = false ∧ decide (64 < n) = false ∧ decide (64 - n < a) = true ∧ 1 ≤ n ∧ n ≤ 64) := by
      by_cases g1 : a < 0
      · exact .inl (by simpa using g1)
      · by_cases g2 : n < 1
        · exact .inr (.inl ⟨by simpa using g1, by simpa using g2⟩)
        · by_cases g3 : 64 < n
          · exact .inr (.inr (.inl ⟨by simpa using g1, by simpa using g2, by simpa using g3⟩))
          · exact .inr (.inr (.inr ⟨by simpa using g1, by simpa using g2, by simpa using g3, by simp; omega, by omega, by omega⟩))
    clear h
    rcases hc with d1 | ⟨d1, d2⟩ | ⟨d1, d2, d3⟩ | ⟨d1, d2, d3, d4, i1, i2⟩
    all_goals
      go_enter Tryd.func7, Tryd.ntmps7
      go_wp2_with (go_at_call 12; refine (awake1_any _ HT.out).mono ?_; rintro e w' ⟨rfl, rfl⟩)
      go_ret
      exact ⟨rfl, Below.refl _ _⟩
end Go.Proofs.YtemghjjgmjhcnaaDoor
