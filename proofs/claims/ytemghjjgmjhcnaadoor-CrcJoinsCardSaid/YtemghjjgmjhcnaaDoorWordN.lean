/- The laws of layer 1 (word): the walks. -/
import Derived.Test.YtemghjjgmjhcnaaDoorWordM
namespace Go.Proofs.YtemghjjgmjhcnaaDoor
open Go.RowKit M

theorem bch {w a b : World} (h : Below w.heap.size w a) (k : Below a.heap.size a b) : Below w.heap.size w b := h.trans (k.mono h.size)

theorem deBruijn_get : ∀ t, t < 64 → (([0, 1, 56, 2, 57, 49, 28, 3, 61, 58, 42, 50, 38, 29, 17, 4, 62, 47, 59, 36, 45, 43, 51, 22, 53, 39, 33, 30, 24, 18, 12, 5, 63, 55, 48, 27, 60, 41, 37, 16, 46, 35, 44, 21, 52, 32, 23, 11, 54, 26, 40, 15, 34, 20, 31, 10, 25, 14, 19, 9, 13, 8, 7, 6] : List Int).getD t 0) = ((deBruijn.getD t 0 : Nat) : Int) := by decide

theorem tab_below {w w' : World} (h : Tab64 w) (hb : Below w.heap.size w w') : Tab64 w' := fun t ht => by
  have hc := h t ht
  rw [hb.cell (World.block_lt_of_cell? w _ hc)]; exact hc

theorem aSigned (w : World) : Calls Tryd.prog 15 #[.int .u64 128, .int .i64 8] w fun e w' => e = .returned (.int .i64 (-128)) ∧ w = w' := by
  have h := wordSigned_any 128 8 (by decide) w
  rwa [show sgn (cl1 8) 128 = -128 by decide] at h
theorem aTurn (w : World) : Calls Tryd.prog 25 #[.int .u64 1, .int .i64 (-1)] w fun e w' => e = .returned (.int .u64 9223372036854775808) ∧ w = w' := by
  have h := wordTurn_any 1 (-1) (by decide) w
  rwa [show rotN 1 ((-1 : Int) % 64).toNat = 9223372036854775808 by decide +kernel] at h
theorem aLay (w : World) : Calls Tryd.prog 23 #[.int .u64 255, .int .i64 4, .int .i64 8, .int .u64 0] w fun e w' => e = .returned (.int .u64 15) ∧ w = w' := by
  have h := wordLay_any 255 4 8 0 (by decide) w
  rwa [show layN 255 4 8 0 = 15 by decide +kernel] at h
theorem aFirst (w : World) (hT : Tab64 w) : Calls Tryd.prog 33 #[.int .u64 8] w fun e w' => e = .returned (.int .i64 3) ∧ w = w' := by
  have h := wordFirst_any 8 (by decide) w (fun _ => hT)
  rwa [show ctz 8 = 3 by decide +kernel] at h
theorem aSwap (w : World) : Calls Tryd.prog 41 #[.int .u64 1] w fun e w' => e = .returned (.int .u64 72057594037927936) ∧ w = w' := by
  have h := wordSwap_any 1 (by decide) w
  rwa [show revN 8 1 = 72057594037927936 by decide +kernel] at h

theorem awake1_any (w : World) (hT : Tab64 w) : Calls Tryd.prog 12 #[] w fun e w' => e = .returned (.bool true) ∧ w = w' := by
  have HT := Box.mk hT; clear hT
  go_enter Tryd.func12, Tryd.ntmps12
  go_wp2_with (first
    | (go_at_call 15; refine (aSigned _).mono ?_; rintro e w' ⟨rfl, rfl⟩)
    | (go_at_call 25; refine (aTurn _).mono ?_; rintro e w' ⟨rfl, rfl⟩)
    | (go_at_call 23; refine (aLay _).mono ?_; rintro e w' ⟨rfl, rfl⟩)
    | (go_at_call 33; refine (aFirst _ HT.out).mono ?_; rintro e w' ⟨rfl, rfl⟩)
    | (go_at_call 41; refine (aSwap _).mono ?_; rintro e w' ⟨rfl, rfl⟩))
  go_ret
  exact ⟨rfl, rfl⟩

set_option maxRecDepth 100000 in
set_option maxHeartbeats 1000000 in
theorem wordParts_walk (v x : Nat) (a n : Int) (hv : v < 18446744073709551616) (hx : x < 18446744073709551616) (w : World) (hT : Tab64 w) :
    Calls Tryd.prog 3 #[.int .u64 v, .int .u64 x, .int .i64 a, .int .i64 n] w fun e w' => e = .returned (.bool true) ∧ Below w.heap.size w w' := by
  have HT := Box.mk hT; clear hT
  go_enter Tryd.func3, Tryd.ntmps3
  go_wp2_with (first
    | (go_at_call 12; refine (awake1_any _ HT.out).mono ?_; rintro e w' ⟨rfl, rfl⟩)
    | (go_at_call 13; refine (wordLow_any v n hv _).mono ?_; rintro e w' ⟨rfl, rfl⟩)
    | (go_at_call 15; refine (wordSigned_any v n hv _).mono ?_; rintro e w' ⟨rfl, rfl⟩)
    | (go_at_call 17; refine (wordBit_any v a hv _).mono ?_; rintro e w' ⟨rfl, rfl⟩)
    | (go_at_call 19; refine (wordWith_any v a hv _).mono ?_; rintro e w' ⟨rfl, rfl⟩)
    | (go_at_call 21; refine (wordField_any v a n hv _).mono ?_; rintro e w' ⟨rfl, rfl⟩)
    | (go_at_call 23; refine (wordLay_any v a n x hv _).mono ?_; rintro e w' ⟨rfl, rfl⟩)
    | (go_at_call 14; refine (refLow_any v n hv _).mono ?_; rintro e w1 ⟨rfl, b1⟩)
    | (go_at_call 16; refine (refSigned_any v n hv _).mono ?_; rintro e w2 ⟨rfl, b2⟩)
    | (go_at_call 18; refine (refBit_any v a hv _).mono ?_; rintro e w3 ⟨rfl, b3⟩)
    | (go_at_call 20; refine (refWith_any v a hv _).mono ?_; rintro e w4 ⟨rfl, b4⟩)
    | (go_at_call 22; refine (refField_any v a n hv _).mono ?_; rintro e w5 ⟨rfl, b5⟩)
    | (go_at_call 24; refine (refLay_any v a n x hv hx _).mono ?_; rintro e w6 ⟨rfl, b6⟩))
  go_ret
  exact ⟨rfl, bch (bch (bch (bch (bch b1 b2) b3) b4) b5) b6⟩

theorem rot64_same {v : Nat} (hv : v < 18446744073709551616) (s : Nat) : rotA v 64 s = rotN v s := by
  unfold rotA rotN
  rw [p64, Nat.mod_eq_of_lt hv]
theorem rot32_same (v s : Nat) : rotA v 32 s = rotN32 (v % 4294967296) s := by
  unfold rotA rotN32
  rw [show (2 : Nat) ^ 32 = 4294967296 by decide]

theorem refTurn64 (v : Nat) (n : Int) (hv : v < 18446744073709551616) (w : World) :
    Calls Tryd.prog 26 #[.int .u64 v, .int .i64 n, .int .i64 64] w fun e w' => e = .returned (.int .u64 (rotN v (n % 64).toNat : Nat)) ∧ Below w.heap.size w w' := by
  have h := refTurn_any v n 64 (by omega) (by omega) hv w
  rw [rot64_same hv] at h
  exact h
theorem refTurn32 (v : Nat) (n : Int) (hv : v < 18446744073709551616) (w : World) :
    Calls Tryd.prog 26 #[.int .u64 v, .int .i64 n, .int .i64 32] w fun e w' => e = .returned (.int .u64 (rotN32 (v % 4294967296) (n % 32).toNat : Nat)) ∧ Below w.heap.size w w' := by
  have h := refTurn_any v n 32 (by omega) (by omega) hv w
  rw [rot32_same] at h
  exact h
theorem refMoveL (v k : Nat) (hv : v < 18446744073709551616) (hk : k < 64) (w : World) :
    Calls Tryd.prog 29 #[.int .u64 v, .int .i64 k] w fun e w' => e = .returned (.int .u64 (v * 2 ^ k % 18446744073709551616 : Nat)) ∧ Below w.heap.size w w' := by
  have h := refMove_any v k hv (by omega) (by omega) w
  have e : movN v (k : Int) = v * 2 ^ k % 18446744073709551616 := by unfold movN; rw [if_pos (by omega), Int.toNat_natCast]
  rwa [e] at h
theorem refMoveR (v k : Nat) (hv : v < 18446744073709551616) (hk : k < 64) (w : World) :
    Calls Tryd.prog 29 #[.int .u64 v, .int .i64 (-(k : Int))] w fun e w' => e = .returned (.int .u64 (v / 2 ^ k : Nat)) ∧ Below w.heap.size w w' := by
  have h := refMove_any v (-(k : Int)) hv (by omega) (by omega) w
  have e : movN v (-(k : Int)) = v / 2 ^ k := by
    unfold movN
    rcases Nat.eq_zero_or_pos k with rfl | hp
    · simp; omega
    · rw [if_neg (by omega), Int.neg_neg, Int.toNat_natCast]
  rwa [e] at h

theorem rotN32_lt {x s : Nat} (hx : x < 4294967296) : rotN32 x s < 4294967296 := by
  unfold rotN32
  have e : (4294967296 : Nat) = 2 ^ 32 := by decide
  rw [e]
  exact Nat.or_lt_two_pow (Nat.mod_lt _ (by decide)) (Nat.lt_of_le_of_lt (Nat.div_le_self _ _) (by rw [← e]; exact hx))

set_option maxRecDepth 100000 in
set_option maxHeartbeats 1000000 in
theorem wordMoves_walk (v : Nat) (n : Int) (x : Nat) (hv : v < 18446744073709551616) (hx : x < 18446744073709551616) (w : World) (hT : Tab64 w) :
    Calls Tryd.prog 4 #[.int .u64 v, .int .i64 n, .int .u64 x] w fun e w' => e = .returned (.bool true) ∧ Below w.heap.size w w' := by
  have HT := Box.mk hT; clear hT
  obtain ⟨k, hk⟩ : ∃ k, k = x % 64 := ⟨_, rfl⟩
  have hk64 : k < 64 := by omega
  have r1 : (x : Int) % 64 = (k : Int) := by omega
  have r2 : IntKind.u32.wrap (v : Int) = ((v % 4294967296 : Nat) : Int) := by rw [IntKind.wrap_u32]; omega
  have hlt := rotN32_lt (x := v % 4294967296) (s := (n % 32).toNat) (Nat.mod_lt _ (by decide))
  have r3 : IntKind.u64.wrap ((rotN32 (v % 4294967296) (n % 32).toNat : Nat) : Int) = ((rotN32 (v % 4294967296) (n % 32).toNat : Nat) : Int) := u64small (by omega)
  obtain ⟨y, hy⟩ : ∃ y, y = v % 4294967296 := ⟨_, rfl⟩
  have hy32 : y < 4294967296 := by omega
  rw [← hy] at r2 r3 hlt
  have HK := Box.mk hk; clear hk
  have HY := Box.mk hy; clear hy
  go_enter Tryd.func4, Tryd.ntmps4
  go_wp2_with (first
    | (go_at_call 12; refine (awake1_any _ HT.out).mono ?_; rintro e w' ⟨rfl, rfl⟩)
    | (go_at_call 25; refine (wordTurn_any v n hv _).mono ?_; rintro e w' ⟨rfl, rfl⟩)
    | (go_at_call 27; refine (wordTurn32_any y n hy32 _).mono ?_; rintro e w' ⟨rfl, rfl⟩)
    | (go_at_call 28; refine (wordLeft_any v x _).mono ?_; rw [← HK.out]; rintro e w' ⟨rfl, rfl⟩)
    | (go_at_call 30; refine (wordRight_any v x _).mono ?_; rw [← HK.out]; rintro e w' ⟨rfl, rfl⟩)
    | (go_at_call 31; refine (wordCount_any v hv _).mono ?_; rintro e w' ⟨rfl, rfl⟩)
    | (go_at_call 26; ((with_reducible refine (refTurn64 v n hv _).mono ?_); rintro e w1 ⟨rfl, b1⟩))
    | (go_at_call 26; ((with_reducible refine (refTurn32 v n hv _).mono ?_); rw [← HY.out]; rintro e w2 ⟨rfl, b2⟩))
    | (go_at_call 29; ((with_reducible refine (refMoveL v k hv hk64 _).mono ?_); rintro e w3 ⟨rfl, b3⟩))
    | (go_at_call 29; ((with_reducible refine (refMoveR v k hv hk64 _).mono ?_); rintro e w4 ⟨rfl, b4⟩))
    | (go_at_call 32; refine (refCount_any v hv _).mono ?_; rintro e w5 ⟨rfl, b5⟩)
    | (go_at_call 33; refine (wordFirst_any v hv _ (fun _ => tab_below HT.out (bch (bch (bch (bch b1 b2) b3) b4) b5))).mono ?_; rintro e w' ⟨rfl, rfl⟩)
    | (go_at_call 34; refine (refFirst_any v hv _).mono ?_; rintro e w6 ⟨rfl, b6⟩))
  go_ret
  exact ⟨rfl, bch (bch (bch (bch (bch b1 b2) b3) b4) b5) b6⟩

theorem cut_any (s : ByteArray) (n : Nat) (w : World) :
    Calls Tryd.prog 35 #[.string s, .int .i64 n] w fun e w' => e = .returned (.string (s.extract 0 n)) ∧ w = w' := by
  by_cases h : n < s.size
  · go_enter Tryd.func35, Tryd.ntmps35
    go_wp2
    go_ret
    exact ⟨rfl, rfl⟩
  · have e : s.extract 0 n = s := by
      apply ByteArray.ext
      simp [ByteArray.data_extract]
      have : s.data.size = s.size := rfl
      omega
    rw [e]
    go_enter Tryd.func35, Tryd.ntmps35
    go_wp2
    go_ret
    exact ⟨rfl, rfl⟩

end Go.Proofs.YtemghjjgmjhcnaaDoor
