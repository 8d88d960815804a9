/- The laws of layer 6 (frame): awake; FrameNumbers; FrameLong. -/
import Derived.Test.YtdhbeeeofaheeaaDoorFrameC
namespace Go.Proofs.YtdhbeeeofaheeaaDoor
set_option maxRecDepth 100000
open Go.RowKit M

theorem own_len {w : World} {B e z : Nat} {v : Value} {n : Nat} {xs : List Value} (h : w.ownsRow B e z v n xs) : ∃ p c, v = .slice p n c := by
  rcases h.2 with ⟨h1, h2⟩ | ⟨g, cap, cur, hv, _⟩
  · exact ⟨none, 0, by rw [h1, h2]⟩
  · exact ⟨_, _, hv⟩

def wakeF : List Nat := [79, 74, 0, 0, 0, 1, 0, 0, 0, 0, 0, 0, 0, 1, 247, 2, 86, 87, 97]
theorem wake_frame : frN 1 (sb ⟨#[97]⟩) = wakeF := by decide +kernel
theorem wake_read : rdV (bs wakeF) = .tuple #[.int .u64 1, .string ⟨#[97]⟩, .int .i64 19, .int .i64 0] := by
  have e1 : sb ⟨#[97]⟩ = [97] := by decide
  have e0 : sb (bs wakeF) = frN 1 [97] ++ [] := by
    rw [sb_bs _ (by decide), ← wake_frame, e1, List.append_nil]
  obtain ⟨h1, h2, h3, h4⟩ := rdX_frame (q := 1) (r := [97]) (t := []) (by omega) (by decide)
  rw [rdV_model, e0, if_pos h1, h2, h3, h4]
  rfl

set_option maxHeartbeats 400000 in
theorem awake6_any (w : World) (hH : Halves w) : Calls Tryd.prog 44 #[] w fun e w' => e = .returned (.bool true) ∧ Below w.heap.size w w' := by
  have c1 : Calls Tryd.prog 43 #[.int .u64 1, .string ⟨#[97]⟩] w fun e w' => e = .returned (.tuple #[.string (bs (frN 1 (sb ⟨#[97]⟩))), .int .i64 0]) ∧ Below w.heap.size w w' := write_any 1 ⟨#[97]⟩ (by omega) (by decide) w hH
  rw [wake_frame] at c1
  have c2 := fun W h => fread_any (bs wakeF) (by rw [bs_size]; decide) W h
  have hcmp : (((bs wakeF).extract 0 14).toList == [79, 74, 0, 0, 0, 1, 0, 0, 0, 0, 0, 0, 0, 1]) = true := by decide +kernel
  have hsz : (bs wakeF).size = 19 := by rw [bs_size]; rfl
  have hV := wake_read
  generalize bs wakeF = S at *
  have c3 : ∀ W, Halves W → Calls Tryd.prog 39 #[.string S] W fun e w' => e = .returned (.tuple #[.int .u64 1, .string ⟨#[97]⟩, .int .i64 19, .int .i64 0]) ∧ Below W.heap.size W w' := fun W h => by
    have c := c2 W h
    rw [hV] at c; exact c
  have HH := Box.mk hH; have C1 := Box.mk c1; have C3 := Box.mk c3
  clear c1 c2 c3 hV hH
  go_enter Tryd.func44, Tryd.ntmps44
  go_wp2_with (first
    | (go_at_call 43; ((with_reducible refine C1.out.mono ?_); rintro e w1 ⟨rfl, b1⟩; have B1 := Box.mk b1; clear b1))
    | (go_at_call 39; ((with_reducible refine (C3.out _ (halves_below HH.out B1.out)).mono ?_); rintro e w2 ⟨rfl, b2⟩; have B2 := Box.mk (bch B1.out b2); clear b2)))
  go_ret
  exact ⟨rfl, B2.out⟩

theorem scan_two (q o : Nat) (r1 r2 : List Nat) (hq : q < 18446744073709551616) (ho : o < 18446744073709551616) (h1 : r1.length ≤ 4194304) (h2 : r2.length ≤ 4194304) :
    scanN (frN q r1 ++ frN o r2) q = if o = (q + 1) % 18446744073709551616 then ([r1, r2], 18 + r1.length + (18 + r2.length)) else ([r1], 18 + r1.length) := by
  rw [scan_frame hq h1]
  obtain ⟨e1, e2, e3, e4⟩ := rdX_frame (q := o) (r := r2) (t := []) ho h2
  rw [List.append_nil] at e1 e2 e3 e4
  by_cases h : o = (q + 1) % 18446744073709551616
  · rw [if_pos h, ← h]
    have e := scan_frame (t := []) ho h2
    rw [List.append_nil] at e
    rw [e, scan_stop (l := []) (fun h => by have := h.1; rw [rdX_nil] at this; cases this)]
    rfl
  · rw [if_neg h, scan_stop (fun hh => h (by rw [← e2]; exact hh.2))]
    rfl

set_option maxHeartbeats 600000 in
theorem frameNumbers_walk (a b : ByteArray) (q o : Nat) (hq : q < 18446744073709551616) (ho : o < 18446744073709551616) (w : World) (hH : Halves w) :
    Calls Tryd.prog 11 #[.string a, .string b, .int .u64 q, .int .u64 o] w fun e w' => e = .returned (.bool true) ∧ Below w.heap.size w w' := by
  have k1 := cut_le a 60
  have k2 := cut_le b 60
  have c1 : ∀ w, Calls Tryd.prog 13 #[.string a, .int .i64 60] w fun e w' => e = .returned (.string (a.extract 0 60)) ∧ w = w' := fun w => cut_any a 60 w
  have c2 : ∀ w, Calls Tryd.prog 13 #[.string b, .int .i64 60] w fun e w' => e = .returned (.string (b.extract 0 60)) ∧ w = w' := fun w => cut_any b 60 w
  generalize a.extract 0 60 = a' at *
  generalize b.extract 0 60 = b' at *
  have c3 := fun w h => write_any q a' hq (by omega) w h
  have c4 := fun w h => write_any o b' ho (by omega) w h
  have hl1 := frN_length q (sb a')
  have hl2 := frN_length o (sb b')
  rw [sb_length] at hl1 hl2
  have c5 := fun w h => scan_any (bs (frN q (sb a')) ++ bs (frN o (sb b'))) (by simp [bs_size, hl1, hl2]; omega) q hq w h
  have e := scan_two q o (sb a') (sb b') hq ho (by rw [sb_length]; omega) (by rw [sb_length]; omega)
  rw [bs_append, sb_bs _ (fun d hd => by rcases List.mem_append.1 hd with h | h; exact frN_lt (sb_lt a') d h; exact frN_lt (sb_lt b') d h), ← bs_append, e] at c5
  have s1 : (bs (frN q (sb a'))).size = 18 + a'.size := by rw [bs_size, hl1]
  have s2 : (bs (frN o (sb b'))).size = 18 + b'.size := by rw [bs_size, hl2]
  rw [sb_length, sb_length] at c5
  generalize bs (frN q (sb a')) = S at *
  generalize bs (frN o (sb b')) = T at *
  obtain ⟨q1, hq1⟩ : ∃ q1, q1 = (q + 1) % 18446744073709551616 := ⟨_, rfl⟩
  rw [← hq1] at c5
  have n1 : IntKind.u64.wrap ((q : Int) + 1) = (q1 : Int) := by rw [show (q : Int) + 1 = ((q + 1 : Nat) : Int) by omega, u64w, hq1]
  have HH := Box.mk hH; have C1 := Box.mk c1; have C2 := Box.mk c2; have C3 := Box.mk c3; have C4 := Box.mk c4
  clear c1 c2 c3 c4 hH e hl1 hl2
  by_cases hc : o = q1
  · rw [if_pos hc] at c5
    have C5 := Box.mk c5
    have d1 : ((o : Int) == (q1 : Int)) = true := by rw [beq_iff_eq]; omega
    clear c5 hc hq1
    go_enter Tryd.func11, Tryd.ntmps11
    go_wp2_with (first
      | (go_at_call 13; ((with_reducible refine (C1.out _).mono ?_); rintro e w' ⟨rfl, rfl⟩))
      | (go_at_call 13; ((with_reducible refine (C2.out _).mono ?_); rintro e w' ⟨rfl, rfl⟩))
      | (go_at_call 43; ((with_reducible refine (C3.out _ HH.out).mono ?_); rintro e w1 ⟨rfl, b1⟩; have B1 := Box.mk b1; clear b1))
      | (go_at_call 43; ((with_reducible refine (C4.out _ (halves_below HH.out B1.out)).mono ?_); rintro e w2 ⟨rfl, b2⟩; have B2 := Box.mk (bch B1.out b2); clear b2))
      | (go_at_call 41; ((with_reducible refine (C5.out _ (halves_below HH.out B2.out)).mono ?_); rintro e w3 ⟨v, rfl, o3, b3⟩; obtain ⟨p3, k3, rfl⟩ := own_len o3; have B3 := Box.mk (bch B2.out b3); clear b3 o3))
      | (go_at_call 44; ((with_reducible refine (awake6_any _ (halves_below HH.out B3.out)).mono ?_); rintro e w4 ⟨rfl, b4⟩; have B4 := Box.mk (bch B3.out b4); clear b4)))
    go_ret
    exact ⟨rfl, B4.out⟩
  · rw [if_neg hc] at c5
    have C5 := Box.mk c5
    have d1 : ((o : Int) == (q1 : Int)) = false := by rw [beq_eq_false_iff_ne]; omega
    clear c5 hc hq1
    go_enter Tryd.func11, Tryd.ntmps11
    go_wp2_with (first
      | (go_at_call 13; ((with_reducible refine (C1.out _).mono ?_); rintro e w' ⟨rfl, rfl⟩))
      | (go_at_call 13; ((with_reducible refine (C2.out _).mono ?_); rintro e w' ⟨rfl, rfl⟩))
      | (go_at_call 43; ((with_reducible refine (C3.out _ HH.out).mono ?_); rintro e w1 ⟨rfl, b1⟩; have B1 := Box.mk b1; clear b1))
      | (go_at_call 43; ((with_reducible refine (C4.out _ (halves_below HH.out B1.out)).mono ?_); rintro e w2 ⟨rfl, b2⟩; have B2 := Box.mk (bch B1.out b2); clear b2))
      | (go_at_call 41; ((with_reducible refine (C5.out _ (halves_below HH.out B2.out)).mono ?_); rintro e w3 ⟨v, rfl, o3, b3⟩; obtain ⟨p3, k3, rfl⟩ := own_len o3; have B3 := Box.mk (bch B2.out b3); clear b3 o3))
      | (go_at_call 44; ((with_reducible refine (awake6_any _ (halves_below HH.out B3.out)).mono ?_); rintro e w4 ⟨rfl, b4⟩; have B4 := Box.mk (bch B3.out b4); clear b4)))
    go_ret
    exact ⟨rfl, B4.out⟩

set_option maxHeartbeats 600000 in
theorem frameLong_walk (n : Int) (hn1 : -9223372036854775808 ≤ n) (hn2 : n ≤ 9223372036854775807) (w : World) (hH : Halves w) :
    Calls Tryd.prog 12 #[.int .i64 n] w fun e w' => e = .returned (.bool true) ∧ Below w.heap.size w w' := by
  have HH := Box.mk hH; clear hH
  by_cases h1 : n < 0 ∨ 4194309 < n
  · have hc : decide (n < 0) = true ∨ (decide (n < 0) = false ∧ decide (4194309 < n) = true) := by
      by_cases h : n < 0
      · exact .inl (by simpa using h)
      · exact .inr ⟨by simpa using h, by simp; omega⟩
    clear h1
    rcases hc with d1 | ⟨d1, d2⟩
    all_goals
      go_enter Tryd.func12, Tryd.ntmps12
      go_wp2_with (go_at_call 44; ((with_reducible refine (awake6_any _ HH.out).mono ?_); rintro e w4 ⟨rfl, b4⟩; have B4 := Box.mk b4; clear b4))
      go_ret
      exact ⟨rfl, B4.out⟩
  · obtain ⟨m, rfl⟩ : ∃ m : Nat, n = m := ⟨n.toNat, by omega⟩
    have hm : m ≤ 4194309 := by omega
    obtain ⟨i0, hi, hz0, hz1, hz2⟩ := info_parts info_byte
    have d1 : decide ((m : Int) < 0) = false := by simp
    have d2 : decide (4194309 < (m : Int)) = false := by simp; omega
    have hrep : List.replicate m (Value.int .u8 0) = byts (List.replicate m 0) := by simp [byts]
    obtain ⟨Z, hZ⟩ : ∃ Z, Z = bs (List.replicate m 0) := ⟨_, rfl⟩
    have hZs : Z.size = m := by rw [hZ, bs_size, List.length_replicate]
    have cv : ∀ (W : World) (B g c : Nat), W.ownsRow B 5 1 (.slice (some ⟨g, 0, none⟩) m c) m (madeCells (Value.int IntKind.u8 0).cells (m * 1)).toList → (convert 38 9 (.slice (some ⟨g, 0, none⟩) m c)).run Tryd.prog W = .ok (.string Z) W := fun W B g c h => by
      rw [show (Value.int IntKind.u8 0).cells = #[.int .u8 0] from rfl, toList_madeCells_one, Nat.mul_one, hrep] at h; rw [hZ]; exact conv_bytes h
    have CV := Box.mk cv
    clear cv hZ hrep h1 hn1 hn2
    by_cases hl : 4194304 < m
    · have c1 : ∀ w, Calls Tryd.prog 43 #[.int .u64 7, .string Z] w fun e w' => e = .returned (.tuple #[.string ⟨#[]⟩, .int .i64 12]) ∧ w = w' := fun w => write_long 7 Z (by omega) (by omega) w
      have C1 := Box.mk c1
      have d3 : decide (4194304 < (m : Int)) = true := by simp; omega
      clear c1
      go_enter Tryd.func12, Tryd.ntmps12
      go_wp2_with (first
        | (at_make; refine wpList_make_full _ rfl (.tmp 13) (.tmp 13) 38 rfl w.heap.size 5 i0 (.int .u8 0) 1 Tryd.underlying38 hi hz0 hz1 .i64 .i64 (m : Int) (m : Int) m rfl rfl rfl rfl (by rw [hz2]; omega) (by unfold maxLen; omega) (by simp) ?_; intro w1 hown hg; have hcv := CV.out _ _ _ _ hown; have B1 : Box (Below w.heap.size w w1) := ⟨(Below.refl _ _).grown hg (Nat.le_refl _) (fun k h => by cases h)⟩; clear hown hg)
        | (go_at_call 43; ((with_reducible refine (C1.out _).mono ?_); rintro e w' ⟨rfl, rfl⟩))
        | (go_at_call 44; ((with_reducible refine (awake6_any _ (halves_below HH.out B1.out)).mono ?_); rintro e w4 ⟨rfl, b4⟩; have B4 := Box.mk (bch B1.out b4); clear b4)))
      go_ret
      exact ⟨rfl, B4.out⟩
    · have c1 : ∀ w, Halves w → Calls Tryd.prog 43 #[.int .u64 7, .string Z] w fun e w' => e = .returned (.tuple #[.string (bs (frN 7 (sb Z))), .int .i64 0]) ∧ Below w.heap.size w w' := fun w h => write_any 7 Z (by omega) (by omega) w h
      have hl1 := frN_length 7 (sb Z)
      have s1 : (bs (frN 7 (sb Z))).size = 18 + m := by rw [bs_size, hl1, sb_length, hZs]
      generalize bs (frN 7 (sb Z)) = S at *
      have C1 := Box.mk c1
      have d3 : decide (4194304 < (m : Int)) = false := by simp; omega
      clear c1 hl1
      go_enter Tryd.func12, Tryd.ntmps12
      go_wp2_with (first
        | (at_make; refine wpList_make_full _ rfl (.tmp 13) (.tmp 13) 38 rfl w.heap.size 5 i0 (.int .u8 0) 1 Tryd.underlying38 hi hz0 hz1 .i64 .i64 (m : Int) (m : Int) m rfl rfl rfl rfl (by rw [hz2]; omega) (by unfold maxLen; omega) (by simp) ?_; intro w1 hown hg; have hcv := CV.out _ _ _ _ hown; have B1 : Box (Below w.heap.size w w1) := ⟨(Below.refl _ _).grown hg (Nat.le_refl _) (fun k h => by cases h)⟩; clear hown hg)
        | (go_at_call 43; ((with_reducible refine (C1.out _ (halves_below HH.out B1.out)).mono ?_); rintro e w2 ⟨rfl, b2⟩; have B2 := Box.mk (bch B1.out b2); clear b2))
        | (go_at_call 44; ((with_reducible refine (awake6_any _ (halves_below HH.out B2.out)).mono ?_); rintro e w4 ⟨rfl, b4⟩; have B4 := Box.mk (bch B2.out b4); clear b4)))
      go_ret
      exact ⟨rfl, B4.out⟩
end Go.Proofs.YtdhbeeeofaheeaaDoor
