/- The laws of layer 6 (frame): FrameReads. -/
import Derived.Test.YtdhbeeeofaheeaaDoorFrameN
namespace Go.Proofs.YtdhbeeeofaheeaaDoor
set_option maxRecDepth 100000
open Go.RowKit M

theorem rd_both (T : ByteArray) (hT : T.size ≤ 1000000) : ∃ (q0 : Nat) (R0 : ByteArray) (n0 x0 : Nat), q0 < 18446744073709551616 ∧ R0.size ≤ 1000000 ∧ n0 ≤ 1000018 ∧ x0 ≤ 12 ∧
    rdV T = .tuple #[.int .u64 (q0 : Int), .string R0, .int .i64 (n0 : Int), .int .i64 (x0 : Int)] ∧ frV T = .agg #[.int .u64 (q0 : Int), .string R0, .int .i64 (n0 : Int), .int .i64 (x0 : Int)] := by
  rw [rdV_model, frV_model]
  have hl := sb_length T
  by_cases h : rdX (sb T) = 0
  · have hz := rdX_zero h
    rw [if_pos h, if_pos h]
    refine ⟨_, _, _, 0, pQ_lt (sb_lt T) (by omega), ?_, ?_, by omega, rfl, rfl⟩
    · rw [bs_size]; unfold pR; rw [List.length_take, List.length_drop]; omega
    · omega
  · rw [if_neg h, if_neg h]
    exact ⟨0, _, 0, _, by omega, by decide, by omega, rdX_le _, rfl, rfl⟩

set_option maxHeartbeats 1000000 in
theorem frameReads_walk (s0 r0 : ByteArray) (q : Nat) (hq : q < 18446744073709551616) (w : World) (hH : Halves w) :
    Calls Tryd.prog 7 #[.string s0, .string r0, .int .u64 q] w fun e w' => e = .returned (.bool true) ∧ Below w.heap.size w w' := by
  have ks := cut_le s0 400
  have kr := cut_le r0 300
  have c1 : ∀ w, Calls Tryd.prog 13 #[.string s0, .int .i64 400] w fun e w' => e = .returned (.string (s0.extract 0 400)) ∧ w = w' := fun w => cut_any s0 400 w
  have c2 : ∀ w, Calls Tryd.prog 13 #[.string r0, .int .i64 300] w fun e w' => e = .returned (.string (r0.extract 0 300)) ∧ w = w' := fun w => cut_any r0 300 w
  generalize s0.extract 0 400 = s at *
  generalize r0.extract 0 300 = r at *
  obtain ⟨q0, R0, n0, x0, hq0, hR0, hn0, hx0, hV, hF⟩ := rd_both s (by omega)
  have c3 := fun w h => fread_any s (by omega) w h
  have c4 := fun w => refRead_any s (by omega) w
  have c5 := fun w h => scan_any s (by omega) q hq w h
  have c6 := fun w => refScan_any s (by omega) q hq w
  have c7 := fun w h => write_any q r hq (by omega) w h
  have c8 := fun w => refWrite6_any q r hq (by omega) w
  rw [hV] at c3
  rw [hF] at c4
  have sF : (bs (frN q (sb r))).size ≤ 400 := by rw [bs_size, frN_length, sb_length]; omega
  have hLn : (scanN (sb s) q).1.length ≤ 400 := by
    have h := scan_le (sb s).length (sb s) q
    rw [sb_length] at h
    have h2 : (scanN (sb s) q).1.length ≤ s.size := by unfold scanN; rw [sb_length]; exact h.2
    omega
  have hM : (scanN (sb s) q).2 ≤ 400 := by
    have h := scan_le (sb s).length (sb s) q
    rw [sb_length] at h
    have h2 : (scanN (sb s) q).2 ≤ s.size := by unfold scanN; rw [sb_length]; exact h.1
    omega
  have hLs : ∀ j, j < (scanN (sb s) q).1.length → ∃ S, (strs (scanN (sb s) q).1)[j]? = some (.string S) := fun j hj => ⟨bs ((scanN (sb s) q).1[j]), by simp [strs, hj]⟩
  generalize bs (frN q (sb r)) = FS at *
  generalize strs (scanN (sb s) q).1 = LS at *
  generalize (scanN (sb s) q).1.length = NL at *
  generalize (scanN (sb s) q).2 = M at *
  have HH := Box.mk hH; have C1 := Box.mk c1; have C2 := Box.mk c2; have C3 := Box.mk c3; have C4 := Box.mk c4; have C5 := Box.mk c5; have C6 := Box.mk c6; have C7 := Box.mk c7; have C8 := Box.mk c8; have HLS := Box.mk hLs
  clear c1 c2 c3 c4 c5 c6 c7 c8 hH hV hF hLs
  go_enter Tryd.func7, Tryd.ntmps7
  go_wp2_with (first
    | (go_at_call 13; ((with_reducible refine (C1.out _).mono ?_); rintro e w' ⟨rfl, rfl⟩))
    | (go_at_call 13; ((with_reducible refine (C2.out _).mono ?_); rintro e w' ⟨rfl, rfl⟩))
    | (go_at_call 39; ((with_reducible refine (C3.out _ HH.out).mono ?_); rintro e w1 ⟨rfl, b1⟩; have B1 := Box.mk b1; clear b1))
    | (go_at_call 40; ((with_reducible refine (C4.out _).mono ?_); rintro e w2 ⟨rfl, b2⟩; have B2 := Box.mk (bch B1.out b2); have B2a := Box.mk (B2.out.alloc B2.out.size (.cells #[.int .u64 (q0 : Int), .string R0, .int .i64 (n0 : Int), .int .i64 (x0 : Int)] 72)); clear b2))
    | (go_at_call 41; ((with_reducible refine (C5.out _ (halves_below HH.out B2a.out)).mono ?_); rintro e w3 ⟨v3, rfl, o3, b3⟩; obtain ⟨p3, k3, rfl⟩ := own_len o3; have B3 := Box.mk (bch B2a.out b3); have D3 := Box.mk b3; have O3 := Box.mk o3; clear b3 o3))
    | (go_at_call 42; ((with_reducible refine (C6.out _).mono ?_); rintro e w4 ⟨v4, rfl, o4, b4⟩; obtain ⟨p4, k4, rfl⟩ := own_len o4; have B4 := Box.mk (bch B3.out b4); have D4 := Box.mk (bch D3.out b4); have O3b := Box.mk (own_keep O3.out b4); have O4 := Box.mk o4; clear b4 o4))
    | (go_at_call 43; ((with_reducible refine (C7.out _ (halves_below HH.out B4.out)).mono ?_); rintro e w5 ⟨rfl, b5⟩; have B5 := Box.mk (bch B4.out b5); have D5 := Box.mk (bch D4.out b5); have O3c := Box.mk (own_keep O3b.out b5); have O4c := Box.mk (own_keep O4.out b5); clear b5))
    | (go_at_call 44; ((with_reducible refine (awake6_any _ (halves_below HH.out B5.out)).mono ?_); rintro e w6 ⟨rfl, b6⟩; have B6 := Box.mk (bch B5.out b6); have D6 := Box.mk (bch D5.out b6); have O3d := Box.mk (own_keep O3c.out b6); have O4d := Box.mk (own_keep O4c.out b6); obtain ⟨m0, m1, m2, m3, _⟩ := new4 (w := w2) D6.out rfl; clear b6))
    | (go_at_call 45; ((with_reducible refine (same_any _ _ _ _ _ _ _ _ (by omega) HLS.out _ O3d.out O4d.out).mono ?_); rintro e w7 ⟨rfl, b7⟩; have B7 := Box.mk (bch B6.out b7); clear b7))
    | (go_at_call 46; ((with_reducible refine (C8.out _).mono ?_); rintro e w8 ⟨rfl, b8⟩; have B8 := Box.mk (bch B7.out b8); clear b8)))
  go_ret
  exact ⟨rfl, B8.out⟩
end Go.Proofs.YtdhbeeeofaheeaaDoor
