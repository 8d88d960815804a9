/- WalPlays: the walk. -/
import Derived.Test.YtpmjmkgokaafaaaGreatDoorPlyC
namespace Go.Proofs.YtpmjmkgokaafaaaGreatDoor
set_option maxRecDepth 100000
open Go.ChangeShapes Go.WideShapes Go.RowKit M

set_option maxRecDepth 100000 in
set_option maxHeartbeats 16000000 in
theorem walPlays_walk (room limit : Int) (q : Option Addr) (n c : Nat) (K NN : Nat → Int) (T : Nat → ByteArray) (VC : Nat → Value) (XC : Nat → List Int) (w : World) (ha : WActIn w (.slice q n c) n K NN T VC XC) (hn : n ≤ 9223372036854775807) (h1 : -9223372036854775808 ≤ room) (h2 : room ≤ 9223372036854775807) (hl : limit ≤ 9223372036854775807) (hL : LibW w) (hH : Halves w) :
    Calls Tryz.prog 3 #[.int .i64 room, .int .i64 limit, .slice q n c] w fun e w' => e = .returned (.bool true) ∧ Below w.heap.size w w' := by
  obtain ⟨i0, hi, hz0, hz1, hz2⟩ := string_parts
  have HL := Box.mk hL; have HH := Box.mk hH; have HA := Box.mk ha; have H1 := Box.mk h1; have H2 := Box.mk h2
  clear hL hH ha h1 h2
  go_enter Tryz.func3, Tryz.ntmps3
  go_wp2_with (first
    | (go_at_call 4; ((with_reducible refine (dnew_f room w H1.out H2.out).mono ?_); rintro e w1 ⟨b, rfl, d1, b1⟩; have D1 := Box.mk d1; have B1 := Box.mk b1; clear d1 b1))
    | (go_at_call 5; ((with_reducible refine (awake7_any w1 (HL.out.below B1.out) (halves_below HH.out B1.out)).mono ?_); rintro e w2 ⟨rfl, b2⟩; have P2 := Box.mk (PlB.begun H2.out D1.out B1.out b2); clear b2 D1 B1))
    | (go_at_call 6; ((with_reducible refine (P2.out.opened rfl (DWq.begun room H2.out) (by omega) limit hl HL.out HH.out).mono ?_); rintro e w3 ⟨lb, p0, c0, M, rfl, hM0, _, _, _, _, _, _, _, pm⟩; obtain rfl : M = 0 := hM0.symm; have M4 := Box.mk pm.anew; clear pm hM0 P2)))
  go_loopw [8, 11, 12, 13, 14, 15] (fun l x s si re i wr => ∃ (k N sf : Nat) (px : Option Addr) (cx : Nat) (sb rb : Bool), i = .int .i64 (k : Int) ∧ k ≤ n ∧ k ≤ 25 ∧ x = .slice px N cx ∧ s = .int .i64 (sf : Int) ∧ si = .bool sb ∧ re = .bool rb ∧ Box (PlM w wr b l (.slice px N cx) N sf k sb rb)) (fun _ _ _ _ _ i _ => min n 25 - (intOf i).toNat)
  case atStart => exact ⟨0, 0, 0, _, _, false, false, rfl, by omega, by omega, rfl, rfl, rfl, rfl, M4⟩
  case round =>
    clear M4
    obtain ⟨k, N, sf, px, cx, sb, rb, rfl, hk1, hk2, rfl, rfl, rfl, rfl, hM⟩ := hrel
    by_cases hlt : k < n ∧ k < 25
    · obtain ⟨hlt1, hlt2⟩ := hlt
      obtain ⟨ab, ao, ac, hv, hab, hc⟩ := HA.out.cells (by omega)
      obtain ⟨rfl, _, rfl⟩ := Value.slice.inj hv
      obtain ⟨c0, c1, c2, c3⟩ := hc k hlt1
      obtain ⟨modes, bel, fsf, fN⟩ := hM.out.facts
      have q0 := (bel.cell hab).trans c0
      have q1 := (bel.cell hab).trans c1
      have q2 := (bel.cell hab).trans c2
      have q3 := (bel.cell hab).trans c3
      obtain ⟨cp, cc, hvc⟩ := (HA.out.ints k hlt1).val
      have QC := Box.mk (HA.out.ints k hlt1)
      have QR := Box.mk (HA.out.rng k hlt1)
      rw [hvc] at q3 QC
      obtain ⟨kd, hkd⟩ : ∃ x, x = K k := ⟨_, rfl⟩
      obtain ⟨nn, hnn⟩ : ∃ x, x = NN k := ⟨_, rfl⟩
      obtain ⟨tt, htt⟩ : ∃ x, x = T k := ⟨_, rfl⟩
      obtain ⟨ch, hch⟩ : ∃ x, x = XC k := ⟨_, rfl⟩
      rw [← hkd] at q0
      rw [← hnn] at q1 QR
      rw [← htt] at q2
      rw [← hch] at q3 QC
      clear hv hc c0 c1 c2 c3 hvc hkd hnn htt hch
      obtain ⟨WA, hWA⟩ : ∃ W, W = wr.alloc (.cells #[.int .i64 kd, .int .i64 nn, .string tt, .slice cp ch.length cc] 33) := ⟨_, rfl⟩
      have tA : WA.heap[wr.heap.size]? = some (.cells #[.int .i64 kd, .int .i64 nn, .string tt, .slice cp ch.length cc] 33 (0, 0)) := by rw [hWA]; exact heap_alloc_new wr _
      have a0 : WA.cell? ⟨wr.heap.size, 0, none⟩ = some (.int .i64 kd) := by simp only [World.cell?, tA]; rfl
      have a1 : WA.cell? ⟨wr.heap.size, 1, none⟩ = some (.int .i64 nn) := by simp only [World.cell?, tA]; rfl
      have a2 : WA.cell? ⟨wr.heap.size, 2, none⟩ = some (.string tt) := by simp only [World.cell?, tA]; rfl
      have a3 : WA.cell? ⟨wr.heap.size, 3, none⟩ = some (.slice cp ch.length cc) := by simp only [World.cell?, tA]; rfl
      have bA : Below wr.heap.size wr WA := by rw [hWA]; exact (Below.refl _ _).alloc (Nat.le_refl _) _
      go_upto_region 15 with fail
      rw [← hWA]
      have MR := hM
      have BR := Box.mk bA
      have MA := Box.mk (hM.out.below bA)
      have ZL := Box.mk (show wr.heap.size < WA.heap.size by rw [hWA]; simp)
      have A0 := Box.mk a0
      have BA := Box.mk (bel.trans (bA.mono bel.size))
      clear tA hWA bA hM bel q0 q1 q2 q3
      obtain ⟨R, hR⟩ : ∃ R, R = tt.extract 0 60 := ⟨_, rfl⟩
      have CC := Box.mk (show ∀ W, Calls Tryz.prog 7 #[.string tt, .int .i64 60] W fun e w' => e = .returned (.string R) ∧ W = w' from fun W => by rw [hR]; exact cut_any tt 60 W)
      have HR := Box.mk (show R.size ≤ 60 by rw [hR]; exact cut_le _ _)
      clear hR
      have QI := Box.mk (show IntsIn WA (.slice cp ch.length cc) ch from QC.out.keep0 BA.out.size (fun _ q _ hlq => BA.out.block q hlq))
      go_upto_region 17 with (go_at_call 7; ((with_reducible refine (CC.out _).mono ?_); rintro e w' ⟨rfl, rfl⟩))
      clear CC a2
      rcases modes with ⟨rfl, rfl⟩ | ⟨rfl, rfl⟩ | ⟨rfl, rfl⟩
      · by_cases k1 : kd = 1
        · as_aux_lemma =>
          subst k1
          rcases MA.out with ⟨_, _, lb, F, D, S, L, X, rfl, hp⟩ | ⟨e, _⟩ | ⟨e, _⟩
          rotate_left
          · cases e
          · cases e
          have PF := Box.mk hp; have LX := Box.mk hp.pb.len; have LB := Box.mk hp.lbB
          clear hp MA
          go_upto_region 21 with (go_at_call 8; ((with_reducible refine (PF.out.append (by omega) R HR.out HH.out).mono ?_); rintro e w3 ⟨c, S3, L3, rfl, b3, ok, Y, y3, d3⟩; have B3 := Box.mk b3; have OK := Box.mk ok; have Y3 := Box.mk y3; have D3 := Box.mk d3; clear b3 ok y3 d3))
          have OO := Box.mk (show (w3.alloc (.cells #[] 9)).ownsRow w3.heap.size 9 1 (.slice (some ⟨w3.heap.size, 0, none⟩) 0 0) 0 [] from World.ownsRow_made _ _ _ (Nat.le_refl _) (by decide) rfl)
          have XR := Box.mk (B3.out.row.row.alloc (.cells #[] 9))
          go_upto_region 22 with (first
            | (at_builtin; refine wpList_append_rows rfl (.tmp 86) (.tmp 87) 27 rfl w3.heap.size 9 i0 _ 16 Tryz.underlying27 hi hz0 hz1 hz2 rfl _ 0 [] rfl OO.out w.heap.size _ N (strs X) rfl XR.out (strs_one X) (by unfold maxLen; omega) (by omega) (by simp) ?_; intro v5 w5 hown5 hgrow5 hat5; rw [Nat.zero_add, List.nil_append] at hown5; have P5 := Box.mk hown5; have B5 : Box (Below w3.heap.size w3 w5) := ⟨((Below.refl w3.heap.size w3).alloc (Nat.le_refl _) _).grown hgrow5 (by simp) (fun k hk => by cases hk; exact Nat.le_refl _)⟩; clear hown5 hgrow5 hat5)
            | (at_builtin; refine wpList_append_lies _ rfl (.tmp 88) (.tmp 90) 27 rfl w3.heap.size 9 i0 _ 1 16 Tryz.underlying27 hi hz0 hz1 hz2 rfl (by omega) _ N (strs X) rfl (P5.out.alloc _) ⟨w5.heap.size, 0, none⟩ 1 1 [.string R] rfl rfl (World.news_of_block (cs := #[.string R]) (t := 9) (fr := (0, 0)) (heap_alloc_new _ _)) (by simp [Value.oneCell']) (by omega) (by unfold maxLen; omega) (by omega) (by have := B5.out.size; simp; omega) (w5.heap.size + 1) (by simp) ?_; intro g6 cap6 w6 hown6 hgrow6 hat6 hlt6; have P6 := Box.mk hown6; have B6 : Box (Below w3.heap.size w3 w6) := ⟨(B5.out.alloc B5.out.size _).grown hgrow6 (by have := B5.out.size; simp; omega) (fun k hk => (P5.out.lt k hk).1)⟩; clear hown6 hgrow6 hat6 hlt6))
          obtain ⟨cap1, cap2⟩ := row_cap P6.out
          have RW := Box.mk (show w6.ownsRow w3.heap.size 9 1 (.slice (some ⟨g6, 0, none⟩) (N + 1) cap6) (N + 1) (strs (X ++ [sb R])) by have h := P6.out; rw [← strs_sb R, ← strs_app] at h; exact h)
          have LX1 := Box.mk (show (X ++ [sb R]).length = N + 1 by rw [List.length_append, LX.out]; rfl)
          clear OO XR
          by_cases z0 : c = 0
          · have OK0 := Box.mk (OK.out z0)
            subst z0
            go_wp2_with fail
            go_roundw
            case rel => exact ⟨k + 1, N + 1, sf, _, _, false, false, by go_num, by omega, by omega, rfl, rfl, rfl, rfl, ⟨PlM.fine B3.out OK0.out.1 LB.out B6.out RW.out LX1.out (Nat.le_refl _) OK0.out.2⟩⟩
            case measure => simp [intOf] <;> omega
          · by_cases z9 : c = 9
            · subst z9
              go_wp2_with fail
              go_roundw
              case rel => exact ⟨k + 1, N + 1, sf, _, _, true, false, by go_num, by omega, by omega, rfl, rfl, rfl, rfl, ⟨PlM.sick B3.out B6.out RW.out LX1.out (by omega) (by omega) (Nat.le_refl _) (Y3.out.elim (fun h => h.trans (List.prefix_append _ _)) (fun h => h.2)) D3.out⟩⟩
              case measure => simp [intOf] <;> omega
            · have c1 : (c == 0) = false := by simpa using z0
              have c2 : (c = 0) = False := eq_false z0
              have c3 : (c == 9) = false := by simpa using z9
              have c4 : (c = 9) = False := eq_false z9
              have c5 : (c != 0) = true := by simpa using z0
              have c6 : (c != 9) = true := by simpa using z9
              have RN := Box.mk (show w6.ownsRow w3.heap.size 9 1 (.slice (some ⟨g6, 0, none⟩) N cap6) N (strs X) by have h := row_take RW.out (m := N) (by omega); rw [strs_take, show (X ++ [sb R]).take N = X by rw [← LX.out]; exact List.take_left] at h; exact h)
              have wN : IntKind.i64.wrap (((N + 1 : Nat) : Int) - 1) = (N : Int) := by rw [IntWalk.i64_in _ (by omega)]; omega
              have hcN : N ≤ cap6 := by omega
              go_wp2_with fail
              go_roundw
              case rel => exact ⟨k + 1, N, sf, _, _, true, false, by go_num, by omega, by omega, rfl, rfl, rfl, rfl, ⟨PlM.sick B3.out B6.out RN.out LX.out (Nat.le_refl _) (by omega) (Nat.le_refl _) (Y3.out.elim (fun h => h) (fun h => absurd h.1 (by omega))) D3.out⟩⟩
              case measure => simp [intOf] <;> omega
        · by_cases k2 : kd = 2
          · as_aux_lemma =>
            subst k2
            rcases MA.out with ⟨_, _, lb, F, D, S, L, X, rfl, hp⟩ | ⟨e, _⟩ | ⟨e, _⟩
            rotate_left
            · cases e
            · cases e
            have PF := Box.mk hp
            clear hp MA
            go_upto_region 26 with (go_at_call 9; ((with_reducible refine (PF.out.sync (by omega)).mono ?_); rintro e w3 ⟨c, rfl, ok, no⟩; have OK := Box.mk ok; have NO := Box.mk no; clear ok no))
            by_cases z0 : c = 0
            · have M3 := Box.mk (OK.out z0)
              subst z0
              go_wp2_with fail
              go_roundw
              case rel => exact ⟨k + 1, N, N, _, _, false, false, by go_num, by omega, by omega, rfl, rfl, rfl, rfl, ⟨M3.out⟩⟩
              case measure => simp [intOf] <;> omega
            · have M3 := Box.mk (NO.out z0)
              have c1 : (c == 0) = false := by simpa using z0
              have c2 : (c = 0) = False := eq_false z0
              have c5 : (c != 0) = true := by simpa using z0
              go_wp2_with fail
              go_roundw
              case rel => exact ⟨k + 1, N, sf, _, _, true, false, by go_num, by omega, by omega, rfl, rfl, rfl, rfl, ⟨M3.out⟩⟩
              case measure => simp [intOf] <;> omega
          · by_cases k3 : kd = 3
            · as_aux_lemma =>
              subst k3
              rcases MA.out with ⟨_, _, lb, F, D, S, L, X, rfl, hp⟩ | ⟨e, _⟩ | ⟨e, _⟩
              rotate_left
              · cases e
              · cases e
              have PF := Box.mk hp; have LB := Box.mk hp.lbB
              clear hp MA
              go_upto_region 30 with (go_at_call 10; ((with_reducible refine (PF.out.retire (by omega) HL.out).mono ?_); rintro e w3 ⟨c, S3, L3, rfl, b3, bk, ok⟩; have B3 := Box.mk b3; have BK := Box.mk bk; have OK := Box.mk ok; clear b3 bk ok))
              by_cases z0 : c = 0
              · have OK0 := Box.mk (OK.out z0)
                subst z0
                go_wp2_with fail
                go_roundw
                case rel => exact ⟨k + 1, 0, 0, _, _, false, false, by go_num, by omega, by omega, rfl, rfl, rfl, rfl, ⟨PlM.fine (X' := []) B3.out OK0.out.1 LB.out ((Below.refl w3.heap.size w3).alloc (Nat.le_refl _) _) (World.ownsRow_made _ _ _ (Nat.le_refl _) (by decide) rfl) rfl (Nat.le_refl _) OK0.out.2⟩⟩
                case measure => simp [intOf] <;> omega
              · have c1 : (c == 0) = false := by simpa using z0
                have c2 : (c = 0) = False := eq_false z0
                have c5 : (c != 0) = true := by simpa using z0
                go_wp2_with fail
                go_roundw
                case rel => exact ⟨k + 1, N, 0, _, _, true, true, by go_num, by omega, by omega, rfl, rfl, rfl, rfl, ⟨.inr (.inr ⟨rfl, rfl, F, S3, X, B3.out, BK.out⟩)⟩⟩
                case measure => simp [intOf] <;> omega
            · by_cases k4 : kd = 4
              · as_aux_lemma =>
                subst k4
                obtain ⟨F, S, X, Y, p, y, d⟩ := MA.out.there
                have PB := Box.mk p; have HY := Box.mk y; have DQ := Box.mk d; have LX := Box.mk p.len
                clear p y d
                by_cases hd : S.dead = true
                · have OD := Box.mk (open_dead b F S limit WA PB.out.disk hd)
                  have DF := Box.mk (dead_f b F S WA PB.out.disk)
                  go_wp2_with (first
                    | (go_at_call 6; ((with_reducible refine OD.out.mono ?_); rintro e w' ⟨rfl, rfl⟩))
                    | (go_at_call 12; ((with_reducible refine DF.out.mono ?_); rintro e w' ⟨rfl, rfl⟩; rw [hd])))
                  go_roundw
                  case rel => exact ⟨k + 1, N, sf, _, _, false, false, by go_num, by omega, by omega, rfl, rfl, rfl, rfl, ⟨MA.out.up (show k ≤ k + 1 by omega) (by omega)⟩⟩
                  case measure => simp [intOf] <;> omega
                · have HD := Box.mk (show S.dead = false by simpa using hd)
                  clear hd
                  have SF := Box.mk (show sf ≤ Y.length from DQ.out.safe_le)
                  have mn : ∀ m : Nat, sf ≤ m → min (sf : Int) (m : Int) = (sf : Int) := fun m h => by omega
                  have MN := Box.mk mn
                  clear mn
                  go_upto_region 48 with (first
                    | (go_at_call 6; ((with_reducible refine (PB.out.opened HD.out DQ.out (by omega) limit hl HL.out HH.out).mono ?_); rintro e w4 ⟨lb4, p4, c4, M, rfl, hM4, r4, x4, f4, s4, b4, bo, ⟨F4, S4, hf4, hd4⟩, pm⟩; have HM4 := Box.mk hM4; have R4 := Box.mk r4; have X4 := Box.mk x4; have FM := Box.mk f4; have SM := Box.mk s4; have DF := Box.mk (dead_f b F4 S4 w4 hf4); have HD4 := Box.mk hd4; have M4 := Box.mk pm; have mn4 := MN.out M (by omega); have A4 := Box.mk ((bo.cell (p := ⟨wr.heap.size, 0, none⟩) ZL.out).trans A0.out); have Z4 := Box.mk (Nat.lt_of_lt_of_le ZL.out bo.size); have aq4 := A4.out; clear hM4 r4 x4 f4 s4 b4 bo hf4 hd4 pm))
                    | (go_at_call 12; ((with_reducible refine DF.out.mono ?_); rintro e w' ⟨rfl, rfl⟩; rw [HD4.out]; clear DF))
                    | (go_at_call 13; ((with_reducible refine (fits_ok p4 px M c4 _ N cx _ sf (strs Y) (strs X) w4 R4.out X4.out (fun j hj => strs_all Y j (by have := HM4.out; omega)) (by have h := strs_pre HY.out; rw [HM4.out] at h; exact h) (by have h := HY.out.length_le; have := HM4.out; have := LX.out; omega) (by omega) (by have := SF.out; have := HM4.out; omega)).mono ?_); rintro e w5 ⟨rfl, b5⟩; have aq5 := (b5.cell (p := ⟨wr.heap.size, 0, none⟩) Z4.out).trans A4.out; have M5 := Box.mk (M4.out.below b5); clear b5)))
                  go_wp2_with fail
                  go_roundw
                  case rel => exact ⟨k + 1, M, sf, p4, c4, false, false, by go_num, by omega, by omega, rfl, rfl, rfl, rfl, ⟨M5.out.up (show k ≤ k + 1 by omega) (by omega)⟩⟩
                  case measure => simp [intOf] <;> omega
              · by_cases k5 : kd = 5
                · as_aux_lemma =>
                  subst k5
                  go_upto_region 38 with (go_at_call 11; ((with_reducible refine (MR.out.restart BR.out (by omega) QI.out (ints_low QC.out)).mono ?_); rintro e w3 ⟨⟨rfl, F, S, X, Y, p3, hd3, d3, hy⟩, hkp, hsz⟩; have A3 := Box.mk ((cell_keep (hkp _ (Nat.le_refl _) ZL.out)).trans A0.out); have Z3 := Box.mk (Nat.lt_of_lt_of_le ZL.out hsz); have PB := Box.mk p3; have HD := Box.mk hd3; have DQ := Box.mk d3; have LX := Box.mk p3.len; have HYS := Box.mk hy; clear p3 hd3 d3 hy hkp hsz))
                  have HY := Box.mk (HYS.out trivial).1
                  have SF := Box.mk (HYS.out trivial).2
                  go_wp2_with (first
                      | (go_at_call 6; ((with_reducible refine (PB.out.opened HD.out DQ.out (by omega) limit hl HL.out HH.out).mono ?_); rintro e w4 ⟨lb4, p4, c4, M, rfl, hM4, r4, x4, f4, s4, b4, bo, ⟨F4, S4, hf4, hd4⟩, pm⟩; have HM4 := Box.mk hM4; have R4 := Box.mk r4; have X4 := Box.mk x4; have FM := Box.mk f4; have SM := Box.mk s4; have DF := Box.mk (dead_f b F4 S4 w4 hf4); have HD4 := Box.mk hd4; have M4 := Box.mk pm; have A4 := Box.mk ((bo.cell (p := ⟨wr.heap.size, 0, none⟩) Z3.out).trans A3.out); have Z4 := Box.mk (Nat.lt_of_lt_of_le Z3.out bo.size); have aq4 := A4.out; clear hM4 r4 x4 f4 s4 b4 bo hf4 hd4 pm))
                      | (go_at_call 12; ((with_reducible refine DF.out.mono ?_); rintro e w' ⟨rfl, rfl⟩; rw [HD4.out]; clear DF))
                      | (go_at_call 13; ((with_reducible refine (fits_ok p4 px M c4 _ N cx _ sf (strs Y) (strs X) w4 R4.out X4.out (fun j hj => strs_all Y j (by have := HM4.out; omega)) (by have h := strs_pre HY.out; rw [HM4.out] at h; exact h) (by have h := HY.out.length_le; have := HM4.out; have := LX.out; omega) (by omega) (by have := SF.out; have := HM4.out; omega)).mono ?_); rintro e w5 ⟨rfl, b5⟩; have aq5 := (b5.cell (p := ⟨wr.heap.size, 0, none⟩) Z4.out).trans A4.out; have M5 := Box.mk (M4.out.below b5); clear b5)))
                  have E5 := Box.mk (show PlM w w5 b (.pointer (some ⟨lb4, 0, none⟩)) (.slice p4 M c4) M M k false false by have h := M5.out; rw [HM4.out] at h; exact h)
                  go_roundw
                  case rel => exact ⟨k + 1, M, M, p4, c4, false, false, by go_num, by omega, by omega, rfl, rfl, rfl, rfl, ⟨E5.out.up (show k ≤ k + 1 by omega) (by omega)⟩⟩
                  case measure => simp [intOf] <;> omega
                · by_cases k6 : kd = 6
                  · as_aux_lemma =>
                    subst k6
                    go_wp2_with (go_at_call 14; ((with_reducible refine (MA.out.crash nn QR.out).mono ?_); rintro e w3 ⟨rfl, pm⟩; have M3 := Box.mk pm; clear pm))
                    go_roundw
                    case rel => exact ⟨k + 1, N, sf, _, _, false, false, by go_num, by omega, by omega, rfl, rfl, rfl, rfl, ⟨M3.out.up (show k ≤ k + 1 by omega) (by omega)⟩⟩
                    case measure => simp [intOf] <;> omega
                  · by_cases k7 : kd = 7
                    · as_aux_lemma =>
                      subst k7
                      go_wp2_with (go_at_call 15; ((with_reducible refine (MA.out.fail nn QR.out).mono ?_); rintro e w3 ⟨rfl, pm⟩; have M3 := Box.mk pm; clear pm))
                      go_roundw
                      case rel => exact ⟨k + 1, N, sf, _, _, false, false, by go_num, by omega, by omega, rfl, rfl, rfl, rfl, ⟨M3.out.up (show k ≤ k + 1 by omega) (by omega)⟩⟩
                      case measure => simp [intOf] <;> omega
                    · by_cases k8 : kd = 8
                      · as_aux_lemma =>
                        subst k8
                        go_wp2_with (go_at_call 16; ((with_reducible refine (MA.out.room nn QR.out).mono ?_); rintro e w3 ⟨rfl, pm⟩; have M3 := Box.mk pm; clear pm))
                        go_roundw
                        case rel => exact ⟨k + 1, N, sf, _, _, false, false, by go_num, by omega, by omega, rfl, rfl, rfl, rfl, ⟨M3.out.up (show k ≤ k + 1 by omega) (by omega)⟩⟩
                        case measure => simp [intOf] <;> omega
                      · as_aux_lemma =>
                        clear HR
                        have f1 : (kd == 1) = false := by simpa using (by omega : ¬ kd = 1)
                        have g1 : (kd = 1) = False := eq_false (by omega)
                        have f2 : (kd == 2) = false := by simpa using (by omega : ¬ kd = 2)
                        have g2 : (kd = 2) = False := eq_false (by omega)
                        have f3 : (kd == 3) = false := by simpa using (by omega : ¬ kd = 3)
                        have g3 : (kd = 3) = False := eq_false (by omega)
                        have f4 : (kd == 4) = false := by simpa using (by omega : ¬ kd = 4)
                        have g4 : (kd = 4) = False := eq_false (by omega)
                        have f5 : (kd == 5) = false := by simpa using (by omega : ¬ kd = 5)
                        have g5 : (kd = 5) = False := eq_false (by omega)
                        have f6 : (kd == 6) = false := by simpa using (by omega : ¬ kd = 6)
                        have g6 : (kd = 6) = False := eq_false (by omega)
                        have f7 : (kd == 7) = false := by simpa using (by omega : ¬ kd = 7)
                        have g7 : (kd = 7) = False := eq_false (by omega)
                        have f8 : (kd == 8) = false := by simpa using (by omega : ¬ kd = 8)
                        have g8 : (kd = 8) = False := eq_false (by omega)
                        go_wp2_with fail
                        go_roundw
                        case rel => exact ⟨k + 1, N, sf, _, _, false, false, by go_num, by omega, by omega, rfl, rfl, rfl, rfl, ⟨MA.out.up (show k ≤ k + 1 by omega) (by omega)⟩⟩
                        case measure => simp [intOf] <;> omega
      · by_cases kl : kd < 4
        · as_aux_lemma =>
          clear HR
          have l4 : decide (kd < 4) = true := decide_eq_true (by omega)
          have l4' : (kd < 4) = True := eq_true (by omega)
          go_wp2_with fail
          go_roundw
          case rel => exact ⟨k + 1, N, sf, _, _, true, false, by go_num, by omega, by omega, rfl, rfl, rfl, rfl, ⟨MA.out.up (show k ≤ k + 1 by omega) (by omega)⟩⟩
          case measure => simp [intOf] <;> omega
        · by_cases k4 : kd = 4
          · as_aux_lemma =>
            subst k4
            obtain ⟨F, S, X, Y, p, y, d⟩ := MA.out.there
            have PB := Box.mk p; have HY := Box.mk y; have DQ := Box.mk d; have LX := Box.mk p.len
            clear p y d
            by_cases hd : S.dead = true
            · have OD := Box.mk (open_dead b F S limit WA PB.out.disk hd)
              have DF := Box.mk (dead_f b F S WA PB.out.disk)
              go_wp2_with (first
                | (go_at_call 6; ((with_reducible refine OD.out.mono ?_); rintro e w' ⟨rfl, rfl⟩))
                | (go_at_call 12; ((with_reducible refine DF.out.mono ?_); rintro e w' ⟨rfl, rfl⟩; rw [hd])))
              go_roundw
              case rel => exact ⟨k + 1, N, sf, _, _, true, false, by go_num, by omega, by omega, rfl, rfl, rfl, rfl, ⟨MA.out.up (show k ≤ k + 1 by omega) (by omega)⟩⟩
              case measure => simp [intOf] <;> omega
            · have HD := Box.mk (show S.dead = false by simpa using hd)
              clear hd
              have SF := Box.mk (show sf ≤ Y.length from DQ.out.safe_le)
              have mn : ∀ m : Nat, sf ≤ m → min (sf : Int) (m : Int) = (sf : Int) := fun m h => by omega
              have MN := Box.mk mn
              clear mn
              go_upto_region 48 with (first
                | (go_at_call 6; ((with_reducible refine (PB.out.opened HD.out DQ.out (by omega) limit hl HL.out HH.out).mono ?_); rintro e w4 ⟨lb4, p4, c4, M, rfl, hM4, r4, x4, f4, s4, b4, bo, ⟨F4, S4, hf4, hd4⟩, pm⟩; have HM4 := Box.mk hM4; have R4 := Box.mk r4; have X4 := Box.mk x4; have FM := Box.mk f4; have SM := Box.mk s4; have DF := Box.mk (dead_f b F4 S4 w4 hf4); have HD4 := Box.mk hd4; have M4 := Box.mk pm; have mn4 := MN.out M (by omega); have A4 := Box.mk ((bo.cell (p := ⟨wr.heap.size, 0, none⟩) ZL.out).trans A0.out); have Z4 := Box.mk (Nat.lt_of_lt_of_le ZL.out bo.size); have aq4 := A4.out; clear hM4 r4 x4 f4 s4 b4 bo hf4 hd4 pm))
                | (go_at_call 12; ((with_reducible refine DF.out.mono ?_); rintro e w' ⟨rfl, rfl⟩; rw [HD4.out]; clear DF))
                | (go_at_call 13; ((with_reducible refine (fits_ok p4 px M c4 _ N cx _ sf (strs Y) (strs X) w4 R4.out X4.out (fun j hj => strs_all Y j (by have := HM4.out; omega)) (by have h := strs_pre HY.out; rw [HM4.out] at h; exact h) (by have h := HY.out.length_le; have := HM4.out; have := LX.out; omega) (by omega) (by have := SF.out; have := HM4.out; omega)).mono ?_); rintro e w5 ⟨rfl, b5⟩; have aq5 := (b5.cell (p := ⟨wr.heap.size, 0, none⟩) Z4.out).trans A4.out; have M5 := Box.mk (M4.out.below b5); clear b5)))
              go_wp2_with fail
              go_roundw
              case rel => exact ⟨k + 1, M, sf, p4, c4, false, false, by go_num, by omega, by omega, rfl, rfl, rfl, rfl, ⟨M5.out.up (show k ≤ k + 1 by omega) (by omega)⟩⟩
              case measure => simp [intOf] <;> omega
          · by_cases k5 : kd = 5
            · as_aux_lemma =>
              subst k5
              go_upto_region 38 with (go_at_call 11; ((with_reducible refine (MR.out.restart BR.out (by omega) QI.out (ints_low QC.out)).mono ?_); rintro e w3 ⟨⟨rfl, F, S, X, Y, p3, hd3, d3, hy⟩, hkp, hsz⟩; have A3 := Box.mk ((cell_keep (hkp _ (Nat.le_refl _) ZL.out)).trans A0.out); have Z3 := Box.mk (Nat.lt_of_lt_of_le ZL.out hsz); have PB := Box.mk p3; have HD := Box.mk hd3; have DQ := Box.mk d3; have LX := Box.mk p3.len; have HYS := Box.mk hy; clear p3 hd3 d3 hy hkp hsz))
              have HY := Box.mk (HYS.out trivial).1
              have SF := Box.mk (HYS.out trivial).2
              go_wp2_with (first
                  | (go_at_call 6; ((with_reducible refine (PB.out.opened HD.out DQ.out (by omega) limit hl HL.out HH.out).mono ?_); rintro e w4 ⟨lb4, p4, c4, M, rfl, hM4, r4, x4, f4, s4, b4, bo, ⟨F4, S4, hf4, hd4⟩, pm⟩; have HM4 := Box.mk hM4; have R4 := Box.mk r4; have X4 := Box.mk x4; have FM := Box.mk f4; have SM := Box.mk s4; have DF := Box.mk (dead_f b F4 S4 w4 hf4); have HD4 := Box.mk hd4; have M4 := Box.mk pm; have A4 := Box.mk ((bo.cell (p := ⟨wr.heap.size, 0, none⟩) Z3.out).trans A3.out); have Z4 := Box.mk (Nat.lt_of_lt_of_le Z3.out bo.size); have aq4 := A4.out; clear hM4 r4 x4 f4 s4 b4 bo hf4 hd4 pm))
                  | (go_at_call 12; ((with_reducible refine DF.out.mono ?_); rintro e w' ⟨rfl, rfl⟩; rw [HD4.out]; clear DF))
                  | (go_at_call 13; ((with_reducible refine (fits_ok p4 px M c4 _ N cx _ sf (strs Y) (strs X) w4 R4.out X4.out (fun j hj => strs_all Y j (by have := HM4.out; omega)) (by have h := strs_pre HY.out; rw [HM4.out] at h; exact h) (by have h := HY.out.length_le; have := HM4.out; have := LX.out; omega) (by omega) (by have := SF.out; have := HM4.out; omega)).mono ?_); rintro e w5 ⟨rfl, b5⟩; have aq5 := (b5.cell (p := ⟨wr.heap.size, 0, none⟩) Z4.out).trans A4.out; have M5 := Box.mk (M4.out.below b5); clear b5)))
              have E5 := Box.mk (show PlM w w5 b (.pointer (some ⟨lb4, 0, none⟩)) (.slice p4 M c4) M M k false false by have h := M5.out; rw [HM4.out] at h; exact h)
              go_roundw
              case rel => exact ⟨k + 1, M, M, p4, c4, false, false, by go_num, by omega, by omega, rfl, rfl, rfl, rfl, ⟨E5.out.up (show k ≤ k + 1 by omega) (by omega)⟩⟩
              case measure => simp [intOf] <;> omega
            · by_cases k6 : kd = 6
              · as_aux_lemma =>
                subst k6
                go_wp2_with (go_at_call 14; ((with_reducible refine (MA.out.crash nn QR.out).mono ?_); rintro e w3 ⟨rfl, pm⟩; have M3 := Box.mk pm; clear pm))
                go_roundw
                case rel => exact ⟨k + 1, N, sf, _, _, true, false, by go_num, by omega, by omega, rfl, rfl, rfl, rfl, ⟨M3.out.up (show k ≤ k + 1 by omega) (by omega)⟩⟩
                case measure => simp [intOf] <;> omega
              · by_cases k7 : kd = 7
                · as_aux_lemma =>
                  subst k7
                  go_wp2_with (go_at_call 15; ((with_reducible refine (MA.out.fail nn QR.out).mono ?_); rintro e w3 ⟨rfl, pm⟩; have M3 := Box.mk pm; clear pm))
                  go_roundw
                  case rel => exact ⟨k + 1, N, sf, _, _, true, false, by go_num, by omega, by omega, rfl, rfl, rfl, rfl, ⟨M3.out.up (show k ≤ k + 1 by omega) (by omega)⟩⟩
                  case measure => simp [intOf] <;> omega
                · by_cases k8 : kd = 8
                  · as_aux_lemma =>
                    subst k8
                    go_wp2_with (go_at_call 16; ((with_reducible refine (MA.out.room nn QR.out).mono ?_); rintro e w3 ⟨rfl, pm⟩; have M3 := Box.mk pm; clear pm))
                    go_roundw
                    case rel => exact ⟨k + 1, N, sf, _, _, true, false, by go_num, by omega, by omega, rfl, rfl, rfl, rfl, ⟨M3.out.up (show k ≤ k + 1 by omega) (by omega)⟩⟩
                    case measure => simp [intOf] <;> omega
                  · as_aux_lemma =>
                    clear HR
                    have l4 : decide (kd < 4) = false := decide_eq_false (by omega)
                    have l4' : (kd < 4) = False := eq_false (by omega)
                    have f1 : (kd == 1) = false := by simpa using (by omega : ¬ kd = 1)
                    have g1 : (kd = 1) = False := eq_false (by omega)
                    have f2 : (kd == 2) = false := by simpa using (by omega : ¬ kd = 2)
                    have g2 : (kd = 2) = False := eq_false (by omega)
                    have f3 : (kd == 3) = false := by simpa using (by omega : ¬ kd = 3)
                    have g3 : (kd = 3) = False := eq_false (by omega)
                    have f4 : (kd == 4) = false := by simpa using (by omega : ¬ kd = 4)
                    have g4 : (kd = 4) = False := eq_false (by omega)
                    have f5 : (kd == 5) = false := by simpa using (by omega : ¬ kd = 5)
                    have g5 : (kd = 5) = False := eq_false (by omega)
                    have f6 : (kd == 6) = false := by simpa using (by omega : ¬ kd = 6)
                    have g6 : (kd = 6) = False := eq_false (by omega)
                    have f7 : (kd == 7) = false := by simpa using (by omega : ¬ kd = 7)
                    have g7 : (kd = 7) = False := eq_false (by omega)
                    have f8 : (kd == 8) = false := by simpa using (by omega : ¬ kd = 8)
                    have g8 : (kd = 8) = False := eq_false (by omega)
                    go_wp2_with fail
                    go_roundw
                    case rel => exact ⟨k + 1, N, sf, _, _, true, false, by go_num, by omega, by omega, rfl, rfl, rfl, rfl, ⟨MA.out.up (show k ≤ k + 1 by omega) (by omega)⟩⟩
                    case measure => simp [intOf] <;> omega
      · by_cases kl : kd < 4
        · as_aux_lemma =>
          clear HR
          have l4 : decide (kd < 4) = true := decide_eq_true (by omega)
          have l4' : (kd < 4) = True := eq_true (by omega)
          go_wp2_with fail
          go_roundw
          case rel => exact ⟨k + 1, N, sf, _, _, true, true, by go_num, by omega, by omega, rfl, rfl, rfl, rfl, ⟨MA.out.up (show k ≤ k + 1 by omega) (by omega)⟩⟩
          case measure => simp [intOf] <;> omega
        · by_cases k4 : kd = 4
          · as_aux_lemma =>
            subst k4
            go_wp2_with fail
            go_roundw
            case rel => exact ⟨k + 1, N, sf, _, _, true, true, by go_num, by omega, by omega, rfl, rfl, rfl, rfl, ⟨MA.out.up (show k ≤ k + 1 by omega) (by omega)⟩⟩
            case measure => simp [intOf] <;> omega
          · by_cases k5 : kd = 5
            · as_aux_lemma =>
              subst k5
              go_upto_region 38 with (go_at_call 11; ((with_reducible refine (MR.out.restart BR.out (by omega) QI.out (ints_low QC.out)).mono ?_); rintro e w3 ⟨⟨rfl, F, S, X, Y, p3, hd3, d3, hy⟩, hkp, hsz⟩; have A3 := Box.mk ((cell_keep (hkp _ (Nat.le_refl _) ZL.out)).trans A0.out); have Z3 := Box.mk (Nat.lt_of_lt_of_le ZL.out hsz); have PB := Box.mk p3; have HD := Box.mk hd3; have DQ := Box.mk d3; have LX := Box.mk p3.len; have HYS := Box.mk hy; clear p3 hd3 d3 hy hkp hsz))
              go_wp2_with (first
                  | (go_at_call 6; ((with_reducible refine (PB.out.opened HD.out DQ.out (by omega) limit hl HL.out HH.out).mono ?_); rintro e w4 ⟨lb4, p4, c4, M, rfl, hM4, r4, x4, f4, s4, b4, bo, ⟨F4, S4, hf4, hd4⟩, pm⟩; have HM4 := Box.mk hM4; have R4 := Box.mk r4; have X4 := Box.mk x4; have FM := Box.mk f4; have SM := Box.mk s4; have DF := Box.mk (dead_f b F4 S4 w4 hf4); have HD4 := Box.mk hd4; have M4 := Box.mk pm; have A4 := Box.mk ((bo.cell (p := ⟨wr.heap.size, 0, none⟩) Z3.out).trans A3.out); have Z4 := Box.mk (Nat.lt_of_lt_of_le Z3.out bo.size); have aq4 := A4.out; clear hM4 r4 x4 f4 s4 b4 bo hf4 hd4 pm))
                  | (go_at_call 12; ((with_reducible refine DF.out.mono ?_); rintro e w' ⟨rfl, rfl⟩; rw [HD4.out]; clear DF)))
              have E5 := Box.mk (show PlM w w4 b (.pointer (some ⟨lb4, 0, none⟩)) (.slice p4 M c4) M M k false false by have h := M4.out; rw [HM4.out] at h; exact h)
              go_roundw
              case rel => exact ⟨k + 1, M, M, p4, c4, false, false, by go_num, by omega, by omega, rfl, rfl, rfl, rfl, ⟨E5.out.up (show k ≤ k + 1 by omega) (by omega)⟩⟩
              case measure => simp [intOf] <;> omega
            · by_cases k6 : kd = 6
              · as_aux_lemma =>
                subst k6
                go_wp2_with (go_at_call 14; ((with_reducible refine (MA.out.crash nn QR.out).mono ?_); rintro e w3 ⟨rfl, pm⟩; have M3 := Box.mk pm; clear pm))
                go_roundw
                case rel => exact ⟨k + 1, N, sf, _, _, true, true, by go_num, by omega, by omega, rfl, rfl, rfl, rfl, ⟨M3.out.up (show k ≤ k + 1 by omega) (by omega)⟩⟩
                case measure => simp [intOf] <;> omega
              · by_cases k7 : kd = 7
                · as_aux_lemma =>
                  subst k7
                  go_wp2_with (go_at_call 15; ((with_reducible refine (MA.out.fail nn QR.out).mono ?_); rintro e w3 ⟨rfl, pm⟩; have M3 := Box.mk pm; clear pm))
                  go_roundw
                  case rel => exact ⟨k + 1, N, sf, _, _, true, true, by go_num, by omega, by omega, rfl, rfl, rfl, rfl, ⟨M3.out.up (show k ≤ k + 1 by omega) (by omega)⟩⟩
                  case measure => simp [intOf] <;> omega
                · by_cases k8 : kd = 8
                  · as_aux_lemma =>
                    subst k8
                    go_wp2_with (go_at_call 16; ((with_reducible refine (MA.out.room nn QR.out).mono ?_); rintro e w3 ⟨rfl, pm⟩; have M3 := Box.mk pm; clear pm))
                    go_roundw
                    case rel => exact ⟨k + 1, N, sf, _, _, true, true, by go_num, by omega, by omega, rfl, rfl, rfl, rfl, ⟨M3.out.up (show k ≤ k + 1 by omega) (by omega)⟩⟩
                    case measure => simp [intOf] <;> omega
                  · as_aux_lemma =>
                    clear HR
                    have l4 : decide (kd < 4) = false := decide_eq_false (by omega)
                    have l4' : (kd < 4) = False := eq_false (by omega)
                    have f1 : (kd == 1) = false := by simpa using (by omega : ¬ kd = 1)
                    have g1 : (kd = 1) = False := eq_false (by omega)
                    have f2 : (kd == 2) = false := by simpa using (by omega : ¬ kd = 2)
                    have g2 : (kd = 2) = False := eq_false (by omega)
                    have f3 : (kd == 3) = false := by simpa using (by omega : ¬ kd = 3)
                    have g3 : (kd = 3) = False := eq_false (by omega)
                    have f4 : (kd == 4) = false := by simpa using (by omega : ¬ kd = 4)
                    have g4 : (kd = 4) = False := eq_false (by omega)
                    have f5 : (kd == 5) = false := by simpa using (by omega : ¬ kd = 5)
                    have g5 : (kd = 5) = False := eq_false (by omega)
                    have f6 : (kd == 6) = false := by simpa using (by omega : ¬ kd = 6)
                    have g6 : (kd = 6) = False := eq_false (by omega)
                    have f7 : (kd == 7) = false := by simpa using (by omega : ¬ kd = 7)
                    have g7 : (kd = 7) = False := eq_false (by omega)
                    have f8 : (kd == 8) = false := by simpa using (by omega : ¬ kd = 8)
                    have g8 : (kd = 8) = False := eq_false (by omega)
                    go_wp2_with fail
                    go_roundw
                    case rel => exact ⟨k + 1, N, sf, _, _, true, true, by go_num, by omega, by omega, rfl, rfl, rfl, rfl, ⟨MA.out.up (show k ≤ k + 1 by omega) (by omega)⟩⟩
                    case measure => simp [intOf] <;> omega
    · have bel := Box.mk hM.out.facts.2.1
      by_cases hkm : k < n
      · obtain rfl : k = 25 := by omega
        go_wp2_with fail
        go_ret
        exact ⟨rfl, bel.out⟩
      · obtain rfl : k = n := by omega
        go_wp2_with fail
        go_ret
        exact ⟨rfl, bel.out⟩
end Go.Proofs.YtpmjmkgokaafaaaGreatDoor
