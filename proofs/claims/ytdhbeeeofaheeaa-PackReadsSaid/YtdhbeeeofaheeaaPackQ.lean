/- The laws of layer 4 (pack): PackBack. -/
import Derived.Test.YtdhbeeeofaheeaaPackP
import Derived.Deep.RegionWith
import Derived.Deep.RegionHeld3
namespace Go.Proofs.Ytdhbeeeofaheeaa
set_option maxRecDepth 100000
open Go.RowKit M

theorem fresh4 (w : World) (a b c d : Value) (t : TypeId) : (w.alloc (.cells #[a, b, c, d] t)).cell? ⟨w.heap.size, 0, none⟩ = some a ∧ (w.alloc (.cells #[a, b, c, d] t)).cell? ⟨w.heap.size, 1, none⟩ = some b ∧
    (w.alloc (.cells #[a, b, c, d] t)).cell? ⟨w.heap.size, 2, none⟩ = some c ∧ (w.alloc (.cells #[a, b, c, d] t)).cell? ⟨w.heap.size, 3, none⟩ = some d := by
  have hc := fun j => cell_of_row _ w.heap.size j _ _ _ (heap_alloc_new w (.cells #[a, b, c, d] t))
  exact ⟨by rw [hc]; rfl, by rw [hc]; rfl, by rw [hc]; rfl, by rw [hc]; rfl⟩
/-- what is kept of a cell that is no reader's -/
theorem Onl.cell {b : Nat} {w x : World} (h : Onl b w x) {g o : Nat} (hg : g < w.heap.size) (hne : g ≠ b) : x.cell? ⟨g, o, none⟩ = w.cell? ⟨g, o, none⟩ := World.cell?_of_block (h.block g hg hne)

set_option maxRecDepth 100000 in
set_option maxHeartbeats 1000000 in
theorem packBack_walk (p : Option Addr) (n c : Nat) (K N : Nat → Int) (V : Nat → Nat) (S : Nat → ByteArray) (hn : n ≤ 9223372036854775807) (w : World) (hI : TIn w (.slice p n c) n K N V S) :
    Calls Try.prog 5 #[.slice p n c] w fun e w' => e = .returned (.bool true) ∧ Below w.heap.size w w' := by
  have HI := Box.mk hI; clear hI
  have hA : Below w.heap.size w (w.alloc (.cells #[.slice none 0 0] 25)) := (Below.refl _ _).alloc (Nat.le_refl _) _
  have h0 := wr_new w w.heap.size rfl
  have H0 := Box.mk h0; have HA := Box.mk hA
  clear h0 hA
  obtain ⟨m, hm⟩ : ∃ m, m = min n 20 := ⟨_, rfl⟩
  have hmn : m ≤ n := by omega
  have hm20 : m ≤ 20 := by omega
  have HM := Box.mk hm
  clear hm
  have halm := accL_length K N V S m
  obtain ⟨T, hT⟩ : ∃ T, T = bs (accL K N V S m) := ⟨_, rfl⟩
  have hTs : T.size = (accL K N V S m).length := by rw [hT, bs_size]
  have hsT : sb T = accL K N V S m := by rw [hT, sb_bs _ (acc_lt K N V S m)]
  have hT6 : T.size ≤ 6180 := by omega
  have HT := Box.mk hT; have HSB := Box.mk hsT; have HTS := Box.mk hTs
  clear hT hsT hTs halm
  go_enter Try.func5, Try.ntmps5
  go_upto_block 0 with fail
  go_cut [4] (fun _ wx => ∃ v1, Wr wx w.heap.size (accL K N V S m) v1 ∧ Below w.heap.size w wx)
  case first =>
    go_wp2_with fail
    go_loopw [4] (fun i wr => ∃ (k : Nat) (v1 : Value), k ≤ n ∧ k ≤ 20 ∧ i = .int .i64 (k : Int) ∧ Box (Wr wr w.heap.size (accL K N V S k) v1) ∧ Box (Below w.heap.size w wr))
      (fun i _ => 20 - (intOf i).toNat)
    case atStart => exact ⟨0, _, by omega, by omega, rfl, H0, HA⟩
    case round =>
      obtain ⟨k, v1, hkn, hk30, rfl, hw, hb⟩ := hrel
      have hal := accL_length K N V S k
      by_cases h1 : k < n
      · by_cases h2 : k < 20
        · obtain ⟨b, off, c', hv, hlt, hcell⟩ := HI.out.cells (by omega)
          obtain ⟨rfl, _, rfl⟩ := Value.slice.inj hv
          obtain ⟨e0, e1, e2, e3⟩ := hcell k h1
          have e0 : wr.cell? ⟨b, off + k * 4, none⟩ = some (.int .i64 (K k)) := by rw [hb.out.cell hlt]; exact e0
          have e1 : wr.cell? ⟨b, off + k * 4 + 1, none⟩ = some (.int .i64 (N k)) := by rw [hb.out.cell hlt]; exact e1
          have e2 : wr.cell? ⟨b, off + k * 4 + 2, none⟩ = some (.int .u64 ((V k : Nat) : Int)) := by rw [hb.out.cell hlt]; exact e2
          have e3 : wr.cell? ⟨b, off + k * 4 + 3, none⟩ = some (.string (S k)) := by rw [hb.out.cell hlt]; exact e3
          have hnb := HI.out.nb k h1
          have cp := put_any w.heap.size (accL K N V S k) v1 (K k) (N k) (V k) (S k) hnb.1 hnb.2 (HI.out.vb k h1) wr hw.out (by omega)
          have hac : accL K N V S (k + 1) = accL K N V S k ++ thL (K k) (N k) (V k) (S k) := rfl
          generalize thL (K k) (N k) (V k) (S k) = M at *
          generalize K k = Kk at *
          generalize N k = Nk at *
          generalize V k = Vk at *
          generalize S k = Sk at *
          have CP := Box.mk cp; have HAC := Box.mk hac
          clear cp hac hcell hv hnb hal
          go_wp2_with (go_at_call 6; ((with_reducible refine CP.out.mono ?_); rintro e w1 ⟨rfl, v2, q2, x2⟩; have Q2 := Box.mk q2; have B2 := Box.mk (bch' hb.out (x2.below (B := w.heap.size) (Nat.le_refl _) hb.out.size (wr_ge hw.out))); clear q2 x2))
          go_roundw
          case rel => exact ⟨k + 1, v2, by omega, by omega, by go_num, ⟨by rw [HAC.out]; exact Q2.out⟩, B2⟩
          case measure => simp [intOf]; omega
        · have e20 : m = k := by have := HM.out; omega
          have EE := Box.mk e20
          clear e20 hal
          go_wp2_with fail
          go_meet
          exact ⟨v1, by rw [EE.out]; exact hw.out, hb.out⟩
      · have ek : m = k := by have := HM.out; omega
        have EE := Box.mk ek
        clear ek hal
        go_wp2_with fail
        go_meet
        exact ⟨v1, by rw [EE.out]; exact hw.out, hb.out⟩
  case rest =>
    obtain ⟨v1, hw, hb⟩ := hcut
    have cb := bytes_any w.heap.size _ v1 _ hw
    rw [← HT.out] at cb
    have cr := fun W => read_any T (by omega) W
    have CB := Box.mk cb; have CRD := Box.mk cr; have HB := Box.mk hb
    clear cb cr hw hb H0 HA
    go_wp2_with (first
      | (go_at_call 8; ((with_reducible refine CB.out.mono ?_); rintro e w' ⟨rfl, rfl⟩))
      | (go_at_call 10; ((with_reducible refine (CRD.out _).mono ?_); rintro e w2 ⟨rfl, r2, b2⟩; have R2 := Box.mk r2; have B2 := Box.mk (bch HB.out b2); have hrb := Nat.le_trans HB.out.size (Nat.le_refl _); clear r2 b2)))
    have RB := Box.mk hrb
    clear hrb CB CRD HB
    obtain ⟨rb, hrb⟩ : ∃ r, r = wc.heap.size := ⟨_, rfl⟩
    rw [← hrb] at R2 RB ⊢
    clear hrb
    have hrbw : w.heap.size ≤ rb := RB.out
    go_loopw [6] (fun i wr => ∃ k : Nat, k ≤ m ∧ i = .int .i64 (k : Int) ∧ Box (Rd wr rb T (accL K N V S k).length 0) ∧ Box (Below w.heap.size w wr))
      (fun i _ => m - (intOf i).toNat)
    case atStart => exact ⟨0, by omega, rfl, R2, B2⟩
    case round =>
      obtain ⟨k, hk, rfl, hr, hb⟩ := hrel
      clear R2 B2
      by_cases hlt : k < m
      · obtain ⟨b, off, c', hv, hbl, hcell⟩ := HI.out.cells (by omega)
        obtain ⟨rfl, _, rfl⟩ := Value.slice.inj hv
        obtain ⟨e0, e1, e2, e3⟩ := hcell k (by omega)
        have e0 : wr.cell? ⟨b, off + k * 4, none⟩ = some (.int .i64 (K k)) := by rw [hb.out.cell hbl]; exact e0
        have e1 : wr.cell? ⟨b, off + k * 4 + 1, none⟩ = some (.int .i64 (N k)) := by rw [hb.out.cell hbl]; exact e1
        have e2 : wr.cell? ⟨b, off + k * 4 + 2, none⟩ = some (.int .u64 ((V k : Nat) : Int)) := by rw [hb.out.cell hbl]; exact e2
        have e3 : wr.cell? ⟨b, off + k * 4 + 3, none⟩ = some (.string (S k)) := by rw [hb.out.cell hbl]; exact e3
        have hvb := HI.out.vb k (by omega)
        have hnb := HI.out.nb k (by omega)
        have hac : (accL K N V S (k + 1)).length = (accL K N V S k).length + (thL (K k) (N k) (V k) (S k)).length := by rw [accL, List.length_append]
        obtain ⟨BB, hpre⟩ := acc_prefix m hlt (K := K) (N := N) (V := V) (S := S)
        rw [← HSB.out] at hpre
        have hkn : k < n := by omega
        have hk20 : k < 20 := by omega
        have hsz : rb < wr.heap.size := World.block_lt_of_cell? wr _ hr.out.c0
        have c0 : ∀ w, Calls Try.prog 9 #[.string (S k), .int .i64 300] w fun e w' => e = .returned (.string ((S k).extract 0 300)) ∧ w = w' := fun w => cut_any (S k) 300 w
        have hcs := cut_le (S k) 300
        have C0 := Box.mk c0; have HAC := Box.mk hac
        clear c0 hac hcell hv
        generalize hAk : accL K N V S k = A at *
        clear hAk
        unfold thL at hpre HAC
        by_cases k1 : K k = 1
        · rw [if_pos k1] at hpre HAC
          rw [k1] at e0
          obtain ⟨g1, g2, g3⟩ := fix_back hpre
          have hcb := cl18_bd (N k)
          have hfl := fx_length (cl18 (N k)) (V k)
          rw [hfl] at HAC
          have c1 : ∀ W, Rd W rb T A.length 0 → Calls Try.prog 12 #[.pointer (some ⟨rb, 0, none⟩), .int .i64 (N k)] W (RdQ rb T (A.length + cl18 (N k)) 0 (.int .u64 ((V k % 2 ^ (8 * cl18 (N k)) : Nat) : Int)) W) := fun W hW => by
            have h := rfixed_any rb T A.length 0 (N k) W hW
            rw [g1, g2, g3] at h; exact h
          have hmv : V k % 2 ^ (8 * cl18 (N k)) < 18446744073709551616 := Nat.lt_of_le_of_lt (Nat.mod_le _ _) hvb
          have c2 : ∀ W, Calls Try.prog 23 #[.int .u64 ((V k % 2 ^ (8 * cl18 (N k)) : Nat) : Int), .int .i64 ((cl18 (N k) : Nat) : Int)] W fun e w' => e = .returned (.string (bs (fx (cl18 (N k)) (V k)))) ∧ Below W.heap.size W w' := fun W => by
            have h := refFixed_any (V k % 2 ^ (8 * cl18 (N k))) (cl18 (N k)) hmv hcb.1 hcb.2 W
            rw [fx_mod] at h; exact h
          have c3 := fun W => refFixed_any (V k) (cl18 (N k)) hvb hcb.1 hcb.2 W
          have hcl : min (max (N k) 1) 8 = ((cl18 (N k) : Nat) : Int) := by unfold cl18; split; omega; split <;> omega
          have sF : (bs (fx (cl18 (N k)) (V k))).size ≤ 8 := by rw [bs_size, fx_length]; omega
          generalize bs (fx (cl18 (N k)) (V k)) = F at *
          generalize V k % 2 ^ (8 * cl18 (N k)) = u at *
          generalize cl18 (N k) = q at *
          generalize (S k).extract 0 300 = s' at *
          generalize S k = Sk at *
          generalize N k = Nk at *
          generalize V k = Vk at *
          have ht := fresh4 wr (.int .i64 1) (.int .i64 Nk) (.int .u64 (Vk : Int)) (.string Sk) 30
          have hbt : Below wr.heap.size wr (wr.alloc (.cells #[.int .i64 1, .int .i64 Nk, .int .u64 (Vk : Int), .string Sk] 30)).drew := ((Below.refl _ _).alloc (Nat.le_refl _) _).drew
          have hrt := rd_below hr.out hbt
          have C1 := Box.mk c1; have C2 := Box.mk c2; have C3 := Box.mk c3; have HRT := Box.mk hrt; have HBT := Box.mk (bch hb.out hbt); have HTT := Box.mk ht
          clear c1 c2 c3 hrt hbt ht g1 g2 g3 hpre k1 hfl
          have hne : wr.heap.size ≠ rb := by omega
          go_wp2_with (first
            | (go_at_call 9; ((with_reducible refine (C0.out _).mono ?_); rintro e w' ⟨rfl, rfl⟩)))
          go_region_with (first
            | (go_at_call 12; ((with_reducible refine (C1.out _ HRT.out).mono ?_); rintro e w3 ⟨rfl, r3, o3⟩; have R3 := Box.mk r3; have B3 := Box.mk (bch' HBT.out (o3.below (B := w.heap.size) hrbw HBT.out.size)); have t1 := (o3.cell (g := wr.heap.size) (o := 1) (by simp) hne).trans HTT.out.2.1; have t2 := (o3.cell (g := wr.heap.size) (o := 2) (by simp) hne).trans HTT.out.2.2.1; have ts3 : wr.heap.size < w3.heap.size := Nat.lt_of_lt_of_le (by simp) o3.size; clear r3 o3))
            | (go_at_call 23; ((with_reducible refine (C2.out _).mono ?_); rintro e w4 ⟨rfl, b4⟩; have R4 := Box.mk (rd_below R3.out b4); have B4 := Box.mk (bch B3.out b4); have t3 := (b4.cell (p := ⟨wr.heap.size, 2, none⟩) ts3).trans t2; clear b4))
            | (go_at_call 23; ((with_reducible refine (C3.out _).mono ?_); rintro e w5 ⟨rfl, b5⟩; have R5 := Box.mk (rd_below R4.out b5); have B5 := Box.mk (bch B4.out b5); clear b5)))
          all_goals
            go_wp2_with fail
            go_roundw
            case rel => exact ⟨k + 1, by omega, by go_num, ⟨by rw [HAC.out]; exact R5.out⟩, B5⟩
            case measure => simp [intOf]; omega
        by_cases k2 : K k = 2
        · rw [if_neg k1, if_pos k2] at hpre HAC
          rw [k2] at e0
          obtain ⟨g1, g2, g3⟩ := numr_back hvb hpre
          have c1 : ∀ W, Rd W rb T A.length 0 → Calls Try.prog 14 #[.pointer (some ⟨rb, 0, none⟩)] W (RdQ rb T (A.length + (numL (V k)).length) 0 (.int .u64 ((V k : Nat) : Int)) W) := fun W hW => by
            have h := rnum_any rb T A.length 0 W hW
            rw [g1, g2, g3] at h; exact h
          generalize (numL (V k)).length = q at *
          have C1 := Box.mk c1
          clear c1 g1 g2 g3 hpre k2
          generalize (S k).extract 0 300 = s' at *
          generalize S k = Sk at *
          generalize N k = Nk at *
          generalize V k = Vk at *
          have ht := fresh4 wr (.int .i64 2) (.int .i64 Nk) (.int .u64 (Vk : Int)) (.string Sk) 30
          have hbt : Below wr.heap.size wr (wr.alloc (.cells #[.int .i64 2, .int .i64 Nk, .int .u64 (Vk : Int), .string Sk] 30)).drew := ((Below.refl _ _).alloc (Nat.le_refl _) _).drew
          have hrt := rd_below hr.out hbt
          have HRT := Box.mk hrt; have HBT := Box.mk (bch hb.out hbt); have HTT := Box.mk ht
          clear hrt hbt ht
          have hne : wr.heap.size ≠ rb := by omega
          go_wp2_with (first
            | (go_at_call 9; ((with_reducible refine (C0.out _).mono ?_); rintro e w' ⟨rfl, rfl⟩)))
          go_region_with (
            (go_at_call 14; ((with_reducible refine (C1.out _ HRT.out).mono ?_); rintro e w3 ⟨rfl, r3, o3⟩; have R3 := Box.mk r3; have B3 := Box.mk (bch' HBT.out (o3.below (B := w.heap.size) hrbw HBT.out.size)); have t2 := (o3.cell (g := wr.heap.size) (o := 2) (by simp) hne).trans HTT.out.2.2.1; clear r3 o3)))
          all_goals
            go_wp2_with fail
            go_roundw
            case rel => exact ⟨k + 1, by omega, by go_num, ⟨by rw [HAC.out]; exact R3.out⟩, B3⟩
            case measure => simp [intOf]; omega
        by_cases k3 : K k = 3
        · rw [if_neg k1, if_neg k2, if_pos k3] at hpre HAC
          rw [k3] at e0
          obtain ⟨g1, g2, g3⟩ := txt_back (by rw [sb_length]; exact hcs) hpre
          have g4 : txtS T A.length 0 300 = (S k).extract 0 300 := by rw [← bs_list (txtS T A.length 0 300), g3, bs_list]
          have c1 : ∀ W, Rd W rb T A.length 0 → Calls Try.prog 16 #[.pointer (some ⟨rb, 0, none⟩), .int .i64 300] W (RdQ rb T (A.length + (txtL (sb ((S k).extract 0 300))).length) 0 (.string ((S k).extract 0 300)) W) := fun W hW => by
            have h := rtext_any rb T A.length 0 300 (by omega) (by omega) W hW
            rw [g1, g2, g4] at h; exact h
          generalize (txtL (sb ((S k).extract 0 300))).length = q at *
          have C1 := Box.mk c1
          clear c1 g1 g2 g3 g4 hpre k3
          generalize (S k).extract 0 300 = s' at *
          generalize S k = Sk at *
          generalize N k = Nk at *
          generalize V k = Vk at *
          have ht := fresh4 wr (.int .i64 3) (.int .i64 Nk) (.int .u64 (Vk : Int)) (.string Sk) 30
          have hbt : Below wr.heap.size wr (wr.alloc (.cells #[.int .i64 3, .int .i64 Nk, .int .u64 (Vk : Int), .string Sk] 30)) := ((Below.refl _ _).alloc (Nat.le_refl _) _)
          have hrt := rd_below hr.out hbt
          have HRT := Box.mk hrt; have HBT := Box.mk (bch hb.out hbt); have HTT := Box.mk ht
          clear hrt hbt ht
          have hne : wr.heap.size ≠ rb := by omega
          go_wp2_with (first
            | (go_at_call 9; ((with_reducible refine (C0.out _).mono ?_); rintro e w' ⟨rfl, rfl⟩))
            | (go_at_call 16; ((with_reducible refine (C1.out _ HRT.out).mono ?_); rintro e w3 ⟨rfl, r3, o3⟩; have R3 := Box.mk r3; have B3 := Box.mk (bch' HBT.out (o3.below (B := w.heap.size) hrbw HBT.out.size)); clear r3 o3)))
          go_roundw
          case rel => exact ⟨k + 1, by omega, by go_num, ⟨by rw [HAC.out]; exact R3.out⟩, B3⟩
          case measure => simp [intOf]; omega
        by_cases k4 : K k = 4
        · rw [if_neg k1, if_neg k2, if_neg k3, if_pos k4] at hpre HAC
          rw [k4] at e0
          obtain ⟨g1, g2, g3⟩ := at_raw hpre
          have hl := sb_length ((S k).extract 0 300)
          rw [hl] at g1 g2 g3 HAC
          have g4 : rawS T A.length 0 (((S k).extract 0 300).size : Int) = (S k).extract 0 300 := by rw [← bs_list (rawS T A.length 0 _), g3, bs_list]
          have c1 : ∀ W, Rd W rb T A.length 0 → Calls Try.prog 18 #[.pointer (some ⟨rb, 0, none⟩), .int .i64 (((S k).extract 0 300).size : Int)] W (RdQ rb T (A.length + ((S k).extract 0 300).size) 0 (.string ((S k).extract 0 300)) W) := fun W hW => by
            have h := rraw_any rb T A.length 0 (((S k).extract 0 300).size : Int) W hW
            rw [g1, g2, g4] at h; exact h
          have C1 := Box.mk c1
          clear c1 g1 g2 g3 g4 hpre k4 hl
          generalize (S k).extract 0 300 = s' at *
          generalize S k = Sk at *
          generalize N k = Nk at *
          generalize V k = Vk at *
          have ht := fresh4 wr (.int .i64 4) (.int .i64 Nk) (.int .u64 (Vk : Int)) (.string Sk) 30
          have hbt : Below wr.heap.size wr (wr.alloc (.cells #[.int .i64 4, .int .i64 Nk, .int .u64 (Vk : Int), .string Sk] 30)) := ((Below.refl _ _).alloc (Nat.le_refl _) _)
          have hrt := rd_below hr.out hbt
          have HRT := Box.mk hrt; have HBT := Box.mk (bch hb.out hbt); have HTT := Box.mk ht
          clear hrt hbt ht
          have hne : wr.heap.size ≠ rb := by omega
          go_wp2_with (first
            | (go_at_call 9; ((with_reducible refine (C0.out _).mono ?_); rintro e w' ⟨rfl, rfl⟩))
            | (go_at_call 18; ((with_reducible refine (C1.out _ HRT.out).mono ?_); rintro e w3 ⟨rfl, r3, o3⟩; have R3 := Box.mk r3; have B3 := Box.mk (bch' HBT.out (o3.below (B := w.heap.size) hrbw HBT.out.size)); clear r3 o3)))
          go_roundw
          case rel => exact ⟨k + 1, by omega, by go_num, ⟨by rw [HAC.out]; exact R3.out⟩, B3⟩
          case measure => simp [intOf]; omega
        · rw [if_neg k1, if_neg k2, if_neg k3, if_neg k4, List.length_nil, Nat.add_zero] at HAC
          have d1 : (K k == 1) = false := by rw [beq_eq_false_iff_ne]; exact k1
          have d2 : (K k == 2) = false := by rw [beq_eq_false_iff_ne]; exact k2
          have d3 : (K k == 3) = false := by rw [beq_eq_false_iff_ne]; exact k3
          have d4 : (K k == 4) = false := by rw [beq_eq_false_iff_ne]; exact k4
          clear k1 k2 k3 k4 hpre
          generalize K k = Kk at *
          generalize (S k).extract 0 300 = s' at *
          generalize S k = Sk at *
          generalize N k = Nk at *
          generalize V k = Vk at *
          have ht := fresh4 wr (.int .i64 Kk) (.int .i64 Nk) (.int .u64 (Vk : Int)) (.string Sk) 30
          have hbt : Below wr.heap.size wr (wr.alloc (.cells #[.int .i64 Kk, .int .i64 Nk, .int .u64 (Vk : Int), .string Sk] 30)) := ((Below.refl _ _).alloc (Nat.le_refl _) _)
          have hrt := rd_below hr.out hbt
          have HRT := Box.mk hrt; have HBT := Box.mk (bch hb.out hbt); have HTT := Box.mk ht
          clear hrt hbt ht
          have hne : wr.heap.size ≠ rb := by omega
          go_wp2_with (first
            | (go_at_call 9; ((with_reducible refine (C0.out _).mono ?_); rintro e w' ⟨rfl, rfl⟩)))
          go_roundw
          case rel => exact ⟨k + 1, by omega, by go_num, ⟨by rw [HAC.out]; exact HRT.out⟩, HBT⟩
          case measure => simp [intOf]; omega
      · have hkk : ¬ k < n ∨ (k < n ∧ ¬ k < 20) := by have := HM.out; omega
        obtain rfl : k = m := by omega
        have cd : ∀ W, Rd W rb T T.size 0 → Calls Try.prog 22 #[.pointer (some ⟨rb, 0, none⟩)] W (RdQ rb T T.size 0 (.int .i64 0) W) := fun W hW => by
          have h := done_any rb T T.size 0 W hW
          rw [if_neg (fun hh => Nat.lt_irrefl _ hh.2)] at h; exact h
        have hre := hr.out
        rw [← HTS.out] at hre
        have CD := Box.mk cd; have HRE := Box.mk hre
        clear cd hre hr
        rcases hkk with h1 | ⟨h1, h2⟩
        all_goals
          go_wp2_with (first
            | (go_at_call 7; ((with_reducible refine (awake4_any _).mono ?_); rintro e w3 ⟨rfl, b3⟩; have R3 := Box.mk (rd_below HRE.out b3); have B3 := Box.mk (bch hb.out b3); clear b3))
            | (go_at_call 22; ((with_reducible refine (CD.out _ R3.out).mono ?_); rintro e w4 ⟨rfl, r4, o4⟩; have B4 := Box.mk (bch' B3.out (o4.below (B := w.heap.size) hrbw B3.out.size)); clear r4 o4)))
          go_ret
          exact ⟨rfl, B4.out⟩
end Go.Proofs.Ytdhbeeeofaheeaa
