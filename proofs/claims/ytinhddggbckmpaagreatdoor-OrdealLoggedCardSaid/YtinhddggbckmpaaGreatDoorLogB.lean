/- OrdealLogged: numbers that are logged one by one, and what is there behind a crash. -/
import Derived.Test.YtinhddggbckmpaaGreatDoorLogA
import Derived.Test.YtinhddggbckmpaaGreatDoorArgsN
import Derived.Deep.RegionHeld3
namespace Go.Proofs.YtinhddggbckmpaaGreatDoor
set_option maxRecDepth 100000
open Go.ChangeShapes Go.WideShapes Go.RowKit M

set_option maxRecDepth 100000 in
set_option maxHeartbeats 8000000 in
theorem logged_walk (p : Option Addr) (n c : Nat) (V : Nat → Nat) (limit crash : Int) (cv : Value) (choice : List Int) (w : World) (hI : UIn w (.slice p n c) n V) (hn : n ≤ 9223372036854775807) (hl : limit ≤ 9223372036854775807) (hcr : crash ≤ 9223372036854775807) (hC : IntsIn w cv choice) (hL : LibW w) (hH : Halves w) (hK : KTab w) (hT : Tab64 w) :
    Calls Tryz.prog 8 #[.slice p n c, .int .i64 limit, .int .i64 crash, cv] w fun e w' => e = .returned (.bool true) ∧ Below w.heap.size w w' := by
  have lv := live_any w hK hH hT
  have hv : ∀ k, 0 < choice.length → cv.ownBlock = some k → k < w.heap.size := fun k h0 e => by
    obtain ⟨b, off, cc, e2, hb, _⟩ := hC.cells h0
    rw [e2] at e
    have e3 : b = k := by simpa [Value.ownBlock] using e
    rw [← e3]; exact hb
  obtain ⟨N, hN⟩ : ∃ N : Nat, N = if 15 < n then 15 else n := ⟨_, rfl⟩
  have hN15 : N ≤ 15 := by rw [hN]; split <;> omega
  have hNn : N ≤ n := by rw [hN]; split <;> omega
  have hmin : (if (15 : Int) < (n : Int) then 15 else (n : Int)) = (N : Int) := by rw [hN]; split <;> split <;> omega
  have hmin2 : min (n : Int) 15 = (N : Int) := by rw [hN]; split <;> omega
  have HL := Box.mk hL; have HH := Box.mk hH; have LV := Box.mk lv; have HI := Box.mk hI; have HC := Box.mk hC; have HV := Box.mk hv
  clear hL hH hK hT lv hI hC hv hN
  go_enter Tryz.func8, Tryz.ntmps8
  go_wp2_with (first
    | (go_at_call 30; ((with_reducible refine LV.out.mono ?_); rintro e w1 ⟨rfl, b1⟩; have C0 := Box.mk (new_run b1 1048576 (by omega) (by omega)); clear b1 LV))
    | (go_at_call 10; ((with_reducible refine C0.out.mono ?_); rintro e w2 ⟨b, rfl, rd, b2⟩; have K1 := Box.mk (open_run rd rfl (by omega) limit hl HL.out HH.out); clear rd b2 C0))
    | (go_at_call 11; ((with_reducible refine K1.out.mono ?_); rintro e w3 ⟨lb, p1, c1, L0, rfl, rn, h1, h2, row, hb⟩; have K2 := Box.mk (crash_hale rn crash hcr); clear rn h1 h2 row hb K1))
    | (go_at_call 17; ((with_reducible refine K2.out.mono ?_); rintro e w4 ⟨rfl, S3, rn, kp, rm, hh⟩; have RN3 := Box.mk rn; have RM3 := Box.mk rm; have HA3 := Box.mk (hh (Calm.begun _).hale); clear rn kp rm hh K2)))
  go_loopw [13, 15, 16] (fun sv i _ wr => ∃ (j : Nat) (F D : Nat → Prop) (S : DS) (L : LS), j ≤ N ∧ sv = .int .i64 (j : Int) ∧ i = .int .i64 (j : Int) ∧ Box (Run w wr lb b F D S L (nrs V j) (2 * j) j) ∧ Box (Hale S) ∧ Box (S.room = 1048576))
    (fun _ i _ _ => N - (intOf i).toNat)
  case atStart => exact ⟨0, _, _, S3, L0, by omega, rfl, rfl, RN3, HA3, ⟨RM3.out⟩⟩
  case round =>
    obtain ⟨j, F, D, S, L, hjN, rfl, rfl, hR, hHa, hRM⟩ := hrel
    clear RN3 RM3 HA3
    by_cases hlt : j < N
    · have d1 : decide ((j : Int) < (N : Int)) = true := by simpa using hlt
      obtain ⟨pb, off, cc, hve, hlt0, hcell⟩ := HI.out.cells (by omega)
      obtain ⟨rfl, _, rfl⟩ := Value.slice.inj hve
      have hvb := HI.out.vb j (by omega)
      have q0 : wr.cell? ⟨pb, off + j, none⟩ = some (.int .u64 ((V j : Nat) : Int)) := by rw [hR.out.bel.cell hlt0]; exact hcell j (by omega)
      have hpb : pb < wr.heap.size := World.block_lt_of_cell? wr _ q0
      have nsc : nrs V j ++ [numL (V j)] = nrs V (j + 1) := (nrs_succ V j).symm
      have nl9 := numL_length (V j)
      have nlt := numL_lt (V j)
      have nsb := numL_sb (V j)
      have rsz : (bs (numL (V j))).size ≤ 60 := by rw [bs_size]; omega
      have aph := hR.out.st.append_hale hHa.out (by omega) (by rw [nrs_len]; omega) ⟨by omega, nlt⟩ (by rw [hRM.out]; omega)
      obtain ⟨_, dl2, _, _⟩ := hR.out.st.append (r := numL (V j)) (by omega) (by rw [nrs_len]; omega) ⟨by omega, nlt⟩
      have ap := fun F W (h : Run w W lb b F D S L (nrs V j) (2 * j) j) => append_try h (by omega) (by rw [nrs_len]; omega) (bs (numL (V j))) rsz HH.out
      obtain ⟨x, hx⟩ : ∃ x, x = V j := ⟨_, rfl⟩
      rw [← hx] at hvb q0 nsc nl9 nlt nsb rsz aph dl2 ap
      clear hx
      obtain ⟨⟨a1, S', L'⟩, hA⟩ : ∃ A, lappend S L (numL x) = A := ⟨_, rfl⟩
      rw [nsb] at ap
      unfold TryQ at ap
      rw [hA, nsc] at ap
      rw [hA] at aph
      rw [hA, nsc] at dl2
      have kx : ∀ W F' (S'' : DS), (∃ X', (X' = nrs V j ∨ X' = nrs V (j + 1)) ∧ RunD w W b F' S'' X' (2 * j + 1) j) → ∃ kk, kk ≤ j + 1 ∧ j ≤ kk ∧ RunD w W b F' S'' (nrs V kk) (2 * j + 1) j := fun W F' S'' ⟨X', hX, rd⟩ => by
        rcases hX with rfl | rfl
        · exact ⟨j, by omega, by omega, rd⟩
        · exact ⟨j + 1, by omega, by omega, rd⟩
      have wn : Wr (wr.alloc (.cells #[.slice none 0 0] 58)) wr.heap.size [] (.slice none 0 0) := wr_new wr wr.heap.size rfl
      have cnum := num_any wr.heap.size [] (.slice none 0 0) x hvb _ wn (by decide)
      rw [List.nil_append] at cnum
      have cbyt := fun W v (h : Wr W wr.heap.size (numL x) v) => bytes_any wr.heap.size (numL x) v W h
      obtain ⟨R, hRR⟩ : ∃ R, R = bs (numL x) := ⟨_, rfl⟩
      rw [← hRR] at ap cbyt rsz
      have AP := Box.mk ap; have KX := Box.mk kx; have CN := Box.mk cnum; have CB := Box.mk cbyt; have WN := Box.mk wn
      clear ap kx cnum cbyt wn hve hcell hlt0 nl9 nlt nsb rsz nsc hRR
      by_cases ha : a1 = 0
      · subst ha
        have hs : Hale S' := by rcases aph with h | h; exact h.2; exact absurd (show (0 : Int) = 9 from h.1) (by decide)
        have syh := (dl2 rfl).sync_hale hs (by omega)
        have sy := fun F W (h : Run w W lb b F D S' L' (nrs V (j + 1)) (2 * j + 1) j) => sync_try h (by omega)
        obtain ⟨⟨b1, S2, L2⟩, hB⟩ : ∃ A, lsync S' L' = A := ⟨_, rfl⟩
        unfold SynQ at sy
        rw [hB, nrs_len] at sy
        rw [hB] at syh
        have SY := Box.mk sy
        clear sy hB dl2 aph hA
        by_cases hb : b1 = 0
        · subst hb
          have HS2 : Box (Hale S2) := ⟨by rcases syh with h | h; exact h.2; exact absurd (show (0 : Int) = 9 from h.1) (by decide)⟩
          clear syh hs
          have jw : IntKind.i64.wrap ((j : Int) + 1) = ((j + 1 : Nat) : Int) := by rw [IntWalk.i64_in _ (by omega)]; omega
          have JW := Box.mk jw
          clear jw
          go_wp2_with (first
            | (go_at_call 31; ((with_reducible refine CN.out.mono ?_); rintro e w5 ⟨rfl, v1, q1, x1⟩; have Q1 := Box.mk q1; have R4 := Box.mk (hR.out.below (((Below.refl wr.heap.size wr).alloc (Nat.le_refl _) _).trans (x1.below (B := wr.heap.size) (Nat.le_refl _) (by simp) (wr_ge WN.out)))); clear q1 x1 CN))
            | (go_at_call 32; ((with_reducible refine (CB.out _ _ Q1.out).mono ?_); rintro e w' ⟨rfl, rfl⟩; clear CB Q1))
            | (go_at_call 14; ((with_reducible refine (AP.out _ _ R4.out).mono ?_); rintro e w6 ⟨rfl, kp, rm, ok, no⟩; have RM5 := Box.mk (rm.trans hRM.out); have R5 := Box.mk (ok (by simp)); clear kp rm ok no AP))
            | (go_at_call 18; ((with_reducible refine (SY.out _ _ R5.out).mono ?_); rintro e w7 ⟨rfl, kp, rm, ok, no⟩; have RM6 := Box.mk (rm.trans RM5.out); have R6 := Box.mk (ok (by simp)); clear kp rm ok no SY)))
          go_roundw
          case rel => exact ⟨j + 1, _, D, S2, L2, by omega, by go_num, by go_num, ⟨R6.out.up (by omega)⟩, HS2, RM6⟩
          case measure => simp [intOf]; omega
        · have hd : S2.dead = true := by rcases syh with h | h; exact absurd h.1 hb; exact h.2
          have f1 : (b1 != 0) = true := by simpa using hb
          have f2 : decide (b1 = 0) = false := by simpa using hb
          have f3 : (b1 == 0) = false := by simpa using hb
          have kk0 : j ≤ j + 1 := by omega
          have kn0 : j + 1 ≤ n := by omega
          obtain ⟨kk, hkk⟩ : ∃ kk, kk = j + 1 := ⟨_, rfl⟩
          have ks : j ≤ kk := by omega
          have kj : kk ≤ j + 1 := by omega
          have kn : kk ≤ n := by omega
          have HKK := Box.mk hkk
          clear syh hs hkk kk0 kn0
          go_wp2_with (first
            | (go_at_call 31; ((with_reducible refine CN.out.mono ?_); rintro e w5 ⟨rfl, v1, q1, x1⟩; have Q1 := Box.mk q1; have R4 := Box.mk (hR.out.below (((Below.refl wr.heap.size wr).alloc (Nat.le_refl _) _).trans (x1.below (B := wr.heap.size) (Nat.le_refl _) (by simp) (wr_ge WN.out)))); clear q1 x1 CN))
            | (go_at_call 32; ((with_reducible refine (CB.out _ _ Q1.out).mono ?_); rintro e w' ⟨rfl, rfl⟩; clear CB Q1))
            | (go_at_call 14; ((with_reducible refine (AP.out _ _ R4.out).mono ?_); rintro e w6 ⟨rfl, kp, rm, ok, no⟩; have R5 := Box.mk (ok (by simp)); clear kp rm ok no AP))
            | (go_at_call 18; ((with_reducible refine (SY.out _ _ R5.out).mono ?_); rintro e w7 ⟨rfl, kp, rm, ok, no⟩; rw [← HKK.out] at no; have RD := Box.mk no; have DD := Box.mk (dead_f b _ S2 w7 RD.out.disk); clear kp rm ok no SY R5 R4 hR))
            | (go_at_call 27; ((with_reducible refine DD.out.mono ?_); rintro e w' ⟨rfl, rfl⟩; clear DD))
            | (go_at_call 19; ((with_reducible refine (restart_run RD.out (by omega) cv choice (HC.out.keep0 RD.out.bel.size (fun _ b _ hb => RD.out.bel.block b hb)) (fun k h0 e => RD.out.old k (HV.out k h0 e))).mono ?_); rintro e wa ⟨rfl, Sa, m, m1, m2, rd, kp, cm, rm⟩; rw [nrs_len] at m2; rw [nrs_take V m2] at rd; have mn : m ≤ n := (Nat.le_trans m2 kn); have my : m ≤ j + 1 := (Nat.le_trans m2 kj); have ym : j ≤ m := (by omega); have m1e : decide ((m : Int) < (j : Int)) = false := (by simpa using ym); obtain ⟨y1, hy1⟩ : ∃ y1, y1 = j + 1 := ⟨_, rfl⟩; have y1w : IntKind.i64.wrap ((j : Int) + 1) = (y1 : Int) := (by rw [IntWalk.i64_in _ (by omega)]; omega); have m2e : decide ((y1 : Int) < (m : Int)) = false := (decide_eq_false (by omega)); have nm1 : (m < j) = False := (eq_false (by omega)); have nm2 : (y1 < m) = False := (eq_false (by omega)); clear hy1; have RDa := Box.mk rd; have CMa := Box.mk cm; clear rd kp cm rm RD))
            | (go_at_call 11; ((with_reducible refine (open_n (n := m) RDa.out (nrs_len V m) CMa.out.alive (by omega) limit hl HL.out HH.out).mono ?_); rintro e wb ⟨lbb, pz, cz, Lb, rfl, rn, h1, h2, row, hb⟩; have BB := Box.mk rn.bel; have ROW := Box.mk row; clear rn h1 h2 row hb RDa CMa)))
          go_loopw [20, 21, 22, 23, 98] (fun _ _ _ _ q wx => ∃ i : Nat, i ≤ m ∧ q = .int .i64 (i : Int) ∧ Box (Below wb.heap.size wb wx)) (fun _ _ _ _ q _ => m - (intOf q).toNat)
          case atStart => exact ⟨0, by omega, rfl, ⟨Below.refl _ _⟩⟩
          case round =>
            obtain ⟨i, hi, rfl, hbx⟩ := hrel
            by_cases hlt2 : i < m
            · have dj : decide ((i : Int) < (m : Int)) = true := by simpa using hlt2
              obtain ⟨g1, cap1, hv1, _, hg1⟩ := ROW.out.form (by omega)
              obtain ⟨rfl, _, rfl⟩ := Value.slice.inj hv1
              have hc1 := (hbx.out.cell hg1).trans ((ROW.out.cellAt i (by omega)).trans (nrs_at V hlt2))
              obtain ⟨pq, offq, ccq, hvq, hltq, hcellq⟩ := HI.out.cells (by omega)
              obtain ⟨hpq, _, hcq⟩ := Value.slice.inj hvq
              subst hcq
              first
                | subst hpq
                | (obtain ⟨e1, e2⟩ : pb = pq ∧ off = offq := (by simpa using hpq); subst e1; subst e2; clear hpq; obtain ⟨pq, hpq⟩ : ∃ pq, pq = pb := ⟨_, rfl⟩; obtain ⟨offq, hoffq⟩ : ∃ offq, offq = off := ⟨_, rfl⟩; subst hpq; subst hoffq)
              have BR := Box.mk (BB.out.trans (hbx.out.mono BB.out.size))
              have qz : ∀ W, Below wr.heap.size wr W → W.cell? ⟨pq, offq + i, none⟩ = some (.int .u64 ((V i : Nat) : Int)) := fun W hb => by
                rw [(BR.out.trans (hb.mono BR.out.size)).cell hltq]; exact hcellq i (by omega)
              have hvi := HI.out.vb i (by omega)
              obtain ⟨n1, n2, n3⟩ := num_whole hvi
              have tsz : (bs (numL (V i))).size ≤ 1000000 := by rw [bs_size]; have := numL_length (V i); omega
              obtain ⟨z, hz⟩ : ∃ z, z = V i := ⟨_, rfl⟩
              rw [← hz] at qz n1 n2 n3 hvi tsz hc1
              obtain ⟨T, hT⟩ : ∃ T, T = bs (numL z) := ⟨_, rfl⟩
              rw [← hT] at n1 n2 n3 tsz hc1
              have crd := read_any T tsz wr
              have crn := fun W (h : Rd W wr.heap.size T 0 0) => rnum_any wr.heap.size T 0 0 W h
              rw [n1, n2, n3] at crn
              have cdn := fun W (h : Rd W wr.heap.size T T.size 0) => done_any wr.heap.size T T.size 0 W h
              rw [if_neg (fun h => Nat.lt_irrefl _ h.2)] at cdn
              have CRD := Box.mk crd; have CRN := Box.mk crn; have CDN := Box.mk cdn; have QZ := Box.mk qz
              clear crd crn cdn qz n1 n2 n3 hvi tsz hT hz hv1 hvq hcellq hltq hg1
              go_upto_region 28 with (first
                | (go_at_call 33; ((with_reducible refine CRD.out.mono ?_); rintro e x1 ⟨rfl, r1, y1⟩; have RR1 := Box.mk r1; have YB1 := Box.mk y1; clear r1 y1 CRD))
                | (go_at_call 34; ((with_reducible refine (CRN.out _ RR1.out).mono ?_); rintro e x2 ⟨rfl, r2, o2⟩; have RR2 := Box.mk r2; have YB2 := Box.mk (YB1.out.trans (o2.below (B := wr.heap.size) (Nat.le_refl _) YB1.out.size)); clear r2 o2 CRN RR1 YB1)))
              have qd : x2.cell? ⟨pq, offq + i, none⟩ = some (.int .u64 (z : Int)) := QZ.out _ YB2.out
              go_wp2_with (first
                | (go_at_call 35; ((with_reducible refine (CDN.out _ RR2.out).mono ?_); rintro e x3 ⟨rfl, r3, o3⟩; have YB3 := Box.mk (YB2.out.trans (o3.below (B := wr.heap.size) (Nat.le_refl _) YB2.out.size)); have qe : x3.cell? ⟨pq, offq + i, none⟩ = some (.int .u64 (z : Int)) := (QZ.out _ YB3.out); clear r3 o3 CDN)))
              go_roundw
              case rel => exact ⟨i + 1, by omega, by go_num, ⟨hbx.out.trans (YB3.out.mono hbx.out.size)⟩⟩
              case measure => simp [intOf]; omega
            · obtain rfl : i = m := by omega
              have dj : decide ((i : Int) < (i : Int)) = false := by simp
              have B9 := Box.mk (BB.out.trans (hbx.out.mono BB.out.size))
              go_wp2_with fail
              go_ret
              exact ⟨rfl, B9.out⟩
      · have hd : S'.dead = true := by rcases aph with h | h; exact absurd h.1 ha; exact h.2
        have f1 : (a1 != 0) = true := by simpa using ha
        have f2 : decide (a1 = 0) = false := by simpa using ha
        have f3 : (a1 == 0) = false := by simpa using ha
        clear dl2 aph hA
        go_wp2_with (first
            | (go_at_call 31; ((with_reducible refine CN.out.mono ?_); rintro e w5 ⟨rfl, v1, q1, x1⟩; have Q1 := Box.mk q1; have R4 := Box.mk (hR.out.below (((Below.refl wr.heap.size wr).alloc (Nat.le_refl _) _).trans (x1.below (B := wr.heap.size) (Nat.le_refl _) (by simp) (wr_ge WN.out)))); clear q1 x1 CN))
            | (go_at_call 32; ((with_reducible refine (CB.out _ _ Q1.out).mono ?_); rintro e w' ⟨rfl, rfl⟩; clear CB Q1))
            | (go_at_call 14; ((with_reducible refine (AP.out _ _ R4.out).mono ?_); rintro e w6 ⟨rfl, kp, rm, ok, no⟩; obtain ⟨kk, kj, ks, rd⟩ := KX.out _ _ _ no; have kn : kk ≤ n := (by omega); have RD := Box.mk rd; have DD := Box.mk (dead_f b _ S' w6 RD.out.disk); clear kp rm ok no rd AP R4 hR))
            | (go_at_call 27; ((with_reducible refine DD.out.mono ?_); rintro e w' ⟨rfl, rfl⟩; clear DD))
            | (go_at_call 19; ((with_reducible refine (restart_run RD.out (by omega) cv choice (HC.out.keep0 RD.out.bel.size (fun _ b _ hb => RD.out.bel.block b hb)) (fun k h0 e => RD.out.old k (HV.out k h0 e))).mono ?_); rintro e wa ⟨rfl, Sa, m, m1, m2, rd, kp, cm, rm⟩; rw [nrs_len] at m2; rw [nrs_take V m2] at rd; have mn : m ≤ n := (Nat.le_trans m2 kn); have my : m ≤ j + 1 := (Nat.le_trans m2 kj); have ym : j ≤ m := (by omega); have m1e : decide ((m : Int) < (j : Int)) = false := (by simpa using ym); obtain ⟨y1, hy1⟩ : ∃ y1, y1 = j + 1 := ⟨_, rfl⟩; have y1w : IntKind.i64.wrap ((j : Int) + 1) = (y1 : Int) := (by rw [IntWalk.i64_in _ (by omega)]; omega); have m2e : decide ((y1 : Int) < (m : Int)) = false := (decide_eq_false (by omega)); have nm1 : (m < j) = False := (eq_false (by omega)); have nm2 : (y1 < m) = False := (eq_false (by omega)); clear hy1; have RDa := Box.mk rd; have CMa := Box.mk cm; clear rd kp cm rm RD))
            | (go_at_call 11; ((with_reducible refine (open_n (n := m) RDa.out (nrs_len V m) CMa.out.alive (by omega) limit hl HL.out HH.out).mono ?_); rintro e wb ⟨lbb, pz, cz, Lb, rfl, rn, h1, h2, row, hb⟩; have BB := Box.mk rn.bel; have ROW := Box.mk row; clear rn h1 h2 row hb RDa CMa)))
        go_loopw [20, 21, 22, 23, 98] (fun _ _ _ _ q wx => ∃ i : Nat, i ≤ m ∧ q = .int .i64 (i : Int) ∧ Box (Below wb.heap.size wb wx)) (fun _ _ _ _ q _ => m - (intOf q).toNat)
        case atStart => exact ⟨0, by omega, rfl, ⟨Below.refl _ _⟩⟩
        case round =>
          obtain ⟨i, hi, rfl, hbx⟩ := hrel
          by_cases hlt2 : i < m
          · have dj : decide ((i : Int) < (m : Int)) = true := by simpa using hlt2
            obtain ⟨g1, cap1, hv1, _, hg1⟩ := ROW.out.form (by omega)
            obtain ⟨rfl, _, rfl⟩ := Value.slice.inj hv1
            have hc1 := (hbx.out.cell hg1).trans ((ROW.out.cellAt i (by omega)).trans (nrs_at V hlt2))
            obtain ⟨pq, offq, ccq, hvq, hltq, hcellq⟩ := HI.out.cells (by omega)
            obtain ⟨hpq, _, hcq⟩ := Value.slice.inj hvq
            subst hcq
            first
              | subst hpq
              | (obtain ⟨e1, e2⟩ : pb = pq ∧ off = offq := (by simpa using hpq); subst e1; subst e2; clear hpq; obtain ⟨pq, hpq⟩ : ∃ pq, pq = pb := ⟨_, rfl⟩; obtain ⟨offq, hoffq⟩ : ∃ offq, offq = off := ⟨_, rfl⟩; subst hpq; subst hoffq)
            have BR := Box.mk (BB.out.trans (hbx.out.mono BB.out.size))
            have qz : ∀ W, Below wr.heap.size wr W → W.cell? ⟨pq, offq + i, none⟩ = some (.int .u64 ((V i : Nat) : Int)) := fun W hb => by
              rw [(BR.out.trans (hb.mono BR.out.size)).cell hltq]; exact hcellq i (by omega)
            have hvi := HI.out.vb i (by omega)
            obtain ⟨n1, n2, n3⟩ := num_whole hvi
            have tsz : (bs (numL (V i))).size ≤ 1000000 := by rw [bs_size]; have := numL_length (V i); omega
            obtain ⟨z, hz⟩ : ∃ z, z = V i := ⟨_, rfl⟩
            rw [← hz] at qz n1 n2 n3 hvi tsz hc1
            obtain ⟨T, hT⟩ : ∃ T, T = bs (numL z) := ⟨_, rfl⟩
            rw [← hT] at n1 n2 n3 tsz hc1
            have crd := read_any T tsz wr
            have crn := fun W (h : Rd W wr.heap.size T 0 0) => rnum_any wr.heap.size T 0 0 W h
            rw [n1, n2, n3] at crn
            have cdn := fun W (h : Rd W wr.heap.size T T.size 0) => done_any wr.heap.size T T.size 0 W h
            rw [if_neg (fun h => Nat.lt_irrefl _ h.2)] at cdn
            have CRD := Box.mk crd; have CRN := Box.mk crn; have CDN := Box.mk cdn; have QZ := Box.mk qz
            clear crd crn cdn qz n1 n2 n3 hvi tsz hT hz hv1 hvq hcellq hltq hg1
            go_upto_region 28 with (first
              | (go_at_call 33; ((with_reducible refine CRD.out.mono ?_); rintro e x1 ⟨rfl, r1, y1⟩; have RR1 := Box.mk r1; have YB1 := Box.mk y1; clear r1 y1 CRD))
              | (go_at_call 34; ((with_reducible refine (CRN.out _ RR1.out).mono ?_); rintro e x2 ⟨rfl, r2, o2⟩; have RR2 := Box.mk r2; have YB2 := Box.mk (YB1.out.trans (o2.below (B := wr.heap.size) (Nat.le_refl _) YB1.out.size)); clear r2 o2 CRN RR1 YB1)))
            have qd : x2.cell? ⟨pq, offq + i, none⟩ = some (.int .u64 (z : Int)) := QZ.out _ YB2.out
            go_wp2_with (first
              | (go_at_call 35; ((with_reducible refine (CDN.out _ RR2.out).mono ?_); rintro e x3 ⟨rfl, r3, o3⟩; have YB3 := Box.mk (YB2.out.trans (o3.below (B := wr.heap.size) (Nat.le_refl _) YB2.out.size)); have qe : x3.cell? ⟨pq, offq + i, none⟩ = some (.int .u64 (z : Int)) := (QZ.out _ YB3.out); clear r3 o3 CDN)))
            go_roundw
            case rel => exact ⟨i + 1, by omega, by go_num, ⟨hbx.out.trans (YB3.out.mono hbx.out.size)⟩⟩
            case measure => simp [intOf]; omega
          · obtain rfl : i = m := by omega
            have dj : decide ((i : Int) < (i : Int)) = false := by simp
            have B9 := Box.mk (BB.out.trans (hbx.out.mono BB.out.size))
            go_wp2_with fail
            go_ret
            exact ⟨rfl, B9.out⟩
    · obtain rfl : j = N := by omega
      have d1 : decide ((j : Int) < (j : Int)) = false := by simp
      have d3 : ((j : Int) < (j : Int)) = False := by simp
      have RD := Box.mk hR.out.d
      obtain ⟨kk, hkk⟩ : ∃ kk, kk = j := ⟨_, rfl⟩
      have ks : j ≤ kk := by omega
      have kj : kk ≤ j + 1 := by omega
      have kn : kk ≤ n := by omega
      rw [← hkk] at RD
      clear hR hkk hHa hRM
      go_wp2_with (first
            | (go_at_call 27; ((with_reducible refine DD.out.mono ?_); rintro e w' ⟨rfl, rfl⟩; clear DD))
            | (go_at_call 19; ((with_reducible refine (restart_run RD.out (by omega) cv choice (HC.out.keep0 RD.out.bel.size (fun _ b _ hb => RD.out.bel.block b hb)) (fun k h0 e => RD.out.old k (HV.out k h0 e))).mono ?_); rintro e wa ⟨rfl, Sa, m, m1, m2, rd, kp, cm, rm⟩; rw [nrs_len] at m2; rw [nrs_take V m2] at rd; have mn : m ≤ n := (Nat.le_trans m2 kn); have my : m ≤ j + 1 := (Nat.le_trans m2 kj); have ym : j ≤ m := (by omega); have m1e : decide ((m : Int) < (j : Int)) = false := (by simpa using ym); obtain ⟨y1, hy1⟩ : ∃ y1, y1 = j + 1 := ⟨_, rfl⟩; have y1w : IntKind.i64.wrap ((j : Int) + 1) = (y1 : Int) := (by rw [IntWalk.i64_in _ (by omega)]; omega); have m2e : decide ((y1 : Int) < (m : Int)) = false := (decide_eq_false (by omega)); have nm1 : (m < j) = False := (eq_false (by omega)); have nm2 : (y1 < m) = False := (eq_false (by omega)); clear hy1; have RDa := Box.mk rd; have CMa := Box.mk cm; clear rd kp cm rm RD))
            | (go_at_call 11; ((with_reducible refine (open_n (n := m) RDa.out (nrs_len V m) CMa.out.alive (by omega) limit hl HL.out HH.out).mono ?_); rintro e wb ⟨lbb, pz, cz, Lb, rfl, rn, h1, h2, row, hb⟩; have BB := Box.mk rn.bel; have ROW := Box.mk row; clear rn h1 h2 row hb RDa CMa)))
      go_loopw [20, 21, 22, 23, 98] (fun _ _ _ _ q wx => ∃ i : Nat, i ≤ m ∧ q = .int .i64 (i : Int) ∧ Box (Below wb.heap.size wb wx)) (fun _ _ _ _ q _ => m - (intOf q).toNat)
      case atStart => exact ⟨0, by omega, rfl, ⟨Below.refl _ _⟩⟩
      case round =>
        obtain ⟨i, hi, rfl, hbx⟩ := hrel
        by_cases hlt2 : i < m
        · have dj : decide ((i : Int) < (m : Int)) = true := by simpa using hlt2
          obtain ⟨g1, cap1, hv1, _, hg1⟩ := ROW.out.form (by omega)
          obtain ⟨rfl, _, rfl⟩ := Value.slice.inj hv1
          have hc1 := (hbx.out.cell hg1).trans ((ROW.out.cellAt i (by omega)).trans (nrs_at V hlt2))
          obtain ⟨pq, offq, ccq, hvq, hltq, hcellq⟩ := HI.out.cells (by omega)
          obtain ⟨hpq, _, hcq⟩ := Value.slice.inj hvq
          subst hcq
          first
            | subst hpq
            | (obtain ⟨e1, e2⟩ : pb = pq ∧ off = offq := (by simpa using hpq); subst e1; subst e2; clear hpq; obtain ⟨pq, hpq⟩ : ∃ pq, pq = pb := ⟨_, rfl⟩; obtain ⟨offq, hoffq⟩ : ∃ offq, offq = off := ⟨_, rfl⟩; subst hpq; subst hoffq)
          have BR := Box.mk (BB.out.trans (hbx.out.mono BB.out.size))
          have qz : ∀ W, Below wr.heap.size wr W → W.cell? ⟨pq, offq + i, none⟩ = some (.int .u64 ((V i : Nat) : Int)) := fun W hb => by
            rw [(BR.out.trans (hb.mono BR.out.size)).cell hltq]; exact hcellq i (by omega)
          have hvi := HI.out.vb i (by omega)
          obtain ⟨n1, n2, n3⟩ := num_whole hvi
          have tsz : (bs (numL (V i))).size ≤ 1000000 := by rw [bs_size]; have := numL_length (V i); omega
          obtain ⟨z, hz⟩ : ∃ z, z = V i := ⟨_, rfl⟩
          rw [← hz] at qz n1 n2 n3 hvi tsz hc1
          obtain ⟨T, hT⟩ : ∃ T, T = bs (numL z) := ⟨_, rfl⟩
          rw [← hT] at n1 n2 n3 tsz hc1
          have crd := read_any T tsz wr
          have crn := fun W (h : Rd W wr.heap.size T 0 0) => rnum_any wr.heap.size T 0 0 W h
          rw [n1, n2, n3] at crn
          have cdn := fun W (h : Rd W wr.heap.size T T.size 0) => done_any wr.heap.size T T.size 0 W h
          rw [if_neg (fun h => Nat.lt_irrefl _ h.2)] at cdn
          have CRD := Box.mk crd; have CRN := Box.mk crn; have CDN := Box.mk cdn; have QZ := Box.mk qz
          clear crd crn cdn qz n1 n2 n3 hvi tsz hT hz hv1 hvq hcellq hltq hg1
          go_upto_region 28 with (first
            | (go_at_call 33; ((with_reducible refine CRD.out.mono ?_); rintro e x1 ⟨rfl, r1, y1⟩; have RR1 := Box.mk r1; have YB1 := Box.mk y1; clear r1 y1 CRD))
            | (go_at_call 34; ((with_reducible refine (CRN.out _ RR1.out).mono ?_); rintro e x2 ⟨rfl, r2, o2⟩; have RR2 := Box.mk r2; have YB2 := Box.mk (YB1.out.trans (o2.below (B := wr.heap.size) (Nat.le_refl _) YB1.out.size)); clear r2 o2 CRN RR1 YB1)))
          have qd : x2.cell? ⟨pq, offq + i, none⟩ = some (.int .u64 (z : Int)) := QZ.out _ YB2.out
          go_wp2_with (first
            | (go_at_call 35; ((with_reducible refine (CDN.out _ RR2.out).mono ?_); rintro e x3 ⟨rfl, r3, o3⟩; have YB3 := Box.mk (YB2.out.trans (o3.below (B := wr.heap.size) (Nat.le_refl _) YB2.out.size)); have qe : x3.cell? ⟨pq, offq + i, none⟩ = some (.int .u64 (z : Int)) := (QZ.out _ YB3.out); clear r3 o3 CDN)))
          go_roundw
          case rel => exact ⟨i + 1, by omega, by go_num, ⟨hbx.out.trans (YB3.out.mono hbx.out.size)⟩⟩
          case measure => simp [intOf]; omega
        · obtain rfl : i = m := by omega
          have dj : decide ((i : Int) < (i : Int)) = false := by simp
          have B9 := Box.mk (BB.out.trans (hbx.out.mono BB.out.size))
          go_wp2_with fail
          go_ret
          exact ⟨rfl, B9.out⟩
end Go.Proofs.YtinhddggbckmpaaGreatDoor
