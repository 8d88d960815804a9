/- The law WalOpens. -/
import Derived.Test.YtdffpbfllekcgaaGreatDoorOpnG
import Derived.Test.YtdffpbfllekcgaaGreatDoorOpnS
import Derived.BigQuiet
namespace Go.Proofs.YtdffpbfllekcgaaGreatDoor
set_option maxRecDepth 100000
open Go.ChangeShapes Go.WideShapes Go.RowKit M

theorem next_at (lb b : Nat) (sv : Value) (L : LS) (w : World) (h : LogAt w lb b sv L) :
    Calls Tryz.prog 13 #[.pointer (some ⟨lb, 0, none⟩)] w fun e w' => e = .returned (.int .u64 (L.next : Int)) ∧ w = w' := by
  have c2 := h.c2
  clear h
  go_enter Tryz.func13, Tryz.ntmps13
  go_wp2
  go_ret
  exact ⟨rfl, rfl⟩
theorem names_o {w0 w : World} {b : Nat} {S : DS} {k u : Nat} (h : OSt w0 w b S k u) (hk : k ≤ 50) (n : Nat) (hn : n = (namesX S).length) :
    Calls Tryz.prog 9 #[.pointer (some ⟨b, 0, none⟩)] w fun e w' => ∃ p c, e = .returned (.tuple #[.slice p n c, .int .i64 0]) ∧ w'.ownsRow w.heap.size 9 1 (.slice p n c) n (strY (namesX S)) ∧ Below w.heap.size w w' := by
  obtain ⟨L, d, e, _⟩ := h.has
  have c := names_any L S w d h.calm.1 (by have := h.few; omega)
  rw [namesX_row, ← namesX_length, ← hn, e] at c
  refine c.mono fun e w' ⟨v, he, r, hb⟩ => ?_
  obtain ⟨p, c, rfl⟩ := own_len r
  exact ⟨p, c, he, r, hb⟩

set_option maxRecDepth 100000 in
set_option maxHeartbeats 4000000 in
theorem walOpens_walk (p1 p2 : Option Addr) (n1 c1 n2 c2 : Nat) (ss tt : Nat → ByteArray) (limit : Int) (w : World) (hI : SIn w (.slice p1 n1 c1) n1 ss) (hJ : SIn w (.slice p2 n2 c2) n2 tt) (hn1 : n1 ≤ 9223372036854775807) (hn2 : n2 ≤ 9223372036854775807) (hL : LibW w) (hH : Halves w) :
    Calls Tryz.prog 3 #[.slice p1 n1 c1, .slice p2 n2 c2, .int .i64 limit] w fun e w' => e = .returned (.bool true) ∧ Below w.heap.size w w' := by
  obtain ⟨i0, hi, hz0, hz1, hz2⟩ := string_parts
  have c0 := new_o (Below.refl w.heap.size w)
  have cw := fun W hL hH => awake7_any W hL hH
  have HL := Box.mk hL; have HH := Box.mk hH; have C0 := Box.mk c0; have HI := Box.mk hI; have HJ := Box.mk hJ; have AW := Box.mk cw
  clear hL hH c0 hI hJ cw
  go_enter Tryz.func3, Tryz.ntmps3
  go_upto_block 0 with (first
    | (go_at_call 4; ((with_reducible refine C0.out.mono ?_); rintro e w1 ⟨b, S, rfl, o1⟩; have O1 := Box.mk o1; clear o1 C0))
    | (go_at_call 5; ((with_reducible refine (AW.out _ (HL.out.below O1.out.bel) (halves_below HH.out O1.out.bel)).mono ?_); rintro e w2 ⟨rfl, b2⟩; have O2 := Box.mk (O1.out.below b2); clear b2 O1 AW)))
  go_cut [6] (fun s6 wx => s6 = .bool false ∧ ∃ S, Box (OSt w wx b S 24 1200))
  case first =>
    go_wp2_with fail
    go_loopw [6, 8] (fun s6 i wr => ∃ (j : Nat) (S : DS), s6 = .bool false ∧ j ≤ 6 ∧ i = .int .i64 (j : Int) ∧ Box (OSt w wr b S (4 * j) (200 * j)))
      (fun _ i _ => 6 - (intOf i).toNat)
    case atStart => exact ⟨0, S, rfl, by omega, rfl, O2⟩
    case round =>
      obtain ⟨j, S, rfl, hj, rfl, hO⟩ := hrel
      by_cases h1 : j < n1
      · have d1 : decide ((j : Int) < (n1 : Int)) = true := decide_eq_true (by omega)
        by_cases h2 : j < n2
        · have d2 : decide ((j : Int) < (n2 : Int)) = true := decide_eq_true (by omega)
          by_cases h3 : j < 6
          · have d3 : decide ((j : Int) < 6) = true := decide_eq_true (by omega)
            obtain ⟨pb, off, cc, hve, hlt0, hcell⟩ := HI.out.cells (by omega)
            obtain ⟨rfl, _, rfl⟩ := Value.slice.inj hve
            obtain ⟨pd, off2, cc2, hve2, hlt2, hcell2⟩ := HJ.out.cells (by omega)
            obtain ⟨rfl, _, rfl⟩ := Value.slice.inj hve2
            have q0 : wr.cell? ⟨pb, off + j, none⟩ = some (.string (ss j)) := by rw [hO.out.bel.cell hlt0]; exact hcell j h1
            have QB := Box.mk (hcell2 j h2)
            have hx : ((ss j).extract 0 24).size ≤ 24 := cut_le _ _
            have hs : ((tt j).extract 0 200).size ≤ 200 := cut_le _ _
            obtain ⟨X, hX⟩ : ∃ X, X = (ss j).extract 0 24 := ⟨_, rfl⟩
            obtain ⟨T, hT⟩ : ∃ T, T = (tt j).extract 0 200 := ⟨_, rfl⟩
            have cc1 : ∀ W, Calls Tryz.prog 6 #[.string (ss j), .int .i64 24] W fun e w' => e = .returned (.string X) ∧ W = w' := fun W => by rw [hX]; exact cut_any (ss j) 24 W
            have cc2 : ∀ W, Calls Tryz.prog 6 #[.string (tt j), .int .i64 200] W fun e w' => e = .returned (.string T) ∧ W = w' := fun W => by rw [hT]; exact cut_any (tt j) 200 W
            rw [← hX] at hx
            rw [← hT] at hs
            have cr := create_o hO.out (by omega) X (by omega)
            have CC1 := Box.mk cc1; have CC2 := Box.mk cc2; have CR := Box.mk cr
            clear cc1 cc2 cr hve hve2 hcell hcell2 hX hT hlt0 hO
            have HLT := Box.mk hlt2
            clear hlt2
            go_upto_region 8 with (go_at_call 6; ((with_reducible refine (CC1.out _).mono ?_); rintro e w' ⟨rfl, rfl⟩; clear CC1))
            go_wp2_with (first
              | (go_at_call 7; ((with_reducible refine CR.out.mono ?_); rintro e w3 ⟨c, S3, rfl, o3, hg⟩; have O3 := Box.mk o3; have HG := Box.mk hg; have q3 : w3.cell? ⟨pd, off2 + j, none⟩ = some (.string (tt j)) := (o3.bel.cell HLT.out).trans QB.out; clear o3 hg CR; rcases Nat.eq_zero_or_pos c with rfl | hc))
              | (go_at_call 6; ((with_reducible refine (CC2.out _).mono ?_); rintro e w' ⟨rfl, rfl⟩; clear CC2))
              | (go_at_call 8; ((with_reducible refine (append_o O3.out (by omega) (by omega) X T (by omega) hs (HG.out (by simp))).mono ?_); rintro e w4 ⟨S4, rfl, o4⟩; have O4 := Box.mk o4; clear o4 O3)))
            · go_roundw
              case rel => exact ⟨j + 1, S4, rfl, by omega, by go_num, ⟨O4.out.up (by omega) (by omega)⟩⟩
              case measure => simp [intOf]; omega
            · have hce : ((c : Int) == 0) = false := by simp; omega
              have hcn : ¬ c = 0 := by omega
              clear HG q3
              go_wp2_with fail
              go_roundw
              case rel => exact ⟨j + 1, S3, rfl, by omega, by go_num, ⟨O3.out.up (by omega) (by omega)⟩⟩
              case measure => simp [intOf]; omega
          · have d3 : decide ((j : Int) < 6) = false := decide_eq_false (by omega)
            go_wp2
            go_meet
            exact ⟨rfl, S, ⟨hO.out.up (by omega) (by omega)⟩⟩
        · have d2 : decide ((j : Int) < (n2 : Int)) = false := decide_eq_false (by omega)
          go_wp2
          go_meet
          exact ⟨rfl, S, ⟨hO.out.up (by omega) (by omega)⟩⟩
      · have d1 : decide ((j : Int) < (n1 : Int)) = false := decide_eq_false (by omega)
        go_wp2
        go_meet
        exact ⟨rfl, S, ⟨hO.out.up (by omega) (by omega)⟩⟩
  case rest =>
    obtain ⟨rfl, S3, hS⟩ := hcut
    obtain ⟨n, hn⟩ : ∃ n, n = (namesX S3).length := ⟨_, rfl⟩
    have nl : n ≤ 24 := by have := hS.out.few; rw [hn, namesX_length]; exact this
    have cn := names_o hS.out (by omega) n hn
    have cr : ∀ x ∈ namesX S3, ∀ W, Below wc.heap.size wc W → Calls Tryz.prog 10 #[.pointer (some ⟨b, 0, none⟩), .string x] W fun e w' => e = .returned (.tuple #[.string (bs (readD S3 x)), .int .i64 0]) ∧ W = w' := fun x hx W hW => by
      have h1 := namesX_mem hx
      have c := read_f b _ S3 x W (hS.out.has.below hW) hS.out.nref (by obtain ⟨p, hp, rfl⟩ := h1; have := hS.out.names p hp; unfold maxLen; omega)
      have fc : findC S3 x = 0 := by unfold findC; rw [hS.out.calm.1, if_neg (by decide), if_pos (kget_isSome h1)]
      rw [fc] at c; exact c
    have co : ∀ W, Below wc.heap.size wc W → Calls Tryz.prog 11 #[.pointer (some ⟨b, 0, none⟩), .int .i64 limit] W (OpenX b _ S3 (sayL false 1 (logs (rdB S3) (namesX S3))).1 (sayL false 1 (logs (rdB S3) (namesX S3))).2 W) := fun W hW =>
      open_all b _ S3 limit W (hS.out.has.below hW) hS.out.calm.1 (by have := hS.out.few; omega) (fun p hp => by have := hS.out.names p hp; omega) hS.out.nref (hS.out.readD (by omega)) (HL.out.below (hS.out.bel.trans (hW.mono hS.out.bel.size))) (halves_below HH.out (hS.out.bel.trans (hW.mono hS.out.bel.size)))
    have csay := fun k1 k2 B1 B2 q1 q2 W (o1 : W.ownsRow B1 9 1 (.slice q1 n k1) n (strY (namesX S3))) (o2 : W.ownsRow B2 9 1 (.slice q2 n k2) n (strY ((namesX S3).map fun x => bs (readD S3 x)))) =>
      logSay_any (namesX S3) (fun x => bs (readD S3 x)) n hn (by omega) (fun x => by rw [bs_size]; exact hS.out.readD (by omega) x) (fun x hx => by obtain ⟨p, hp, rfl⟩ := namesX_mem hx; have := hS.out.names p hp; omega) q1 q2 k1 k2 B1 B2 W o1 o2
    have hlen : (sayL false 1 (logs (rdB S3) (namesX S3))).1.length ≤ 1000000 := by
      have h1 := sayL_len 5000 (logs (rdB S3) (namesX S3)) false 1 (fun p hp => by obtain ⟨x, e⟩ := logs_mem hp; rw [e, rdB_length]; exact hS.out.readD (by omega) x)
      have h2 := logs_len (rdB S3) (namesX S3)
      omega
    unfold SayQ at csay
    rw [show (fun x => sb (bs (readD S3 x))) = rdB S3 from rfl] at csay
    unfold OpenX at co
    obtain ⟨R, hR⟩ : ∃ R, R = (sayL false 1 (logs (rdB S3) (namesX S3))).1 := ⟨_, rfl⟩
    obtain ⟨nx, hnx⟩ : ∃ nx, nx = (sayL false 1 (logs (rdB S3) (namesX S3))).2 := ⟨_, rfl⟩
    rw [← hR] at co csay hlen
    rw [← hnx] at co csay
    have BE := Box.mk hS.out.bel
    generalize namesX S3 = X at *
    have CN := Box.mk cn; have CR := Box.mk cr; have CO := Box.mk co; have CS := Box.mk csay; have HN := Box.mk hn
    clear cn cr co csay hS hR hnx hn O2 HI HJ HL HH
    go_wp2_with (go_at_call 9; ((with_reducible refine CN.out.mono ?_); rintro e w1 ⟨px, cx, rfl, hrow, hb⟩; have RN := Box.mk hrow; have B1 := Box.mk hb; clear hrow hb CN))
    go_loopw [6, 12, 73] (fun s6 o i wr => ∃ k : Nat, s6 = .bool false ∧ k ≤ n ∧ i = .int .i64 (k : Int) ∧ Box (wr.ownsRow w1.heap.size 9 1 o k (strY ((X.take k).map fun x => bs (readD S3 x)))) ∧ Box (Below w1.heap.size w1 wr) ∧ ∃ p l c, o = .slice p l c)
      (fun _ _ i _ => n - (intOf i).toNat)
    case atStart => exact ⟨0, rfl, by omega, rfl, ⟨World.ownsRow_lit w1 #[] 0 (Nat.le_refl _) (by decide) rfl⟩, ⟨(Below.refl _ _).alloc (Nat.le_refl _) _⟩, _, _, _, rfl⟩
    case round =>
      obtain ⟨k, rfl, hk, rfl, hO, hB, p3, l3, c3, rfl⟩ := hrel
      have bw : Below wc.heap.size wc wr := B1.out.trans (hB.out.mono B1.out.size)
      have BW := Box.mk bw
      clear bw
      by_cases hlt : k < n
      · obtain ⟨x, hx⟩ : ∃ x, X[k]? = some x := ⟨_, List.getElem?_eq_getElem (by rw [← HN.out]; exact hlt)⟩
        have rn : wr.ownsRow wc.heap.size 9 1 (.slice px n cx) n (strY X) := row_keep RN.out (fun j e => hB.out.block j (RN.out.lt j e).2)
        obtain ⟨ga, ca, hva, _⟩ := rn.form (by omega)
        obtain ⟨rfl, _, rfl⟩ := Value.slice.inj hva
        have hc1 := rn.cellAt k (by omega)
        unfold strY at hc1
        rw [List.getElem?_map, hx] at hc1
        have q1 : wr.cell? ⟨ga, k, none⟩ = some (.string x) := by simpa using hc1
        have cr := CR.out x (List.mem_of_getElem? hx)
        have tk : strY ((X.take (k + 1)).map fun x => bs (readD S3 x)) = strY ((X.take k).map fun x => bs (readD S3 x)) ++ [.string (bs (readD S3 x))] := by
          unfold strY
          rw [List.take_add_one, hx, List.map_append, List.map_append]; rfl
        obtain ⟨T, hT⟩ : ∃ T, T = bs (readD S3 x) := ⟨_, rfl⟩
        rw [← hT] at cr tk
        have CRX := Box.mk cr; have TK := Box.mk tk
        clear hva rn hc1 cr tk hx hT
        go_wp2_with (first
          | (go_at_call 10; ((with_reducible refine (CRX.out _ BW.out).mono ?_); rintro e w' ⟨rfl, rfl⟩; clear CRX))
          | (at_builtin; refine wpList_append_lies _ rfl (.tmp 85) (.tmp 87) 22 rfl w1.heap.size 9 i0 _ 1 16 Tryz.underlying22 hi hz0 hz1 hz2 rfl (by omega) _ k (strY ((X.take k).map fun x => bs (readD S3 x))) rfl (hO.out.alloc _) ⟨wr.heap.size, 0, none⟩ 1 1 [.string T] rfl rfl (World.news_of_block (cs := #[.string T]) (t := 9) (fr := (0, 0)) (heap_alloc_new _ _)) (by simp [Value.oneCell']) (by omega) (by unfold maxLen; omega) (by omega) (by have := hB.out.size; simp; omega) (wr.heap.size + 1) (by simp) ?_; intro g3 cap3 w3 hown3 hgrow hat hlt2; have O3 := Box.mk hown3; have B3 : Box (Below w1.heap.size w1 w3) := ⟨(hB.out.alloc hB.out.size _).grown hgrow (by have := hB.out.size; simp; omega) (fun k hk => (hO.out.lt k hk).1)⟩; clear hown3 hgrow hat hlt2))
        go_roundw
        case rel => exact ⟨k + 1, rfl, by omega, by go_num, ⟨by rw [TK.out]; exact O3.out⟩, B3, _, _, _, rfl⟩
        case measure => simp [intOf]; omega
      · obtain rfl : k = n := by omega
        obtain ⟨_, _, hve⟩ := own_len hO.out
        obtain ⟨rfl, hl3, rfl⟩ := Value.slice.inj hve
        subst l3
        have ho := hO.out
        rw [List.take_of_length_le (by rw [← HN.out]; exact Nat.le_refl _)] at ho
        have HO := Box.mk ho
        have RN2 : Box (wr.ownsRow wc.heap.size 9 1 (.slice px k cx) k (strY X)) := ⟨row_keep RN.out (fun j e => hB.out.block j (RN.out.lt j e).2)⟩
        clear ho hO RN CR
        go_wp2_with (first
          | (go_at_call 11; ((with_reducible refine (CO.out _ BW.out).mono ?_); rintro e w4 ⟨lb, v4, rfl, _, ⟨sv, L4, la, ln⟩, h1, h2, r4, b4⟩; obtain ⟨p4, c4, rfl⟩ := own_len r4; have R4 := Box.mk r4; have B4 := Box.mk b4; have LA := Box.mk la; have LN := Box.mk ln; have H2 := Box.mk h2; clear r4 b4 la ln h1 h2 CO))
          | (go_at_call 12; ((with_reducible refine (CS.out _ _ _ _ _ _ _ (row_keep RN2.out (fun j e => B4.out.block j (RN2.out.lt j e).2)) (row_keep HO.out (fun j e => B4.out.block j (HO.out.lt j e).2))).mono ?_); rintro e w5 ⟨v5, rfl, r5, b5⟩; obtain ⟨p5, c5, rfl⟩ := own_len r5; have R5 := Box.mk r5; have R45 := Box.mk (row_keep R4.out (fun j e => b5.block j (R4.out.lt j e).2)); have LA5 := Box.mk (LA.out.keep (b5.block lb H2.out) (fun j e => b5.block j (LA.out.row.lt j e).2)); have B5 := Box.mk b5; clear r5 b5 CS))
          | (go_at_call 13; ((with_reducible refine (next_at lb b sv L4 w5 LA5.out).mono ?_); rintro e w' ⟨rfl, rfl⟩; rw [LN.out]))
          | (go_at_call 14; ((with_reducible refine (same_any p4 p5 R.length c4 c5 _ _ (strs R) (by omega) (fun i hi => ⟨bs (R[i]'hi), by unfold strs; rw [List.getElem?_map, List.getElem?_eq_getElem hi, Option.map_some]⟩) _ R45.out R5.out).mono ?_); rintro e w6 ⟨rfl, b6⟩; have B6 := Box.mk b6; clear b6)))
        go_ret
        have e1 := BW.out.trans (B4.out.mono BW.out.size)
        have e2 := e1.trans (B5.out.mono e1.size)
        have e3 := e2.trans (B6.out.mono e2.size)
        exact ⟨rfl, BE.out.trans (e3.mono BE.out.size)⟩
end Go.Proofs.YtdffpbfllekcgaaGreatDoor
