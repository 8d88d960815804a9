/- Contracts of wal: Open of any files. -/
import Derived.Test.YtdffpbfllekcgaaGreatDoorOpnC
import Derived.Test.YtdffpbfllekcgaaGreatDoorIa
namespace Go.Proofs.YtdffpbfllekcgaaGreatDoor
set_option maxRecDepth 100000
open Go.ChangeShapes Go.WideShapes Go.RowKit M

theorem kget_isSome {l : KL} {x : ByteArray} (h : ∃ p ∈ l, p.1 = x) : (kget l x).isSome = true := by
  obtain ⟨p, hp, rfl⟩ := h
  cases e : kget l p.1 with
  | some _ => rfl
  | none => exact (kget_none.1 e p.2 hp).elim
/-- the bytes of a file -/
def rdB (S : DS) (x : ByteArray) : List Nat := sb (bs (readD S x))
theorem rdB_length (S : DS) (x : ByteArray) : (rdB S x).length = (readD S x).length := by unfold rdB; rw [sb_length, bs_size]
/-- what Open leaves -/
def OpenX (b : Nat) (F : Nat → Prop) (S : DS) (R : List (List Nat)) (n : Nat) (w : World) (e : Ending) (w' : World) : Prop :=
  ∃ lb v, e = .returned (.tuple #[.pointer (some ⟨lb, 0, none⟩), v, .int .i64 0]) ∧ HasF w' b F S ∧ (∃ sv L, LogAt w' lb b sv L ∧ L.next = n) ∧ w.heap.size ≤ lb ∧ lb < w'.heap.size ∧
    w'.ownsRow w.heap.size 9 1 v R.length (strs R) ∧ Below w.heap.size w w'

set_option maxRecDepth 100000 in
set_option maxHeartbeats 4000000 in
theorem open_all (b : Nat) (F : Nat → Prop) (S : DS) (limit : Int) (w : World) (h : HasF w b F S) (hd : S.dead = false) (hl : S.names.length ≤ 100) (hs : ∀ p ∈ S.names, p.1.size ≤ 1000) (hr : ∀ p ∈ S.names, 1 ≤ p.2 ∧ p.2 ≤ S.made) (hD : ∀ x, (readD S x).length ≤ 5000) (hL : LibW w) (hH : Halves w) :
    Calls Tryz.prog 11 #[.pointer (some ⟨b, 0, none⟩), .int .i64 limit] w (OpenX b F S (sayL false 1 (logs (rdB S) (namesX S))).1 (sayL false 1 (logs (rdB S) (namesX S))).2 w) := by
  obtain ⟨i0, hi, hz0, hz1, hz2⟩ := string_parts
  obtain ⟨N, hN⟩ : ∃ N, N = (logsX (namesX S)).length := ⟨_, rfl⟩
  have cf : Calls Tryz.prog 25 #[.pointer (some ⟨b, 0, none⟩)] w (FilesX S N w) := by
    obtain ⟨L, d, e, _⟩ := h
    have c := files_all L S N w d hd (by omega) hs hN hL
    rw [e] at c; exact c
  have mem : ∀ x ∈ logsX (namesX S), (∃ p ∈ S.names, p.1 = x) ∧ ∃ q, logN x = some q := fun x hx => by
    unfold logsX at hx
    obtain ⟨h1, h2⟩ := List.mem_filter.1 hx
    exact ⟨namesX_mem h1, Option.isSome_iff_exists.1 h2⟩
  have cnum : ∀ (x : ByteArray) (q : Nat), logN x = some q → ∀ W, LibW W → Calls Tryz.prog 26 #[.string x] W fun e w' => e = .returned (.tuple #[.int .u64 (q : Int), .bool true]) ∧ Below W.heap.size W w' := fun x q hq W hW => by
    obtain ⟨h1, h2⟩ := logN_is hq
    rw [h2]
    exact wnumber_any q h1 W hW
  have cread : ∀ x ∈ logsX (namesX S), ∀ W, HasF W b F S → Calls Tryz.prog 10 #[.pointer (some ⟨b, 0, none⟩), .string x] W fun e w' => e = .returned (.tuple #[.string (bs (readD S x)), .int .i64 0]) ∧ W = w' := fun x hx W hW => by
    obtain ⟨h1, _⟩ := mem x hx
    have c := read_f b F S x W hW hr (by obtain ⟨p, hp, rfl⟩ := h1; have := hs p hp; unfold maxLen; omega)
    have fc : findC S x = 0 := by unfold findC; rw [hd, if_neg (by decide), if_pos (kget_isSome h1)]
    rw [fc] at c; exact c
  have cscan : ∀ (x : ByteArray) (q : Nat), q < 18446744073709551616 → ∀ W, Halves W → Calls Tryz.prog 27 #[.string (bs (readD S x)), .int .u64 (q : Int)] W fun e w' => ∃ v y, e = .returned (.tuple #[v, .int .i64 y]) ∧ w'.ownsRow W.heap.size 9 1 v (scanN (rdB S x) q).1.length (strs (scanN (rdB S x) q).1) ∧ Below W.heap.size W w' := fun x q hq W hW =>
    (scan_any (bs (readD S x)) (by rw [bs_size]; have := hD x; omega) q hq W hW).mono fun e w' ⟨v, he, r, hb⟩ => ⟨v, _, he, r, hb⟩
  have hNl : N ≤ 100 := by
    rw [hN]
    unfold logsX
    have := List.length_filter_le (fun x => (logN x).isSome) (namesX S)
    rw [namesX_length] at this
    omega
  have lenD : ∀ (x : ByteArray) (q : Nat), (scanN (rdB S x) q).1.length ≤ 5000 := fun x q => by
    have := scan_len (rdB S x) q
    rw [rdB_length] at this
    have := hD x
    omega
  rw [logs_map]
  unfold FilesX at cf
  generalize logsX (namesX S) = l at *
  obtain ⟨G, hG⟩ : ∃ G, G = l.map fun x => ((logN x).getD 0, rdB S x) := ⟨_, rfl⟩
  rw [← hG]
  have HN := Box.mk hN; have HG := Box.mk hG; have ME := Box.mk mem; have LD := Box.mk lenD
  have CF := Box.mk cf; have NU := Box.mk cnum; have RD := Box.mk cread; have SC := Box.mk cscan
  have HD := Box.mk h; have HL := Box.mk hL; have HH := Box.mk hH
  clear cf cnum cread cscan h hL hH hd hl hN hG mem hs hr hD lenD
  go_enter Tryz.func11, Tryz.ntmps11
  go_wp2_with (go_at_call 25; ((with_reducible refine CF.out.mono ?_); rintro e w1 ⟨nv, rfl, hrow, hb⟩; obtain ⟨p, cp, rfl⟩ := own_len hrow; have RN := Box.mk hrow; have B1 := Box.mk hb; clear hrow hb CF))
  have L0 := Box.mk (log_new w1 b (max limit 1) (.slice p N cp) N (strX l) (ownsRow_base_a RN.out (Nat.zero_le _)) ⟨max limit 1, 1, l, noName, 0, false⟩ rfl rfl rfl rfl rfl rfl)
  have NB := Box.mk (fun k (e : (Value.slice p N cp).ownBlock = some k) => RN.out.lt k e)
  obtain ⟨w2, hw2⟩ : ∃ w2, w2 = w1.alloc (.cells #[.pointer (some ⟨b, 0, none⟩), .int .i64 (max limit 1), .int .u64 1, .slice p N cp, .string ⟨#[]⟩, .int .i64 0, .bool false] 64) := ⟨_, rfl⟩
  have B2 : Box (Below w.heap.size w w2) := ⟨by rw [hw2]; exact B1.out.alloc B1.out.size _⟩
  have S2 : Box (w2.heap.size = w1.heap.size + 1) := ⟨by rw [hw2]; simp⟩
  have S1 := Box.mk B1.out.size
  rw [← hw2] at L0
  have RN2 : Box (w2.ownsRow w.heap.size 9 1 (.slice p N cp) N (strX l)) := ⟨by rw [hw2]; exact RN.out.alloc _⟩
  rw [← hw2]
  obtain ⟨lb, hlb⟩ : ∃ lb, lb = w1.heap.size := ⟨_, rfl⟩
  rw [← hlb] at L0 S2 S1 NB ⊢
  clear hw2 RN B1 hlb
  obtain ⟨mx, hmx⟩ : ∃ mx, mx = max limit 1 := ⟨_, rfl⟩
  rw [← hmx] at L0 ⊢
  clear hmx
  go_loopw [10, 35] (fun o i wr => ∃ (j nx : Nat) (R : List (List Nat)) (rl : Nat), j ≤ N ∧ i = .int .i64 (j : Int) ∧ rl ≤ 5000 * j ∧ Box (rl = R.length) ∧ Box (sayL false 1 G = (R ++ (sayL (decide (0 < j)) nx (G.drop j)).1, (sayL (decide (0 < j)) nx (G.drop j)).2)) ∧ Box (wr.ownsRow w2.heap.size 9 1 o rl (strs R)) ∧ Box (KeepF (fun k => k < w2.heap.size ∧ k ≠ lb) w2 wr) ∧
      Box (LogAt wr lb b (.slice p N cp) ⟨mx, nx, l, noName, 0, false⟩) ∧ ∃ p2 l2 c2, o = .slice p2 l2 c2)
    (fun _ i _ => N - (intOf i).toNat)
  case atStart => exact ⟨0, 1, [], 0, by omega, rfl, by omega, ⟨rfl⟩, ⟨rfl⟩, ⟨World.ownsRow_nil _ _ _ _⟩, ⟨KeepF.refl _ _⟩, L0, _, _, _, rfl⟩
  case round =>
    obtain ⟨j, nxj, R, rl0, hj, rfl, hrl, RL0, hSY, hO, hK, hLA, p2, l2, c2, rfl⟩ := hrel
    have hbel : Below w.heap.size w wr := ⟨hK.out.os.trans B2.out.os, hK.out.tape.trans B2.out.tape, hK.out.output.trans B2.out.output, Nat.le_trans B2.out.size hK.out.size, fun k hk => (hK.out.block k ⟨by have := B2.out.size; omega, by have := S1.out; omega⟩ (by have := B2.out.size; omega)).trans (B2.out.block k hk)⟩
    have BW := Box.mk hbel
    have hlbw : lb < wr.heap.size := by have := S2.out; have := hK.out.size; omega
    clear L0 hbel
    by_cases hlt : j < N
    · obtain ⟨x, hx⟩ : ∃ x, l[j]? = some x := ⟨_, List.getElem?_eq_getElem (by rw [← HN.out]; exact hlt)⟩
      have hmem := List.mem_of_getElem? hx
      have rn : wr.ownsRow w.heap.size 9 1 (.slice p N cp) N (strX l) := row_keep RN2.out (fun k e => hK.out.block k ⟨by have := (NB.out k e).2; have := S2.out; omega, by have := (NB.out k e).2; omega⟩ (by have := (NB.out k e).2; have := S2.out; omega))
      obtain ⟨gb, cap, hvv, _⟩ := rn.form (by omega)
      obtain ⟨rfl, _, rfl⟩ := Value.slice.inj hvv
      have hc1 := rn.cellAt j (by omega)
      unfold strX at hc1
      rw [List.getElem?_map, hx] at hc1
      have hcell : wr.cell? ⟨gb, j, none⟩ = some (.string x) := by simpa using hc1
      clear hc1
      obtain ⟨_, q, hq⟩ := ME.out x hmem
      have hqs := (logN_is hq).1
      have ck := fun W hW => NU.out x q hq W hW
      have rd := RD.out x hmem
      have sc := SC.out x q hqs
      have ld := LD.out x q
      have gj : G[j]? = some (q, rdB S x) := by rw [HG.out, List.getElem?_map, hx]; simp [hq]
      have sy := hSY.out
      rw [drop_at gj] at sy
      have q2 := hLA.out.c2
      have f2 := hLA.out.fz 2
      dsimp only at q2
      obtain ⟨D, hDD⟩ : ∃ D, D = rdB S x := ⟨_, rfl⟩
      rw [← hDD] at sy sc ld
      obtain ⟨ln, hln⟩ : ∃ ln, ln = (scanN D q).1.length := ⟨_, rfl⟩
      obtain ⟨T, hT⟩ : ∃ T, T = bs (readD S x) := ⟨_, rfl⟩
      rw [← hT] at rd sc
      rw [← hln] at sc ld
      have wl : IntKind.u64.wrap (ln : Int) = (ln : Int) := u64small (by omega)
      obtain ⟨nx2, hnx2⟩ : ∃ nx2, nx2 = (q + ln) % 18446744073709551616 := ⟨_, rfl⟩
      have wa : IntKind.u64.wrap ((q : Int) + (ln : Int)) = (nx2 : Int) := by rw [show ((q : Int) + (ln : Int)) = ((q + ln : Nat) : Int) by omega, hnx2]; exact u64w _
      have ol : rl0 + ln ≤ 1000000 := by omega
      have CK := Box.mk ck; have RDX := Box.mk rd; have SCX := Box.mk sc; have LN := Box.mk hln
      have NX2 := Box.mk hnx2
      clear hvv rn hmem ck rd sc hDD hT hln hnx2 gj hq hx hSY
      by_cases h0 : 0 < j
      · have d1 : decide ((0 : Int) < (j : Int)) = true := by simpa using h0
        have d2 : decide (0 < j) = true := by simpa using h0
        have d4 : decide (0 < j + 1) = true := by simp
        rw [d2] at sy
        by_cases heq : q = nxj
        · have d3 : ((q : Int) != (nxj : Int)) = false := by rw [heq]; simp
          rw [sayL_go _ (fun _ => heq), ← LN.out, ← NX2.out, ← d4] at sy
          have SY : Box (sayL false 1 G = ((R ++ (scanN D q).1) ++ (sayL (decide (0 < j + 1)) nx2 (G.drop (j + 1))).1, (sayL (decide (0 < j + 1)) nx2 (G.drop (j + 1))).2)) := ⟨by rw [List.append_assoc]; exact sy⟩
          clear sy h0 heq d4
          go_wp2_with (first
            | (go_at_call 26; ((with_reducible refine (CK.out _ (HL.out.below BW.out)).mono ?_); rintro e w3 ⟨rfl, b3⟩; have K3 := Box.mk (hK.out.trans (KeepF.of_below b3)); have BW3 := Box.mk (BW.out.trans (b3.mono BW.out.size)); have O3 := Box.mk (row_keep hO.out (fun k e => b3.block k (hO.out.lt k e).2)); have E3 := Box.mk (b3.block lb hlbw); have q23 : w3.cell? ⟨lb, 2, none⟩ = some (.int .u64 (nxj : Int)) := (b3.cell (p := ⟨lb, 2, none⟩) hlbw).trans q2; have Z3 := Box.mk b3.size; clear b3 CK))
            | (go_at_call 10; ((with_reducible refine (RDX.out _ (HD.out.below BW3.out)).mono ?_); rintro e w3' ⟨rfl, rfl⟩; clear RDX))
            | (go_at_call 27; ((with_reducible refine (SCX.out _ (halves_below HH.out BW3.out)).mono ?_); rintro e w4 ⟨v4, x4, rfl, r4, b4⟩; obtain ⟨p4, c4, rfl⟩ := own_len r4; have K4 := Box.mk (K3.out.trans (KeepF.of_below b4)); have BW4 := Box.mk (BW3.out.trans (b4.mono BW3.out.size)); have O4 := Box.mk (row_keep O3.out (fun k e => b4.block k (O3.out.lt k e).2)); have R4 := Box.mk r4; have E4 := Box.mk ((b4.block lb (Nat.lt_of_lt_of_le hlbw Z3.out)).trans E3.out); have Z4 := Box.mk (Nat.le_trans Z3.out b4.size); clear r4 b4 SCX q23))
            | (at_builtin; refine wpList_append_all w2.heap.size w3.heap.size (Nat.le_trans hK.out.size Z4.out) rfl (.tmp 70) (.tmp 71) 22 9 1 16 _ i0 rfl Tryz.underlying22 hi hz0 hz1 hz2 rfl (by omega) (by omega) _ rl0 _ rfl O4.out _ ln _ rfl R4.out (by unfold strs; intro u hu; obtain ⟨_, _, rfl⟩ := List.mem_map.1 hu; rfl) ol ?_; intro v5 w5 hown5 hgrow; obtain ⟨p5, c5, rfl⟩ := own_len hown5; have O5 := Box.mk hown5; have K5 := Box.mk (K4.out.grown hgrow (fun k e h => by have := (O4.out.lt k e).1; have := h.1; omega)); have E5 := Box.mk ((hgrow.block lb (Nat.lt_of_lt_of_le hlbw Z4.out) (fun e => by have := (O4.out.lt lb e.symm).1; have := S2.out; omega)).trans E4.out); have l5 := hLA.out.keep (w' := w5) E5.out (fun k e => (K5.out.block k ⟨by have := (NB.out k e).2; have := S2.out; omega, by have := (NB.out k e).2; omega⟩ (by have := (NB.out k e).2; have := S2.out; omega)).trans (hK.out.block k ⟨by have := (NB.out k e).2; have := S2.out; omega, by have := (NB.out k e).2; omega⟩ (by have := (NB.out k e).2; have := S2.out; omega)).symm); have q25 : w5.cell? ⟨lb, 2, none⟩ = some (.int .u64 (nxj : Int)) := (cell_keep E5.out).trans q2; have f25 := l5.fz 2; have L5 := Box.mk l5; clear l5 hown5 hgrow q2))
          go_roundw
          case rel =>
            refine ⟨j + 1, nx2, R ++ (scanN D q).1, rl0 + ln, by omega, rfl, by omega, ⟨?_⟩, ⟨?_⟩, ⟨?_⟩, ⟨K5.out.set (p := ⟨lb, 2, none⟩) (fun h => h.2 rfl) _⟩, ⟨?_⟩, _, _, _, rfl⟩
            · rw [List.length_append, RL0.out, LN.out]
            · exact SY.out
            · have e2 : strs (R ++ (scanN D q).1) = strs R ++ strs (scanN D q).1 := by unfold strs; rw [List.map_append]
              rw [e2]
              exact row_keep O5.out (fun k e => Below.heap_setCell _ _ _ _ (fun e2 => by have := (O5.out.lt k e).1; have := S2.out; have e3 : k = lb := e2; omega))
            · exact L5.out.s2 (fun e => by have := (NB.out lb e).2; omega) nx2
          case measure => simp [intOf]; omega
        · have d3 : ((q : Int) != (nxj : Int)) = true := by simp; omega
          rw [sayL_stop _ heq] at sy
          have EQ : Box (sayL false 1 G = (R, nxj)) := ⟨by rw [sy, List.append_nil]⟩
          have LA2 := Box.mk hLA.out
          clear sy heq d4
          go_wp2_with (go_at_call 26; ((with_reducible refine (CK.out _ (HL.out.below BW.out)).mono ?_); rintro e w3 ⟨rfl, b3⟩; have K3 := Box.mk (hK.out.trans (KeepF.of_below b3)); have BW3 := Box.mk (BW.out.trans (b3.mono BW.out.size)); have O3 := Box.mk (row_keep hO.out (fun k e => b3.block k (hO.out.lt k e).2)); have E3 := Box.mk (b3.block lb hlbw); have q23 : w3.cell? ⟨lb, 2, none⟩ = some (.int .u64 (nxj : Int)) := (b3.cell (p := ⟨lb, 2, none⟩) hlbw).trans q2; have Z3 := Box.mk b3.size; clear b3 CK))
          rw [EQ.out]
          refine bodyPost_ret (results_tmp3w rfl _ _ _) rfl ?_
          have sz := B2.out.size
          refine ⟨lb, .slice p2 l2 c2, rfl, HD.out.below BW3.out, ⟨_, _, hLA.out.keep E3.out (fun k e => ?_), rfl⟩, S1.out, Nat.lt_of_lt_of_le hlbw Z3.out, ?_, BW3.out⟩
          · exact (K3.out.block k ⟨by have := (NB.out k e).2; have := S2.out; omega, by have := (NB.out k e).2; omega⟩ (by have := (NB.out k e).2; have := S2.out; omega)).trans (hK.out.block k ⟨by have := (NB.out k e).2; have := S2.out; omega, by have := (NB.out k e).2; omega⟩ (by have := (NB.out k e).2; have := S2.out; omega)).symm
          · rw [← RL0.out]
            exact ownsRow_base_a O3.out sz
      · have d1 : decide ((0 : Int) < (j : Int)) = false := by simpa using h0
        have d2 : decide (0 < j) = false := by simpa using h0
        have d4 : decide (0 < j + 1) = true := by simp
        rw [d2] at sy
        rw [sayL_go (b := false) _ (fun e => nomatch e), ← LN.out, ← NX2.out, ← d4] at sy
        have SY : Box (sayL false 1 G = ((R ++ (scanN D q).1) ++ (sayL (decide (0 < j + 1)) nx2 (G.drop (j + 1))).1, (sayL (decide (0 < j + 1)) nx2 (G.drop (j + 1))).2)) := ⟨by rw [List.append_assoc]; exact sy⟩
        clear sy h0 d4
        go_wp2_with (first
          | (go_at_call 26; ((with_reducible refine (CK.out _ (HL.out.below BW.out)).mono ?_); rintro e w3 ⟨rfl, b3⟩; have K3 := Box.mk (hK.out.trans (KeepF.of_below b3)); have BW3 := Box.mk (BW.out.trans (b3.mono BW.out.size)); have O3 := Box.mk (row_keep hO.out (fun k e => b3.block k (hO.out.lt k e).2)); have E3 := Box.mk (b3.block lb hlbw); have q23 : w3.cell? ⟨lb, 2, none⟩ = some (.int .u64 (nxj : Int)) := (b3.cell (p := ⟨lb, 2, none⟩) hlbw).trans q2; have Z3 := Box.mk b3.size; clear b3 CK))
          | (go_at_call 10; ((with_reducible refine (RDX.out _ (HD.out.below BW3.out)).mono ?_); rintro e w3' ⟨rfl, rfl⟩; clear RDX))
          | (go_at_call 27; ((with_reducible refine (SCX.out _ (halves_below HH.out BW3.out)).mono ?_); rintro e w4 ⟨v4, x4, rfl, r4, b4⟩; obtain ⟨p4, c4, rfl⟩ := own_len r4; have K4 := Box.mk (K3.out.trans (KeepF.of_below b4)); have BW4 := Box.mk (BW3.out.trans (b4.mono BW3.out.size)); have O4 := Box.mk (row_keep O3.out (fun k e => b4.block k (O3.out.lt k e).2)); have R4 := Box.mk r4; have E4 := Box.mk ((b4.block lb (Nat.lt_of_lt_of_le hlbw Z3.out)).trans E3.out); have Z4 := Box.mk (Nat.le_trans Z3.out b4.size); clear r4 b4 SCX q23))
          | (at_builtin; refine wpList_append_all w2.heap.size w3.heap.size (Nat.le_trans hK.out.size Z4.out) rfl (.tmp 70) (.tmp 71) 22 9 1 16 _ i0 rfl Tryz.underlying22 hi hz0 hz1 hz2 rfl (by omega) (by omega) _ rl0 _ rfl O4.out _ ln _ rfl R4.out (by unfold strs; intro u hu; obtain ⟨_, _, rfl⟩ := List.mem_map.1 hu; rfl) ol ?_; intro v5 w5 hown5 hgrow; obtain ⟨p5, c5, rfl⟩ := own_len hown5; have O5 := Box.mk hown5; have K5 := Box.mk (K4.out.grown hgrow (fun k e h => by have := (O4.out.lt k e).1; have := h.1; omega)); have E5 := Box.mk ((hgrow.block lb (Nat.lt_of_lt_of_le hlbw Z4.out) (fun e => by have := (O4.out.lt lb e.symm).1; have := S2.out; omega)).trans E4.out); have l5 := hLA.out.keep (w' := w5) E5.out (fun k e => (K5.out.block k ⟨by have := (NB.out k e).2; have := S2.out; omega, by have := (NB.out k e).2; omega⟩ (by have := (NB.out k e).2; have := S2.out; omega)).trans (hK.out.block k ⟨by have := (NB.out k e).2; have := S2.out; omega, by have := (NB.out k e).2; omega⟩ (by have := (NB.out k e).2; have := S2.out; omega)).symm); have q25 : w5.cell? ⟨lb, 2, none⟩ = some (.int .u64 (nxj : Int)) := (cell_keep E5.out).trans q2; have f25 := l5.fz 2; have L5 := Box.mk l5; clear l5 hown5 hgrow q2))
        go_roundw
        case rel =>
          refine ⟨j + 1, nx2, R ++ (scanN D q).1, rl0 + ln, by omega, rfl, by omega, ⟨?_⟩, ⟨?_⟩, ⟨?_⟩, ⟨K5.out.set (p := ⟨lb, 2, none⟩) (fun h => h.2 rfl) _⟩, ⟨?_⟩, _, _, _, rfl⟩
          · rw [List.length_append, RL0.out, LN.out]
          · exact SY.out
          · have e2 : strs (R ++ (scanN D q).1) = strs R ++ strs (scanN D q).1 := by unfold strs; rw [List.map_append]
            rw [e2]
            exact row_keep O5.out (fun k e => Below.heap_setCell _ _ _ _ (fun e2 => by have := (O5.out.lt k e).1; have := S2.out; have e3 : k = lb := e2; omega))
          · exact L5.out.s2 (fun e => by have := (NB.out lb e).2; omega) nx2
        case measure => simp [intOf]; omega
    · obtain rfl : j = N := by omega
      have sy := hSY.out
      rw [show G.drop j = [] by rw [HG.out]; exact List.drop_eq_nil_of_le (by rw [List.length_map, HN.out]; exact Nat.le_refl _), sayL_nil, List.append_nil] at sy
      have EQ := Box.mk sy
      clear sy hSY
      go_wp2
      rw [EQ.out]
      refine bodyPost_ret (results_tmp3w rfl _ _ _) rfl ?_
      have sz := B2.out.size
      refine ⟨lb, .slice p2 l2 c2, rfl, HD.out.below BW.out, ⟨_, _, hLA.out, rfl⟩, S1.out, hlbw, ?_, BW.out⟩
      rw [← RL0.out]
      exact ownsRow_base_a hO.out sz
end Go.Proofs.YtdffpbfllekcgaaGreatDoor
