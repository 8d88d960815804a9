/- Two logs of one disk, one behind the other: what a law holds between them. -/
import Derived.Test.YtdbapliondlgcaaGreatDoorWalY
import Derived.Test.YtdbapliondlgcaaGreatDoorTopA
namespace Go.Proofs.YtdbapliondlgcaaGreatDoor
set_option maxRecDepth 100000
open Go.ChangeShapes Go.WideShapes Go.RowKit M

/-- blocks are new -/
theorem RunD.newer {w0 w w' : World} {b : Nat} {F : Nat → Prop} {S : DS} {X : List (List Nat)} {t s : Nat} (h : RunD w0 w b F S X t s) (hb : Below w.heap.size w w') : RunD w0 w' b (fun k => F k ∨ (w.heap.size ≤ k ∧ k < w'.heap.size)) S X t s :=
  ⟨h.disk.mine hb.size (fun k hk _ => hb.block k hk) (fun _ hf => hf), h.st, fun k hk => .inl (h.old k hk), h.bel.trans (hb.mono h.bel.size)⟩
theorem OwnStr.mine {w0 w w' : World} {lb : Nat} {F : Nat → Prop} {v : Value} {xs : List Value} {n : Nat} (h : OwnStr w F w0.heap.size v n xs) (hn : xs.length = n) (hb : Below w.heap.size w w') (hl : w.heap.size ≤ lb) :
    Mine w0 w' lb (fun k => F k ∨ (w.heap.size ≤ k ∧ k < w'.heap.size)) (fun k => w.heap.size ≤ k ∧ k < w'.heap.size) v xs := by
  subst hn
  refine ⟨row_keep h.row (fun k e => hb.block k (h.row.lt k e).2), fun k e => ⟨.inl (h.own k e), ?_, ?_⟩, fun k hd => hd.2⟩
  · have := (h.row.lt k e).2; omega
  · intro hd; have := (h.row.lt k e).2; have := hd.1; omega
/-- two slices in a block of F -/
structure Two (w : World) (F : Nat → Prop) (k : Nat) (va vb : Value) : Prop where
  mine : F k
  lt : k < w.heap.size
  c0 : w.cell? ⟨k, 0, none⟩ = some va
  c1 : w.cell? ⟨k, 1, none⟩ = some vb
theorem Two.keep {w w' : World} {F F' : Nat → Prop} {k : Nat} {va vb : Value} (h : Two w F k va vb) (hs : w.heap.size ≤ w'.heap.size) (hk : w'.heap[k]? = w.heap[k]?) (hF : F' k) : Two w' F' k va vb :=
  ⟨hF, Nat.lt_of_lt_of_le h.lt hs, (cell_keep hk).trans h.c0, (cell_keep hk).trans h.c1⟩
theorem Two.below {w w' : World} {F : Nat → Prop} {k : Nat} {va vb : Value} (h : Two w F k va vb) (hb : Below w.heap.size w w') : Two w' F k va vb := h.keep hb.size (hb.block _ h.lt) h.mine
theorem Two.kept {w w' : World} {F G : Nat → Prop} {k : Nat} {va vb : Value} (h : Two w F k va vb) (hk : KeepF G w w') (hG : G k) : Two w' F k va vb := h.keep hk.size (hk.block _ hG h.lt) h.mine

set_option maxRecDepth 100000 in
set_option maxHeartbeats 8000000 in
theorem twoLogs_walk (pa : Option Addr) (na ca : Nat) (sa : Nat → ByteArray) (pb : Option Addr) (nb cb : Nat) (tb : Nat → ByteArray) (limit : Int) (cv : Value) (choice : List Int) (w : World) (hA : SIn w (.slice pa na ca) na sa) (hna : na ≤ 9223372036854775807) (hB : SIn w (.slice pb nb cb) nb tb) (hnb : nb ≤ 9223372036854775807) (hl : limit ≤ 9223372036854775807) (hC : IntsIn w cv choice) (hL : LibW w) (hH : Halves w) (hK : KTab w) (hT : Tab64 w) :
    Calls Tryz.prog 9 #[.slice pa na ca, .slice pb nb cb, .int .i64 limit, cv] w fun e w' => e = .returned (.bool true) ∧ Below w.heap.size w w' := by
  obtain ⟨i0, hi, hz0, hz1, hz2⟩ := string_parts
  have lv := live_any w hK hH hT
  have hv : ∀ k, 0 < choice.length → cv.ownBlock = some k → k < w.heap.size := fun k h0 e => by
    obtain ⟨b, off, cc, e2, hb, _⟩ := hC.cells h0
    rw [e2] at e
    have e3 : b = k := by simpa [Value.ownBlock] using e
    rw [← e3]; exact hb
  have HL := Box.mk hL; have HH := Box.mk hH; have LV := Box.mk lv; have HA := Box.mk hA; have HB := Box.mk hB; have HC := Box.mk hC; have HV := Box.mk hv
  clear hL hH hK hT lv hA hB hC hv
  go_enter Tryz.func9, Tryz.ntmps9
  go_wp2_with (first
    | (go_at_call 30; ((with_reducible refine LV.out.mono ?_); rintro e w1 ⟨rfl, b1⟩; have C0 := Box.mk (new_run b1 1048576 (by omega) (by omega)); clear b1 LV))
    | (go_at_call 10; ((with_reducible refine C0.out.mono ?_); rintro e w2 ⟨b, rfl, rd, b2⟩; have RD2 := Box.mk rd; clear rd b2 C0)))
  have ba : Below w2.heap.size w2 ((w2.alloc (Obj.cells #[] 9)).alloc (Obj.cells #[Value.slice pa na ca, Value.slice pb nb cb] 22)) := ((Below.refl _ _).alloc (Nat.le_refl _) _).alloc (by simp) _
  have sz1 : (w2.alloc (Obj.cells #[] 9)).heap.size = w2.heap.size + 1 := by simp
  have sz2 : ((w2.alloc (Obj.cells #[] 9)).alloc (Obj.cells #[Value.slice pa na ca, Value.slice pb nb cb] 22)).heap.size = w2.heap.size + 2 := by simp
  have nb2 : ((w2.alloc (Obj.cells #[] 9)).alloc (Obj.cells #[Value.slice pa na ca, Value.slice pb nb cb] 22)).heap[w2.heap.size + 1]? = some (.cells #[Value.slice pa na ca, Value.slice pb nb cb] 22 (0, 0)) := by
    have h := heap_alloc_new (w2.alloc (Obj.cells #[] 9)) (Obj.cells #[Value.slice pa na ca, Value.slice pb nb cb] 22)
    rw [sz1] at h; exact h
  have or0 : ((w2.alloc (Obj.cells #[] 9)).alloc (Obj.cells #[Value.slice pa na ca, Value.slice pb nb cb] 22)).ownsRow w.heap.size 9 1 (.slice (some ⟨w2.heap.size, 0, none⟩) 0 0) 0 [] :=
    (World.ownsRow_made w2 #[] 0 RD2.out.bel.size (by unfold maxLen; omega) rfl).alloc _
  have RD3 := Box.mk (RD2.out.newer ba)
  have OW3 := Box.mk (OwnStr.mk (G := fun k => k < w1.heap.size ∨ (w2.heap.size ≤ k ∧ k < ((w2.alloc (Obj.cells #[] 9)).alloc (Obj.cells #[Value.slice pa na ca, Value.slice pb nb cb] 22)).heap.size)) or0 (fun k e => by
    have e2 : k = w2.heap.size := by simpa [Value.ownBlock] using e.symm
    rw [e2, sz2]; exact .inr ⟨Nat.le_refl _, by omega⟩))
  have TW3 := Box.mk (Two.mk (w := (w2.alloc (Obj.cells #[] 9)).alloc (Obj.cells #[Value.slice pa na ca, Value.slice pb nb cb] 22)) (F := fun k => k < w1.heap.size ∨ (w2.heap.size ≤ k ∧ k < ((w2.alloc (Obj.cells #[] 9)).alloc (Obj.cells #[Value.slice pa na ca, Value.slice pb nb cb] 22)).heap.size)) (k := w2.heap.size + 1) (va := Value.slice pa na ca) (vb := Value.slice pb nb cb)
    (by rw [sz2]; exact .inr ⟨by omega, by omega⟩) (by rw [sz2]; omega) (by simp only [World.cell?, nb2]; rfl) (by simp only [World.cell?, nb2]; rfl))
  clear ba sz1 sz2 nb2 or0 RD2
  go_loopw [10, 12, 13, 14, 15, 16, 17, 18, 30] (fun av _ _ _ _ _ _ _ kv wr => ∃ (k N t s gx cx : Nat) (F : Nat → Prop) (S : DS) (X : List (List Nat)), k ≤ 2 ∧ N ≤ 8 * k ∧ t ≤ 9 * k ∧ gx ≠ w2.heap.size + 1 ∧ av = .slice (some ⟨gx, 0, none⟩) N cx ∧ kv = .int .i64 (k : Int) ∧ Box (X.length = N) ∧ Box (RunD w wr b F S X t s) ∧ Box (OwnStr wr F w.heap.size (.slice (some ⟨gx, 0, none⟩) N cx) N (strs X)) ∧ Box (Two wr F (w2.heap.size + 1) (.slice pa na ca) (.slice pb nb cb)) ∧ Box (Calm S) ∧ Box (S.room = 1048576))
    (fun _ _ _ _ _ _ _ _ kv _ => 2 - (intOf kv).toNat)
  case atStart => exact ⟨0, 0, 0, 0, w2.heap.size, 0, _, _, [], by omega, by omega, by omega, by omega, rfl, rfl, ⟨rfl⟩, RD3, OW3, TW3, ⟨Calm.begun _⟩, ⟨rfl⟩⟩
  case round =>
    obtain ⟨k, N, t, s, gx, cx, F, S, X, hk2, hN, ht, hgx, rfl, rfl, hX, hR, hO, hT, hC, hRM⟩ := hrel
    clear RD3 OW3 TW3
    by_cases hk : k < 2
    · have dk : decide ((k : Int) < 2) = true := by simpa using (by omega : (k : Int) < 2)
      have pt : ∃ (pp : Option Addr) (np cp : Nat) (ss : Nat → ByteArray), wr.cell? ⟨w2.heap.size + 1, k, none⟩ = some (.slice pp np cp) ∧ SIn w (.slice pp np cp) np ss ∧ np ≤ 9223372036854775807 := by
        obtain rfl | rfl : k = 0 ∨ k = 1 := by omega
        · exact ⟨_, _, _, _, hT.out.c0, HA.out, hna⟩
        · exact ⟨_, _, _, _, hT.out.c1, HB.out, hnb⟩
      obtain ⟨pp, np, cp, ss, qk, si, hnp⟩ := pt
      have SI := Box.mk si
      clear si
      go_wp2_with (first
        | (go_at_call 17; ((with_reducible refine (open_n (n := N) hR.out hX.out hC.out.alive (by omega) limit hl HL.out HH.out).mono ?_); rintro e w5 ⟨lb, p5, c5, L5, rfl, rn, h1, h2, row, hb⟩; have R5 := Box.mk rn; have M5 := Box.mk (OwnStr.mine hO.out ((strs_len X).trans hX.out) hb h1); have W5 := Box.mk (opened_ownStr rn row h2); have T5 := Box.mk (Two.keep (F' := fun i => (F i ∨ (wr.heap.size ≤ i ∧ i < w5.heap.size)) ∧ i ≠ lb) hT.out hb.size (hb.block _ hT.out.lt) ⟨.inl hT.out.mine, by have := hT.out.lt; omega⟩); clear rn h1 h2 row hb hR hO hT)))
      go_loopw [16, 52] (fun _ q wx => ∃ j : Nat, j ≤ N ∧ q = .int .i64 (j : Int) ∧ Box (Below w5.heap.size w5 wx)) (fun _ q _ => N - (intOf q).toNat)
      case atStart => exact ⟨0, by omega, rfl, ⟨Below.refl _ _⟩⟩
      case round =>
        obtain ⟨j, hj, rfl, hb⟩ := hrel
        by_cases hlt : j < N
        · have dj : decide ((j : Int) < (N : Int)) = true := by simpa using hlt
          obtain ⟨g1, cap1, hv1, _, hg1⟩ := W5.out.row.form (by omega)
          obtain ⟨rfl, _, rfl⟩ := Value.slice.inj hv1
          obtain ⟨sx, hS⟩ := strs_all X j (by rw [hX.out]; exact hlt)
          have hc1 := (hb.out.cell hg1).trans (W5.out.row.cellAt j (by omega))
          have hl2 := (M5.out.row.lt gx rfl).2
          have m5 := M5.out.row
          rw [(strs_len X).trans hX.out] at m5
          have hc2 := (hb.out.cell hl2).trans (m5.cellAt j (by omega))
          rw [hS] at hc1 hc2
          clear hS m5
          go_wp2_with fail
          go_quiet (fail)
          go_wp2_with fail
          go_roundw
          case rel => exact ⟨j + 1, by omega, by go_num, ⟨wbdr hb.out _⟩⟩
          case measure => simp [intOf]; omega
        · have dj : decide ((j : Int) < (N : Int)) = false := by simpa using hlt
          have R6 := Box.mk (R5.out.below hb.out)
          have M6 := Box.mk (M5.out.below hb.out)
          have T6 := Box.mk (T5.out.below hb.out)
          clear R5 M5 T5 W5
          go_wp2_with fail
          have fr0 : strs (X ++ rcs ss 0) = strs X := by show strs (X ++ []) = _; rw [List.append_nil]
          have fx0 : X ++ rcs ss 0 = X := List.append_nil X
          have R7 : Box (Run w wr lb b _ _ S _ (X ++ rcs ss 0) (t + 0) s) := ⟨by rw [fx0]; exact R6.out⟩
          have M7 : Box (Mine w wr lb _ _ (.slice (some ⟨gx, 0, none⟩) N cx) (strs (X ++ rcs ss 0))) := ⟨by rw [fr0]; exact M6.out⟩
          have sxn : ∀ j, (strs (X ++ rcs ss j)).length = N + j := fun j => by rw [strs_len, List.length_append, hX.out, rcs_len]
          have SXN := Box.mk sxn
          clear fr0 fx0 R6 M6 sxn hb
          go_loopw [10, 17, 18] (fun av iv _ wz => ∃ (j gz cz : Nat) (F' D' : Nat → Prop) (S' : DS) (L' : LS), j ≤ np ∧ j ≤ 8 ∧ gz ≠ w2.heap.size + 1 ∧ av = .slice (some ⟨gz, 0, none⟩) (N + j) cz ∧ iv = .int .i64 (j : Int) ∧ Box (Run w wz lb b F' D' S' L' (X ++ rcs ss j) (t + j) s) ∧ Box (Mine w wz lb F' D' (.slice (some ⟨gz, 0, none⟩) (N + j) cz) (strs (X ++ rcs ss j))) ∧ Box (Two wz (fun i => F' i ∧ i ≠ lb) (w2.heap.size + 1) (.slice pa na ca) (.slice pb nb cb)) ∧ Box (Calm S') ∧ Box (S'.room = 1048576))
            (fun _ iv _ _ => np - (intOf iv).toNat)
          case atStart => exact ⟨0, gx, cx, _, _, S, _, by omega, by omega, hgx, rfl, rfl, R7, M7, T6, hC, hRM⟩
          case round =>
            obtain ⟨j, gz, cz, F', D', S', L', hj1, hj2, hgz, rfl, rfl, hR, hM, hT, hC3, hR3⟩ := hrel
            clear R7 M7 T6
            by_cases hlt : j < np ∧ j < 8
            · obtain ⟨h1, h2⟩ := hlt
              have d1 : decide ((j : Int) < (np : Int)) = true := by simpa using h1
              have d2 : decide ((j : Int) < 8) = true := by simpa using (by omega : (j : Int) < 8)
              obtain ⟨pq, off, cc, hve, hlt0, hcell⟩ := SI.out.cells (by omega)
              obtain ⟨rfl, _, rfl⟩ := Value.slice.inj hve
              have q0 : wr.cell? ⟨pq, off + j, none⟩ = some (.string (ss j)) := by rw [hR.out.bel.cell hlt0]; exact hcell j h1
              have hR60 : ((ss j).extract 0 60).size ≤ 60 := cut_le _ _
              obtain ⟨R, hR'⟩ : ∃ R, R = (ss j).extract 0 60 := ⟨_, rfl⟩
              have cc1 : ∀ W, Calls Tryz.prog 12 #[.string (ss j), .int .i64 60] W fun e w' => e = .returned (.string R) ∧ W = w' := fun W => by rw [hR']; exact cut_any (ss j) 60 W
              rw [← hR'] at hR60
              have rsc : (X ++ rcs ss j) ++ [sb R] = X ++ rcs ss (j + 1) := by rw [List.append_assoc, rcs_succ, hR']; rfl
              have rst : strs (X ++ rcs ss j) ++ [.string R] = strs (X ++ rcs ss (j + 1)) := by rw [← rsc]; show _ = strs ((X ++ rcs ss j) ++ [sb R]); rw [strs_app (X ++ rcs ss j), strs_sb]
              have ap := append_calm hR.out hC3.out (by rw [hR3.out]; omega) (by omega) (by rw [List.length_append, hX.out, rcs_len]; omega) R hR60 HH.out
              unfold AppQ at ap
              rw [rsc] at ap
              have CC := Box.mk cc1; have AP := Box.mk ap; have RST := Box.mk rst
              clear cc1 ap rst rsc hve hcell hlt0 hR' hR60
              go_wp2_with (first
                | (go_at_call 12; ((with_reducible refine (CC.out _).mono ?_); rintro e w' ⟨rfl, rfl⟩))
                | (go_at_call 21; ((with_reducible refine AP.out.mono ?_); rintro e w7 ⟨rfl, S8, L8, rn, kp, cm, rm⟩; have R8 := Box.mk rn; have M8 := Box.mk (hM.out.keep kp); have T8 := Box.mk (hT.out.kept kp hT.out.mine); have C8 := Box.mk cm; have RM8 := Box.mk (rm.trans hR3.out); clear rn kp cm rm AP hR hM hT))
                | (at_builtin; refine wpList_append_lies _ rfl (.tmp 84) (.tmp 86) 22 rfl w.heap.size 9 i0 _ 1 16 Tryz.underlying22 hi hz0 hz1 hz2 rfl (by omega) (.slice (some ⟨gz, 0, none⟩) (N + j) cz) (N + j) (strs (X ++ rcs ss j)) rfl (by have h := (M8.out.below ((Below.refl _ _).alloc (Nat.le_refl _) (.cells #[.string R] 9))).row; rw [SXN.out j] at h; exact h) ⟨w7.heap.size, 0, none⟩ 1 1 [.string R] rfl rfl (World.news_of_block (cs := #[.string R]) (t := 9) (fr := (0, 0)) (heap_alloc_new _ _)) (by simp [Value.oneCell']) (by omega) (by unfold maxLen; omega) (by omega) (by have := R8.out.bel.size; simp; omega) (w7.heap.size + 1) (by simp) ?_; intro g4 cap4 w8 hown4 hgrow hat hlt4; have ba := (Below.refl w7.heap.size w7).alloc (Nat.le_refl _) (.cells #[.string R] 9); have R9 := Box.mk ((R8.out.below ba).grown (M8.out.below ba) hgrow); have M9 := Box.mk (Mine.grown (R8.out.below ba) (M8.out.below ba) (v' := .slice (some ⟨g4, 0, none⟩) (N + j + 1) cap4) (ys := [.string R]) hgrow (by rw [List.length_append, SXN.out j]; exact hown4) (fun k e => own_grew hat e (by simp))); have T9 := Box.mk (Two.keep (F' := fun i => (F' i ∨ ((w7.alloc (.cells #[.string R] 9)).heap.size ≤ i ∧ i < w8.heap.size)) ∧ i ≠ lb) (T8.out.below ba) hgrow.size (hgrow.block _ (T8.out.below ba).lt (fun e => hgz (by simpa [Value.ownBlock] using e.symm))) ⟨.inl T8.out.mine.1, T8.out.mine.2⟩); have hg4 : g4 ≠ w2.heap.size + 1 := (by have := T8.out.lt; rcases hat with e | e; have e2 : gz = g4 := (by simpa [Value.ownBlock] using e); omega; omega); clear hown4 hgrow hat hlt4 ba))
              go_roundw
              case rel => exact ⟨j + 1, g4, cap4, _, D', S8, L8, by omega, by omega, hg4, rfl, by go_num, R9, ⟨by rw [← RST.out]; exact M9.out⟩, T9, C8, RM8⟩
              case measure => simp [intOf]; omega
            · have main : (decide ((j : Int) < (np : Int)) = false) ∨ (decide ((j : Int) < (np : Int)) = true ∧ decide ((j : Int) < 8) = false) := by
                by_cases h1 : j < np
                · exact .inr ⟨by simpa using h1, by simpa using (by omega : ¬ (j : Int) < 8)⟩
                · exact .inl (by simpa using h1)
              rcases main with d1 | ⟨d1, d2⟩
              all_goals
                go_wp2_with (first
                  | (go_at_call 22; ((with_reducible refine (sync_calm' hR.out hC3.out (by omega)).mono ?_); rintro e w7 ⟨rfl, S8, L8, rn, kp, cm, rm⟩; have R8 := Box.mk rn; have M8 := Box.mk (Mine.ownStr (hM.out.keep kp) rfl (SXN.out j)); have T8 := Box.mk (hT.out.kept kp hT.out.mine); have RM8 := Box.mk (rm.trans hR3.out); clear rn kp cm rm hR hM hT))
                  | (go_at_call 24; ((with_reducible refine (restart_run R8.out.d (by omega) cv choice (HC.out.keep0 R8.out.bel.size (fun _ b _ hb => R8.out.bel.block b hb)) (fun k h0 e => R8.out.old k (HV.out k h0 e))).mono ?_); rintro e w9 ⟨rfl, S9, m, m1, m2, rd, kp, cm, rm⟩; rw [List.take_of_length_le m1] at rd; have R9 := Box.mk rd; have M9 := Box.mk (M8.out.keep kp (fun _ h => h)); have T9 := Box.mk (Two.kept (G := F') (F := F') ⟨T8.out.mine.1, T8.out.lt, T8.out.c0, T8.out.c1⟩ kp T8.out.mine.1); have C9 := Box.mk cm; have RM9 := Box.mk (rm.trans RM8.out); clear rd kp cm rm m1 m2 R8 M8 T8)))
                all_goals exact ⟨⟨k + 1, N + j, t + j + 1, m, gz, cz, F', S9, X ++ rcs ss j, by omega, by omega, by omega, hgz, rfl, by go_num, ⟨by rw [List.length_append, hX.out, rcs_len]⟩, R9, M9, T9, C9, RM9⟩, by simp [intOf]; omega⟩
    · have dk : decide ((k : Int) < 2) = false := by simpa using (by omega : ¬ (k : Int) < 2)
      go_wp2_with (first
        | (go_at_call 17; ((with_reducible refine (open_n (n := N) hR.out hX.out hC.out.alive (by omega) limit hl HL.out HH.out).mono ?_); rintro e w5 ⟨lb, p5, c5, L5, rfl, rn, h1, h2, row, hb⟩; have BB := Box.mk rn.bel; clear rn h1 h2 row hb hR hO hT)))
      all_goals
        go_ret
        exact ⟨rfl, BB.out⟩
end Go.Proofs.YtdbapliondlgcaaGreatDoor
