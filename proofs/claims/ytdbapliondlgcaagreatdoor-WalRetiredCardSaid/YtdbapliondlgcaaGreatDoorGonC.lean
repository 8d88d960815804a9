/- WalRetired: records that are retired don't come back. -/
import Derived.Test.YtdbapliondlgcaaGreatDoorGonB
namespace Go.Proofs.YtdbapliondlgcaaGreatDoor
set_option maxRecDepth 100000
open Go.ChangeShapes Go.WideShapes Go.RowKit M

theorem RW.vals {S : DS} {base : List Seg} {n : Nat} (h : RW S base n) {p : Nat} (hp : p ≤ S.chg.length) : ((foldP S p).map (·.2)).Nodup := by
  obtain ⟨q, i, ex, v, _, _, _, ok⟩ := h.views p hp
  have e : ((ents (base.drop i ++ ex)).map (·.2)) = (base.drop i ++ ex).map (·.f) := by unfold ents; rw [List.map_map]; rfl
  rw [(v.map (·.2)).nodup_iff, e]
  exact ext_fs (h.fs.sublist ((List.drop_sublist i base).map _)) ok
/-- a disk behind Retire -/
def GoneD (S : DS) (X : List (List Nat)) (T : Nat) (c : Int) : Prop := ∃ base, RW S base 1000 ∧ Sz S (7 * T) (8000 * T) ∧ (recs base = X ∨ recs base = []) ∧ (c = 0 → recs base = [])
theorem GoneD.restart {S : DS} {X : List (List Nat)} {T : Nat} {c : Int} (h : GoneD S X T c) (hT : T ≤ 700) (ch : List Int) :
    RestOk S ch ∧ ∃ q base ext m, m ≤ X.length ∧ recs base = X.drop m ∧ (c = 0 → m = X.length) ∧ Wk (restartI S ch) q base ext 1000 0 ∧ Sz (restartI S ch) (7 * T) (8000 * T) := by
  obtain ⟨base, rw, z, hr, h0⟩ := h
  obtain ⟨q, i, ext, wk⟩ := rw.restart ch
  have z' := z.restart ch (rw.vals (pickN_le ch 0 S.chg.length))
  refine ⟨z.restOk (by omega) ch, q, base.drop i, ext, ?_⟩
  obtain ⟨m, m1, m2, m3⟩ := recs_end base i
  rcases hr with e | e
  · refine ⟨m, by rw [← e]; exact m1, by rw [m2, e], fun hc => ?_, wk, z'⟩
    have e0 := h0 hc
    rw [e0] at e m1
    rw [← e]; exact Nat.le_zero.1 m1
  · refine ⟨X.length, Nat.le_refl _, ?_, fun _ => rfl, wk, z'⟩
    rw [m2, e, List.drop_nil, List.drop_length]
/-- Retire of a log whose records are safe -/
theorem retire_ready {S : DS} {L : LS} {X : List (List Nat)} {t : Nat} (h : DL S L X t X.length) (hd : S.dead = false) (hf : S.fail = -1) (ht : t ≤ 300) :
    ∃ c S', (c = 0 ∨ c = 9) ∧ GoneD S' X (2 * t + 1) c ∧ ∀ (lb b : Nat) (F D : Nat → Prop) (W : World), HasL W lb b F D S L → LibW W → Calls Tryz.prog 23 #[.pointer (some ⟨lb, 0, none⟩)] W (RetP lb b F D (c, S') W) := by
  obtain ⟨⟨base, ext, st, e⟩, z, f⟩ := h
  have wk : Wk S 1 base ext 1000 (recs base).length := by rw [e]; exact st.toWk
  obtain ⟨base', b1, b2, b3, b4⟩ := retS_spec wk.inv.chain wk.inv.bound wk.rw wk.now.ok wk.now.names wk.now.last hd hf
  have len : (base ++ ext).length ≤ 7 * t := by rw [wk_len wk]; obtain ⟨C, zz⟩ := z; exact zz.names
  have zr := (retS_sz (base ++ ext) z).up (k' := 7 * (2 * t + 1)) (c' := 8000 * (2 * t + 1)) (by omega) (by omega)
  refine ⟨(retS (base ++ ext) S).1, (retS (base ++ ext) S).2, b3, ⟨base', b2, zr, ?_, fun hc => by rw [b4 hc]; rfl⟩, fun lb b F D W hl hL => ?_⟩
  · rcases b1 with e1 | e1
    · left; rw [e1]; exact e
    · right; rw [e1]; rfl
  · exact retire_any lb b F D S L (base ++ ext) W (7 * t) (8000 * t) hl z (by omega) (by omega) hd wk.now.names (ext_rise wk.inv.chain wk.now.ok) (fun g hg => Nat.le_trans (ext_small wk.inv.chain wk.inv.bound wk.now.ok g hg) wk.inv.n1) hL
theorem crash_def {w0 w : World} {lb b : Nat} {F D : Nat → Prop} {S : DS} {L : LS} {X : List (List Nat)} {t s : Nat} (h : Run w0 w lb b F D S L X t s) (n : Int) (hn : n ≤ 9223372036854775807) :
    Calls Tryz.prog 27 #[.pointer (some ⟨b, 0, none⟩), .int .i64 n] w fun e w' => e = .returned (.tuple #[]) ∧ Run w0 w' lb b F D { S with crash := max n (-1) } L X t s ∧ KeepF F w w' :=
  (crash_f b F S n w h.log.disk).mono fun _ _ ⟨he, hf, hk⟩ => ⟨he, ⟨h.log.keep hf (fun _ hf => hf) hk, h.st.crash hn, h.old, h.lbB, h.bel.trans (hk.below h.bel.size h.old)⟩, hk⟩
/-- Open behind Retire -/
def OpenG (r : Nat) (xs : List Value) (w : World) (e : Ending) (w' : World) : Prop :=
  ∃ lb p c, e = .returned (.tuple #[.pointer (some ⟨lb, 0, none⟩), .slice p r c, .int .i64 0]) ∧ w'.ownsRow w.heap.size 9 1 (.slice p r c) r xs ∧ Below w.heap.size w w'
theorem open_g {w : World} {b : Nat} {F : Nat → Prop} {S : DS} {q T r : Nat} {base ext : List Seg} {X : List (List Nat)} (h : HasF w b F S) (hd : S.dead = false) (wk : Wk S q base ext 1000 0) (hz : Sz S (7 * T) (8000 * T)) (hT : T ≤ 700) (hr : recs base = X) (hl : X.length = r) (limit : Int) (hL : LibW w) (hH : Halves w) :
    Calls Tryz.prog 17 #[.pointer (some ⟨b, 0, none⟩), .int .i64 limit] w (OpenG r (strs X) w) := by
  refine (open_any b F S limit w _ _ q 1000 0 base ext h hd wk hz (by omega) (by omega) (by omega) hL hH).mono fun e w' ⟨lb, v, he, _, _, _, row, hb⟩ => ?_
  rw [wk_recs wk, hr] at row
  obtain ⟨p, cp, rfl⟩ := own_len row
  rw [hl] at he row
  exact ⟨lb, p, cp, he, row, hb⟩

set_option maxHeartbeats 400000 in
theorem same_off (p1 : Option Addr) (g m n n2 k1 k2 B1 : Nat) (L : List Value) (hn2 : n = n2) (hn : n ≤ 1000000) (hL : ∀ j, j < n → ∃ s, L[j]? = some (.string s)) (w : World) (o1 : w.ownsRow B1 9 1 (.slice p1 n k1) n L) (o2 : ∀ j, j < n → w.cell? ⟨g, m + j, none⟩ = L[j]?) (hg : g < w.heap.size) :
    Calls Tryz.prog 20 #[.slice p1 n k1, .slice (some ⟨g, m, none⟩) n2 k2] w fun e w' => e = .returned (.int .i64 0) ∧ Below w.heap.size w w' := by
  subst hn2
  have O1 := Box.mk o1; have O2 := Box.mk o2; have HL := Box.mk hL
  clear o1 o2 hL
  go_enter Tryz.func20, Tryz.ntmps20
  go_wp2_with fail
  go_loopw [5, 13] (fun _ i wr => ∃ k : Nat, k ≤ n ∧ i = .int .i64 (k : Int) ∧ Box (wr.ownsRow B1 9 1 (.slice p1 n k1) n L) ∧ Box (Below w.heap.size w wr))
    (fun _ i _ => n - (intOf i).toNat)
  case atStart => exact ⟨0, by omega, rfl, O1, ⟨Below.refl _ _⟩⟩
  case round =>
    obtain ⟨k, hk, rfl, h1, hb⟩ := hrel
    by_cases hlt : k < n
    · obtain ⟨g1, cap1, hv1⟩ := h1.out.form (by omega)
      obtain ⟨rfl, _, rfl⟩ := Value.slice.inj hv1.1
      have hc1 := h1.out.cellAt k (by omega)
      have hc2 := (hb.out.cell (p := ⟨g, m + k, none⟩) hg).trans (O2.out k hlt)
      obtain ⟨S, hS⟩ := HL.out k hlt
      rw [hS] at hc1 hc2
      clear hv1 hS O1 O2
      go_wp2_with fail
      go_quiet (fail)
      go_wp2_with fail
      go_roundw
      case rel => exact ⟨k + 1, by omega, by go_num, ⟨wown_drewN h1.out _⟩, ⟨wbdr hb.out _⟩⟩
      case measure => simp [intOf]; omega
    · obtain rfl : k = n := by omega
      go_wp2
      go_ret
      exact ⟨rfl, hb.out⟩
theorem Mine.ownStr2 {w0 w : World} {lb : Nat} {F D : Nat → Prop} {v : Value} {xs : List Value} {n : Nat} (h : Mine w0 w lb F D v xs) (hn : xs.length = n) : OwnStr w (fun k => F k ∧ k ≠ lb) w0.heap.size v n xs := by
  subst hn
  exact ⟨h.row, fun k e => ⟨(h.own k e).1, (h.own k e).2.1⟩⟩
theorem strs_drop (X : List (List Nat)) (m j : Nat) : (strs X)[m + j]? = (strs (X.drop m))[j]? := by
  unfold strs
  rw [List.getElem?_map, List.getElem?_map, List.getElem?_drop]

set_option maxRecDepth 100000 in
set_option maxHeartbeats 8000000 in
theorem walRetired_walk (p : Option Addr) (n c : Nat) (ss : Nat → ByteArray) (limit crash : Int) (cv : Value) (choice : List Int) (w : World) (hI : SIn w (.slice p n c) n ss) (hn : n ≤ 9223372036854775807) (hl : limit ≤ 9223372036854775807) (hcr : crash ≤ 9223372036854775807) (hC : IntsIn w cv choice) (hL : LibW w) (hH : Halves w) :
    Calls Tryz.prog 7 #[.slice p n c, .int .i64 limit, .int .i64 crash, cv] w fun e w' => e = .returned (.bool true) ∧ Below w.heap.size w w' := by
  obtain ⟨i0, hi, hz0, hz1, hz2⟩ := string_parts
  have c0 := new_run (Below.refl w.heap.size w) 100000 (by omega) (by omega)
  have cw := fun W hL hH => awake7_any W hL hH
  have hv : ∀ k, 0 < choice.length → cv.ownBlock = some k → k < w.heap.size := fun k h0 e => by
    obtain ⟨b, off, cc, e2, hb, _⟩ := hC.cells h0
    rw [e2] at e
    have e3 : b = k := by simpa [Value.ownBlock] using e
    rw [← e3]; exact hb
  have HL := Box.mk hL; have HH := Box.mk hH; have C0 := Box.mk c0; have HI := Box.mk hI; have AW := Box.mk cw; have HC := Box.mk hC; have HV := Box.mk hv
  clear hL hH c0 hI cw hC hv
  go_enter Tryz.func7, Tryz.ntmps7
  go_wp2_with (first
    | (go_at_call 10; ((with_reducible refine C0.out.mono ?_); rintro e w1 ⟨b, rfl, rd, b1⟩; have K1 := Box.mk (open_run rd rfl (by omega) limit hl HL.out HH.out); clear rd b1 C0))
    | (go_at_call 17; ((with_reducible refine K1.out.mono ?_); rintro e w2 ⟨lb, p1, c1, L0, rfl, rn, h1, h2, row, hb⟩; have RN := Box.mk rn; have LO := Box.mk (show ∀ k, (fun k => w1.heap.size ≤ k ∧ k < w2.heap.size) k → k < w2.heap.size from fun _ hk => hk.2); clear rn h1 h2 row hb K1)))
  obtain ⟨r3, m3⟩ := Mine.fresh RN.out LO.out
  have R3 := Box.mk r3; have M3 := Box.mk m3
  clear r3 m3 RN LO
  have sx := fun j => (strs_len (rcs ss j)).trans (rcs_len ss j)
  have SX := Box.mk sx
  clear sx
  go_loopw [13, 14] (fun xv i wr => ∃ (j : Nat) (F D : Nat → Prop) (S : DS) (L : LS) (gx cx : Nat), j ≤ n ∧ j ≤ 12 ∧ xv = .slice (some ⟨gx, 0, none⟩) j cx ∧ i = .int .i64 (j : Int) ∧ Box (Run w wr lb b F D S L (rcs ss j) j 0) ∧ Box (Mine w wr lb F D (.slice (some ⟨gx, 0, none⟩) j cx) (strs (rcs ss j))) ∧ Box (Calm S) ∧ Box (S.room = 100000))
    (fun _ i _ => n - (intOf i).toNat)
  case atStart => exact ⟨0, _, _, _, L0, _, _, by omega, by omega, rfl, rfl, R3, M3, ⟨Calm.begun _⟩, ⟨rfl⟩⟩
  case round =>
    obtain ⟨j, F, D, S, L, gx, cx, hjn, hj20, rfl, rfl, hR, hM, hCM, hRM⟩ := hrel
    clear R3 M3
    by_cases hlt : j < n ∧ j < 12
    · obtain ⟨h1, h2⟩ := hlt
      have d1 : decide ((j : Int) < (n : Int)) = true := by simpa using h1
      have d2 : decide ((j : Int) < 12) = true := by simpa using (by omega : (j : Int) < 12)
      obtain ⟨pb, off, cc, hve, hlt0, hcell⟩ := HI.out.cells (by omega)
      obtain ⟨rfl, _, rfl⟩ := Value.slice.inj hve
      have q0 : wr.cell? ⟨pb, off + j, none⟩ = some (.string (ss j)) := by rw [hR.out.bel.cell hlt0]; exact hcell j h1
      have hR60 : ((ss j).extract 0 60).size ≤ 60 := cut_le _ _
      obtain ⟨R, hR'⟩ : ∃ R, R = (ss j).extract 0 60 := ⟨_, rfl⟩
      have cc1 : ∀ W, Calls Tryz.prog 12 #[.string (ss j), .int .i64 60] W fun e w' => e = .returned (.string R) ∧ W = w' := fun W => by rw [hR']; exact cut_any (ss j) 60 W
      rw [← hR'] at hR60
      have rsc : rcs ss j ++ [sb R] = rcs ss (j + 1) := by rw [rcs_succ, hR']; rfl
      have rst : strs (rcs ss j) ++ [.string R] = strs (rcs ss (j + 1)) := by rw [← rsc, strs_app, strs_sb]
      have qj : (strs (rcs ss (j + 1)))[j]? = some (.string R) := by
        rw [← rst, List.getElem?_append_right (by rw [SX.out]; omega), SX.out, Nat.sub_self]; rfl
      have ap := fun F W (h : Run w W lb b F D S L (rcs ss j) j 0) => append_calm h hCM.out (by rw [hRM.out]; omega) (by omega) (by rw [rcs_len]; omega) R hR60 HH.out
      unfold AppQ at ap
      rw [rsc] at ap
      have CC := Box.mk cc1; have AP := Box.mk ap; have RST := Box.mk rst; have QJ := Box.mk qj
      clear cc1 ap rst rsc hve hcell hlt0 hR' hR60 qj
      go_wp2_with (first
        | (go_at_call 12; ((with_reducible refine (CC.out _).mono ?_); rintro e w' ⟨rfl, rfl⟩))
        | (at_builtin; refine wpList_append_lies _ rfl (.tmp 48) (.tmp 54) 22 rfl w.heap.size 9 i0 _ 1 16 Tryz.underlying22 hi hz0 hz1 hz2 rfl (by omega) (.slice (some ⟨gx, 0, none⟩) j cx) j (strs (rcs ss j)) rfl (by have h := (hM.out.below ((Below.refl _ _).alloc (Nat.le_refl _) (.cells #[.string R] 9))).row; rw [SX.out j] at h; exact h) ⟨wr.heap.size, 0, none⟩ 1 1 [.string R] rfl rfl (World.news_of_block (cs := #[.string R]) (t := 9) (fr := (0, 0)) (heap_alloc_new _ _)) (by simp [Value.oneCell']) (by omega) (by unfold maxLen; omega) (by omega) (by have := hR.out.bel.size; simp; omega) (wr.heap.size + 1) (by simp) ?_; intro g4 cap4 w4 hown4 hgrow hat hlt4; have ba := (Below.refl wr.heap.size wr).alloc (Nat.le_refl _) (.cells #[.string R] 9); have R4 := Box.mk ((hR.out.below ba).grown (hM.out.below ba) hgrow); have q4 : w4.cell? ⟨g4, j, none⟩ = some (.string R) := (hown4.cellAt j (by omega)).trans (by rw [RST.out]; exact QJ.out); have M4 := Box.mk (Mine.grown (hR.out.below ba) (hM.out.below ba) (v' := .slice (some ⟨g4, 0, none⟩) (j + 1) cap4) (ys := [.string R]) hgrow (by rw [List.length_append, SX.out j]; exact hown4) (fun k e => own_grew hat e (by simp))); clear hown4 hgrow hat hlt4 ba)
        | (go_at_call 21; ((with_reducible refine (AP.out _ _ R4.out).mono ?_); rintro e w5 ⟨rfl, S', L', rn, kp, cm, rm⟩; have R5 := Box.mk rn; have M5 := Box.mk (M4.out.keep kp); have C5 := Box.mk cm; have RM5 := Box.mk (rm.trans hRM.out); clear rn kp cm rm AP)))
      go_roundw
      case rel => exact ⟨j + 1, _, D, S', L', _, _, by omega, by omega, rfl, by go_num, R5, ⟨by rw [← RST.out]; exact M5.out⟩, C5, RM5⟩
      case measure => simp [intOf]; omega
    · have main : (decide ((j : Int) < (n : Int)) = false) ∨ (decide ((j : Int) < (n : Int)) = true ∧ decide ((j : Int) < 12) = false) := by
        by_cases h1 : j < n
        · exact .inr ⟨by simpa using h1, by simpa using (by omega : ¬ (j : Int) < 12)⟩
        · exact .inl (by simpa using h1)
      obtain ⟨_, s2, _, s4⟩ := hR.out.st.sync (by omega)
      obtain ⟨s5, s6⟩ := s4 hCM.out
      have sy := sync_try hR.out (by omega)
      unfold SynQ at sy
      obtain ⟨⟨a1, S1, L1⟩, hA⟩ : ∃ A, lsync S L = A := ⟨_, rfl⟩
      rw [hA] at s2 s5 s6 sy
      obtain rfl : a1 = 0 := s5
      have dl : DL { S1 with crash := max crash (-1) } L1 (rcs ss j) (j + 1) (rcs ss j).length := (s2 rfl).crash hcr
      have s6' : Calm S1 := s6
      obtain ⟨f, S3, hf, gd, rt⟩ := retire_ready dl s6'.1 s6'.2.1 (by omega)
      obtain ⟨ro, q, base, ext, m, m1, m2, m3, wk, z4⟩ := gd.restart (by omega) choice
      rw [rcs_len] at m1 m3
      obtain ⟨r, hr⟩ : ∃ r, r + m = j := ⟨j - m, by omega⟩
      have z3 : Fine S3 := by obtain ⟨_, _, z, _⟩ := gd; exact z.fine (by omega) (by omega)
      have xl : ((rcs ss j).drop m).length = r := by rw [List.length_drop, rcs_len]; omega
      have SY := Box.mk sy; have RT := Box.mk rt; have RO := Box.mk ro; have WK := Box.mk wk; have Z3 := Box.mk z3; have Z4 := Box.mk z4; have M2 := Box.mk m2; have XL := Box.mk xl
      have mw : IntKind.i64.wrap ((j : Int) - (r : Int)) = (m : Int) := by rw [IntWalk.i64_in _ (by omega)]; omega
      have lr : decide ((j : Int) < (r : Int)) = false := by simpa using (by omega : ¬ (j : Int) < (r : Int))
      have hmj : m ≤ j := m1
      clear s2 s4 s6 s6' sy hA dl gd rt ro wk z3 z4 m2 xl
      have OLD := Box.mk hR.out.old
      rcases hf with rfl | rfl
      · have hr0 : r = 0 := by have := m3 rfl; omega
        have e0 : decide ((r : Int) = 0) = true := by simpa using hr0
        have e1 : ((r : Int) == 0) = true := by simpa using hr0
        clear hr0 m3
        rcases main with d1 | ⟨d1, d2⟩
        all_goals
          go_wp2_with (first
            | (go_at_call 22; ((with_reducible refine SY.out.mono ?_); rintro e w5 ⟨rfl, kp, rm, ok, no⟩; have R5 := Box.mk (ok (by simp)); have M5 := Box.mk (Mine.ownStr2 (hM.out.keep kp) (SX.out j)); clear kp rm ok no SY hR hM))
            | (go_at_call 27; ((with_reducible refine (crash_def R5.out crash hcr).mono ?_); rintro e w6 ⟨rfl, rn, kp⟩; have R6 := Box.mk rn; have M6 := Box.mk (M5.out.keep kp (fun _ h => h.1)); clear rn kp R5 M5))
            | (go_at_call 23; ((with_reducible refine (RT.out lb b F D w6 R6.out.log (HL.out.below R6.out.bel)).mono ?_); rintro e w7 ⟨rfl, ⟨L', hl7⟩, kp⟩; have D7 := Box.mk hl7.disk; have B7 := Box.mk (keep_below R6.out.bel R6.out.old R6.out.lbB kp); have M7 := Box.mk (M6.out.keep kp (fun _ h => h)); clear hl7 kp R6 M6 RT))
            | (go_at_call 24; ((with_reducible refine (restart_f b F S3 cv choice w7 D7.out Z3.out RO.out (HC.out.keep0 B7.out.size (fun _ b _ hb => B7.out.block b hb)) (fun k h0 e => OLD.out k (HV.out k h0 e))).mono ?_); rintro e w8 ⟨rfl, hf8, hk8⟩; have D8 := Box.mk hf8; have B8 := Box.mk (B7.out.trans (hk8.below B7.out.size OLD.out)); have M8 := Box.mk (M7.out.keep hk8 (fun _ h => h.1)); clear hf8 hk8 D7 B7 M7))
            | (go_at_call 17; ((with_reducible refine (open_g D8.out rfl WK.out Z4.out (by omega) M2.out XL.out limit (HL.out.below B8.out) (halves_below HH.out B8.out)).mono ?_); rintro e w9 ⟨lb9, p9, c9, rfl, row, hb⟩; have B9 := Box.mk (B8.out.trans (hb.mono B8.out.size)); have M9 := Box.mk (M8.out.below hb); have W9 := Box.mk row; obtain ⟨hcx, hcx2⟩ := row_cap M9.out.row; unfold maxLen at hcx2; have hmx := Nat.le_trans hmj hcx; clear row hb D8 B8 M8))
            | (go_at_call 20; ((with_reducible refine (same_off p9 gx _ r _ c9 _ _ (strs ((rcs ss j).drop m)) (by omega) (by omega) (fun i hi => strs_all _ i (by rw [XL.out]; exact hi)) w9 W9.out (fun i hi => by first | exact (M9.out.row.cellAt (m + i) (by omega)).trans (strs_drop _ m i) | (exfalso; omega)) (M9.out.row.lt gx rfl).2).mono ?_); rintro e wa ⟨rfl, ba⟩; have Ba := Box.mk (B9.out.trans (ba.mono B9.out.size)); clear ba))
            | (go_at_call 11; ((with_reducible refine (AW.out _ (HL.out.below Ba.out) (halves_below HH.out Ba.out)).mono ?_); rintro e wb ⟨rfl, bb⟩; have Bb := Box.mk (Ba.out.trans (bb.mono Ba.out.size)); clear bb)))
          all_goals first | (go_ret; exact ⟨rfl, Bb.out⟩) | done
      · rcases main with d1 | ⟨d1, d2⟩
        all_goals
          go_wp2_with (first
            | (go_at_call 22; ((with_reducible refine SY.out.mono ?_); rintro e w5 ⟨rfl, kp, rm, ok, no⟩; have R5 := Box.mk (ok (by simp)); have M5 := Box.mk (Mine.ownStr2 (hM.out.keep kp) (SX.out j)); clear kp rm ok no SY hR hM))
            | (go_at_call 27; ((with_reducible refine (crash_def R5.out crash hcr).mono ?_); rintro e w6 ⟨rfl, rn, kp⟩; have R6 := Box.mk rn; have M6 := Box.mk (M5.out.keep kp (fun _ h => h.1)); clear rn kp R5 M5))
            | (go_at_call 23; ((with_reducible refine (RT.out lb b F D w6 R6.out.log (HL.out.below R6.out.bel)).mono ?_); rintro e w7 ⟨rfl, ⟨L', hl7⟩, kp⟩; have D7 := Box.mk hl7.disk; have B7 := Box.mk (keep_below R6.out.bel R6.out.old R6.out.lbB kp); have M7 := Box.mk (M6.out.keep kp (fun _ h => h)); clear hl7 kp R6 M6 RT))
            | (go_at_call 24; ((with_reducible refine (restart_f b F S3 cv choice w7 D7.out Z3.out RO.out (HC.out.keep0 B7.out.size (fun _ b _ hb => B7.out.block b hb)) (fun k h0 e => OLD.out k (HV.out k h0 e))).mono ?_); rintro e w8 ⟨rfl, hf8, hk8⟩; have D8 := Box.mk hf8; have B8 := Box.mk (B7.out.trans (hk8.below B7.out.size OLD.out)); have M8 := Box.mk (M7.out.keep hk8 (fun _ h => h.1)); clear hf8 hk8 D7 B7 M7))
            | (go_at_call 17; ((with_reducible refine (open_g D8.out rfl WK.out Z4.out (by omega) M2.out XL.out limit (HL.out.below B8.out) (halves_below HH.out B8.out)).mono ?_); rintro e w9 ⟨lb9, p9, c9, rfl, row, hb⟩; have B9 := Box.mk (B8.out.trans (hb.mono B8.out.size)); have M9 := Box.mk (M8.out.below hb); have W9 := Box.mk row; obtain ⟨hcx, hcx2⟩ := row_cap M9.out.row; unfold maxLen at hcx2; have hmx := Nat.le_trans hmj hcx; clear row hb D8 B8 M8))
            | (go_at_call 20; ((with_reducible refine (same_off p9 gx _ r _ c9 _ _ (strs ((rcs ss j).drop m)) (by omega) (by omega) (fun i hi => strs_all _ i (by rw [XL.out]; exact hi)) w9 W9.out (fun i hi => by first | exact (M9.out.row.cellAt (m + i) (by omega)).trans (strs_drop _ m i) | (exfalso; omega)) (M9.out.row.lt gx rfl).2).mono ?_); rintro e wa ⟨rfl, ba⟩; have Ba := Box.mk (B9.out.trans (ba.mono B9.out.size)); clear ba))
            | (go_at_call 11; ((with_reducible refine (AW.out _ (HL.out.below Ba.out) (halves_below HH.out Ba.out)).mono ?_); rintro e wb ⟨rfl, bb⟩; have Bb := Box.mk (Ba.out.trans (bb.mono Ba.out.size)); clear bb)))
          all_goals first | (go_ret; exact ⟨rfl, Bb.out⟩) | done
end Go.Proofs.YtdbapliondlgcaaGreatDoor
