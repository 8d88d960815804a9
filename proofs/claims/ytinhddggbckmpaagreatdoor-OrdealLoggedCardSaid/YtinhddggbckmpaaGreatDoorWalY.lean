/- WalCrash: behind a crash those that were synced are found. -/
import Derived.Test.YtinhddggbckmpaaGreatDoorWalX
namespace Go.Proofs.YtinhddggbckmpaaGreatDoor
set_option maxRecDepth 100000
open Go.ChangeShapes Go.WideShapes Go.RowKit M

theorem Run.up {w0 w : World} {lb b : Nat} {F D : Nat → Prop} {S : DS} {L : LS} {X : List (List Nat)} {t s t' : Nat} (h : Run w0 w lb b F D S L X t s) (ht : t ≤ t') : Run w0 w lb b F D S L X t' s := ⟨h.log, h.st.up ht, h.old, h.lbB, h.bel⟩
theorem DL.crash {S : DS} {L : LS} {X : List (List Nat)} {t s : Nat} (h : DL S L X t s) {n : Int} (hn : n ≤ 9223372036854775807) : DL { S with crash := max n (-1) } L X t s := by
  obtain ⟨⟨base, ext, st, e⟩, z, f⟩ := h
  have k : SameN S { S with crash := max n (-1) } := ⟨rfl, rfl, rfl, rfl, fun _ => rfl, fun _ => rfl, fun _ _ _ h => h⟩
  exact ⟨⟨base, ext, ⟨st.toWk.same k, st.next1, st.next2, st.nextb, st.nexte, st.none, st.some⟩, e⟩, z.crash hn, f⟩
/-- a crash is set -/
def CrashQ (w0 : World) (lb b : Nat) (F D : Nat → Prop) (S : DS) (L : LS) (X : List (List Nat)) (t s : Nat) (w : World) (e : Ending) (w' : World) : Prop :=
  e = .returned (.tuple #[]) ∧ ∃ S', Run w0 w' lb b F D S' L X t s ∧ KeepF F w w' ∧ S'.room = S.room
theorem crash_run {w0 w : World} {lb b : Nat} {F D : Nat → Prop} {S : DS} {L : LS} {X : List (List Nat)} {t s : Nat} (h : Run w0 w lb b F D S L X t s) (n : Int) (hn : n ≤ 9223372036854775807) :
    Calls Tryz.prog 17 #[.pointer (some ⟨b, 0, none⟩), .int .i64 n] w (CrashQ w0 lb b F D S L X t s w) :=
  (crash_f b F S n w h.log.disk).mono fun _ _ ⟨he, hf, hk⟩ => ⟨he, _, ⟨h.log.keep hf (fun _ hf => hf) hk, h.st.crash hn, h.old, h.lbB, h.bel.trans (hk.below h.bel.size h.old)⟩, hk, rfl⟩
/-- an append that may fail -/
def TryQ (w0 : World) (lb b : Nat) (F D : Nat → Prop) (S : DS) (X : List (List Nat)) (r : List Nat) (t s : Nat) (A : Int × DS × LS) (w : World) (e : Ending) (w' : World) : Prop :=
  e = .returned (.int .i64 A.1) ∧ KeepF (fun k => F k ∧ k ≠ lb) w w' ∧ A.2.1.room = S.room ∧ (A.1 = 0 → Run w0 w' lb b F D A.2.1 A.2.2 (X ++ [r]) (t + 1) s) ∧ ∃ X', (X' = X ∨ X' = X ++ [r]) ∧ RunD w0 w' b F A.2.1 X' (t + 1) s
theorem append_try {w0 w : World} {lb b : Nat} {F D : Nat → Prop} {S : DS} {L : LS} {X : List (List Nat)} {t s : Nat} (h : Run w0 w lb b F D S L X t s) (ht : t ≤ 600) (hX : X.length ≤ 900) (r : ByteArray) (hs : r.size ≤ 60) (hH : Halves w0) :
    Calls Tryz.prog 14 #[.pointer (some ⟨lb, 0, none⟩), .string r] w (TryQ w0 lb b F D S X (sb r) t s (lappend S L (sb r)) w) := by
  have c := append_c h.log h.st (by omega) hX r hs (halves_below hH h.bel)
  obtain ⟨⟨X', x1, x2⟩, a2, a3, a4⟩ := h.st.append (r := sb r) (by omega) hX ⟨by rw [sb_length]; exact hs, sb_lt r⟩
  exact c.mono fun e w' ⟨he, hl, hk⟩ => ⟨he, hk, a3, fun h0 => ⟨hl, a2 h0, h.old, h.lbB, keep_below h.bel h.old h.lbB hk⟩, X', x1.imp id (fun x => x.2), ⟨hl.disk, x2, h.old, keep_below h.bel h.old h.lbB hk⟩⟩
/-- a sync that may fail -/
def SynQ (w0 : World) (lb b : Nat) (F D : Nat → Prop) (S : DS) (X : List (List Nat)) (t s : Nat) (A : Int × DS × LS) (w : World) (e : Ending) (w' : World) : Prop :=
  e = .returned (.int .i64 A.1) ∧ KeepF (fun k => F k ∧ k ≠ lb) w w' ∧ A.2.1.room = S.room ∧ (A.1 = 0 → Run w0 w' lb b F D A.2.1 A.2.2 X (t + 1) X.length) ∧ RunD w0 w' b F A.2.1 X (t + 1) s
theorem sync_try {w0 w : World} {lb b : Nat} {F D : Nat → Prop} {S : DS} {L : LS} {X : List (List Nat)} {t s : Nat} (h : Run w0 w lb b F D S L X t s) (ht : t ≤ 600) :
    Calls Tryz.prog 18 #[.pointer (some ⟨lb, 0, none⟩)] w (SynQ w0 lb b F D S X t s (lsync S L) w) := by
  have c := sync_c h.log h.st (by omega)
  obtain ⟨a1, a2, a3, a4⟩ := h.st.sync (by omega)
  exact c.mono fun e w' ⟨he, hl, hk⟩ => ⟨he, hk, a3, fun h0 => ⟨hl, a2 h0, h.old, h.lbB, keep_below h.bel h.old h.lbB hk⟩, ⟨hl.disk, a1, h.old, keep_below h.bel h.old h.lbB hk⟩⟩

/-- a list of strings in blocks of G -/
structure OwnStr (w : World) (G : Nat → Prop) (B : Nat) (v : Value) (n : Nat) (xs : List Value) : Prop where
  row : w.ownsRow B 9 1 v n xs
  own : ∀ k, v.ownBlock = some k → G k
theorem OwnStr.keep {w w' : World} {G G' : Nat → Prop} {B : Nat} {v : Value} {n : Nat} {xs : List Value} (h : OwnStr w G B v n xs) (hk : KeepF G' w w') (hG : ∀ k, G k → G' k) : OwnStr w' G B v n xs := ⟨row_keep h.row (fun k e => hk.block k (hG k (h.own k e)) (h.row.lt k e).2), h.own⟩
theorem OwnStr.below {w w' : World} {G : Nat → Prop} {B : Nat} {v : Value} {n : Nat} {xs : List Value} (h : OwnStr w G B v n xs) (hb : Below w.heap.size w w') : OwnStr w' G B v n xs := h.keep (KeepF.of_below hb) (fun _ h => h)
theorem OwnStr.mono {w : World} {G G' : Nat → Prop} {B : Nat} {v : Value} {n : Nat} {xs : List Value} (h : OwnStr w G B v n xs) (hG : ∀ k, G k → G' k) : OwnStr w G' B v n xs := ⟨h.row, fun k e => hG k (h.own k e)⟩
theorem Mine.ownStr {w0 w : World} {lb : Nat} {F D : Nat → Prop} {v : Value} {xs ys : List Value} {n : Nat} (h : Mine w0 w lb F D v xs) (e : xs = ys) (hn : ys.length = n) : OwnStr w F w0.heap.size v n ys := by
  subst e; subst hn
  exact ⟨h.row, fun k e => (h.own k e).1⟩
theorem opened_ownStr {F D : Nat → Prop} {w0 w w' : World} {lb b : Nat} {S : DS} {L : LS} {X : List (List Nat)} {t s : Nat} {v : Value} {n : Nat} {xs : List Value} (_ : Run w0 w' lb b (fun k => F k ∨ (w.heap.size ≤ k ∧ k < w'.heap.size)) D S L X t s) (h : w'.ownsRow w.heap.size 9 1 v n xs) (hl : ∀ k, v.ownBlock = some k → k ≠ lb) : OwnStr w' (fun k => (F k ∨ (w.heap.size ≤ k ∧ k < w'.heap.size)) ∧ k ≠ lb) w.heap.size v n xs :=
  ⟨h, fun k e => ⟨.inr (h.lt k e), hl k e⟩⟩
theorem row_take {w : World} {B e g n cap : Nat} {xs : List Value} (h : w.ownsRow B e 1 (.slice (some ⟨g, 0, none⟩) n cap) n xs) {m : Nat} (hm : m ≤ n) : w.ownsRow B e 1 (.slice (some ⟨g, 0, none⟩) m cap) m (xs.take m) := by
  obtain ⟨h1, h2⟩ := h
  refine ⟨by rw [List.length_take]; omega, .inr ?_⟩
  rcases h2 with ⟨h2, _⟩ | ⟨g', cap', cur, hv, a1, a2, a3, a4, a5, a6⟩
  · cases h2
  · obtain ⟨e1, _, e2⟩ := Value.slice.inj hv
    obtain rfl : g = g' := by simpa using e1
    subst e2
    refine ⟨g, cap, cur, rfl, a1, a2, by omega, a4, a5, ?_⟩
    rw [← a6, List.take_take]
    congr 1
    omega
theorem row_cap {w : World} {B e g n cap : Nat} {xs : List Value} (h : w.ownsRow B e 1 (.slice (some ⟨g, 0, none⟩) n cap) n xs) : n ≤ cap ∧ cap ≤ maxLen := by
  obtain ⟨h1, h2⟩ := h
  rcases h2 with ⟨h2, _⟩ | ⟨g', cap', cur, hv, a1, a2, a3, a4, a5, a6⟩
  · cases h2
  · obtain ⟨e1, _, e2⟩ := Value.slice.inj hv
    subst e2
    exact ⟨a3, a4⟩
theorem rcs_take (ss : Nat → ByteArray) {m k : Nat} (h : m ≤ k) : (rcs ss k).take m = rcs ss m := by
  unfold rcs
  rw [← List.map_take, List.take_range, Nat.min_eq_left h]
theorem strs_take (X : List (List Nat)) (m : Nat) : (strs X).take m = strs (X.take m) := by unfold strs; rw [List.map_take]

set_option maxHeartbeats 400000 in
theorem fits_any (p1 : Option Addr) (g m n c1 c2 B1 B2 s : Nat) (L1 L2 : List Value) (hs : s ≤ m) (hm : m ≤ n) (hn : n ≤ 1000000) (hL : ∀ j, j < m → ∃ s, L1[j]? = some (.string s)) (he : L2.take m = L1) (w : World) (o1 : w.ownsRow B1 9 1 (.slice p1 m c1) m L1) (o2 : w.ownsRow B2 9 1 (.slice (some ⟨g, 0, none⟩) n c2) n L2) :
    Calls Tryz.prog 20 #[.slice p1 m c1, .slice (some ⟨g, 0, none⟩) n c2, .int .i64 (s : Int)] w fun e w' => e = .returned (.int .i64 0) ∧ Below w.heap.size w w' := by
  obtain ⟨hc, hc2⟩ := row_cap o2
  have o3 := row_take o2 hm
  rw [he] at o3
  have c := wsame_any p1 (some ⟨g, 0, none⟩) m c1 c2 B1 B2 L1 (by omega) hL w o1 o3
  have CC := Box.mk c
  clear c o1 o2 o3 he hL
  unfold maxLen at hc2
  have d1 : decide ((m : Int) < (s : Int)) = false := by simpa using hs
  have d2 : decide ((n : Int) < (m : Int)) = false := by simpa using hm
  go_enter Tryz.func20, Tryz.ntmps20
  go_wp2_with (go_at_call 15; ((with_reducible refine CC.out.mono ?_); rintro e w1 ⟨rfl, b1⟩))
  go_ret
  exact ⟨rfl, b1⟩

set_option maxRecDepth 100000 in
set_option maxHeartbeats 8000000 in
theorem walCrash_walk (p : Option Addr) (n c : Nat) (ss : Nat → ByteArray) (limit every crash : Int) (cv : Value) (choice : List Int) (w : World) (hI : SIn w (.slice p n c) n ss) (hn : n ≤ 9223372036854775807) (hl : limit ≤ 9223372036854775807) (he1 : -9223372036854775808 ≤ every) (he2 : every ≤ 9223372036854775807) (hcr : crash ≤ 9223372036854775807) (hC : IntsIn w cv choice) (hL : LibW w) (hH : Halves w) :
    Calls Tryz.prog 4 #[.slice p n c, .int .i64 limit, .int .i64 every, .int .i64 crash, cv] w fun e w' => e = .returned (.bool true) ∧ Below w.heap.size w w' := by
  obtain ⟨i0, hi, hz0, hz1, hz2⟩ := string_parts
  have c0 := new_run (Below.refl w.heap.size w) 100000 (by omega) (by omega)
  have cw := fun W hL hH => awake7_any W hL hH
  have hv : ∀ k, 0 < choice.length → cv.ownBlock = some k → k < w.heap.size := fun k h0 e => by
    obtain ⟨b, off, cc, e2, hb, _⟩ := hC.cells h0
    rw [e2] at e
    have e3 : b = k := by simpa [Value.ownBlock] using e
    rw [← e3]; exact hb
  have qm : ∀ m : Nat, (strs (rcs ss m) ++ [.string (⟨#[109, 111, 114, 101]⟩ : ByteArray)])[m]? = some (Value.string ⟨#[109, 111, 114, 101]⟩) := fun m => by
    have h : (strs (rcs ss m)).length = m := (strs_len _).trans (rcs_len ss m)
    rw [List.getElem?_append_right (by omega), h, Nat.sub_self]; rfl
  have tk : ∀ m : Nat, strs ((rcs ss m ++ [sb ⟨#[109, 111, 114, 101]⟩]).take m) = strs (rcs ss m) := fun m => by
    rw [List.take_append_of_le_length (by rw [rcs_len]; omega), List.take_of_length_le (by rw [rcs_len]; omega)]
  have HL := Box.mk hL; have HH := Box.mk hH; have C0 := Box.mk c0; have HI := Box.mk hI; have AW := Box.mk cw; have HC := Box.mk hC; have HV := Box.mk hv; have QM := Box.mk qm; have TK := Box.mk tk
  clear hL hH c0 hI cw hC hv qm tk
  go_enter Tryz.func4, Tryz.ntmps4
  go_wp2_with (first
    | (go_at_call 10; ((with_reducible refine C0.out.mono ?_); rintro e w1 ⟨b, rfl, rd, b1⟩; have K1 := Box.mk (open_run rd rfl (by omega) limit hl HL.out HH.out); clear rd b1 C0))
    | (go_at_call 11; ((with_reducible refine K1.out.mono ?_); rintro e w2 ⟨lb, p1, c1, L0, rfl, rn, h1, h2, row, hb⟩; have K2 := Box.mk (crash_run rn crash hcr); have RN := Box.mk rn; clear rn h1 h2 row hb K1))
    | (go_at_call 17; ((with_reducible refine K2.out.mono ?_); rintro e w3 ⟨rfl, S3, rn, kp, rm⟩; have RN3 := Box.mk rn; have LO := Box.mk (show ∀ k, (fun k => w1.heap.size ≤ k ∧ k < w2.heap.size) k → k < w3.heap.size from fun _ hk => Nat.lt_of_lt_of_le hk.2 kp.size); have RM3 := Box.mk rm; clear rn kp rm K2 RN)))
  obtain ⟨r3, m3⟩ := Mine.fresh RN3.out LO.out
  have R3 := Box.mk r3; have M3 := Box.mk m3
  clear r3 m3 RN3 LO
  have sx := fun j => (strs_len (rcs ss j)).trans (rcs_len ss j)
  have SX := Box.mk sx
  clear sx
  go_loopw [15, 16, 17] (fun xv sv i wr => ∃ (j s : Nat) (F D : Nat → Prop) (S : DS) (L : LS) (gx cx : Nat), j ≤ n ∧ j ≤ 20 ∧ s ≤ j ∧ xv = .slice (some ⟨gx, 0, none⟩) j cx ∧ sv = .int .i64 (s : Int) ∧ i = .int .i64 (j : Int) ∧ Box (Run w wr lb b F D S L (rcs ss j) (2 * j) s) ∧ Box (Mine w wr lb F D (.slice (some ⟨gx, 0, none⟩) j cx) (strs (rcs ss j))) ∧ Box (S.room = 100000))
    (fun _ _ i _ => n - (intOf i).toNat)
  case atStart => exact ⟨0, 0, _, _, S3, L0, _, _, by omega, by omega, by omega, rfl, rfl, rfl, R3, M3, ⟨RM3.out⟩⟩
  case round =>
    obtain ⟨j, s, F, D, S, L, gx, cx, hjn, hj20, hsj, rfl, rfl, rfl, hR, hM, hRM⟩ := hrel
    clear R3 M3 RM3
    by_cases hlt : j < n ∧ j < 20
    · obtain ⟨h1, h2⟩ := hlt
      have d1 : decide ((j : Int) < (n : Int)) = true := by simpa using h1
      have d2 : decide ((j : Int) < 20) = true := by simpa using (by omega : (j : Int) < 20)
      obtain ⟨pb, off, cc, hve, hlt0, hcell⟩ := HI.out.cells (by omega)
      obtain ⟨rfl, _, rfl⟩ := Value.slice.inj hve
      have q0 : wr.cell? ⟨pb, off + j, none⟩ = some (.string (ss j)) := by rw [hR.out.bel.cell hlt0]; exact hcell j h1
      have hR60 : ((ss j).extract 0 60).size ≤ 60 := cut_le _ _
      obtain ⟨R, hR'⟩ : ∃ R, R = (ss j).extract 0 60 := ⟨_, rfl⟩
      have cc1 : ∀ W, Calls Tryz.prog 12 #[.string (ss j), .int .i64 60] W fun e w' => e = .returned (.string R) ∧ W = w' := fun W => by rw [hR']; exact cut_any (ss j) 60 W
      rw [← hR'] at hR60
      have rsc : rcs ss j ++ [sb R] = rcs ss (j + 1) := by rw [rcs_succ, hR']; rfl
      have rst : strs (rcs ss j) ++ [.string R] = strs (rcs ss (j + 1)) := by rw [← rsc, strs_app, strs_sb]
      have qj : (strs (rcs ss (j + 1)))[j]? = some (.string R) := by
        rw [← rst, List.getElem?_append_right (by rw [SX.out]; omega), SX.out, Nat.sub_self]; rfl
      have ap := fun F W (h : Run w W lb b F D S L (rcs ss j) (2 * j) s) => append_try h (by omega) (by rw [rcs_len]; omega) R hR60 HH.out
      obtain ⟨⟨a1, S', L'⟩, hA⟩ : ∃ A, lappend S L (sb R) = A := ⟨_, rfl⟩
      unfold TryQ at ap
      rw [hA, rsc] at ap
      have CC := Box.mk cc1; have AP := Box.mk ap; have RST := Box.mk rst; have QJ := Box.mk qj
      have kx : ∀ W F' (S'' : DS), (∃ X', (X' = rcs ss j ∨ X' = rcs ss (j + 1)) ∧ RunD w W b F' S'' X' (2 * j + 1) s) → ∃ kk, kk ≤ j + 1 ∧ RunD w W b F' S'' (rcs ss kk) (2 * j + 1) s := fun W F' S'' ⟨X', hX, rd⟩ => by
        rcases hX with rfl | rfl
        · exact ⟨j, by omega, rd⟩
        · exact ⟨j + 1, by omega, rd⟩
      have KX := Box.mk kx
      clear cc1 ap rst rsc hve hcell hlt0 hR' hR60 hA qj kx
      by_cases ha : a1 = 0
      · subst ha
        have sy := fun F W (h : Run w W lb b F D S' L' (rcs ss (j + 1)) (2 * j + 1) s) => sync_try h (by omega)
        obtain ⟨⟨b1, S2, L2⟩, hB⟩ : ∃ A, lsync S' L' = A := ⟨_, rfl⟩
        unfold SynQ at sy
        rw [hB, rcs_len] at sy
        have SY := Box.mk sy
        clear sy hB
        by_cases he0 : 0 < every
        · have e1 : decide ((0 : Int) < every) = true := by simpa using he0
          have e2 : ¬ every = 0 := by omega
          by_cases hm : Int.tmod (j : Int) every = 0
          · by_cases hb : b1 = 0
            · subst hb
              go_wp2_with (first
                | (go_at_call 12; ((with_reducible refine (CC.out _).mono ?_); rintro e w' ⟨rfl, rfl⟩))
                | (at_builtin; refine wpList_append_lies _ rfl (.tmp 56) (.tmp 62) 22 rfl w.heap.size 9 i0 _ 1 16 Tryz.underlying22 hi hz0 hz1 hz2 rfl (by omega) (.slice (some ⟨gx, 0, none⟩) j cx) j (strs (rcs ss j)) rfl (by have h := (hM.out.below ((Below.refl _ _).alloc (Nat.le_refl _) (.cells #[.string R] 9))).row; rw [SX.out j] at h; exact h) ⟨wr.heap.size, 0, none⟩ 1 1 [.string R] rfl rfl (World.news_of_block (cs := #[.string R]) (t := 9) (fr := (0, 0)) (heap_alloc_new _ _)) (by simp [Value.oneCell']) (by omega) (by unfold maxLen; omega) (by omega) (by have := hR.out.bel.size; simp; omega) (wr.heap.size + 1) (by simp) ?_; intro g4 cap4 w4 hown4 hgrow hat hlt4; have ba := (Below.refl wr.heap.size wr).alloc (Nat.le_refl _) (.cells #[.string R] 9); have R4 := Box.mk ((hR.out.below ba).grown (hM.out.below ba) hgrow); have q4 : w4.cell? ⟨g4, j, none⟩ = some (.string R) := (hown4.cellAt j (by omega)).trans (by rw [RST.out]; exact QJ.out); have M4 := Box.mk (Mine.grown (hR.out.below ba) (hM.out.below ba) (v' := .slice (some ⟨g4, 0, none⟩) (j + 1) cap4) (ys := [.string R]) hgrow (by rw [List.length_append, SX.out j]; exact hown4) (fun k e => own_grew hat e (by simp))); clear hown4 hgrow hat hlt4 ba)
                | (go_at_call 14; ((with_reducible refine (AP.out _ _ R4.out).mono ?_); rintro e w5 ⟨rfl, kp, rm, ok, no⟩; have M5 := Box.mk (M4.out.keep kp); have RM5 := Box.mk (rm.trans hRM.out); have R5 := Box.mk (ok (by simp)); clear kp rm ok no AP))
                | (go_at_call 18; ((with_reducible refine (SY.out _ _ R5.out).mono ?_); rintro e w6 ⟨rfl, kp, rm, ok, no⟩; have M6 := Box.mk (M5.out.keep kp); have RM6 := Box.mk (rm.trans RM5.out); have R6 := Box.mk (ok (by simp)); clear kp rm ok no SY)))
              go_roundw
              case rel => exact ⟨j + 1, j + 1, _, D, S2, L2, _, _, by omega, by omega, by omega, rfl, rfl, by go_num, ⟨R6.out.up (by omega)⟩, ⟨by rw [← RST.out]; exact M6.out⟩, RM6⟩
              case measure => simp [intOf]; omega
            · have f1 : (b1 != 0) = true := by simpa using hb
              have f2 : decide (b1 = 0) = false := by simpa using hb
              have f3 : (b1 == 0) = false := by simpa using hb
              go_wp2_with (first
                | (go_at_call 12; ((with_reducible refine (CC.out _).mono ?_); rintro e w' ⟨rfl, rfl⟩))
                | (at_builtin; refine wpList_append_lies _ rfl (.tmp 56) (.tmp 62) 22 rfl w.heap.size 9 i0 _ 1 16 Tryz.underlying22 hi hz0 hz1 hz2 rfl (by omega) (.slice (some ⟨gx, 0, none⟩) j cx) j (strs (rcs ss j)) rfl (by have h := (hM.out.below ((Below.refl _ _).alloc (Nat.le_refl _) (.cells #[.string R] 9))).row; rw [SX.out j] at h; exact h) ⟨wr.heap.size, 0, none⟩ 1 1 [.string R] rfl rfl (World.news_of_block (cs := #[.string R]) (t := 9) (fr := (0, 0)) (heap_alloc_new _ _)) (by simp [Value.oneCell']) (by omega) (by unfold maxLen; omega) (by omega) (by have := hR.out.bel.size; simp; omega) (wr.heap.size + 1) (by simp) ?_; intro g4 cap4 w4 hown4 hgrow hat hlt4; have ba := (Below.refl wr.heap.size wr).alloc (Nat.le_refl _) (.cells #[.string R] 9); have R4 := Box.mk ((hR.out.below ba).grown (hM.out.below ba) hgrow); have q4 : w4.cell? ⟨g4, j, none⟩ = some (.string R) := (hown4.cellAt j (by omega)).trans (by rw [RST.out]; exact QJ.out); have M4 := Box.mk (Mine.grown (hR.out.below ba) (hM.out.below ba) (v' := .slice (some ⟨g4, 0, none⟩) (j + 1) cap4) (ys := [.string R]) hgrow (by rw [List.length_append, SX.out j]; exact hown4) (fun k e => own_grew hat e (by simp))); clear hown4 hgrow hat hlt4 ba)
                | (go_at_call 14; ((with_reducible refine (AP.out _ _ R4.out).mono ?_); rintro e w5 ⟨rfl, kp, rm, ok, no⟩; have M5 := Box.mk (M4.out.keep kp); have RM5 := Box.mk (rm.trans hRM.out); have R5 := Box.mk (ok (by simp)); clear kp rm ok no AP))
                | (go_at_call 18; ((with_reducible refine (SY.out _ _ R5.out).mono ?_); rintro e w6 ⟨rfl, kp, rm, ok, no⟩; have MD := Box.mk (Mine.ownStr (M5.out.keep kp) RST.out (SX.out (j + 1))); have RMB := Box.mk (rm.trans RM5.out); have RD := Box.mk no; have k2 : s ≤ j + 1 := (by have := RD.out.st.safe_le; rw [rcs_len] at this; exact this); clear kp rm ok no SY M5 R5 M4 R4 hR hM))
                | (go_at_call 19; ((with_reducible refine (restart_run RD.out (by omega) cv choice (HC.out.keep0 RD.out.bel.size (fun _ b _ hb => RD.out.bel.block b hb)) (fun k h0 e => RD.out.old k (HV.out k h0 e))).mono ?_); rintro e wa ⟨rfl, Sa, m, m1, m2, rd, kp, cm, rm⟩; rw [rcs_len] at m2; rw [rcs_take ss m2] at rd; have RDa := Box.mk rd; have MDa := Box.mk (MD.out.keep kp (fun _ h => h)); have CMa := Box.mk cm; have RMa := Box.mk (rm.trans RMB.out); have m3 : m ≤ j + 1 := (by omega); clear rd kp cm rm RD MD RMB))
                | (go_at_call 11; ((with_reducible refine (open_n (n := m) RDa.out (rcs_len ss m) CMa.out.alive (by omega) limit hl HL.out HH.out).mono ?_); rintro e wb ⟨lbb, pb, cb, Lb, rfl, rn, h1, h2, row, hb⟩; have Rb := Box.mk rn; have MDb := Box.mk (MDa.out.below hb); have Wb := Box.mk (opened_ownStr rn row h2); clear rn h1 h2 row hb RDa MDa))
                | (go_at_call 20; ((with_reducible refine (fits_any pb g4 m (j + 1) cb cap4 _ _ _ (strs (rcs ss m)) (strs (rcs ss (j + 1))) m1 m3 (by omega) (fun i hi => strs_all _ i (by rw [rcs_len]; exact hi)) (by rw [strs_take, rcs_take ss m3]) wb Wb.out.row MDb.out.row).mono ?_); rintro e wc ⟨rfl, bc⟩; have Rc := Box.mk (Rb.out.below bc); have Wc := Box.mk (Wb.out.below bc); have nx := next_any _ _ _ _ _ _ _ Rc.out.log; have hnx := Rc.out.st.next; rw [rcs_len] at hnx; rw [hnx] at nx; obtain ⟨mn, hmn⟩ : ∃ mn, mn = m + 1 := ⟨_, rfl⟩; rw [← hmn] at nx; have NX := Box.mk nx; have wm : IntKind.i64.wrap ((m : Int) + 1) = (mn : Int) := (by rw [IntWalk.i64_in _ (by omega)]; omega); have wm2 : IntKind.u64.wrap (mn : Int) = (mn : Int) := u64small (by omega); have MN := Box.mk hmn; clear bc nx hnx hmn Rb MDb Wb))
                | (go_at_call 13; ((with_reducible refine NX.out.mono ?_); rintro e w' ⟨rfl, rfl⟩; clear NX))
                | (go_at_call 14; ((with_reducible refine (append_calm Rc.out CMa.out (by rw [RMa.out]; omega) (by omega) (by rw [rcs_len]; omega) ⟨#[109, 111, 114, 101]⟩ (by decide) HH.out).mono ?_); rintro e wd ⟨rfl, Sd, Ld, rn, kp, cm, rm⟩; have Rd := Box.mk rn; have Wd := Box.mk (Wc.out.keep kp (fun _ h => h)); have CMd := Box.mk cm; clear rn kp cm rm Rc Wc CMa))
                | (go_at_call 18; ((with_reducible refine (sync_calm' Rd.out CMd.out (by omega)).mono ?_); rintro e we ⟨rfl, Se, Le, rn, kp, cm, rm⟩; have Re := Box.mk rn; have We := Box.mk (Wd.out.keep kp (fun _ h => h)); clear rn kp cm rm Rd Wd CMd))
                | (go_at_call 19; ((with_reducible refine (restart_run Re.out.d (by omega) cv choice (HC.out.keep0 Re.out.bel.size (fun _ b _ hb => Re.out.bel.block b hb)) (fun k h0 e => Re.out.old k (HV.out k h0 e))).mono ?_); rintro e wf ⟨rfl, Sf, mf, f1, f2, rd, kp, cm, rm⟩; rw [List.take_of_length_le f1] at rd; have RDf := Box.mk rd; have Wf := Box.mk (We.out.keep kp (fun _ h => h.1)); have CMf := Box.mk cm; clear rd kp cm rm f1 f2 Re We))
                | (go_at_call 11; ((with_reducible refine (open_n (n := mn) RDf.out (by rw [List.length_append, rcs_len]; have := MN.out; simp; omega) CMf.out.alive (by omega) limit hl HL.out HH.out).mono ?_); rintro e wg ⟨lbg, pg, cg, Lg, rfl, rn, h1, h2, row, hb⟩; have Bg := Box.mk rn.bel; have Wg := Box.mk (Wf.out.below hb); obtain ⟨gg, capg, hvg, _, _⟩ := row.form (by have := MN.out; omega); obtain ⟨rfl, _, rfl⟩ := Value.slice.inj hvg; obtain ⟨hcg, hcg2⟩ := row_cap row; unfold maxLen at hcg2; have lmn : m < mn := (by have := MN.out; omega); have lmc := Nat.le_trans (Nat.le_of_lt lmn) hcg; have Ng := Box.mk (opened_ownStr rn row h2); clear rn h1 h2 row hb hvg RDf Wf))
                | (go_at_call 16; ((with_reducible refine (AW.out _ (HL.out.below Bg.out) (halves_below HH.out Bg.out)).mono ?_); rintro e wh ⟨rfl, bh⟩; have Wh := Box.mk (Wg.out.below bh); have Nh := Box.mk (Ng.out.below bh); have Bh := Box.mk (Bg.out.trans (bh.mono Bg.out.size)); have qh : wh.cell? ⟨gg, m, none⟩ = some (.string ⟨#[109, 111, 114, 101]⟩) := (Nh.out.row.cellAt m (by have := MN.out; omega)).trans (by rw [strs_app, strs_sb]; exact QM.out m); clear bh Wg Ng Bg))
                | (go_at_call 15; ((with_reducible refine (wsame_any (some ⟨gg, 0, none⟩) pb m _ cb _ _ (strs (rcs ss m)) (by omega) (fun i hi => strs_all _ i (by rw [rcs_len]; exact hi)) wh (by have h := row_take Nh.out.row (m := m) (by have := MN.out; omega); rw [strs_take, TK.out m] at h; exact h) Wh.out.row).mono ?_); rintro e wi ⟨rfl, bi⟩; have Bi := Box.mk (Bh.out.trans (bi.mono Bh.out.size)); clear bi)))
              all_goals
                first | (go_ret; exact ⟨rfl, Bi.out⟩) | done
          · obtain ⟨z, hz⟩ : ∃ z, Int.tmod (j : Int) every = z := ⟨_, rfl⟩
            rw [hz] at hm
            have e3 : (z == 0) = false := by simpa using hm
            have e4 : decide (z = 0) = false := by simpa using hm
            go_wp2_with (first
              | (go_at_call 12; ((with_reducible refine (CC.out _).mono ?_); rintro e w' ⟨rfl, rfl⟩))
              | (at_builtin; refine wpList_append_lies _ rfl (.tmp 56) (.tmp 62) 22 rfl w.heap.size 9 i0 _ 1 16 Tryz.underlying22 hi hz0 hz1 hz2 rfl (by omega) (.slice (some ⟨gx, 0, none⟩) j cx) j (strs (rcs ss j)) rfl (by have h := (hM.out.below ((Below.refl _ _).alloc (Nat.le_refl _) (.cells #[.string R] 9))).row; rw [SX.out j] at h; exact h) ⟨wr.heap.size, 0, none⟩ 1 1 [.string R] rfl rfl (World.news_of_block (cs := #[.string R]) (t := 9) (fr := (0, 0)) (heap_alloc_new _ _)) (by simp [Value.oneCell']) (by omega) (by unfold maxLen; omega) (by omega) (by have := hR.out.bel.size; simp; omega) (wr.heap.size + 1) (by simp) ?_; intro g4 cap4 w4 hown4 hgrow hat hlt4; have ba := (Below.refl wr.heap.size wr).alloc (Nat.le_refl _) (.cells #[.string R] 9); have R4 := Box.mk ((hR.out.below ba).grown (hM.out.below ba) hgrow); have q4 : w4.cell? ⟨g4, j, none⟩ = some (.string R) := (hown4.cellAt j (by omega)).trans (by rw [RST.out]; exact QJ.out); have M4 := Box.mk (Mine.grown (hR.out.below ba) (hM.out.below ba) (v' := .slice (some ⟨g4, 0, none⟩) (j + 1) cap4) (ys := [.string R]) hgrow (by rw [List.length_append, SX.out j]; exact hown4) (fun k e => own_grew hat e (by simp))); clear hown4 hgrow hat hlt4 ba)
              | (go_at_call 14; ((with_reducible refine (AP.out _ _ R4.out).mono ?_); rintro e w5 ⟨rfl, kp, rm, ok, no⟩; have M5 := Box.mk (M4.out.keep kp); have RM5 := Box.mk (rm.trans hRM.out); have R5 := Box.mk (ok (by simp)); clear kp rm ok no AP)))
            go_roundw
            case rel => exact ⟨j + 1, s, _, D, S', L', _, _, by omega, by omega, by omega, rfl, rfl, by go_num, ⟨R5.out.up (by omega)⟩, ⟨by rw [← RST.out]; exact M5.out⟩, RM5⟩
            case measure => simp [intOf]; omega
        · have e1 : decide ((0 : Int) < every) = false := by simpa using he0
          go_wp2_with (first
              | (go_at_call 12; ((with_reducible refine (CC.out _).mono ?_); rintro e w' ⟨rfl, rfl⟩))
              | (at_builtin; refine wpList_append_lies _ rfl (.tmp 56) (.tmp 62) 22 rfl w.heap.size 9 i0 _ 1 16 Tryz.underlying22 hi hz0 hz1 hz2 rfl (by omega) (.slice (some ⟨gx, 0, none⟩) j cx) j (strs (rcs ss j)) rfl (by have h := (hM.out.below ((Below.refl _ _).alloc (Nat.le_refl _) (.cells #[.string R] 9))).row; rw [SX.out j] at h; exact h) ⟨wr.heap.size, 0, none⟩ 1 1 [.string R] rfl rfl (World.news_of_block (cs := #[.string R]) (t := 9) (fr := (0, 0)) (heap_alloc_new _ _)) (by simp [Value.oneCell']) (by omega) (by unfold maxLen; omega) (by omega) (by have := hR.out.bel.size; simp; omega) (wr.heap.size + 1) (by simp) ?_; intro g4 cap4 w4 hown4 hgrow hat hlt4; have ba := (Below.refl wr.heap.size wr).alloc (Nat.le_refl _) (.cells #[.string R] 9); have R4 := Box.mk ((hR.out.below ba).grown (hM.out.below ba) hgrow); have q4 : w4.cell? ⟨g4, j, none⟩ = some (.string R) := (hown4.cellAt j (by omega)).trans (by rw [RST.out]; exact QJ.out); have M4 := Box.mk (Mine.grown (hR.out.below ba) (hM.out.below ba) (v' := .slice (some ⟨g4, 0, none⟩) (j + 1) cap4) (ys := [.string R]) hgrow (by rw [List.length_append, SX.out j]; exact hown4) (fun k e => own_grew hat e (by simp))); clear hown4 hgrow hat hlt4 ba)
              | (go_at_call 14; ((with_reducible refine (AP.out _ _ R4.out).mono ?_); rintro e w5 ⟨rfl, kp, rm, ok, no⟩; have M5 := Box.mk (M4.out.keep kp); have RM5 := Box.mk (rm.trans hRM.out); have R5 := Box.mk (ok (by simp)); clear kp rm ok no AP)))
          go_roundw
          case rel => exact ⟨j + 1, s, _, D, S', L', _, _, by omega, by omega, by omega, rfl, rfl, by go_num, ⟨R5.out.up (by omega)⟩, ⟨by rw [← RST.out]; exact M5.out⟩, RM5⟩
          case measure => simp [intOf]; omega
      · have f1 : (a1 != 0) = true := by simpa using ha
        have f2 : decide (a1 = 0) = false := by simpa using ha
        have f3 : (a1 == 0) = false := by simpa using ha
        go_wp2_with (first
          | (go_at_call 12; ((with_reducible refine (CC.out _).mono ?_); rintro e w' ⟨rfl, rfl⟩))
          | (at_builtin; refine wpList_append_lies _ rfl (.tmp 56) (.tmp 62) 22 rfl w.heap.size 9 i0 _ 1 16 Tryz.underlying22 hi hz0 hz1 hz2 rfl (by omega) (.slice (some ⟨gx, 0, none⟩) j cx) j (strs (rcs ss j)) rfl (by have h := (hM.out.below ((Below.refl _ _).alloc (Nat.le_refl _) (.cells #[.string R] 9))).row; rw [SX.out j] at h; exact h) ⟨wr.heap.size, 0, none⟩ 1 1 [.string R] rfl rfl (World.news_of_block (cs := #[.string R]) (t := 9) (fr := (0, 0)) (heap_alloc_new _ _)) (by simp [Value.oneCell']) (by omega) (by unfold maxLen; omega) (by omega) (by have := hR.out.bel.size; simp; omega) (wr.heap.size + 1) (by simp) ?_; intro g4 cap4 w4 hown4 hgrow hat hlt4; have ba := (Below.refl wr.heap.size wr).alloc (Nat.le_refl _) (.cells #[.string R] 9); have R4 := Box.mk ((hR.out.below ba).grown (hM.out.below ba) hgrow); have q4 : w4.cell? ⟨g4, j, none⟩ = some (.string R) := (hown4.cellAt j (by omega)).trans (by rw [RST.out]; exact QJ.out); have M4 := Box.mk (Mine.grown (hR.out.below ba) (hM.out.below ba) (v' := .slice (some ⟨g4, 0, none⟩) (j + 1) cap4) (ys := [.string R]) hgrow (by rw [List.length_append, SX.out j]; exact hown4) (fun k e => own_grew hat e (by simp))); clear hown4 hgrow hat hlt4 ba)
          | (go_at_call 14; ((with_reducible refine (AP.out _ _ R4.out).mono ?_); rintro e w5 ⟨rfl, kp, rm, ok, no⟩; obtain ⟨kk, k1, rd⟩ := KX.out _ _ _ no; have MD := Box.mk (Mine.ownStr (M4.out.keep kp) RST.out (SX.out (j + 1))); have RMB := Box.mk (rm.trans hRM.out); have RD := Box.mk rd; have k2 : s ≤ kk := (by have := RD.out.st.safe_le; rw [rcs_len] at this; exact this); have gB : g4 = g4 := rfl; clear rd kp rm ok no AP M4 R4 hR hM))
          | (go_at_call 19; ((with_reducible refine (restart_run RD.out (by omega) cv choice (HC.out.keep0 RD.out.bel.size (fun _ b _ hb => RD.out.bel.block b hb)) (fun k h0 e => RD.out.old k (HV.out k h0 e))).mono ?_); rintro e wa ⟨rfl, Sa, m, m1, m2, rd, kp, cm, rm⟩; rw [rcs_len] at m2; rw [rcs_take ss m2] at rd; have RDa := Box.mk rd; have MDa := Box.mk (MD.out.keep kp (fun _ h => h)); have CMa := Box.mk cm; have RMa := Box.mk (rm.trans RMB.out); have m3 : m ≤ j + 1 := (by omega); clear rd kp cm rm RD MD RMB))
          | (go_at_call 11; ((with_reducible refine (open_n (n := m) RDa.out (rcs_len ss m) CMa.out.alive (by omega) limit hl HL.out HH.out).mono ?_); rintro e wb ⟨lbb, pb, cb, Lb, rfl, rn, h1, h2, row, hb⟩; have Rb := Box.mk rn; have MDb := Box.mk (MDa.out.below hb); have Wb := Box.mk (opened_ownStr rn row h2); clear rn h1 h2 row hb RDa MDa))
          | (go_at_call 20; ((with_reducible refine (fits_any pb g4 m (j + 1) cb cap4 _ _ _ (strs (rcs ss m)) (strs (rcs ss (j + 1))) m1 m3 (by omega) (fun i hi => strs_all _ i (by rw [rcs_len]; exact hi)) (by rw [strs_take, rcs_take ss m3]) wb Wb.out.row MDb.out.row).mono ?_); rintro e wc ⟨rfl, bc⟩; have Rc := Box.mk (Rb.out.below bc); have Wc := Box.mk (Wb.out.below bc); have nx := next_any _ _ _ _ _ _ _ Rc.out.log; have hnx := Rc.out.st.next; rw [rcs_len] at hnx; rw [hnx] at nx; obtain ⟨mn, hmn⟩ : ∃ mn, mn = m + 1 := ⟨_, rfl⟩; rw [← hmn] at nx; have NX := Box.mk nx; have wm : IntKind.i64.wrap ((m : Int) + 1) = (mn : Int) := (by rw [IntWalk.i64_in _ (by omega)]; omega); have wm2 : IntKind.u64.wrap (mn : Int) = (mn : Int) := u64small (by omega); have MN := Box.mk hmn; clear bc nx hnx hmn Rb MDb Wb))
          | (go_at_call 13; ((with_reducible refine NX.out.mono ?_); rintro e w' ⟨rfl, rfl⟩; clear NX))
          | (go_at_call 14; ((with_reducible refine (append_calm Rc.out CMa.out (by rw [RMa.out]; omega) (by omega) (by rw [rcs_len]; omega) ⟨#[109, 111, 114, 101]⟩ (by decide) HH.out).mono ?_); rintro e wd ⟨rfl, Sd, Ld, rn, kp, cm, rm⟩; have Rd := Box.mk rn; have Wd := Box.mk (Wc.out.keep kp (fun _ h => h)); have CMd := Box.mk cm; clear rn kp cm rm Rc Wc CMa))
          | (go_at_call 18; ((with_reducible refine (sync_calm' Rd.out CMd.out (by omega)).mono ?_); rintro e we ⟨rfl, Se, Le, rn, kp, cm, rm⟩; have Re := Box.mk rn; have We := Box.mk (Wd.out.keep kp (fun _ h => h)); clear rn kp cm rm Rd Wd CMd))
          | (go_at_call 19; ((with_reducible refine (restart_run Re.out.d (by omega) cv choice (HC.out.keep0 Re.out.bel.size (fun _ b _ hb => Re.out.bel.block b hb)) (fun k h0 e => Re.out.old k (HV.out k h0 e))).mono ?_); rintro e wf ⟨rfl, Sf, mf, f1, f2, rd, kp, cm, rm⟩; rw [List.take_of_length_le f1] at rd; have RDf := Box.mk rd; have Wf := Box.mk (We.out.keep kp (fun _ h => h.1)); have CMf := Box.mk cm; clear rd kp cm rm f1 f2 Re We))
          | (go_at_call 11; ((with_reducible refine (open_n (n := mn) RDf.out (by rw [List.length_append, rcs_len]; have := MN.out; simp; omega) CMf.out.alive (by omega) limit hl HL.out HH.out).mono ?_); rintro e wg ⟨lbg, pg, cg, Lg, rfl, rn, h1, h2, row, hb⟩; have Bg := Box.mk rn.bel; have Wg := Box.mk (Wf.out.below hb); obtain ⟨gg, capg, hvg, _, _⟩ := row.form (by have := MN.out; omega); obtain ⟨rfl, _, rfl⟩ := Value.slice.inj hvg; obtain ⟨hcg, hcg2⟩ := row_cap row; unfold maxLen at hcg2; have lmn : m < mn := (by have := MN.out; omega); have lmc := Nat.le_trans (Nat.le_of_lt lmn) hcg; have Ng := Box.mk (opened_ownStr rn row h2); clear rn h1 h2 row hb hvg RDf Wf))
          | (go_at_call 16; ((with_reducible refine (AW.out _ (HL.out.below Bg.out) (halves_below HH.out Bg.out)).mono ?_); rintro e wh ⟨rfl, bh⟩; have Wh := Box.mk (Wg.out.below bh); have Nh := Box.mk (Ng.out.below bh); have Bh := Box.mk (Bg.out.trans (bh.mono Bg.out.size)); have qh : wh.cell? ⟨gg, m, none⟩ = some (.string ⟨#[109, 111, 114, 101]⟩) := (Nh.out.row.cellAt m (by have := MN.out; omega)).trans (by rw [strs_app, strs_sb]; exact QM.out m); clear bh Wg Ng Bg))
          | (go_at_call 15; ((with_reducible refine (wsame_any (some ⟨gg, 0, none⟩) pb m _ cb _ _ (strs (rcs ss m)) (by omega) (fun i hi => strs_all _ i (by rw [rcs_len]; exact hi)) wh (by have h := row_take Nh.out.row (m := m) (by have := MN.out; omega); rw [strs_take, TK.out m] at h; exact h) Wh.out.row).mono ?_); rintro e wi ⟨rfl, bi⟩; have Bi := Box.mk (Bh.out.trans (bi.mono Bh.out.size)); clear bi)))
        all_goals
          first | (go_ret; exact ⟨rfl, Bi.out⟩) | done
    · have RD := Box.mk hR.out.d
      have MD := Box.mk (Mine.ownStr hM.out rfl (SX.out j))
      have RMB := Box.mk hRM.out
      clear hR hM hRM
      have main : (decide ((j : Int) < (n : Int)) = false) ∨ (decide ((j : Int) < (n : Int)) = true ∧ decide ((j : Int) < 20) = false) := by
        by_cases h1 : j < n
        · exact .inr ⟨by simpa using h1, by simpa using (by omega : ¬ (j : Int) < 20)⟩
        · exact .inl (by simpa using h1)
      rcases main with d1 | ⟨d1, d2⟩
      all_goals
        go_wp2_with (first
          | (go_at_call 19; ((with_reducible refine (restart_run RD.out (by omega) cv choice (HC.out.keep0 RD.out.bel.size (fun _ b _ hb => RD.out.bel.block b hb)) (fun k h0 e => RD.out.old k (HV.out k h0 e))).mono ?_); rintro e wa ⟨rfl, Sa, m, m1, m2, rd, kp, cm, rm⟩; rw [rcs_len] at m2; rw [rcs_take ss m2] at rd; have RDa := Box.mk rd; have MDa := Box.mk (MD.out.keep kp (fun _ h => h)); have CMa := Box.mk cm; have RMa := Box.mk (rm.trans RMB.out); have m3 : m ≤ j := (by omega); clear rd kp cm rm RD MD RMB))
          | (go_at_call 11; ((with_reducible refine (open_n (n := m) RDa.out (rcs_len ss m) CMa.out.alive (by omega) limit hl HL.out HH.out).mono ?_); rintro e wb ⟨lbb, pb, cb, Lb, rfl, rn, h1, h2, row, hb⟩; have Rb := Box.mk rn; have MDb := Box.mk (MDa.out.below hb); have Wb := Box.mk (opened_ownStr rn row h2); clear rn h1 h2 row hb RDa MDa))
          | (go_at_call 20; ((with_reducible refine (fits_any pb gx m (j) cb cx _ _ _ (strs (rcs ss m)) (strs (rcs ss (j))) m1 m3 (by omega) (fun i hi => strs_all _ i (by rw [rcs_len]; exact hi)) (by rw [strs_take, rcs_take ss m3]) wb Wb.out.row MDb.out.row).mono ?_); rintro e wc ⟨rfl, bc⟩; have Rc := Box.mk (Rb.out.below bc); have Wc := Box.mk (Wb.out.below bc); have nx := next_any _ _ _ _ _ _ _ Rc.out.log; have hnx := Rc.out.st.next; rw [rcs_len] at hnx; rw [hnx] at nx; obtain ⟨mn, hmn⟩ : ∃ mn, mn = m + 1 := ⟨_, rfl⟩; rw [← hmn] at nx; have NX := Box.mk nx; have wm : IntKind.i64.wrap ((m : Int) + 1) = (mn : Int) := (by rw [IntWalk.i64_in _ (by omega)]; omega); have wm2 : IntKind.u64.wrap (mn : Int) = (mn : Int) := u64small (by omega); have MN := Box.mk hmn; clear bc nx hnx hmn Rb MDb Wb))
          | (go_at_call 13; ((with_reducible refine NX.out.mono ?_); rintro e w' ⟨rfl, rfl⟩; clear NX))
          | (go_at_call 14; ((with_reducible refine (append_calm Rc.out CMa.out (by rw [RMa.out]; omega) (by omega) (by rw [rcs_len]; omega) ⟨#[109, 111, 114, 101]⟩ (by decide) HH.out).mono ?_); rintro e wd ⟨rfl, Sd, Ld, rn, kp, cm, rm⟩; have Rd := Box.mk rn; have Wd := Box.mk (Wc.out.keep kp (fun _ h => h)); have CMd := Box.mk cm; clear rn kp cm rm Rc Wc CMa))
          | (go_at_call 18; ((with_reducible refine (sync_calm' Rd.out CMd.out (by omega)).mono ?_); rintro e we ⟨rfl, Se, Le, rn, kp, cm, rm⟩; have Re := Box.mk rn; have We := Box.mk (Wd.out.keep kp (fun _ h => h)); clear rn kp cm rm Rd Wd CMd))
          | (go_at_call 19; ((with_reducible refine (restart_run Re.out.d (by omega) cv choice (HC.out.keep0 Re.out.bel.size (fun _ b _ hb => Re.out.bel.block b hb)) (fun k h0 e => Re.out.old k (HV.out k h0 e))).mono ?_); rintro e wf ⟨rfl, Sf, mf, f1, f2, rd, kp, cm, rm⟩; rw [List.take_of_length_le f1] at rd; have RDf := Box.mk rd; have Wf := Box.mk (We.out.keep kp (fun _ h => h.1)); have CMf := Box.mk cm; clear rd kp cm rm f1 f2 Re We))
          | (go_at_call 11; ((with_reducible refine (open_n (n := mn) RDf.out (by rw [List.length_append, rcs_len]; have := MN.out; simp; omega) CMf.out.alive (by omega) limit hl HL.out HH.out).mono ?_); rintro e wg ⟨lbg, pg, cg, Lg, rfl, rn, h1, h2, row, hb⟩; have Bg := Box.mk rn.bel; have Wg := Box.mk (Wf.out.below hb); obtain ⟨gg, capg, hvg, _, _⟩ := row.form (by have := MN.out; omega); obtain ⟨rfl, _, rfl⟩ := Value.slice.inj hvg; obtain ⟨hcg, hcg2⟩ := row_cap row; unfold maxLen at hcg2; have lmn : m < mn := (by have := MN.out; omega); have lmc := Nat.le_trans (Nat.le_of_lt lmn) hcg; have Ng := Box.mk (opened_ownStr rn row h2); clear rn h1 h2 row hb hvg RDf Wf))
          | (go_at_call 16; ((with_reducible refine (AW.out _ (HL.out.below Bg.out) (halves_below HH.out Bg.out)).mono ?_); rintro e wh ⟨rfl, bh⟩; have Wh := Box.mk (Wg.out.below bh); have Nh := Box.mk (Ng.out.below bh); have Bh := Box.mk (Bg.out.trans (bh.mono Bg.out.size)); have qh : wh.cell? ⟨gg, m, none⟩ = some (.string ⟨#[109, 111, 114, 101]⟩) := (Nh.out.row.cellAt m (by have := MN.out; omega)).trans (by rw [strs_app, strs_sb]; exact QM.out m); clear bh Wg Ng Bg))
          | (go_at_call 15; ((with_reducible refine (wsame_any (some ⟨gg, 0, none⟩) pb m _ cb _ _ (strs (rcs ss m)) (by omega) (fun i hi => strs_all _ i (by rw [rcs_len]; exact hi)) wh (by have h := row_take Nh.out.row (m := m) (by have := MN.out; omega); rw [strs_take, TK.out m] at h; exact h) Wh.out.row).mono ?_); rintro e wi ⟨rfl, bi⟩; have Bi := Box.mk (Bh.out.trans (bi.mono Bh.out.size)); clear bi)))
        all_goals
          first | (go_ret; exact ⟨rfl, Bi.out⟩) | done
end Go.Proofs.YtinhddggbckmpaaGreatDoor
