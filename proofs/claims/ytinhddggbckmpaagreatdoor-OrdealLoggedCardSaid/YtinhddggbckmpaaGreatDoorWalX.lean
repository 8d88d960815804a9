/- WalWhole: without a crash Open finds all records. -/
import Derived.Test.YtinhddggbckmpaaGreatDoorIb
namespace Go.Proofs.YtinhddggbckmpaaGreatDoor
set_option maxRecDepth 100000
open Go.ChangeShapes Go.WideShapes Go.RowKit M

theorem Calm.alive {S : DS} (h : Calm S) : S.dead = false := h.1
/-- the first records of a law -/
def rcs (ss : Nat → ByteArray) (j : Nat) : List (List Nat) := (List.range j).map (rcN ss)
theorem rcs_len (ss : Nat → ByteArray) (j : Nat) : (rcs ss j).length = j := by simp [rcs]
theorem rcs_succ (ss : Nat → ByteArray) (j : Nat) : rcs ss (j + 1) = rcs ss j ++ [rcN ss j] := by simp [rcs, List.range_succ]
theorem strs_len (X : List (List Nat)) : (strs X).length = X.length := by simp [strs]
theorem strs_app (X Y : List (List Nat)) : strs (X ++ Y) = strs X ++ strs Y := by simp [strs]
theorem strs_sb (s : ByteArray) : strs [sb s] = [.string s] := by unfold strs; rw [List.map_cons, bs_list]; rfl

theorem wbdr {B : Nat} {w0 w : World} (h : Below B w0 w) (n : Nat) : Below B w0 (w.drewN n) := ⟨h.os, h.tape, h.output, h.size, h.block⟩
theorem wown_drewN {w : World} {B e z : Nat} {v : Value} {n : Nat} {xs : List Value} (h : w.ownsRow B e z v n xs) (k : Nat) : (w.drewN k).ownsRow B e z v n xs := h
set_option maxHeartbeats 400000 in
theorem wsame_any (p1 p2 : Option Addr) (n k1 k2 B1 B2 : Nat) (L : List Value) (hn : n ≤ 1000000) (hL : ∀ j, j < n → ∃ s, L[j]? = some (.string s)) (w : World) (o1 : w.ownsRow B1 9 1 (.slice p1 n k1) n L) (o2 : w.ownsRow B2 9 1 (.slice p2 n k2) n L) :
    Calls Tryz.prog 15 #[.slice p1 n k1, .slice p2 n k2] w fun e w' => e = .returned (.int .i64 0) ∧ Below w.heap.size w w' := by
  have O1 := Box.mk o1; have O2 := Box.mk o2; have HL := Box.mk hL
  clear o1 o2 hL
  go_enter Tryz.func15, Tryz.ntmps15
  go_wp2_with fail
  go_loopw [5, 13] (fun _ i wr => ∃ k : Nat, k ≤ n ∧ i = .int .i64 (k : Int) ∧ Box (wr.ownsRow B1 9 1 (.slice p1 n k1) n L) ∧ Box (wr.ownsRow B2 9 1 (.slice p2 n k2) n L) ∧ Box (Below w.heap.size w wr))
    (fun _ i _ => n - (intOf i).toNat)
  case atStart => exact ⟨0, by omega, rfl, O1, O2, ⟨Below.refl _ _⟩⟩
  case round =>
    obtain ⟨k, hk, rfl, h1, h2, hb⟩ := hrel
    by_cases hlt : k < n
    · obtain ⟨g1, cap1, hv1⟩ := h1.out.form (by omega)
      obtain ⟨rfl, _, rfl⟩ := Value.slice.inj hv1.1
      obtain ⟨g2, cap2, hv2⟩ := h2.out.form (by omega)
      obtain ⟨rfl, _, rfl⟩ := Value.slice.inj hv2.1
      have hc1 := h1.out.cellAt k (by omega)
      have hc2 := h2.out.cellAt k (by omega)
      obtain ⟨S, hS⟩ := HL.out k hlt
      rw [hS] at hc1 hc2
      clear hv1 hv2 hS O1 O2
      go_wp2_with fail
      go_quiet (fail)
      go_wp2_with fail
      go_roundw
      case rel => exact ⟨k + 1, by omega, by go_num, ⟨wown_drewN h1.out _⟩, ⟨wown_drewN h2.out _⟩, ⟨wbdr hb.out _⟩⟩
      case measure => simp [intOf]; omega
    · obtain rfl : k = n := by omega
      go_wp2
      go_ret
      exact ⟨rfl, hb.out⟩

/-- a list of strings of the law's own beside a log -/
structure Mine (w0 w : World) (lb : Nat) (F D : Nat → Prop) (v : Value) (xs : List Value) : Prop where
  row : w.ownsRow w0.heap.size 9 1 v xs.length xs
  own : ∀ k, v.ownBlock = some k → F k ∧ k ≠ lb ∧ ¬ D k
  low : ∀ k, D k → k < w.heap.size
theorem Mine.keep {w0 w w' : World} {lb : Nat} {F D : Nat → Prop} {v : Value} {xs : List Value} (h : Mine w0 w lb F D v xs) (hk : KeepF (fun k => F k ∧ k ≠ lb) w w') : Mine w0 w' lb F D v xs :=
  ⟨row_keep h.row (fun k e => hk.block k ⟨(h.own k e).1, (h.own k e).2.1⟩ (h.row.lt k e).2), h.own, fun k hd => Nat.lt_of_lt_of_le (h.low k hd) hk.size⟩
/-- the law's list grows -/
theorem Run.grown {w0 w w' : World} {lb b : Nat} {F D : Nat → Prop} {S : DS} {L : LS} {X : List (List Nat)} {t s : Nat} {v : Value} {xs : List Value} (h : Run w0 w lb b F D S L X t s) (m : Mine w0 w lb F D v xs) (hg : w.grownBy w' v.ownBlock) :
    Run w0 w' lb b (fun k => F k ∨ (w.heap.size ≤ k ∧ k < w'.heap.size)) D S L X t s := by
  obtain ⟨dk, mn, lv, la, lo⟩ := h.log
  have hlb := dk.lt mn
  refine ⟨⟨dk.mine hg.size (fun k hk hn => hg.block k hk (fun e => hn (m.own k e.symm).1)) (fun _ hf => hf), .inl mn, lv, la.keep (hg.block lb hlb (fun e => (m.own lb e.symm).2.1 rfl)) (fun k e => hg.block k (dk.lt (lo k e).1) (fun e2 => (m.own k e2.symm).2.2 (lo k e).2.2)), fun k e => ⟨.inl (lo k e).1, (lo k e).2⟩⟩, h.st, fun k hk => .inl (h.old k hk), h.lbB, ?_⟩
  refine h.bel.grown hg h.bel.size (fun k e => (m.row.lt k e).1)
theorem Mine.grown {w0 w w' : World} {lb b : Nat} {F D : Nat → Prop} {S : DS} {L : LS} {X : List (List Nat)} {t s : Nat} {v v' : Value} {xs ys : List Value} (h : Run w0 w lb b F D S L X t s) (m : Mine w0 w lb F D v xs) (hg : w.grownBy w' v.ownBlock) (hr : w'.ownsRow w0.heap.size 9 1 v' (xs ++ ys).length (xs ++ ys)) (hv : ∀ k, v'.ownBlock = some k → v.ownBlock = some k ∨ w.heap.size ≤ k) :
    Mine w0 w' lb (fun k => F k ∨ (w.heap.size ≤ k ∧ k < w'.heap.size)) D v' (xs ++ ys) := by
  have hlb := h.log.disk.lt h.log.mine
  refine ⟨hr, fun k e => ?_, fun k hd => Nat.lt_of_lt_of_le (m.low k hd) hg.size⟩
  rcases hv k e with e2 | e2
  · exact ⟨.inl (m.own k e2).1, (m.own k e2).2⟩
  · exact ⟨.inr ⟨e2, (hr.lt k e).2⟩, by omega, fun hd => by have := m.low k hd; omega⟩
/-- blocks are new -/
theorem Run.below {w0 w w' : World} {lb b : Nat} {F D : Nat → Prop} {S : DS} {L : LS} {X : List (List Nat)} {t s : Nat} (h : Run w0 w lb b F D S L X t s) (hb : Below w.heap.size w w') : Run w0 w' lb b F D S L X t s :=
  ⟨h.log.below hb, h.st, h.old, h.lbB, h.bel.trans (hb.mono h.bel.size)⟩
theorem Mine.below {w0 w w' : World} {lb : Nat} {F D : Nat → Prop} {v : Value} {xs : List Value} (m : Mine w0 w lb F D v xs) (hb : Below w.heap.size w w') : Mine w0 w' lb F D v xs := m.keep (KeepF.of_below hb)
/-- the list beside a log that has just been opened -/
theorem Mine.opened {w0 w w' : World} {lb lb' b : Nat} {F D : Nat → Prop} {S : DS} {L : LS} {X : List (List Nat)} {t s : Nat} {v : Value} {xs : List Value} (_h : Run w0 w lb b F D S L X t s) (m : Mine w0 w lb F D v xs) (hb : Below w.heap.size w w') (hl : w.heap.size ≤ lb') :
    Mine w0 w' lb' (fun k => F k ∨ (w.heap.size ≤ k ∧ k < w'.heap.size)) (fun k => w.heap.size ≤ k ∧ k < w'.heap.size) v xs := by
  refine ⟨row_keep m.row (fun k e => hb.block k (m.row.lt k e).2), fun k e => ⟨.inl (m.own k e).1, ?_, ?_⟩, fun k hd => hd.2⟩
  · have := (m.row.lt k e).2; omega
  · intro hd; have := (m.row.lt k e).2; have := hd.1; omega

theorem own_grew {v : Value} {g k f f' n cap : Nat} (hat : v.ownBlock = some g ∨ g = f) (e : (Value.slice (some ⟨g, 0, none⟩) n cap).ownBlock = some k) (hf : f' ≤ f) : v.ownBlock = some k ∨ f' ≤ k := by
  have e2 : g = k := by simpa [Value.ownBlock] using e
  subst e2
  rcases hat with h | h
  · exact .inl h
  · exact .inr (by omega)
/-- the log is opened: n records -/
def OpenN (w0 : World) (b : Nat) (F : Nat → Prop) (S : DS) (X : List (List Nat)) (n t s : Nat) (w : World) (e : Ending) (w' : World) : Prop :=
  ∃ lb p c L, e = .returned (.tuple #[.pointer (some ⟨lb, 0, none⟩), .slice p n c, .int .i64 0]) ∧ Run w0 w' lb b (fun k => F k ∨ (w.heap.size ≤ k ∧ k < w'.heap.size)) (fun k => w.heap.size ≤ k ∧ k < w'.heap.size) S L X t s ∧ w.heap.size ≤ lb ∧ (∀ k, (Value.slice p n c).ownBlock = some k → k ≠ lb) ∧
    w'.ownsRow w.heap.size 9 1 (.slice p n c) n (strs X) ∧ Below w.heap.size w w'
theorem open_n {w0 w : World} {b : Nat} {F : Nat → Prop} {S : DS} {X : List (List Nat)} {t s n : Nat} (h : RunD w0 w b F S X t s) (hn : X.length = n) (hd : S.dead = false) (ht : t ≤ 600) (limit : Int) (hl : limit ≤ 9223372036854775807) (hL : LibW w0) (hH : Halves w0) :
    Calls Tryz.prog 11 #[.pointer (some ⟨b, 0, none⟩), .int .i64 limit] w (OpenN w0 b F S X n t s w) := by
  subst hn
  exact open_run h hd ht limit hl hL hH
theorem strs_all (X : List (List Nat)) : ∀ j, j < X.length → ∃ s, (strs X)[j]? = some (.string s) := fun j hj => ⟨bs X[j], by unfold strs; rw [List.getElem?_map, List.getElem?_eq_getElem hj]; rfl⟩
/-- a new list of no strings -/
theorem Mine.fresh {w0 w : World} {lb b : Nat} {F D : Nat → Prop} {S : DS} {L : LS} {X : List (List Nat)} {t s : Nat} (h : Run w0 w lb b F D S L X t s) (hd : ∀ k, D k → k < w.heap.size) :
    Run w0 (w.alloc (.cells #[] 9)) lb b (fun k => F k ∨ (w.heap.size ≤ k ∧ k < (w.alloc (.cells #[] 9)).heap.size)) D S L X t s ∧ Mine w0 (w.alloc (.cells #[] 9)) lb (fun k => F k ∨ (w.heap.size ≤ k ∧ k < (w.alloc (.cells #[] 9)).heap.size)) D (.slice (some ⟨w.heap.size, 0, none⟩) 0 0) [] := by
  have hlb := h.log.disk.lt h.log.mine
  have hb : Below w.heap.size w (w.alloc (.cells #[] 9)) := (Below.refl _ _).alloc (Nat.le_refl _) _
  have sz : (w.alloc (.cells #[] 9)).heap.size = w.heap.size + 1 := by simp
  refine ⟨⟨h.log.keep (h.log.disk.mine (by omega) (fun k hk _ => hb.block k hk) (fun _ hf => hf)) (fun _ hf => .inl hf) (KeepF.of_below hb), h.st, fun k hk => .inl (h.old k hk), h.lbB, h.bel.trans (hb.mono h.bel.size)⟩, ⟨World.ownsRow_made w #[] 0 h.bel.size (by unfold maxLen; omega) rfl, fun k e => ?_, fun k hk => by have := hd k hk; omega⟩⟩
  have e2 : k = w.heap.size := by simpa [Value.ownBlock] using e.symm
  rw [e2]
  exact ⟨.inr ⟨Nat.le_refl _, by omega⟩, by omega, fun hk => by have := hd _ hk; omega⟩

set_option maxRecDepth 100000 in
set_option maxHeartbeats 4000000 in
theorem walWhole_walk (p : Option Addr) (n c : Nat) (ss : Nat → ByteArray) (limit every : Int) (w : World) (hI : SIn w (.slice p n c) n ss) (hn : n ≤ 9223372036854775807) (hl : limit ≤ 9223372036854775807) (he1 : -9223372036854775808 ≤ every) (he2 : every ≤ 9223372036854775807) (hL : LibW w) (hH : Halves w) :
    Calls Tryz.prog 3 #[.slice p n c, .int .i64 limit, .int .i64 every] w fun e w' => e = .returned (.bool true) ∧ Below w.heap.size w w' := by
  obtain ⟨i0, hi, hz0, hz1, hz2⟩ := string_parts
  have c0 := new_run (Below.refl w.heap.size w) 100000 (by omega) (by omega)
  have cw := fun W hL hH => awake7_any W hL hH
  have HL := Box.mk hL; have HH := Box.mk hH; have C0 := Box.mk c0; have HI := Box.mk hI; have AW := Box.mk cw
  clear hL hH c0 hI cw
  go_enter Tryz.func3, Tryz.ntmps3
  go_wp2_with (first
    | (go_at_call 10; ((with_reducible refine C0.out.mono ?_); rintro e w1 ⟨b, rfl, rd, b1⟩; have K1 := Box.mk (open_run rd rfl (by omega) limit hl HL.out HH.out); clear rd b1 C0))
    | (go_at_call 11; ((with_reducible refine K1.out.mono ?_); rintro e w2 ⟨lb, p1, c1, L0, rfl, rn, h1, h2, row, hb⟩; have RN := Box.mk rn; have LO := Box.mk (show ∀ k, (fun k => w1.heap.size ≤ k ∧ k < w2.heap.size) k → k < w2.heap.size from fun _ hk => hk.2); clear rn h1 h2 row hb K1)))
  obtain ⟨r3, m3⟩ := Mine.fresh RN.out LO.out
  have R3 := Box.mk r3; have M3 := Box.mk m3
  clear r3 m3 RN LO
  have sx := fun j => (strs_len (rcs ss j)).trans (rcs_len ss j)
  have SX := Box.mk sx
  clear sx
  go_loopw [8, 11, 12] (fun lv xv i wr => ∃ (j lb : Nat) (F D : Nat → Prop) (S : DS) (L : LS) (px : Option Addr) (cx : Nat), j ≤ n ∧ j ≤ 20 ∧ lv = .pointer (some ⟨lb, 0, none⟩) ∧ xv = .slice px j cx ∧ i = .int .i64 (j : Int) ∧ Box (Run w wr lb b F D S L (rcs ss j) j 0) ∧ Box (Mine w wr lb F D (.slice px j cx) (strs (rcs ss j))) ∧ Box (Calm S) ∧ Box (S.room = 100000))
    (fun _ _ i _ => n - (intOf i).toNat)
  case atStart => exact ⟨0, lb, _, _, _, L0, _, _, by omega, by omega, rfl, rfl, rfl, R3, M3, ⟨Calm.begun _⟩, ⟨rfl⟩⟩
  case round =>
    obtain ⟨j, lb, F, D, S, L, px, cx, hjn, hj20, rfl, rfl, rfl, hR, hM, hC, hRM⟩ := hrel
    clear R3 M3
    have fin : Box (∀ W, Box (RunD w W b F S (rcs ss j) j 0) → Calls Tryz.prog 11 #[.pointer (some ⟨b, 0, none⟩), .int .i64 limit] W (OpenR w b F S (rcs ss j) j 0 W)) := ⟨fun W r => open_run r.out hC.out.alive (by omega) limit hl HL.out HH.out⟩
    by_cases hlt : j < n ∧ j < 20
    · obtain ⟨h1, h2⟩ := hlt
      have d1 : decide ((j : Int) < (n : Int)) = true := by simpa using h1
      have d2 : decide ((j : Int) < 20) = true := by simpa using (by omega : (j : Int) < 20)
      obtain ⟨pb, off, cc, hve, hlt0, hcell⟩ := HI.out.cells (by omega)
      obtain ⟨rfl, _, rfl⟩ := Value.slice.inj hve
      have q0 : wr.cell? ⟨pb, off + j, none⟩ = some (.string (ss j)) := by rw [hR.out.bel.cell hlt0]; exact hcell j h1
      have hR60 : ((ss j).extract 0 60).size ≤ 60 := cut_le _ _
      obtain ⟨R, hR'⟩ : ∃ R, R = (ss j).extract 0 60 := ⟨_, rfl⟩
      have cc1 : ∀ W, Calls Tryz.prog 12 #[.string (ss j), .int .i64 60] W fun e w' => e = .returned (.string R) ∧ W = w' := fun W => by rw [hR']; exact cut_any (ss j) 60 W
      rw [← hR'] at hR60
      have ap := append_calm hR.out hC.out (by rw [hRM.out]; omega) (by omega) (by rw [rcs_len]; omega) R hR60 HH.out
      have rsc : rcs ss j ++ [sb R] = rcs ss (j + 1) := by rw [rcs_succ, hR']; rfl
      have rst : strs (rcs ss j) ++ [.string R] = strs (rcs ss (j + 1)) := by rw [← rsc, strs_app, strs_sb]
      have hnx := hR.out.st.next
      rw [rcs_len] at hnx
      have nx := next_any _ _ _ _ _ _ _ hR.out.log
      rw [hnx] at nx
      obtain ⟨jn, hjn'⟩ : ∃ jn, jn = j + 1 := ⟨_, rfl⟩
      rw [← hjn'] at nx
      have wj : IntKind.i64.wrap ((j : Int) + 1) = (jn : Int) := by rw [IntWalk.i64_in _ (by omega)]; omega
      have wj2 : IntKind.u64.wrap (jn : Int) = (jn : Int) := u64small (by omega)
      unfold AppQ at ap
      rw [rsc] at ap
      have CC := Box.mk cc1; have AP := Box.mk ap; have NX := Box.mk nx; have RST := Box.mk rst; have JN := Box.mk hjn'
      clear cc1 ap nx rst rsc hnx hve hcell hlt0 hR' hR60 hjn' fin
      by_cases he0 : 0 < every
      · have e1 : decide ((0 : Int) < every) = true := by simpa using he0
        have e2 : ¬ every = 0 := by omega
        by_cases hm : Int.tmod (j : Int) every = 0
        · go_wp2_with (first
            | (go_at_call 12; ((with_reducible refine (CC.out _).mono ?_); rintro e w' ⟨rfl, rfl⟩))
            | (go_at_call 13; ((with_reducible refine NX.out.mono ?_); rintro e w' ⟨rfl, rfl⟩; clear NX))
            | (go_at_call 14; ((with_reducible refine AP.out.mono ?_); rintro e w3 ⟨rfl, S', L', rn, kp, cm, rm⟩; have R3 := Box.mk rn; have M3 := Box.mk (hM.out.keep kp); have C3 := Box.mk cm; have RM3 := Box.mk (rm.trans hRM.out); clear rn kp cm rm AP))
            | (at_builtin; refine wpList_append_lies _ rfl (.tmp 66) (.tmp 68) 22 rfl w.heap.size 9 i0 _ 1 16 Tryz.underlying22 hi hz0 hz1 hz2 rfl (by omega) (.slice px j cx) j (strs (rcs ss j)) rfl (by have h := (M3.out.below ((Below.refl _ _).alloc (Nat.le_refl _) (.cells #[.string R] 9))).row; rw [SX.out j] at h; exact h) ⟨w3.heap.size, 0, none⟩ 1 1 [.string R] rfl rfl (World.news_of_block (cs := #[.string R]) (t := 9) (fr := (0, 0)) (heap_alloc_new _ _)) (by simp [Value.oneCell']) (by omega) (by unfold maxLen; omega) (by omega) (by have := R3.out.bel.size; simp; omega) (w3.heap.size + 1) (by simp) ?_; intro g4 cap4 w4 hown4 hgrow hat hlt4; have ba := (Below.refl w3.heap.size w3).alloc (Nat.le_refl _) (.cells #[.string R] 9); have R4 := Box.mk ((R3.out.below ba).grown (M3.out.below ba) hgrow); have M4 := Box.mk (Mine.grown (R3.out.below ba) (M3.out.below ba) (v' := .slice (some ⟨g4, 0, none⟩) (j + 1) cap4) (ys := [.string R]) hgrow (by rw [List.length_append, SX.out j]; exact hown4) (fun k e => own_grew hat e (by simp))); clear hown4 hgrow hat hlt4 ba)
            | (go_at_call 11; ((with_reducible refine (open_n (n := j + 1) (by have h := R4.out.d; exact h) (rcs_len ss (j + 1)) C3.out.alive (by omega) limit hl HL.out HH.out).mono ?_); rintro e w5 ⟨lb5, p5, c5, L5, rfl, rn, h1, h2, row, hb⟩; have R5 := Box.mk rn; have M5 := Box.mk (Mine.opened R4.out M4.out hb h1); have W5 := Box.mk row; clear rn h1 h2 row hb))
            | (go_at_call 15; ((with_reducible refine (wsame_any p5 (some ⟨g4, 0, none⟩) (j + 1) c5 cap4 _ _ (strs (rcs ss (j + 1))) (by omega) (fun i hi => strs_all _ i (by rw [rcs_len]; exact hi)) w5 W5.out (by have h := M5.out.row; rw [RST.out, SX.out] at h; exact h)).mono ?_); rintro e w6 ⟨rfl, b6⟩; have R6 := Box.mk (R5.out.below b6); have M6 := Box.mk (M5.out.below b6); clear b6)))
          go_roundw
          case rel => exact ⟨j + 1, lb5, _, _, S', L5, _, _, by omega, by omega, rfl, rfl, by rw [← JN.out], R6, ⟨by rw [← RST.out]; exact M6.out⟩, C3, RM3⟩
          case measure => have := JN.out; simp [intOf]; omega
        · obtain ⟨z, hz⟩ : ∃ z, Int.tmod (j : Int) every = z := ⟨_, rfl⟩
          rw [hz] at hm
          have e3 : (z == 0) = false := by simpa using hm
          have e4 : decide (z = 0) = false := by simpa using hm
          go_wp2_with (first
            | (go_at_call 12; ((with_reducible refine (CC.out _).mono ?_); rintro e w' ⟨rfl, rfl⟩))
            | (go_at_call 13; ((with_reducible refine NX.out.mono ?_); rintro e w' ⟨rfl, rfl⟩; clear NX))
            | (go_at_call 14; ((with_reducible refine AP.out.mono ?_); rintro e w3 ⟨rfl, S', L', rn, kp, cm, rm⟩; have R3 := Box.mk rn; have M3 := Box.mk (hM.out.keep kp); have C3 := Box.mk cm; have RM3 := Box.mk (rm.trans hRM.out); clear rn kp cm rm AP))
            | (at_builtin; refine wpList_append_lies _ rfl (.tmp 66) (.tmp 68) 22 rfl w.heap.size 9 i0 _ 1 16 Tryz.underlying22 hi hz0 hz1 hz2 rfl (by omega) (.slice px j cx) j (strs (rcs ss j)) rfl (by have h := (M3.out.below ((Below.refl _ _).alloc (Nat.le_refl _) (.cells #[.string R] 9))).row; rw [SX.out j] at h; exact h) ⟨w3.heap.size, 0, none⟩ 1 1 [.string R] rfl rfl (World.news_of_block (cs := #[.string R]) (t := 9) (fr := (0, 0)) (heap_alloc_new _ _)) (by simp [Value.oneCell']) (by omega) (by unfold maxLen; omega) (by omega) (by have := R3.out.bel.size; simp; omega) (w3.heap.size + 1) (by simp) ?_; intro g4 cap4 w4 hown4 hgrow hat hlt4; have ba := (Below.refl w3.heap.size w3).alloc (Nat.le_refl _) (.cells #[.string R] 9); have R4 := Box.mk ((R3.out.below ba).grown (M3.out.below ba) hgrow); have M4 := Box.mk (Mine.grown (R3.out.below ba) (M3.out.below ba) (v' := .slice (some ⟨g4, 0, none⟩) (j + 1) cap4) (ys := [.string R]) hgrow (by rw [List.length_append, SX.out j]; exact hown4) (fun k e => own_grew hat e (by simp))); clear hown4 hgrow hat hlt4 ba))
          go_roundw
          case rel => exact ⟨j + 1, lb, _, D, S', L', _, _, by omega, by omega, rfl, rfl, by rw [← JN.out], R4, ⟨by rw [← RST.out]; exact M4.out⟩, C3, RM3⟩
          case measure => have := JN.out; simp [intOf]; omega
      · have e1 : decide ((0 : Int) < every) = false := by simpa using he0
        go_wp2_with (first
          | (go_at_call 12; ((with_reducible refine (CC.out _).mono ?_); rintro e w' ⟨rfl, rfl⟩))
          | (go_at_call 13; ((with_reducible refine NX.out.mono ?_); rintro e w' ⟨rfl, rfl⟩; clear NX))
          | (go_at_call 14; ((with_reducible refine AP.out.mono ?_); rintro e w3 ⟨rfl, S', L', rn, kp, cm, rm⟩; have R3 := Box.mk rn; have M3 := Box.mk (hM.out.keep kp); have C3 := Box.mk cm; have RM3 := Box.mk (rm.trans hRM.out); clear rn kp cm rm AP))
          | (at_builtin; refine wpList_append_lies _ rfl (.tmp 66) (.tmp 68) 22 rfl w.heap.size 9 i0 _ 1 16 Tryz.underlying22 hi hz0 hz1 hz2 rfl (by omega) (.slice px j cx) j (strs (rcs ss j)) rfl (by have h := (M3.out.below ((Below.refl _ _).alloc (Nat.le_refl _) (.cells #[.string R] 9))).row; rw [SX.out j] at h; exact h) ⟨w3.heap.size, 0, none⟩ 1 1 [.string R] rfl rfl (World.news_of_block (cs := #[.string R]) (t := 9) (fr := (0, 0)) (heap_alloc_new _ _)) (by simp [Value.oneCell']) (by omega) (by unfold maxLen; omega) (by omega) (by have := R3.out.bel.size; simp; omega) (w3.heap.size + 1) (by simp) ?_; intro g4 cap4 w4 hown4 hgrow hat hlt4; have ba := (Below.refl w3.heap.size w3).alloc (Nat.le_refl _) (.cells #[.string R] 9); have R4 := Box.mk ((R3.out.below ba).grown (M3.out.below ba) hgrow); have M4 := Box.mk (Mine.grown (R3.out.below ba) (M3.out.below ba) (v' := .slice (some ⟨g4, 0, none⟩) (j + 1) cap4) (ys := [.string R]) hgrow (by rw [List.length_append, SX.out j]; exact hown4) (fun k e => own_grew hat e (by simp))); clear hown4 hgrow hat hlt4 ba))
        go_roundw
        case rel => exact ⟨j + 1, lb, _, D, S', L', _, _, by omega, by omega, rfl, rfl, by rw [← JN.out], R4, ⟨by rw [← RST.out]; exact M4.out⟩, C3, RM3⟩
        case measure => have := JN.out; simp [intOf]; omega
    · have FIN := Box.mk (open_n (n := j) hR.out.d (rcs_len ss j) hC.out.alive (by omega) limit hl HL.out HH.out)
      clear fin
      have main : (decide ((j : Int) < (n : Int)) = false) ∨ (decide ((j : Int) < (n : Int)) = true ∧ decide ((j : Int) < 20) = false) := by
        by_cases h1 : j < n
        · exact .inr ⟨by simpa using h1, by simpa using (by omega : ¬ (j : Int) < 20)⟩
        · exact .inl (by simpa using h1)
      rcases main with d1 | ⟨d1, d2⟩
      all_goals
        go_wp2_with (first
          | (go_at_call 11; ((with_reducible refine FIN.out.mono ?_); rintro e w5 ⟨lb5, p5, c5, L5, rfl, rn, h1, h2, row, hb⟩; have R5 := Box.mk rn; have M5 := Box.mk (Mine.opened hR.out hM.out hb h1); have W5 := Box.mk row; clear rn h1 h2 row hb FIN))
          | (go_at_call 16; ((with_reducible refine (AW.out _ (HL.out.below R5.out.bel) (halves_below HH.out R5.out.bel)).mono ?_); rintro e w6 ⟨rfl, b6⟩; have M6 := Box.mk (M5.out.below b6); have W6 := Box.mk (row_keep W5.out (fun k e => b6.block k (W5.out.lt k e).2)); have B6 := Box.mk (R5.out.bel.trans (b6.mono R5.out.bel.size)); clear b6))
          | (go_at_call 15; ((with_reducible refine (wsame_any p5 px j c5 cx _ _ (strs (rcs ss j)) (by omega) (fun i hi => strs_all _ i (by rw [rcs_len]; exact hi)) w6 W6.out (by have h := M6.out.row; rw [SX.out] at h; exact h)).mono ?_); rintro e w7 ⟨rfl, b7⟩; have B7 := Box.mk (B6.out.trans (b7.mono B6.out.size)); clear b7)))
        all_goals
          go_ret
          exact ⟨rfl, B7.out⟩
end Go.Proofs.YtinhddggbckmpaaGreatDoor
