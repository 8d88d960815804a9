/- Retire, and which log it leaves; a log and its opening on a disk that is dead. -/
import Derived.Test.YtpmjmkgokaafaaaGreatDoorGonC
import Derived.Test.YtpmjmkgokaafaaaGreatDoorPlyB

namespace Go.Proofs.YtpmjmkgokaafaaaGreatDoor
set_option maxRecDepth 100000
open Go.ChangeShapes Go.WideShapes Go.RowKit M

/-- what Retire leaves -/
def RetL (lb b : Nat) (F D : Nat → Prop) (L : LS) (A : Int × DS) (w : World) (e : Ending) (w' : World) : Prop :=
  e = .returned (.int .i64 A.1) ∧ (∃ L', HasL w' lb b F D A.2 L' ∧ (A.1 = 0 → L' = goneL L)) ∧ KeepF (fun k => F k ∧ k ≠ lb) w w'
set_option maxRecDepth 100000 in
set_option maxHeartbeats 4000000 in
theorem retireL_any (lb b : Nat) (F D : Nat → Prop) (S : DS) (L : LS) (l : List Seg) (w : World) (k c : Nat) (h : HasL w lb b F D S L) (hz : Sz S k c) (hk : k + l.length ≤ 50000) (hc : c + l.length ≤ 50000000) (hd : S.dead = false) (hp : S.names.Perm (ents l)) (hr : l.Pairwise (fun a b => a.q < b.q)) (hq : ∀ g ∈ l, g.q ≤ bigQ) (hL : LibW w) :
    Calls Tryz.prog 10 #[.pointer (some ⟨lb, 0, none⟩)] w (RetL lb b F D L (retS l S) w) := by
  obtain ⟨n, hn⟩ : ∃ n, n = l.length := ⟨_, rfl⟩
  have hd0 := h.disk
  obtain ⟨Ly, dk, eb, o⟩ := h.disk
  have cf := files_any Ly S l w dk hd (by omega) hp hr hq hL
  rw [eb] at cf
  unfold FilesP at cf
  rw [← hn] at cf hk hc
  obtain ⟨v0, la, lo⟩ := h.log
  have q0 := la.c0
  have rem : ∀ (F1 : Nat → Prop) (Z : DS) (j : Nat) (g : Seg) (W : World), HasF W b F1 Z → Sz Z (k + j) (c + j) → j ≤ n → Calls Tryz.prog 27 #[.pointer (some ⟨b, 0, none⟩), .string (nameM g.q)] W (FP b F1 W (.int .i64 (removeC Z (nameM g.q))) (removeS Z (nameM g.q))) := fun F1 Z j g W hW hZ hj =>
    remove_f b F1 Z (nameM g.q) W hW (hZ.fine (by omega) (by omega)) (by rw [nameM_size]; unfold maxLen; decide)
  have syn : ∀ (Z : DS) (W : World), HasF W b F Z → Sz Z (k + n) (c + n) → Calls Tryz.prog 28 #[.pointer (some ⟨b, 0, none⟩)] W (FP b F W (.int .i64 (syncNamesC Z)) (syncNamesS Z)) := fun Z W hW hZ =>
    syncNames_f b F Z W hW (hZ.fine (by omega) (by omega)) (hZ.rels (by omega))
  have HM := Box.mk h.mine; have LT := Box.mk (hd0.lt h.mine); have HD := Box.mk hd0; have CF := Box.mk cf; have LA := Box.mk la; have LO := Box.mk lo; have REM := Box.mk rem; have SYN := Box.mk syn; have HZ := Box.mk hz; have HN := Box.mk hn
  have nl : n ≤ 50000 := by omega
  clear h hd0 dk eb o cf la lo rem syn hz hn hd hp hr hq hL hk hc
  go_enter Tryz.func10, Tryz.ntmps10
  go_wp2_with (go_at_call 19; ((with_reducible refine CF.out.mono ?_); rintro e w1 ⟨v, rfl, hrow, hb⟩; obtain ⟨p, cp, rfl⟩ := own_len hrow; have RN := Box.mk hrow; have B1 := Box.mk hb; clear hrow hb CF))
  have D1 : Box (HasF w1 b (fun i => F i ∨ (w.heap.size ≤ i ∧ i < w1.heap.size)) S) := ⟨HD.out.mine B1.out.size (fun i hi _ => B1.out.block i hi) (fun _ hf => hf)⟩
  go_loopw [6, 7, 21] (fun _ _ i wr => ∃ (j : Nat) (Z : DS), j ≤ n ∧ i = .int .i64 (j : Int) ∧ Box (HasF wr b (fun i => F i ∨ (w.heap.size ≤ i ∧ i < w1.heap.size)) Z) ∧ Box (KeepF (fun i => F i ∨ (w.heap.size ≤ i ∧ i < w1.heap.size)) w1 wr) ∧ Box (Sz Z (k + j) (c + j)) ∧ Box (remS l S = remS (l.drop j) Z)) (fun _ _ i _ => n - (intOf i).toNat)
  case atStart => exact ⟨0, S, by omega, rfl, D1, ⟨KeepF.refl _ _⟩, HZ, ⟨by simp⟩⟩
  case round =>
    obtain ⟨j, Z, hj, rfl, HF, HK, HS, HQ⟩ := hrel
    clear D1
    have KA : Box (KeepF F w wr) := ⟨(KeepF.of_below B1.out).trans (HK.out.mono (fun i h => .inl h))⟩
    have q0' : wr.cell? ⟨lb, 0, none⟩ = some (.pointer (some ⟨b, 0, none⟩)) := (KA.out.cell HM.out LT.out).trans q0
    have LW : Box (LogAt wr lb b v0 L) := ⟨LA.out.keep (KA.out.block _ HM.out LT.out) (fun k e => KA.out.block k (LO.out k e).1 (HD.out.lt (LO.out k e).1))⟩
    by_cases hlt : j < n
    · obtain ⟨g, hg⟩ : ∃ g, l[j]? = some g := ⟨_, List.getElem?_eq_getElem (by rw [← HN.out]; exact hlt)⟩
      have hdrop : l.drop j = g :: l.drop (j + 1) := by
        obtain ⟨hl, e⟩ := List.getElem?_eq_some_iff.1 hg
        rw [← e]; exact List.drop_eq_getElem_cons hl
      have rw1 : wr.ownsRow w.heap.size 9 1 (.slice p n cp) n (nmRow l) := row_keep RN.out (fun i e => HK.out.block i (.inr (RN.out.lt i e)) (RN.out.lt i e).2)
      obtain ⟨gb, cap, hvv, _⟩ := rw1.form (by omega)
      obtain ⟨rfl, _, rfl⟩ := Value.slice.inj hvv
      have hcell := (rw1.cellAt j (by omega)).trans (nmRow_at hg)
      have K1 := Box.mk (fun F1 W (hW : HasF W b F1 Z) => REM.out F1 Z j g W hW HS.out hj)
      have HS2 := Box.mk (HS.out.remove (a := nameM g.q) (by rw [nameM_size]; unfold maxLen; decide))
      have hq : remS l S = if removeC Z (nameM g.q) ≠ 0 then (removeC Z (nameM g.q), removeS Z (nameM g.q)) else remS (l.drop (j + 1)) (removeS Z (nameM g.q)) := by rw [HQ.out, hdrop]; rfl
      generalize removeC Z (nameM g.q) = cx at *
      generalize removeS Z (nameM g.q) = Z' at *
      generalize nameM g.q = nm at *
      clear hg hdrop hvv rw1 HQ
      by_cases h0 : cx = 0
      · subst h0
        rw [if_neg (fun e => e rfl)] at hq
        have HQ := Box.mk hq
        clear hq
        go_wp2_with (go_at_call 27; ((with_reducible refine (K1.out _ _ HF.out).mono ?_); rintro e w2 ⟨rfl, d2, k2⟩; have D2 := Box.mk d2; have K2 := Box.mk (HK.out.trans k2); clear d2 k2 K1))
        go_roundw
        case rel => exact ⟨j + 1, Z', by omega, by go_num, D2, K2, HS2, HQ⟩
        case measure => simp [intOf]; omega
      · rw [if_pos h0] at hq
        have e1 : (cx != 0) = true := by simpa using h0
        have fin : retS l S = (cx, Z') := by unfold retS; rw [hq, if_pos h0]
        have FIN := Box.mk fin
        have H0 := Box.mk h0
        clear hq fin h0
        go_wp2_with (go_at_call 27; ((with_reducible refine (K1.out _ _ HF.out).mono ?_); rintro e w2 ⟨rfl, d2, k2⟩; have D2 := Box.mk (d2.less (F' := F) (fun _ h => .inl h)); have K2 := Box.mk (KA.out.trans (k2.mono (fun _ h => .inl h))); clear d2 k2 K1))
        go_ret
        rw [FIN.out]
        exact ⟨rfl, ⟨L, ⟨D2.out, HM.out, v0, LA.out.keep (K2.out.block _ HM.out LT.out) (fun k e => K2.out.block k (LO.out k e).1 (HD.out.lt (LO.out k e).1)), LO.out⟩, fun e => absurd e H0.out⟩, K2.out.mono (fun _ h => h.1)⟩
    · obtain rfl : j = n := by omega
      have hq : remS l S = (0, Z) := by rw [HQ.out, HN.out, List.drop_length]; rfl
      have q3 := LW.out.c3
      have q4 := LW.out.c4
      have q5 := LW.out.c5
      have q6 := LW.out.c6
      have f3 := LW.out.fz 3
      have f4 := LW.out.fz 4
      have f5 := LW.out.fz 5
      have f6 := LW.out.fz 6
      have L6 : Box (LogAt ((((wr.setCell ⟨lb, 3, none⟩ (.slice none 0 0)).setCell ⟨lb, 4, none⟩ (.string ⟨#[]⟩)).setCell ⟨lb, 5, none⟩ (.int .i64 0)).setCell ⟨lb, 6, none⟩ (.bool false)) lb b (.slice none 0 0) { L with found := [], file := ⟨#[]⟩, size := 0, dirty := false }) := ⟨(((LW.out.s3.s4 (fun e => nomatch e) ⟨#[]⟩).s5 (fun e => nomatch e) 0).s6 (fun e => nomatch e) false)⟩
      have D6 : Box (HasF ((((wr.setCell ⟨lb, 3, none⟩ (.slice none 0 0)).setCell ⟨lb, 4, none⟩ (.string ⟨#[]⟩)).setCell ⟨lb, 5, none⟩ (.int .i64 0)).setCell ⟨lb, 6, none⟩ (.bool false)) b F Z) := ⟨((((HF.out.less (F' := F) (fun _ h => .inl h)).set (p := ⟨lb, 3, none⟩) HM.out _).set (p := ⟨lb, 4, none⟩) HM.out _).set (p := ⟨lb, 5, none⟩) HM.out _).set (p := ⟨lb, 6, none⟩) HM.out _⟩
      have K6 : Box (KeepF (fun k => F k ∧ k ≠ lb) w ((((wr.setCell ⟨lb, 3, none⟩ (.slice none 0 0)).setCell ⟨lb, 4, none⟩ (.string ⟨#[]⟩)).setCell ⟨lb, 5, none⟩ (.int .i64 0)).setCell ⟨lb, 6, none⟩ (.bool false))) := ⟨(((((KA.out.mono (fun i (h : F i ∧ i ≠ lb) => h.1)).set (p := ⟨lb, 3, none⟩) (fun h => h.2 rfl) _).set (p := ⟨lb, 4, none⟩) (fun h => h.2 rfl) _).set (p := ⟨lb, 5, none⟩) (fun h => h.2 rfl) _).set (p := ⟨lb, 6, none⟩) (fun h => h.2 rfl) _)⟩
      have q0'' := L6.out.c0
      by_cases n0 : j = 0
      · have fin : retS l S = (0, Z) := by
          unfold retS
          rw [hq, if_neg (fun e => e rfl), if_pos (List.length_eq_zero_iff.1 (by rw [← HN.out]; exact n0))]
        have FIN := Box.mk fin
        have e1 : decide ((j : Int) = 0) = true := by simpa using n0
        have e2 : ((j : Int) == 0) = true := by simpa using n0
        clear hq fin
        go_wp2_with fail
        go_ret
        rw [FIN.out]
        exact ⟨rfl, ⟨_, ⟨D6.out, HM.out, _, L6.out, fun k e => nomatch e⟩, fun _ => rfl⟩, K6.out⟩
      · have fin : retS l S = (syncNamesC Z, syncNamesS Z) := by
          unfold retS
          rw [hq, if_neg (fun e => e rfl), if_neg (fun e => n0 (by rw [HN.out, e]; rfl))]
        have SY := Box.mk (fun W hW => SYN.out Z W hW HS.out)
        generalize syncNamesC Z = cx at *
        generalize syncNamesS Z = Z' at *
        have FIN := Box.mk fin
        have e1 : decide ((j : Int) = 0) = false := by simpa using n0
        have e2 : ((j : Int) == 0) = false := by simpa using n0
        clear hq fin
        go_wp2_with (go_at_call 28; ((with_reducible refine (SY.out _ D6.out).mono ?_); rintro e w2 ⟨rfl, d2, k2⟩; have D2 := Box.mk d2; have K2 := Box.mk k2; clear d2 k2 SY))
        go_ret
        rw [FIN.out]
        exact ⟨rfl, ⟨_, ⟨D2.out, HM.out, _, L6.out.keep (K2.out.block _ HM.out (D6.out.lt HM.out)) (fun k e => nomatch e), fun k e => nomatch e⟩, fun _ => rfl⟩, K6.out.trans (K2.out.mono (fun k (h : F k ∧ k ≠ lb) => h.1))⟩
theorem retire_dead (lb b : Nat) (F D : Nat → Prop) (S : DS) (L : LS) (w : World) (h : HasL w lb b F D S L) (hd : S.dead = true) :
    Calls Tryz.prog 10 #[.pointer (some ⟨lb, 0, none⟩)] w fun e w' => e = .returned (.int .i64 9) ∧ w = w' := by
  obtain ⟨Ly, dk, eb, o⟩ := h.disk
  have cf := files_dead Ly S w dk hd
  rw [eb] at cf
  obtain ⟨v0, la, lo⟩ := h.log
  have q0 := la.c0
  have CF := Box.mk cf
  clear h dk eb o cf la lo
  go_enter Tryz.func10, Tryz.ntmps10
  go_wp2_with (go_at_call 19; ((with_reducible refine CF.out.mono ?_); rintro e w1 ⟨rfl, rfl⟩; clear CF))
  go_ret
  exact ⟨rfl, rfl⟩
theorem open_dead (b : Nat) (F : Nat → Prop) (S : DS) (limit : Int) (w : World) (h : HasF w b F S) (hd : S.dead = true) :
    Calls Tryz.prog 6 #[.pointer (some ⟨b, 0, none⟩), .int .i64 limit] w fun e w' => e = .returned (.tuple #[.pointer none, .slice none 0 0, .int .i64 9]) ∧ w = w' := by
  obtain ⟨Ly, dk, eb, o⟩ := h
  have cf := files_dead Ly S w dk hd
  rw [eb] at cf
  have CF := Box.mk cf
  clear dk eb o cf
  go_enter Tryz.func6, Tryz.ntmps6
  go_wp2_with (go_at_call 19; ((with_reducible refine CF.out.mono ?_); rintro e w1 ⟨rfl, rfl⟩; clear CF))
  exact bodyPost_ret (v := .tuple #[.pointer none, .slice none 0 0, .int .i64 9]) (by simp [results, go_sem]) rfl ⟨rfl, rfl⟩

/-! ### the calls of a law that plays -/
theorem append_q {w : World} {lb b : Nat} {F D : Nat → Prop} {S : DS} {L : LS} {X : List (List Nat)} {t s : Nat} (h : HasL w lb b F D S L) (hd : DLq S L X t s) (ht : t ≤ 100) (r : ByteArray) (hr : r.size ≤ 60) (hH : Halves w) :
    Calls Tryz.prog 8 #[.pointer (some ⟨lb, 0, none⟩), .string r] w (LP lb b F D w (.int .i64 (lappend S L (sb r)).1) (lappend S L (sb r)).2.1 (lappend S L (sb r)).2.2) := by
  have hn := hd.next.2
  obtain ⟨_, z, f1, f2, f3, f4⟩ := hd
  exact lappend_any lb b F D S L r w (40 * t) (20000 * t) h z (by omega) (by omega) f1 (by omega) hr (by omega) f4 hH
theorem sync_q {w : World} {lb b : Nat} {F D : Nat → Prop} {S : DS} {L : LS} {X : List (List Nat)} {t s : Nat} (h : HasL w lb b F D S L) (hd : DLq S L X t s) (ht : t ≤ 100) :
    Calls Tryz.prog 9 #[.pointer (some ⟨lb, 0, none⟩)] w (LP lb b F D w (.int .i64 (lsync S L).1) (lsync S L).2.1 (lsync S L).2.2) := by
  obtain ⟨_, z, f1, f2, f3, f4⟩ := hd
  exact lsync_any lb b F D S L w (40 * t) (20000 * t) h z (by omega) (by omega) f1
/-- what a law's Retire leaves -/
def RetQ (lb b : Nat) (F D : Nat → Prop) (t : Nat) (w : World) (e : Ending) (w' : World) : Prop :=
  ∃ c S' L', e = .returned (.int .i64 c) ∧ HasL w' lb b F D S' L' ∧ KeepF (fun k => F k ∧ k ≠ lb) w w' ∧ BKq S' (t + 1) ∧ (c = 0 → DLq S' L' [] (t + 1) 0)
theorem retire_q {w : World} {lb b : Nat} {F D : Nat → Prop} {S : DS} {L : LS} {X : List (List Nat)} {t s : Nat} (h : HasL w lb b F D S L) (hd : DLq S L X t s) (ht : t ≤ 38) (hL : LibW w) :
    Calls Tryz.prog 10 #[.pointer (some ⟨lb, 0, none⟩)] w (RetQ lb b F D t w) := by
  by_cases hdd : S.dead = true
  · exact (retire_dead lb b F D S L w h hdd).mono fun e w' ⟨he, hw⟩ => ⟨9, S, L, he, by rw [← hw]; exact h, by rw [← hw]; exact KeepF.refl _ _, hd.dw.bk.up (by omega) (by omega), fun e => by cases e⟩
  · have hdd : S.dead = false := by simpa using hdd
    obtain ⟨l, l1, l2, l3, l4, l5, l6⟩ := hd.retire hdd ht
    have z := hd.2.1
    refine (retireL_any lb b F D S L l w (40 * t) (20000 * t) h z (by omega) (by omega) hdd l1 l2 l3 hL).mono fun e w' ⟨he, ⟨L', hl, hg⟩, hk⟩ => ?_
    exact ⟨_, _, L', he, hl, hk, l5, fun h0 => by rw [hg h0]; exact l6 h0⟩
/-- what Open leaves, to a law that plays -/
def OpenZ (b : Nat) (F : Nat → Prop) (S : DS) (X : List (List Nat)) (t s : Nat) (w : World) (e : Ending) (w' : World) : Prop :=
  ∃ lb p c L, e = .returned (.tuple #[.pointer (some ⟨lb, 0, none⟩), .slice p X.length c, .int .i64 0]) ∧ HasL w' lb b (fun k => F k ∨ (w.heap.size ≤ k ∧ k < w'.heap.size)) (fun k => w.heap.size ≤ k ∧ k < w'.heap.size) S L ∧ w.heap.size ≤ lb ∧ (∀ k, (Value.slice p X.length c).ownBlock = some k → k ≠ lb) ∧
    w'.ownsRow w.heap.size 9 1 (.slice p X.length c) X.length (strs X) ∧ Below w.heap.size w w' ∧ DLq S L X t s
theorem open_q {w : World} {b : Nat} {F : Nat → Prop} {S : DS} {X : List (List Nat)} {t s : Nat} (h : HasF w b F S) (hd : S.dead = false) (hw : DWq S X t s) (ht : t ≤ 100) (limit : Int) (hl : limit ≤ 9223372036854775807) (hL : LibW w) (hH : Halves w) :
    Calls Tryz.prog 6 #[.pointer (some ⟨b, 0, none⟩), .int .i64 limit] w (OpenZ b F S X t s w) := by
  obtain ⟨q0, base, ext, wk, er, dl⟩ := hw.opened limit hl
  have z : Sz S (40 * t) (20000 * t) := hw.2
  have c := open_any b F S limit w (40 * t) (20000 * t) q0 (t + 1) s base ext h hd wk z (by omega) (by omega) (by omega) hL hH
  refine c.mono fun e w' ⟨lb, v, he, hL, h1, h2, row, hb⟩ => ?_
  rw [er] at row
  obtain ⟨p, cp, rfl⟩ := own_len row
  exact ⟨lb, p, cp, _, he, hL, h1, h2, row, hb, dl⟩
end Go.Proofs.YtpmjmkgokaafaaaGreatDoor
