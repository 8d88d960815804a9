/- Contracts of wal: Append. -/
import Derived.Test.YtdffpbfllekcgaaGreatDoorWalO
import Derived.BigQuiet
namespace Go.Proofs.YtdffpbfllekcgaaGreatDoor
set_option maxRecDepth 100000
open Go.ChangeShapes Go.WideShapes Go.RowKit M

theorem Sz.ahead {S : DS} {k c : Nat} (h : Sz S k c) (L : LS) (s : List Nat) : Sz (ahead S L s).2.1 (k + 5) (c + L.found.length + 5) := by
  unfold Proofs.YtdffpbfllekcgaaGreatDoor.ahead
  split
  · exact h.turn L
  · exact h.up (by omega) (by omega)
theorem Sz.lappend {S : DS} {k c : Nat} (h : Sz S k c) (L : LS) {r : List Nat} (hr : r.length ≤ 60) : Sz (lappend S L r).2.1 (k + 6) (c + L.found.length + 6) := by
  have a := h.ahead L (frN L.next r)
  have l : (frN L.next r).length ≤ 100 := by rw [frN_length]; omega
  unfold Proofs.YtdffpbfllekcgaaGreatDoor.lappend
  split
  · exact a.up (by omega) (by omega)
  · split
    · exact (a.append _ l).up (by omega) (by omega)
    · exact (a.append _ l).up (by omega) (by omega)
/-- what stays of a log's fields ahead of the frame -/
theorem ahead_fields (S : DS) (L : LS) (s : List Nat) : (ahead S L s).2.2.next = L.next ∧ ((ahead S L s).2.2.size = L.size ∨ (ahead S L s).2.2.size = 0) ∧ (L.file.size ≤ 100 → (ahead S L s).2.2.file.size ≤ 100) := by
  have e : (lsync S L).2.2.size = L.size ∧ (lsync S L).2.2.file = L.file := by
    unfold lsync
    split
    · exact ⟨rfl, rfl⟩
    · split <;> exact ⟨rfl, rfl⟩
  have n := lsync_next S L
  unfold Proofs.YtdffpbfllekcgaaGreatDoor.ahead turnM
  split
  · split
    · exact ⟨n, .inl e.1, fun h => by rw [e.2]; exact h⟩
    · split
      · exact ⟨n, .inl e.1, fun h => by show (lsync S L).2.2.file.size ≤ 100; rw [e.2]; exact h⟩
      · split
        · exact ⟨n, .inl e.1, fun h => by show (lsync S L).2.2.file.size ≤ 100; rw [e.2]; exact h⟩
        · exact ⟨n, .inr rfl, fun _ => by show (nameM _).size ≤ 100; rw [nameM_size]; omega⟩
  · exact ⟨rfl, .inl rfl, fun h => h⟩

theorem noName_empty : noName.toList.isEmpty = true := by rw [ByteArray.toList_eq]; rfl
theorem not_empty {x : ByteArray} (h : x ≠ noName) : x.toList.isEmpty = false := by
  rw [ByteArray.toList_eq]
  cases e : x.data.toList with
  | nil => exact absurd (ByteArray.ext (Array.toList_inj.1 e)) h
  | cons a l => rfl

set_option maxRecDepth 100000 in
set_option maxHeartbeats 4000000 in
theorem lappend_any (lb b : Nat) (F D : Nat → Prop) (S : DS) (L : LS) (s : ByteArray) (w : World) (k c : Nat) (h : HasL w lb b F D S L) (hz : Sz S k c) (hk : k ≤ 70000) (hc : c + L.found.length ≤ 70000000) (hn : NamesOk L) (hq : L.next + 1 < 18446744073709551616) (hs : s.size ≤ 60) (hsz : L.size ≤ 1000000) (hl1 : L.limit ≤ 9223372036854775807) (hH : Halves w) :
    Calls Tryz.prog 15 #[.pointer (some ⟨lb, 0, none⟩), .string s] w (LP lb b F D w (.int .i64 (lappend S L (sb s)).1) (lappend S L (sb s)).2.1 (lappend S L (sb s)).2.2) := by
  obtain ⟨fr, hfr⟩ : ∃ fr, fr = frN L.next (sb s) := ⟨_, rfl⟩
  have flen : fr.length = 18 + s.size := by rw [hfr, frN_length, sb_length]
  have fsb : sb (bs fr) = fr := by rw [hfr]; exact sb_bs _ (frN_lt (sb_lt s))
  have fsz : (bs fr).size = 18 + s.size := by rw [bs_size, flen]
  have za := hz.ahead L fr
  obtain ⟨a1, a2, a3⟩ := ahead_fields S L fr
  have c0 := write_any L.next s (by omega) (by omega) w hH
  rw [← hfr] at c0
  have ct := fun W hW => turn_any lb b F D S L W k c hW hz (by omega) (by omega) hn (by omega)
  have ca := fun W hW => append_f b F (ahead S L fr).2.1 (ahead S L fr).2.2.file (bs fr) W hW (za.fine (by omega) (by omega)) (by have := a3 hn.2; unfold maxLen; omega) (by omega)
  have df : lappend S L (sb s) = if (ahead S L fr).1 ≠ 0 then ahead S L fr else if appendC (ahead S L fr).2.1 (ahead S L fr).2.2.file fr ≠ 0 then (appendC (ahead S L fr).2.1 (ahead S L fr).2.2.file fr, appendS (ahead S L fr).2.1 (ahead S L fr).2.2.file fr, (ahead S L fr).2.2)
    else (0, appendS (ahead S L fr).2.1 (ahead S L fr).2.2.file fr, { (ahead S L fr).2.2 with next := (ahead S L fr).2.2.next + 1, size := (ahead S L fr).2.2.size + fr.length, dirty := true }) := by rw [hfr]; rfl
  have aw : ahead S L fr = if mustTurn L fr then turnM S L else (0, S, L) := rfl
  obtain ⟨hd, hm, v, la, ho⟩ := h
  have hlt := hd.lt hm
  obtain ⟨T, hT⟩ : ∃ T, T = bs fr := ⟨_, rfl⟩
  obtain ⟨m, hmm⟩ : ∃ m, m = 18 + s.size := ⟨_, rfl⟩
  rw [fsb] at ca
  rw [← hT] at c0 ca fsz
  rw [← hmm] at fsz flen
  rw [flen] at df
  have hm1 : m ≤ 78 := by omega
  have SZ := Box.mk hz; have HD := Box.mk hd; have HM := Box.mk hm; have LA := Box.mk la; have HO := Box.mk ho; have LT := Box.mk hlt
  have hlim := hl1
  have hnx := hq
  clear za hn hfr fsb hT hmm hd hm la ho hlt hc hl1 hq hH hz
  obtain ⟨limit, next, found, file, size, dirty⟩ := L
  dsimp only at hsz hlim hnx a1 a2
  have l1 := LA.out.c1; have l2 := LA.out.c2; have l4 := LA.out.c4; have l5 := LA.out.c5
  dsimp only at l1 l2 l4 l5
  have C0 := Box.mk c0; have CT := Box.mk ct
  clear c0 ct
  by_cases hfile : file = noName
  · have hmt : mustTurn ⟨limit, next, found, file, size, dirty⟩ fr := .inl hfile
    have g1 : file.toList.isEmpty = true := by rw [hfile]; exact noName_empty
    clear hfile
    have AW := Box.mk (show ahead S ⟨limit, next, found, file, size, dirty⟩ fr = turnM S ⟨limit, next, found, file, size, dirty⟩ by rw [aw, if_pos hmt])
    rw [AW.out] at ca df a1 a2
    generalize turnM S ⟨limit, next, found, file, size, dirty⟩ = Y at *
    obtain ⟨v1, S1, ⟨limit', next', found', file', size', dirty'⟩⟩ := Y
    dsimp only at ca df CT a1 a2
    subst a1
    have hsz' : size' ≤ 1000000 := by rcases a2 with e | e <;> omega
    generalize appendC S1 file' fr = v2 at *
    generalize appendS S1 file' fr = S2 at *
    have CA := Box.mk ca; have DF := Box.mk df
    clear ca df aw AW a2 hmt
    by_cases h1 : v1 = 0
    case' neg =>
      have E := Box.mk (show lappend S ⟨limit, next', found, file, size, dirty⟩ (sb s) = (v1, S1, ⟨limit', next', found', file', size', dirty'⟩) by rw [DF.out, if_pos h1])
      have e1 : (v1 != 0) = true := by simpa using h1
      clear DF h1
      go_enter Tryz.func15, Tryz.ntmps15
      go_wp2_with (go_at_call 30; ((with_reducible refine C0.out.mono ?_); rintro e w1 ⟨rfl, b1⟩; have q1 : w1.cell? ⟨lb, 1, none⟩ = some (.int .i64 limit) := (b1.cell (p := ⟨lb, 1, none⟩) LT.out).trans l1; have q4 : w1.cell? ⟨lb, 4, none⟩ = some (.string file) := (b1.cell (p := ⟨lb, 4, none⟩) LT.out).trans l4; have q5 : w1.cell? ⟨lb, 5, none⟩ = some (.int .i64 (size : Int)) := (b1.cell (p := ⟨lb, 5, none⟩) LT.out).trans l5; have L1 := Box.mk ((HasL.mk HD.out HM.out ⟨v, LA.out, HO.out⟩).below b1); have K1 := Box.mk (KeepF.of_below (F := fun k => F k ∧ k ≠ lb) b1); clear b1 C0 l1 l2 l4 l5))
      go_quiet (fail)
      go_wp2_with (first
        | (go_at_call 31; ((with_reducible refine (CT.out _ (HasL.drewN L1.out _)).mono ?_); rintro e w2 ⟨rfl, hl2, k2⟩; have HL2 := Box.mk hl2; have K2 := Box.mk ((K1.out.drewN _).trans k2); obtain ⟨dk, _, v', la', ho'⟩ := hl2; have q0 := la'.c0; have q4' := la'.c4; have D2 := Box.mk dk; have LX := Box.mk la'; have HX := Box.mk ho'; clear dk la' ho' k2 CT)))
      go_ret
      rw [E.out]
      exact ⟨rfl, HL2.out, K2.out⟩
    subst h1
    by_cases h2 : v2 = 0
    · subst h2
      have E := Box.mk (show lappend S ⟨limit, next', found, file, size, dirty⟩ (sb s) = (0, S2, ⟨limit', next' + 1, found', file', size' + m, true⟩) by rw [DF.out, if_neg (fun h => h rfl), if_neg (fun h => h rfl)])
      clear DF
      go_enter Tryz.func15, Tryz.ntmps15
      go_wp2_with (go_at_call 30; ((with_reducible refine C0.out.mono ?_); rintro e w1 ⟨rfl, b1⟩; have q1 : w1.cell? ⟨lb, 1, none⟩ = some (.int .i64 limit) := (b1.cell (p := ⟨lb, 1, none⟩) LT.out).trans l1; have q4 : w1.cell? ⟨lb, 4, none⟩ = some (.string file) := (b1.cell (p := ⟨lb, 4, none⟩) LT.out).trans l4; have q5 : w1.cell? ⟨lb, 5, none⟩ = some (.int .i64 (size : Int)) := (b1.cell (p := ⟨lb, 5, none⟩) LT.out).trans l5; have L1 := Box.mk ((HasL.mk HD.out HM.out ⟨v, LA.out, HO.out⟩).below b1); have K1 := Box.mk (KeepF.of_below (F := fun k => F k ∧ k ≠ lb) b1); clear b1 C0 l1 l2 l4 l5))
      go_quiet (fail)
      go_wp2_with (first
        | (go_at_call 31; ((with_reducible refine (CT.out _ (HasL.drewN L1.out _)).mono ?_); rintro e w2 ⟨rfl, hl2, k2⟩; have HL2 := Box.mk hl2; have K2 := Box.mk ((K1.out.drewN _).trans k2); obtain ⟨dk, _, v', la', ho'⟩ := hl2; have q0 := la'.c0; have q4' := la'.c4; have D2 := Box.mk dk; have LX := Box.mk la'; have HX := Box.mk ho'; clear dk la' ho' k2 CT)))
      have DX := Box.mk D2.out
      go_region_with (go_at_call 8; ((with_reducible refine (CA.out _ (DX.out.drew)).mono ?_); rintro e w3 ⟨rfl, d3, k3⟩; have D3 := Box.mk d3; have K3 := Box.mk k3; clear d3 k3))
      all_goals
        have l3 := LX.out.keep (w' := w3) (K3.out.block _ HM.out (D2.out.lt HM.out)) (fun k e => K3.out.block k (HX.out k e).1 (D2.out.lt (HX.out k e).1))
        have p2 := l3.c2; have p5 := l3.c5; have p6 := l3.c6; have f2 := l3.fz 2; have f5 := l3.fz 5; have f6 := l3.fz 6
        dsimp only at p2 p5 p6
        have L3 := Box.mk l3; clear l3
        obtain ⟨n1, hn1⟩ : ∃ n1, n1 = next' + 1 := ⟨_, rfl⟩
        have wn : IntKind.u64.wrap ((next' : Int) + 1) = (n1 : Int) := by rw [show ((next' : Int) + 1) = (n1 : Int) by omega]; exact u64small (by omega)
        rw [← hn1] at E; clear hn1
        obtain ⟨z, hz⟩ : ∃ z, z = size' + m := ⟨_, rfl⟩
        have ws : IntKind.i64.wrap ((size' : Int) + (m : Int)) = (z : Int) := (by rw [IntWalk.i64_in _ (by omega)]; omega)
        rw [← hz] at E; clear hz
        go_wp2_with fail
        go_ret
        rw [E.out]
        have e2 := ((L3.out.s2 (fun e => (HX.out _ e).2.1 rfl) n1).s5 (fun e => (HX.out _ e).2.1 rfl) z).s6 (fun e => (HX.out _ e).2.1 rfl) true
        refine ⟨rfl, ⟨((D3.out.set (p := ⟨lb, 2, none⟩) HM.out _).set (p := ⟨lb, 5, none⟩) HM.out _).set (p := ⟨lb, 6, none⟩) HM.out _, HM.out, v', e2, HX.out⟩, ?_⟩
        exact ((((K2.out.drew).trans (K3.out.mono (fun k (h : F k ∧ k ≠ lb) => h.1))).set (p := ⟨lb, 2, none⟩) (fun h => h.2 rfl) _).set (p := ⟨lb, 5, none⟩) (fun h => h.2 rfl) _).set (p := ⟨lb, 6, none⟩) (fun h => h.2 rfl) _
    · have E := Box.mk (show lappend S ⟨limit, next', found, file, size, dirty⟩ (sb s) = (v2, S2, ⟨limit', next', found', file', size', dirty'⟩) by rw [DF.out, if_neg (fun h => h rfl), if_pos h2])
      have e1 : (v2 != 0) = true := by simpa using h2
      clear DF h2
      go_enter Tryz.func15, Tryz.ntmps15
      go_wp2_with (go_at_call 30; ((with_reducible refine C0.out.mono ?_); rintro e w1 ⟨rfl, b1⟩; have q1 : w1.cell? ⟨lb, 1, none⟩ = some (.int .i64 limit) := (b1.cell (p := ⟨lb, 1, none⟩) LT.out).trans l1; have q4 : w1.cell? ⟨lb, 4, none⟩ = some (.string file) := (b1.cell (p := ⟨lb, 4, none⟩) LT.out).trans l4; have q5 : w1.cell? ⟨lb, 5, none⟩ = some (.int .i64 (size : Int)) := (b1.cell (p := ⟨lb, 5, none⟩) LT.out).trans l5; have L1 := Box.mk ((HasL.mk HD.out HM.out ⟨v, LA.out, HO.out⟩).below b1); have K1 := Box.mk (KeepF.of_below (F := fun k => F k ∧ k ≠ lb) b1); clear b1 C0 l1 l2 l4 l5))
      go_quiet (fail)
      go_wp2_with (first
        | (go_at_call 31; ((with_reducible refine (CT.out _ (HasL.drewN L1.out _)).mono ?_); rintro e w2 ⟨rfl, hl2, k2⟩; have HL2 := Box.mk hl2; have K2 := Box.mk ((K1.out.drewN _).trans k2); obtain ⟨dk, _, v', la', ho'⟩ := hl2; have q0 := la'.c0; have q4' := la'.c4; have D2 := Box.mk dk; have LX := Box.mk la'; have HX := Box.mk ho'; clear dk la' ho' k2 CT)))
      have DX := Box.mk D2.out
      go_region_with (go_at_call 8; ((with_reducible refine (CA.out _ (DX.out.drew)).mono ?_); rintro e w3 ⟨rfl, d3, k3⟩; have D3 := Box.mk d3; have K3 := Box.mk k3; clear d3 k3))
      all_goals
        have l3 := LX.out.keep (w' := w3) (K3.out.block _ HM.out (D2.out.lt HM.out)) (fun k e => K3.out.block k (HX.out k e).1 (D2.out.lt (HX.out k e).1))
        have L3 := Box.mk l3; clear l3
        go_wp2_with fail
        go_ret
        rw [E.out]
        exact ⟨rfl, ⟨D3.out, HM.out, v', L3.out, HX.out⟩, (K2.out.drew).trans (K3.out.mono (fun k (h : F k ∧ k ≠ lb) => h.1))⟩
  · have g1 : file.toList.isEmpty = false := not_empty hfile
    by_cases hp : 0 < size
    · have g2 : decide ((0 : Int) < (size : Int)) = true := by simpa using hp
      have g2' : decide (0 < size) = true := by simpa using hp
      obtain ⟨y, hy⟩ : ∃ y, y = size + m := ⟨_, rfl⟩
      have g3 : IntKind.i64.wrap ((size : Int) + (m : Int)) = (y : Int) := (by rw [IntWalk.i64_in _ (by omega)]; omega)
      by_cases hq2 : limit < (y : Int)
      · have hmt : mustTurn ⟨limit, next, found, file, size, dirty⟩ fr := .inr ⟨hp, by show limit < (size : Int) + (fr.length : Int); rw [flen]; omega⟩
        have g4 : decide (limit < (y : Int)) = true := by simpa using hq2
        have YY := Box.mk hy
        clear hfile hp hq2 hy
        have AW := Box.mk (show ahead S ⟨limit, next, found, file, size, dirty⟩ fr = turnM S ⟨limit, next, found, file, size, dirty⟩ by rw [aw, if_pos hmt])
        rw [AW.out] at ca df a1 a2
        generalize turnM S ⟨limit, next, found, file, size, dirty⟩ = Y at *
        obtain ⟨v1, S1, ⟨limit', next', found', file', size', dirty'⟩⟩ := Y
        dsimp only at ca df CT a1 a2
        subst a1
        have hsz' : size' ≤ 1000000 := by rcases a2 with e | e <;> omega
        generalize appendC S1 file' fr = v2 at *
        generalize appendS S1 file' fr = S2 at *
        have CA := Box.mk ca; have DF := Box.mk df
        clear ca df aw AW a2 hmt
        by_cases h1 : v1 = 0
        case' neg =>
          have E := Box.mk (show lappend S ⟨limit, next', found, file, size, dirty⟩ (sb s) = (v1, S1, ⟨limit', next', found', file', size', dirty'⟩) by rw [DF.out, if_pos h1])
          have e1 : (v1 != 0) = true := by simpa using h1
          clear DF h1
          go_enter Tryz.func15, Tryz.ntmps15
          go_wp2_with (go_at_call 30; ((with_reducible refine C0.out.mono ?_); rintro e w1 ⟨rfl, b1⟩; have q1 : w1.cell? ⟨lb, 1, none⟩ = some (.int .i64 limit) := (b1.cell (p := ⟨lb, 1, none⟩) LT.out).trans l1; have q4 : w1.cell? ⟨lb, 4, none⟩ = some (.string file) := (b1.cell (p := ⟨lb, 4, none⟩) LT.out).trans l4; have q5 : w1.cell? ⟨lb, 5, none⟩ = some (.int .i64 (size : Int)) := (b1.cell (p := ⟨lb, 5, none⟩) LT.out).trans l5; have L1 := Box.mk ((HasL.mk HD.out HM.out ⟨v, LA.out, HO.out⟩).below b1); have K1 := Box.mk (KeepF.of_below (F := fun k => F k ∧ k ≠ lb) b1); clear b1 C0 l1 l2 l4 l5))
          go_quiet (fail)
          go_wp2_with (first
            | (go_at_call 31; ((with_reducible refine (CT.out _ (HasL.drewN L1.out _)).mono ?_); rintro e w2 ⟨rfl, hl2, k2⟩; have HL2 := Box.mk hl2; have K2 := Box.mk ((K1.out.drewN _).trans k2); obtain ⟨dk, _, v', la', ho'⟩ := hl2; have q0 := la'.c0; have q4' := la'.c4; have D2 := Box.mk dk; have LX := Box.mk la'; have HX := Box.mk ho'; clear dk la' ho' k2 CT)))
          go_ret
          rw [E.out]
          exact ⟨rfl, HL2.out, K2.out⟩
        subst h1
        by_cases h2 : v2 = 0
        · subst h2
          have E := Box.mk (show lappend S ⟨limit, next', found, file, size, dirty⟩ (sb s) = (0, S2, ⟨limit', next' + 1, found', file', size' + m, true⟩) by rw [DF.out, if_neg (fun h => h rfl), if_neg (fun h => h rfl)])
          clear DF
          go_enter Tryz.func15, Tryz.ntmps15
          go_wp2_with (go_at_call 30; ((with_reducible refine C0.out.mono ?_); rintro e w1 ⟨rfl, b1⟩; have q1 : w1.cell? ⟨lb, 1, none⟩ = some (.int .i64 limit) := (b1.cell (p := ⟨lb, 1, none⟩) LT.out).trans l1; have q4 : w1.cell? ⟨lb, 4, none⟩ = some (.string file) := (b1.cell (p := ⟨lb, 4, none⟩) LT.out).trans l4; have q5 : w1.cell? ⟨lb, 5, none⟩ = some (.int .i64 (size : Int)) := (b1.cell (p := ⟨lb, 5, none⟩) LT.out).trans l5; have L1 := Box.mk ((HasL.mk HD.out HM.out ⟨v, LA.out, HO.out⟩).below b1); have K1 := Box.mk (KeepF.of_below (F := fun k => F k ∧ k ≠ lb) b1); clear b1 C0 l1 l2 l4 l5))
          go_quiet (fail)
          go_wp2_with (first
            | (go_at_call 31; ((with_reducible refine (CT.out _ (HasL.drewN L1.out _)).mono ?_); rintro e w2 ⟨rfl, hl2, k2⟩; have HL2 := Box.mk hl2; have K2 := Box.mk ((K1.out.drewN _).trans k2); obtain ⟨dk, _, v', la', ho'⟩ := hl2; have q0 := la'.c0; have q4' := la'.c4; have D2 := Box.mk dk; have LX := Box.mk la'; have HX := Box.mk ho'; clear dk la' ho' k2 CT)))
          have DX := Box.mk D2.out
          go_region_with (go_at_call 8; ((with_reducible refine (CA.out _ (DX.out.drew)).mono ?_); rintro e w3 ⟨rfl, d3, k3⟩; have D3 := Box.mk d3; have K3 := Box.mk k3; clear d3 k3))
          all_goals
            have l3 := LX.out.keep (w' := w3) (K3.out.block _ HM.out (D2.out.lt HM.out)) (fun k e => K3.out.block k (HX.out k e).1 (D2.out.lt (HX.out k e).1))
            have p2 := l3.c2; have p5 := l3.c5; have p6 := l3.c6; have f2 := l3.fz 2; have f5 := l3.fz 5; have f6 := l3.fz 6
            dsimp only at p2 p5 p6
            have L3 := Box.mk l3; clear l3
            obtain ⟨n1, hn1⟩ : ∃ n1, n1 = next' + 1 := ⟨_, rfl⟩
            have wn : IntKind.u64.wrap ((next' : Int) + 1) = (n1 : Int) := by rw [show ((next' : Int) + 1) = (n1 : Int) by omega]; exact u64small (by omega)
            rw [← hn1] at E; clear hn1
            obtain ⟨z, hz⟩ : ∃ z, z = size' + m := ⟨_, rfl⟩
            have ws : IntKind.i64.wrap ((size' : Int) + (m : Int)) = (z : Int) := (by rw [IntWalk.i64_in _ (by omega)]; omega)
            rw [← hz] at E; clear hz
            go_wp2_with fail
            go_ret
            rw [E.out]
            have e2 := ((L3.out.s2 (fun e => (HX.out _ e).2.1 rfl) n1).s5 (fun e => (HX.out _ e).2.1 rfl) z).s6 (fun e => (HX.out _ e).2.1 rfl) true
            refine ⟨rfl, ⟨((D3.out.set (p := ⟨lb, 2, none⟩) HM.out _).set (p := ⟨lb, 5, none⟩) HM.out _).set (p := ⟨lb, 6, none⟩) HM.out _, HM.out, v', e2, HX.out⟩, ?_⟩
            exact ((((K2.out.drew).trans (K3.out.mono (fun k (h : F k ∧ k ≠ lb) => h.1))).set (p := ⟨lb, 2, none⟩) (fun h => h.2 rfl) _).set (p := ⟨lb, 5, none⟩) (fun h => h.2 rfl) _).set (p := ⟨lb, 6, none⟩) (fun h => h.2 rfl) _
        · have E := Box.mk (show lappend S ⟨limit, next', found, file, size, dirty⟩ (sb s) = (v2, S2, ⟨limit', next', found', file', size', dirty'⟩) by rw [DF.out, if_neg (fun h => h rfl), if_pos h2])
          have e1 : (v2 != 0) = true := by simpa using h2
          clear DF h2
          go_enter Tryz.func15, Tryz.ntmps15
          go_wp2_with (go_at_call 30; ((with_reducible refine C0.out.mono ?_); rintro e w1 ⟨rfl, b1⟩; have q1 : w1.cell? ⟨lb, 1, none⟩ = some (.int .i64 limit) := (b1.cell (p := ⟨lb, 1, none⟩) LT.out).trans l1; have q4 : w1.cell? ⟨lb, 4, none⟩ = some (.string file) := (b1.cell (p := ⟨lb, 4, none⟩) LT.out).trans l4; have q5 : w1.cell? ⟨lb, 5, none⟩ = some (.int .i64 (size : Int)) := (b1.cell (p := ⟨lb, 5, none⟩) LT.out).trans l5; have L1 := Box.mk ((HasL.mk HD.out HM.out ⟨v, LA.out, HO.out⟩).below b1); have K1 := Box.mk (KeepF.of_below (F := fun k => F k ∧ k ≠ lb) b1); clear b1 C0 l1 l2 l4 l5))
          go_quiet (fail)
          go_wp2_with (first
            | (go_at_call 31; ((with_reducible refine (CT.out _ (HasL.drewN L1.out _)).mono ?_); rintro e w2 ⟨rfl, hl2, k2⟩; have HL2 := Box.mk hl2; have K2 := Box.mk ((K1.out.drewN _).trans k2); obtain ⟨dk, _, v', la', ho'⟩ := hl2; have q0 := la'.c0; have q4' := la'.c4; have D2 := Box.mk dk; have LX := Box.mk la'; have HX := Box.mk ho'; clear dk la' ho' k2 CT)))
          have DX := Box.mk D2.out
          go_region_with (go_at_call 8; ((with_reducible refine (CA.out _ (DX.out.drew)).mono ?_); rintro e w3 ⟨rfl, d3, k3⟩; have D3 := Box.mk d3; have K3 := Box.mk k3; clear d3 k3))
          all_goals
            have l3 := LX.out.keep (w' := w3) (K3.out.block _ HM.out (D2.out.lt HM.out)) (fun k e => K3.out.block k (HX.out k e).1 (D2.out.lt (HX.out k e).1))
            have L3 := Box.mk l3; clear l3
            go_wp2_with fail
            go_ret
            rw [E.out]
            exact ⟨rfl, ⟨D3.out, HM.out, v', L3.out, HX.out⟩, (K2.out.drew).trans (K3.out.mono (fun k (h : F k ∧ k ≠ lb) => h.1))⟩
      · have hmt : ¬ mustTurn ⟨limit, next, found, file, size, dirty⟩ fr := fun h => by
          rcases h with h | ⟨_, h⟩
          · exact hfile h
          · have h : limit < (size : Int) + (fr.length : Int) := h
            rw [flen] at h; omega
        have g4 : decide (limit < (y : Int)) = false := by simpa using hq2
        have YY := Box.mk hy
        clear hfile hp hq2 hy
        have AW := Box.mk (show ahead S ⟨limit, next, found, file, size, dirty⟩ fr = (0, S, ⟨limit, next, found, file, size, dirty⟩) by rw [aw, if_neg hmt])
        rw [AW.out] at ca df a1 a2
        dsimp only at ca df
        have hsz' := hsz
        generalize appendC S file fr = v2 at *
        generalize appendS S file fr = S2 at *
        have CA := Box.mk ca; have DF := Box.mk df
        clear ca df aw AW a2 hmt a1
        by_cases h2 : v2 = 0
        · subst h2
          have E := Box.mk (show lappend S ⟨limit, next, found, file, size, dirty⟩ (sb s) = (0, S2, ⟨limit, next + 1, found, file, size + m, true⟩) by rw [DF.out, if_neg (fun h => h rfl), if_neg (fun h => h rfl)])
          clear DF
          go_enter Tryz.func15, Tryz.ntmps15
          go_wp2_with (go_at_call 30; ((with_reducible refine C0.out.mono ?_); rintro e w1 ⟨rfl, b1⟩; have q1 : w1.cell? ⟨lb, 1, none⟩ = some (.int .i64 limit) := (b1.cell (p := ⟨lb, 1, none⟩) LT.out).trans l1; have q4 : w1.cell? ⟨lb, 4, none⟩ = some (.string file) := (b1.cell (p := ⟨lb, 4, none⟩) LT.out).trans l4; have q5 : w1.cell? ⟨lb, 5, none⟩ = some (.int .i64 (size : Int)) := (b1.cell (p := ⟨lb, 5, none⟩) LT.out).trans l5; have L1 := Box.mk ((HasL.mk HD.out HM.out ⟨v, LA.out, HO.out⟩).below b1); have K1 := Box.mk (KeepF.of_below (F := fun k => F k ∧ k ≠ lb) b1); clear b1 C0 l1 l2 l4 l5))
          go_quiet (fail)
          obtain ⟨dk, _, v', la', ho'⟩ := L1.out
          have q0 := la'.c0; have q4' := la'.c4
          have D2 := Box.mk dk; have LX := Box.mk la'; have HX := Box.mk ho'; have K2 := Box.mk K1.out
          clear dk la' ho'
          go_wp2_with fail
          have DX := Box.mk D2.out
          go_region_with (go_at_call 8; ((with_reducible refine (CA.out _ (DX.out.drewN _)).mono ?_); rintro e w3 ⟨rfl, d3, k3⟩; have D3 := Box.mk d3; have K3 := Box.mk k3; clear d3 k3))
          all_goals
            have l3 := LX.out.keep (w' := w3) (K3.out.block _ HM.out (D2.out.lt HM.out)) (fun k e => K3.out.block k (HX.out k e).1 (D2.out.lt (HX.out k e).1))
            have p2 := l3.c2; have p5 := l3.c5; have p6 := l3.c6; have f2 := l3.fz 2; have f5 := l3.fz 5; have f6 := l3.fz 6
            dsimp only at p2 p5 p6
            have L3 := Box.mk l3; clear l3
            obtain ⟨n1, hn1⟩ : ∃ n1, n1 = next + 1 := ⟨_, rfl⟩
            have wn : IntKind.u64.wrap ((next : Int) + 1) = (n1 : Int) := by rw [show ((next : Int) + 1) = (n1 : Int) by omega]; exact u64small (by omega)
            rw [← hn1] at E; clear hn1
            rw [← YY.out] at E
            go_wp2_with fail
            go_ret
            rw [E.out]
            have e2 := ((L3.out.s2 (fun e => (HX.out _ e).2.1 rfl) n1).s5 (fun e => (HX.out _ e).2.1 rfl) y).s6 (fun e => (HX.out _ e).2.1 rfl) true
            refine ⟨rfl, ⟨((D3.out.set (p := ⟨lb, 2, none⟩) HM.out _).set (p := ⟨lb, 5, none⟩) HM.out _).set (p := ⟨lb, 6, none⟩) HM.out _, HM.out, v', e2, HX.out⟩, ?_⟩
            exact ((((K2.out.drewN _).trans (K3.out.mono (fun k (h : F k ∧ k ≠ lb) => h.1))).set (p := ⟨lb, 2, none⟩) (fun h => h.2 rfl) _).set (p := ⟨lb, 5, none⟩) (fun h => h.2 rfl) _).set (p := ⟨lb, 6, none⟩) (fun h => h.2 rfl) _
        · have E := Box.mk (show lappend S ⟨limit, next, found, file, size, dirty⟩ (sb s) = (v2, S2, ⟨limit, next, found, file, size, dirty⟩) by rw [DF.out, if_neg (fun h => h rfl), if_pos h2])
          have e1 : (v2 != 0) = true := by simpa using h2
          clear DF h2
          go_enter Tryz.func15, Tryz.ntmps15
          go_wp2_with (go_at_call 30; ((with_reducible refine C0.out.mono ?_); rintro e w1 ⟨rfl, b1⟩; have q1 : w1.cell? ⟨lb, 1, none⟩ = some (.int .i64 limit) := (b1.cell (p := ⟨lb, 1, none⟩) LT.out).trans l1; have q4 : w1.cell? ⟨lb, 4, none⟩ = some (.string file) := (b1.cell (p := ⟨lb, 4, none⟩) LT.out).trans l4; have q5 : w1.cell? ⟨lb, 5, none⟩ = some (.int .i64 (size : Int)) := (b1.cell (p := ⟨lb, 5, none⟩) LT.out).trans l5; have L1 := Box.mk ((HasL.mk HD.out HM.out ⟨v, LA.out, HO.out⟩).below b1); have K1 := Box.mk (KeepF.of_below (F := fun k => F k ∧ k ≠ lb) b1); clear b1 C0 l1 l2 l4 l5))
          go_quiet (fail)
          obtain ⟨dk, _, v', la', ho'⟩ := L1.out
          have q0 := la'.c0; have q4' := la'.c4
          have D2 := Box.mk dk; have LX := Box.mk la'; have HX := Box.mk ho'; have K2 := Box.mk K1.out
          clear dk la' ho'
          go_wp2_with fail
          have DX := Box.mk D2.out
          go_region_with (go_at_call 8; ((with_reducible refine (CA.out _ (DX.out.drewN _)).mono ?_); rintro e w3 ⟨rfl, d3, k3⟩; have D3 := Box.mk d3; have K3 := Box.mk k3; clear d3 k3))
          all_goals
            have l3 := LX.out.keep (w' := w3) (K3.out.block _ HM.out (D2.out.lt HM.out)) (fun k e => K3.out.block k (HX.out k e).1 (D2.out.lt (HX.out k e).1))
            have L3 := Box.mk l3; clear l3
            go_wp2_with fail
            go_ret
            rw [E.out]
            exact ⟨rfl, ⟨D3.out, HM.out, v', L3.out, HX.out⟩, (K2.out.drewN _).trans (K3.out.mono (fun k (h : F k ∧ k ≠ lb) => h.1))⟩
    · have g2 : decide ((0 : Int) < (size : Int)) = false := by simpa using hp
      have g2' : decide (0 < size) = false := by simpa using hp
      have hmt : ¬ mustTurn ⟨limit, next, found, file, size, dirty⟩ fr := fun h => by
        rcases h with h | ⟨h, _⟩
        · exact hfile h
        · exact hp h
      clear hfile hp
      have AW := Box.mk (show ahead S ⟨limit, next, found, file, size, dirty⟩ fr = (0, S, ⟨limit, next, found, file, size, dirty⟩) by rw [aw, if_neg hmt])
      rw [AW.out] at ca df a1 a2
      dsimp only at ca df
      have hsz' := hsz
      generalize appendC S file fr = v2 at *
      generalize appendS S file fr = S2 at *
      have CA := Box.mk ca; have DF := Box.mk df
      clear ca df aw AW a2 hmt a1
      by_cases h2 : v2 = 0
      · subst h2
        have E := Box.mk (show lappend S ⟨limit, next, found, file, size, dirty⟩ (sb s) = (0, S2, ⟨limit, next + 1, found, file, size + m, true⟩) by rw [DF.out, if_neg (fun h => h rfl), if_neg (fun h => h rfl)])
        clear DF
        go_enter Tryz.func15, Tryz.ntmps15
        go_wp2_with (go_at_call 30; ((with_reducible refine C0.out.mono ?_); rintro e w1 ⟨rfl, b1⟩; have q1 : w1.cell? ⟨lb, 1, none⟩ = some (.int .i64 limit) := (b1.cell (p := ⟨lb, 1, none⟩) LT.out).trans l1; have q4 : w1.cell? ⟨lb, 4, none⟩ = some (.string file) := (b1.cell (p := ⟨lb, 4, none⟩) LT.out).trans l4; have q5 : w1.cell? ⟨lb, 5, none⟩ = some (.int .i64 (size : Int)) := (b1.cell (p := ⟨lb, 5, none⟩) LT.out).trans l5; have L1 := Box.mk ((HasL.mk HD.out HM.out ⟨v, LA.out, HO.out⟩).below b1); have K1 := Box.mk (KeepF.of_below (F := fun k => F k ∧ k ≠ lb) b1); clear b1 C0 l1 l2 l4 l5))
        go_quiet (fail)
        obtain ⟨dk, _, v', la', ho'⟩ := L1.out
        have q0 := la'.c0; have q4' := la'.c4
        have D2 := Box.mk dk; have LX := Box.mk la'; have HX := Box.mk ho'; have K2 := Box.mk K1.out
        clear dk la' ho'
        go_wp2_with fail
        have DX := Box.mk D2.out
        go_region_with (go_at_call 8; ((with_reducible refine (CA.out _ (DX.out.drewN _)).mono ?_); rintro e w3 ⟨rfl, d3, k3⟩; have D3 := Box.mk d3; have K3 := Box.mk k3; clear d3 k3))
        all_goals
          have l3 := LX.out.keep (w' := w3) (K3.out.block _ HM.out (D2.out.lt HM.out)) (fun k e => K3.out.block k (HX.out k e).1 (D2.out.lt (HX.out k e).1))
          have p2 := l3.c2; have p5 := l3.c5; have p6 := l3.c6; have f2 := l3.fz 2; have f5 := l3.fz 5; have f6 := l3.fz 6
          dsimp only at p2 p5 p6
          have L3 := Box.mk l3; clear l3
          obtain ⟨n1, hn1⟩ : ∃ n1, n1 = next + 1 := ⟨_, rfl⟩
          have wn : IntKind.u64.wrap ((next : Int) + 1) = (n1 : Int) := by rw [show ((next : Int) + 1) = (n1 : Int) by omega]; exact u64small (by omega)
          rw [← hn1] at E; clear hn1
          obtain ⟨z, hz⟩ : ∃ z, z = size + m := ⟨_, rfl⟩
          have ws : IntKind.i64.wrap ((size : Int) + (m : Int)) = (z : Int) := (by rw [IntWalk.i64_in _ (by omega)]; omega)
          rw [← hz] at E; clear hz
          go_wp2_with fail
          go_ret
          rw [E.out]
          have e2 := ((L3.out.s2 (fun e => (HX.out _ e).2.1 rfl) n1).s5 (fun e => (HX.out _ e).2.1 rfl) z).s6 (fun e => (HX.out _ e).2.1 rfl) true
          refine ⟨rfl, ⟨((D3.out.set (p := ⟨lb, 2, none⟩) HM.out _).set (p := ⟨lb, 5, none⟩) HM.out _).set (p := ⟨lb, 6, none⟩) HM.out _, HM.out, v', e2, HX.out⟩, ?_⟩
          exact ((((K2.out.drewN _).trans (K3.out.mono (fun k (h : F k ∧ k ≠ lb) => h.1))).set (p := ⟨lb, 2, none⟩) (fun h => h.2 rfl) _).set (p := ⟨lb, 5, none⟩) (fun h => h.2 rfl) _).set (p := ⟨lb, 6, none⟩) (fun h => h.2 rfl) _
      · have E := Box.mk (show lappend S ⟨limit, next, found, file, size, dirty⟩ (sb s) = (v2, S2, ⟨limit, next, found, file, size, dirty⟩) by rw [DF.out, if_neg (fun h => h rfl), if_pos h2])
        have e1 : (v2 != 0) = true := by simpa using h2
        clear DF h2
        go_enter Tryz.func15, Tryz.ntmps15
        go_wp2_with (go_at_call 30; ((with_reducible refine C0.out.mono ?_); rintro e w1 ⟨rfl, b1⟩; have q1 : w1.cell? ⟨lb, 1, none⟩ = some (.int .i64 limit) := (b1.cell (p := ⟨lb, 1, none⟩) LT.out).trans l1; have q4 : w1.cell? ⟨lb, 4, none⟩ = some (.string file) := (b1.cell (p := ⟨lb, 4, none⟩) LT.out).trans l4; have q5 : w1.cell? ⟨lb, 5, none⟩ = some (.int .i64 (size : Int)) := (b1.cell (p := ⟨lb, 5, none⟩) LT.out).trans l5; have L1 := Box.mk ((HasL.mk HD.out HM.out ⟨v, LA.out, HO.out⟩).below b1); have K1 := Box.mk (KeepF.of_below (F := fun k => F k ∧ k ≠ lb) b1); clear b1 C0 l1 l2 l4 l5))
        go_quiet (fail)
        obtain ⟨dk, _, v', la', ho'⟩ := L1.out
        have q0 := la'.c0; have q4' := la'.c4
        have D2 := Box.mk dk; have LX := Box.mk la'; have HX := Box.mk ho'; have K2 := Box.mk K1.out
        clear dk la' ho'
        go_wp2_with fail
        have DX := Box.mk D2.out
        go_region_with (go_at_call 8; ((with_reducible refine (CA.out _ (DX.out.drewN _)).mono ?_); rintro e w3 ⟨rfl, d3, k3⟩; have D3 := Box.mk d3; have K3 := Box.mk k3; clear d3 k3))
        all_goals
          have l3 := LX.out.keep (w' := w3) (K3.out.block _ HM.out (D2.out.lt HM.out)) (fun k e => K3.out.block k (HX.out k e).1 (D2.out.lt (HX.out k e).1))
          have L3 := Box.mk l3; clear l3
          go_wp2_with fail
          go_ret
          rw [E.out]
          exact ⟨rfl, ⟨D3.out, HM.out, v', L3.out, HX.out⟩, (K2.out.drewN _).trans (K3.out.mono (fun k (h : F k ∧ k ≠ lb) => h.1))⟩
end Go.Proofs.YtdffpbfllekcgaaGreatDoor
