/- Contracts of wal: a new file (replace, turn). -/
import Derived.Test.YtdffpbfllekcgaaGreatDoorHx
namespace Go.Proofs.YtdffpbfllekcgaaGreatDoor
set_option maxRecDepth 100000
open Go.ChangeShapes Go.WideShapes Go.RowKit M

set_option maxHeartbeats 1000000 in
theorem replace_any (b : Nat) (F : Nat → Prop) (S : DS) (x : ByteArray) (w : World) (k c : Nat) (h : HasF w b F S) (hz : Sz S k c) (hk : k ≤ 90000) (hc : c ≤ 90000000) (hx : x.size ≤ 100) :
    Calls Tryz.prog 52 #[.pointer (some ⟨b, 0, none⟩), .string x] w (FP b F w (.int .i64 (replaceM S x).1) (replaceM S x).2) := by
  have hx' : x.size ≤ maxLen := by unfold maxLen; omega
  have z1 := hz.create hx'
  have z2 := z1.remove hx'
  have c1 := create_f b F S x w h (hz.fine (by omega) (by omega)) hx'
  have c2 := fun W hW => remove_f b F (createS S x) x W hW (z1.fine (by omega) (by omega)) hx'
  have c3 := fun W hW => create_f b F (removeS (createS S x) x) x W hW (z2.fine (by omega) (by omega)) hx'
  have df : replaceM S x = if createC S x ≠ 6 then (createC S x, createS S x) else if removeC (createS S x) x ≠ 0 then (removeC (createS S x) x, removeS (createS S x) x) else (createC (removeS (createS S x) x) x, createS (removeS (createS S x) x) x) := rfl
  have DF := Box.mk df
  have C1 := Box.mk c1; have C2 := Box.mk c2; have C3 := Box.mk c3
  clear df c1 c2 c3 z1 z2 hz h
  generalize createC (removeS (createS S x) x) x = v3 at *
  generalize createS (removeS (createS S x) x) x = S3 at *
  generalize removeC (createS S x) x = v2 at *
  generalize removeS (createS S x) x = S2 at *
  generalize createC S x = v1 at *
  generalize createS S x = S1 at *
  by_cases h1 : v1 = 6
  · subst h1
    by_cases h2 : v2 = 0
    · subst h2
      have e : replaceM S x = (v3, S3) := by rw [DF.out, if_neg (fun h => h rfl), if_neg (fun h => h rfl)]
      have E := Box.mk e
      clear e
      go_enter Tryz.func52, Tryz.ntmps52
      go_wp2_with (first
        | (go_at_call 7; ((with_reducible refine C1.out.mono ?_); rintro e w1 ⟨rfl, d1, k1⟩; have D1 := Box.mk d1; have K1 := Box.mk k1; clear d1 k1 C1))
        | (go_at_call 80; ((with_reducible refine (C2.out _ D1.out).mono ?_); rintro e w2 ⟨rfl, d1, k1⟩; have D2 := Box.mk d1; have K2 := Box.mk (K1.out.trans k1); clear d1 k1 C2))
        | (go_at_call 7; ((with_reducible refine (C3.out _ D2.out).mono ?_); rintro e w3 ⟨rfl, d1, k1⟩; have D3 := Box.mk d1; have K3 := Box.mk (K2.out.trans k1); clear d1 k1 C3)))
      go_ret
      rw [E.out]
      exact ⟨rfl, D3.out, K3.out⟩
    · have e : replaceM S x = (v2, S2) := by rw [DF.out, if_neg (fun h => h rfl), if_pos h2]
      have E := Box.mk e
      have e1 : (v2 != 0) = true := by simpa using h2
      clear e h2
      go_enter Tryz.func52, Tryz.ntmps52
      go_wp2_with (first
        | (go_at_call 7; ((with_reducible refine C1.out.mono ?_); rintro e w1 ⟨rfl, d1, k1⟩; have D1 := Box.mk d1; have K1 := Box.mk k1; clear d1 k1 C1))
        | (go_at_call 80; ((with_reducible refine (C2.out _ D1.out).mono ?_); rintro e w2 ⟨rfl, d1, k1⟩; have D2 := Box.mk d1; have K2 := Box.mk (K1.out.trans k1); clear d1 k1 C2)))
      go_ret
      rw [E.out]
      exact ⟨rfl, D2.out, K2.out⟩
  · have e : replaceM S x = (v1, S1) := by rw [DF.out, if_pos h1]
    have E := Box.mk e
    have e1 : (v1 != 6) = true := by simpa using h1
    clear e h1
    go_enter Tryz.func52, Tryz.ntmps52
    go_wp2_with (go_at_call 7; ((with_reducible refine C1.out.mono ?_); rintro e w1 ⟨rfl, d1, k1⟩; have D1 := Box.mk d1; have K1 := Box.mk k1; clear d1 k1 C1))
    go_ret
    rw [E.out]
    exact ⟨rfl, D1.out, K1.out⟩

theorem Sz.syncL (l : List ByteArray) : ∀ {S : DS} {k c : Nat}, Sz S k c → Sz (syncL l S).2 k (c + l.length) := by
  induction l with
  | nil => exact fun h => h
  | cons x l ih =>
    intro S k c h
    unfold Proofs.YtdffpbfllekcgaaGreatDoor.syncL
    split
    · exact (ih (h.sync x)).up (Nat.le_refl _) (by rw [List.length_cons]; omega)
    · exact (h.sync x).up (Nat.le_refl _) (by rw [List.length_cons]; omega)
theorem Sz.lsync {S : DS} {k c : Nat} (h : Sz S k c) (L : LS) : Sz (lsync S L).2.1 k (c + L.found.length + 1) := by
  have a := Sz.syncL L.found h
  unfold Proofs.YtdffpbfllekcgaaGreatDoor.lsync
  split
  · exact a.up (Nat.le_refl _) (by omega)
  · split
    · exact a.up (Nat.le_refl _) (by omega)
    · exact a.sync _
theorem Sz.replace {S : DS} {k c : Nat} (h : Sz S k c) {x : ByteArray} (hx : x.size ≤ maxLen) : Sz (replaceM S x).2 (k + 5) (c + 3) := by
  unfold replaceM
  split
  · exact (h.create hx).up (by omega) (by omega)
  · split
    · exact ((h.create hx).remove hx).up (by omega) (by omega)
    · exact (((h.create hx).remove hx).create hx).up (by omega) (by omega)
theorem Sz.turn {S : DS} {k c : Nat} (h : Sz S k c) (L : LS) : Sz (turnM S L).2.1 (k + 5) (c + L.found.length + 5) := by
  have a := h.lsync L
  have hx : ∀ q, (nameM q).size ≤ maxLen := fun q => by rw [nameM_size]; unfold maxLen; omega
  have r := a.replace (hx (Proofs.YtdffpbfllekcgaaGreatDoor.lsync S L).2.2.next)
  unfold turnM
  split
  · exact a.up (by omega) (by omega)
  · split
    · exact r.up (by omega) (by omega)
    · split
      · exact r.syncNames.up (by omega) (by omega)
      · exact r.syncNames.up (by omega) (by omega)
theorem lsync_next (S : DS) (L : LS) : (lsync S L).2.2.next = L.next := by
  unfold lsync
  split
  · rfl
  · split <;> rfl

set_option maxHeartbeats 1000000 in
theorem turn_any (lb b : Nat) (F D : Nat → Prop) (S : DS) (L : LS) (w : World) (k c : Nat) (h : HasL w lb b F D S L) (hz : Sz S k c) (hk : k ≤ 80000) (hc : c + L.found.length ≤ 80000000) (hn : NamesOk L) (hq : L.next < 18446744073709551616) :
    Calls Tryz.prog 31 #[.pointer (some ⟨lb, 0, none⟩)] w (LP lb b F D w (.int .i64 (turnM S L).1) (turnM S L).2.1 (turnM S L).2.2) := by
  have z1 := hz.lsync L
  have nx := lsync_next S L
  have hx : (nameM (lsync S L).2.2.next).size ≤ 100 := by rw [nameM_size]; omega
  have z2 := z1.replace (x := nameM (lsync S L).2.2.next) (by unfold maxLen; omega)
  have c1 := lsync_any lb b F D S L w k c h hz (by omega) (by omega) hn
  have c2 := fun W => name_any (lsync S L).2.2.next (by rw [nx]; exact hq) W
  have c3 := fun W hW => replace_any b F (lsync S L).2.1 (nameM (lsync S L).2.2.next) W k _ hW z1 (by omega) (by omega) hx
  have c4 := fun W hW => syncNames_f b F (replaceM (lsync S L).2.1 (nameM (lsync S L).2.2.next)).2 W hW (z2.fine (by omega) (by omega)) (z2.rels (by omega))
  have df : turnM S L = if (lsync S L).1 ≠ 0 then lsync S L
    else if (replaceM (lsync S L).2.1 (nameM (lsync S L).2.2.next)).1 ≠ 0 then ((replaceM (lsync S L).2.1 (nameM (lsync S L).2.2.next)).1, (replaceM (lsync S L).2.1 (nameM (lsync S L).2.2.next)).2, (lsync S L).2.2)
    else if syncNamesC (replaceM (lsync S L).2.1 (nameM (lsync S L).2.2.next)).2 ≠ 0 then (syncNamesC (replaceM (lsync S L).2.1 (nameM (lsync S L).2.2.next)).2, syncNamesS (replaceM (lsync S L).2.1 (nameM (lsync S L).2.2.next)).2, (lsync S L).2.2)
    else (0, syncNamesS (replaceM (lsync S L).2.1 (nameM (lsync S L).2.2.next)).2, { (lsync S L).2.2 with file := nameM (lsync S L).2.2.next, size := 0 }) := rfl
  have hF := h.mine
  clear z1 z2 hz nx hn hc hq hx
  generalize syncNamesC (replaceM (lsync S L).2.1 (nameM (lsync S L).2.2.next)).2 = v3 at *
  generalize syncNamesS (replaceM (lsync S L).2.1 (nameM (lsync S L).2.2.next)).2 = S3 at *
  generalize replaceM (lsync S L).2.1 (nameM (lsync S L).2.2.next) = R at *
  obtain ⟨v2, S2⟩ := R
  generalize lsync S L = Y at *
  obtain ⟨v1, S1, L1⟩ := Y
  dsimp only at c1 c2 c3 c4 df
  obtain ⟨nm, hnm⟩ : ∃ nm, nm = nameM L1.next := ⟨_, rfl⟩
  rw [← hnm] at c2 c3 df
  have DF := Box.mk df
  have C1 := Box.mk c1; have C2 := Box.mk c2; have C3 := Box.mk c3; have C4 := Box.mk c4
  have HM := Box.mk hF
  clear df c1 c2 c3 c4 hnm h hF
  by_cases h1 : v1 = 0
  · subst h1
    by_cases h2 : v2 = 0
    · subst h2
      by_cases h3 : v3 = 0
      · subst h3
        have E := Box.mk (show turnM S L = (0, S3, { L1 with file := nm, size := 0 }) by rw [DF.out, if_neg (fun h => h rfl), if_neg (fun h => h rfl), if_neg (fun h => h rfl)])
        clear DF
        go_enter Tryz.func31, Tryz.ntmps31
        go_wp2_with (first
          | (go_at_call 16; ((with_reducible refine C1.out.mono ?_); rintro e w1 ⟨rfl, ⟨dk, _, v, la, ho⟩, k1⟩; have q0 := la.c0; have q2 := la.c2; have D1 := Box.mk dk; have LA := Box.mk la; have HO := Box.mk ho; have K1 := Box.mk k1; have LT := Box.mk (dk.lt HM.out); clear dk la ho k1 C1))
          | (go_at_call 18; ((with_reducible refine (C2.out _).mono ?_); rintro e w2 ⟨rfl, b2⟩; have q0' : w2.cell? ⟨lb, 0, none⟩ = some (.pointer (some ⟨b, 0, none⟩)) := (b2.cell (p := ⟨lb, 0, none⟩) LT.out).trans q0; have D2 := Box.mk (D1.out.below b2); have K2 := Box.mk (KeepF.of_below (F := F) b2); clear b2 C2))
          | (go_at_call 52; ((with_reducible refine (C3.out _ D2.out).mono ?_); rintro e w3 ⟨rfl, d3, k3⟩; have D3 := Box.mk d3; have K3 := Box.mk (K2.out.trans k3); have q0'' : w3.cell? ⟨lb, 0, none⟩ = some (.pointer (some ⟨b, 0, none⟩)) := (K3.out.cell HM.out LT.out).trans q0; clear d3 k3 C3 q0 q0' q2))
          | (go_at_call 53; ((with_reducible refine (C4.out _ D3.out).mono ?_); rintro e w4 ⟨rfl, d4, k4⟩; have D4 := Box.mk d4; have K4 := Box.mk (K3.out.trans k4); have l4 := LA.out.keep (w' := w4) (K4.out.block _ HM.out LT.out) (fun k e => K4.out.block k (HO.out k e).1 (D1.out.lt (HO.out k e).1)); have q4 := l4.c4; have q5 := l4.c5; have f4 := l4.fz 4; have f5 := l4.fz 5; have L4 := Box.mk l4; clear l4 d4 k4 C4 q0'')))
        go_ret
        rw [E.out]
        have e1 := L4.out.s4 (fun e => (HO.out _ e).2.1 rfl) nm
        have e2 := e1.s5 (fun e => (HO.out _ e).2.1 rfl) 0
        refine ⟨rfl, ⟨(D4.out.set (p := ⟨lb, 4, none⟩) HM.out _).set (p := ⟨lb, 5, none⟩) HM.out _, HM.out, v, e2, HO.out⟩, ?_⟩
        exact ((K1.out.trans (K4.out.mono (fun k (h : F k ∧ k ≠ lb) => h.1))).set (p := ⟨lb, 4, none⟩) (fun h => h.2 rfl) _).set (p := ⟨lb, 5, none⟩) (fun h => h.2 rfl) _
      · have E := Box.mk (show turnM S L = (v3, S3, L1) by rw [DF.out, if_neg (fun h => h rfl), if_neg (fun h => h rfl), if_pos h3])
        have e1 : (v3 != 0) = true := by simpa using h3
        clear DF h3
        go_enter Tryz.func31, Tryz.ntmps31
        go_wp2_with (first
          | (go_at_call 16; ((with_reducible refine C1.out.mono ?_); rintro e w1 ⟨rfl, ⟨dk, _, v, la, ho⟩, k1⟩; have q0 := la.c0; have q2 := la.c2; have D1 := Box.mk dk; have LA := Box.mk la; have HO := Box.mk ho; have K1 := Box.mk k1; have LT := Box.mk (dk.lt HM.out); clear dk la ho k1 C1))
          | (go_at_call 18; ((with_reducible refine (C2.out _).mono ?_); rintro e w2 ⟨rfl, b2⟩; have q0' : w2.cell? ⟨lb, 0, none⟩ = some (.pointer (some ⟨b, 0, none⟩)) := (b2.cell (p := ⟨lb, 0, none⟩) LT.out).trans q0; have D2 := Box.mk (D1.out.below b2); have K2 := Box.mk (KeepF.of_below (F := F) b2); clear b2 C2))
          | (go_at_call 52; ((with_reducible refine (C3.out _ D2.out).mono ?_); rintro e w3 ⟨rfl, d3, k3⟩; have D3 := Box.mk d3; have K3 := Box.mk (K2.out.trans k3); have q0'' : w3.cell? ⟨lb, 0, none⟩ = some (.pointer (some ⟨b, 0, none⟩)) := (K3.out.cell HM.out LT.out).trans q0; clear d3 k3 C3 q0 q0' q2))
          | (go_at_call 53; ((with_reducible refine (C4.out _ D3.out).mono ?_); rintro e w4 ⟨rfl, d4, k4⟩; have D4 := Box.mk d4; have K4 := Box.mk (K3.out.trans k4); have L4 := Box.mk (LA.out.keep (w' := w4) (K4.out.block _ HM.out LT.out) (fun k e => K4.out.block k (HO.out k e).1 (D1.out.lt (HO.out k e).1))); clear d4 k4 C4 q0'')))
        go_ret
        rw [E.out]
        exact ⟨rfl, ⟨D4.out, HM.out, v, L4.out, HO.out⟩, K1.out.trans (K4.out.mono (fun k (h : F k ∧ k ≠ lb) => h.1))⟩
    · have E := Box.mk (show turnM S L = (v2, S2, L1) by rw [DF.out, if_neg (fun h => h rfl), if_pos h2])
      have e1 : (v2 != 0) = true := by simpa using h2
      clear DF h2
      go_enter Tryz.func31, Tryz.ntmps31
      go_wp2_with (first
        | (go_at_call 16; ((with_reducible refine C1.out.mono ?_); rintro e w1 ⟨rfl, ⟨dk, _, v, la, ho⟩, k1⟩; have q0 := la.c0; have q2 := la.c2; have D1 := Box.mk dk; have LA := Box.mk la; have HO := Box.mk ho; have K1 := Box.mk k1; have LT := Box.mk (dk.lt HM.out); clear dk la ho k1 C1))
        | (go_at_call 18; ((with_reducible refine (C2.out _).mono ?_); rintro e w2 ⟨rfl, b2⟩; have q0' : w2.cell? ⟨lb, 0, none⟩ = some (.pointer (some ⟨b, 0, none⟩)) := (b2.cell (p := ⟨lb, 0, none⟩) LT.out).trans q0; have D2 := Box.mk (D1.out.below b2); have K2 := Box.mk (KeepF.of_below (F := F) b2); clear b2 C2))
        | (go_at_call 52; ((with_reducible refine (C3.out _ D2.out).mono ?_); rintro e w3 ⟨rfl, d3, k3⟩; have D3 := Box.mk d3; have K3 := Box.mk (K2.out.trans k3); have L3 := Box.mk (LA.out.keep (w' := w3) (K3.out.block _ HM.out LT.out) (fun k e => K3.out.block k (HO.out k e).1 (D1.out.lt (HO.out k e).1))); clear d3 k3 C3 q0 q0' q2)))
      go_ret
      rw [E.out]
      exact ⟨rfl, ⟨D3.out, HM.out, v, L3.out, HO.out⟩, K1.out.trans (K3.out.mono (fun k (h : F k ∧ k ≠ lb) => h.1))⟩
  · have E := Box.mk (show turnM S L = (v1, S1, L1) by rw [DF.out, if_pos h1])
    have e1 : (v1 != 0) = true := by simpa using h1
    clear DF h1
    go_enter Tryz.func31, Tryz.ntmps31
    go_wp2_with (go_at_call 16; ((with_reducible refine C1.out.mono ?_); rintro e w1 ⟨rfl, hl, k1⟩; have HL := Box.mk hl; have K1 := Box.mk k1; clear hl k1 C1))
    go_ret
    rw [E.out]
    exact ⟨rfl, HL.out, K1.out⟩
end Go.Proofs.YtdffpbfllekcgaaGreatDoor
