/- Contracts of ordealref09: Lines. -/
import Derived.Test.YtmgipjkdeoelgaaDoorLexT
namespace Go.Proofs.YtmgipjkdeoelgaaDoor
set_option maxRecDepth 100000
open Go.RowKit

theorem info_rline : (Tryd.prog.info? 46).map (fun i => (i.zero, i.size, i.bytes)) = some (some (.agg #[.int .i64 0, .slice none 0 0]), 2, 32) := by kernel_rfl
/-- a row of lines -/
def RLnRow (w : World) (B : Nat) (v : Value) (L : List Ln) : Prop :=
  ∃ X : List (Nat × Value × List Tok), L = X.map lnOf ∧ w.ownsRow B 46 2 v X.length (X.flatMap lnC) ∧ ∀ x ∈ X, RTokRow w B x.2.1 x.2.2
theorem RLnRow.nil (w : World) (B : Nat) : RLnRow w B (.slice none 0 0) [] := ⟨[], rfl, World.ownsRow_nil _ _ _ _, fun x h => by cases h⟩
theorem RLnRow.bel {w w' : World} {B : Nat} {v : Value} {L : List Ln} (h : RLnRow w B v L) (hb : Below w.heap.size w w') : RLnRow w' B v L := by
  obtain ⟨X, e, h1, h2⟩ := h
  exact ⟨X, e, rowBel h1 hb, fun x hx => rowBel (h2 x hx).raw hb⟩
theorem RLnRow.mono {w : World} {B C : Nat} {v : Value} {L : List Ln} (h : RLnRow w B v L) (hC : C ≤ B) : RLnRow w C v L := by
  obtain ⟨X, e, h1, h2⟩ := h
  exact ⟨X, e, rowMono h1 hC, fun x hx => rowMono (h2 x hx).raw hC⟩

theorem rtok_line : (50 : TypeId) ≠ 46 := by decide
/-- one line more -/
theorem RLnRow.push {w w' : World} {B : Nat} {v : Value} {X : List (Nat × Value × List Tok)} (hown : w.ownsRow B 46 2 v X.length (X.flatMap lnC)) (hall : ∀ x ∈ X, RTokRow w B x.2.1 x.2.2) (n : Nat) {u : Value} {ts : List Tok} (hu : RTokRow w B u ts)
    {o : Obj} (hg : (w.alloc o).grownBy w' v.ownBlock) {g cap : Nat} (hown' : w'.ownsRow B 46 2 (.slice (some ⟨g, 0, none⟩) (X.length + 1) cap) (X.length + 1) (X.flatMap lnC ++ [.int .i64 (n : Nat), u])) :
    RLnRow w' B (.slice (some ⟨g, 0, none⟩) (X.length + 1) cap) (X.map lnOf ++ [(n, ts)]) := by
  have keep : ∀ {y us}, RTokRow w B y us → RTokRow w' B y us := fun {y us} h => rowKeep h.raw fun k hk => by
    have hlt := (rowLt h.raw k hk).2
    have e1 := hg.block k (by simp; omega) (fun e => rowApart h.raw hown rtok_line k hk e.symm)
    rw [e1]
    exact ((Below.refl w.heap.size w).alloc (Nat.le_refl _) o).block k hlt
  refine ⟨X ++ [(n, u, ts)], by simp [lnOf], ?_, fun x hx => ?_⟩
  · rw [List.length_append, List.flatMap_append]
    exact hown'
  · rcases List.mem_append.1 hx with h | h
    · exact keep (hall x h)
    · simp at h; subst h; exact keep hu

/-- what a row of lines reads -/
theorem RLnRow.at {w : World} {B : Nat} {v : Value} {L : List Ln} (h : RLnRow w B v L) (hL : 0 < L.length) : ∃ g cap, v = .slice (some ⟨g, 0, none⟩) L.length cap ∧ g < w.heap.size ∧ B ≤ g ∧ ∀ i l, L[i]? = some l →
    ∃ u, w.cell? ⟨g, i * 2, none⟩ = some (.int .i64 (l.1 : Nat)) ∧ w.cell? ⟨g, i * 2 + 1, none⟩ = some u ∧ RTokRow w B u l.2 ∧ ∃ p c, u = .slice p l.2.length c := by
  obtain ⟨X, rfl, h1, h2⟩ := h
  rw [List.length_map] at hL
  obtain ⟨g, cap, rfl⟩ := rowSome h1 hL
  have hlt := rowLt h1 g rfl
  refine ⟨g, cap, by rw [List.length_map], hlt.2, hlt.1, fun i l hl => ?_⟩
  rw [List.getElem?_map] at hl
  cases hx : X[i]? with
  | none => rw [hx] at hl; cases hl
  | some x =>
    rw [hx] at hl
    cases hl
    have c0 := flat_at lnC 2 (fun _ => rfl) X i 0 x hx (by decide)
    have c1 := flat_at lnC 2 (fun _ => rfl) X i 1 x hx (by decide)
    have ht := h2 x (List.mem_of_getElem? hx)
    exact ⟨x.2.1, rowAt h1 (show (X.flatMap lnC)[i * 2 + 0]? = _ from c0), rowAt h1 c1, ht, rowSlice ht.raw⟩
theorem RLnRow.slice {w : World} {B : Nat} {v : Value} {L : List Ln} (h : RLnRow w B v L) : ∃ p c, v = .slice p L.length c := by
  obtain ⟨X, rfl, h1, h2⟩ := h
  rw [List.length_map]; exact rowSlice h1

theorem trim_hit {a : List UInt8} {z : Nat} (hz : a.length = z + 1) (h : a.getD z 0 = 13) : Lib.trimSuffix a [13] = a.take z := by
  have hs : Lib.hasSuffix a [13] = true := by
    rw [← Lib.hasSuffix_of_drop]
    have e : a.drop z = [13] := by
      have hg : a[z]? = some 13 := by
        rw [List.getElem?_eq_getElem (by omega)]
        have : a.getD z 0 = a[z]'(by omega) := by simp [List.getD, List.getElem?_eq_getElem (show z < a.length by omega)]
        rw [← this, h]
      rw [dropAt hg, List.drop_eq_nil_of_le (by omega)]
    rw [show a.length - ([13] : List UInt8).length = z by simp; omega, e, hz]
    simp
  unfold Lib.trimSuffix
  rw [if_pos hs, hz]; rfl
theorem trim_miss {a : List UInt8} (h : a = [] ∨ ∃ z, a.length = z + 1 ∧ a.getD z 0 ≠ 13) : Lib.trimSuffix a [13] = a := by
  have hs : Lib.hasSuffix a [13] = false := by
    rw [← Lib.hasSuffix_of_drop]
    rcases h with rfl | ⟨z, hz, h⟩
    · rfl
    · have hg : a[z]? = some (a.getD z 0) := by
        rw [List.getElem?_eq_getElem (by omega)]
        simp [List.getD, List.getElem?_eq_getElem (show z < a.length by omega)]
      have e : a.drop z = [a.getD z 0] := by rw [dropAt hg, List.drop_eq_nil_of_le (by omega)]
      rw [show a.length - ([13] : List UInt8).length = z by simp; omega, e, Bool.and_eq_false_iff]
      right
      rw [beq_eq_false_iff_ne]
      exact fun h2 => h (List.cons.inj h2).1
  unfold Lib.trimSuffix
  rw [if_neg (by rw [hs]; decide)]

/-- what is left of the text: pieces, the first of which has begun -/
def RestP (l : List UInt8) (D : List Ln) (q k n : Nat) (acc : List UInt8) : Prop := ∃ R, linesL l = pre D (linL q R) ∧ (k ≤ n → R = pcsW acc (l.drop k)) ∧ (k = n + 1 → R = [])

/-- what the reference's Lines answers -/
def RLinesP (s : List UInt8) (w : World) (e : Ending) (w' : World) : Prop :=
  (if 2000 < s.length then e = .returned (.tuple #[.slice none 0 0, .int .i64 0, .int .i64 17])
    else if (linesL s).1 = 0 then ∃ v, e = .returned (.tuple #[v, .int .i64 0, .int .i64 0]) ∧ RLnRow w' w.heap.size v (linesL s).2
    else e = .returned (.tuple #[.slice none 0 0, .int .i64 ((linesL s).1 : Nat), .int .i64 10])) ∧ Below w.heap.size w w'

set_option maxHeartbeats 12800000 in
theorem rlines_any (T : ByteArray) (hT : T.size ≤ 1000000) (w : World) :
    Calls Tryd.prog 7 #[.string T] w (RLinesP (by' T) w) := by
  obtain ⟨i0, hi, hz0, hz1, hz2⟩ := info_parts info_rline
  by_cases hbig : 2000 < T.size
  · go_enter Tryd.func7, Tryd.ntmps7
    go_wp2
    refine bodyPost_ret (v := .tuple #[.slice none 0 0, .int .i64 0, .int .i64 17]) (by simp [results, go_sem]) rfl ⟨?_, Below.refl _ _⟩
    rw [by_size, if_pos hbig]
  · obtain ⟨l, hl⟩ : ∃ l, l = by' T := ⟨_, rfl⟩
    have HS : Bx (by' T = l) := ⟨hl.symm⟩
    have HLL : Bx (l.length = T.size) := ⟨by rw [hl, by_size]⟩
    rw [← hl]
    clear hl
    go_enter Tryd.func7, Tryd.ntmps7
    go_wp2_with fail
    go_loopw [5, 6, 7, 8] (fun v n s i wr => ∃ (k q : Nat) (S : ByteArray) (D : List Ln), i = .int .i64 (k : Int) ∧ n = .int .i64 (q : Int) ∧ s = .string S ∧ k ≤ T.size + 1 ∧ q ≤ k + 1 ∧ 1 ≤ q ∧ S.size ≤ k ∧ D.length ≤ k ∧ Bx (RestP l D q k T.size (by' S)) ∧ Bx (RLnRow wr w.heap.size v D) ∧ Bx (Below w.heap.size w wr) ∧ ∃ p m c, v = .slice p m c)
      (fun _ _ _ i _ => T.size + 1 - (intOf i).toNat)
    case atStart => exact ⟨0, 1, ⟨#[]⟩, [], rfl, rfl, rfl, by omega, by omega, by omega, Nat.zero_le _, by simp, ⟨pcs l, (pre_nil (fun h => (linL_err _ _ h).1)).symm, fun _ => by rw [List.drop_zero]; exact (pcsW_start l).symm, fun h => by omega⟩, ⟨⟨[], rfl, World.ownsRow_lit w #[] 0 (Nat.le_refl _) (by decide) rfl, fun x h => by cases h⟩⟩, ⟨(Below.refl _ _).alloc (Nat.le_refl _) _⟩, _, _, _, rfl⟩
    case round =>
      obtain ⟨k, q, S, D, rfl, rfl, rfl, hk, hq, hq1, hS, hDk, hli, hrow, hb, p, m0, c0, rfl⟩ := hrel
      by_cases hkn : k ≤ T.size
      · obtain ⟨R, hlin, hR1, _⟩ := hli.out
        have hR := hR1 hkn
        clear hR1 hli
        by_cases hmid : k < T.size ∧ l.getD k 0 ≠ 10
        · obtain ⟨hk1, hne⟩ := hmid
          have hix := fun W => str_at hk1 W
          rw [HS.out] at hix
          obtain ⟨c, hc⟩ : ∃ c, l[k]? = some c := ⟨_, List.getElem?_eq_getElem (show k < l.length by rw [HLL.out]; exact hk1)⟩
          have hg : l.getD k 0 = c := by simp [List.getD, hc]
          rw [hg] at hix hne
          have ex : T.extract k (k + 1) = st [c] := by rw [part_st, HS.out, dropAt hc]; simp
          have hap : S ++ st [c] = st (by' S ++ [c]) := by
            conv => lhs; rw [← st_by S, st_app]
          have hz : (st [c]).size = 1 := by rw [st_size]; rfl
          obtain ⟨C, hC⟩ : ∃ C, C = st [c] := ⟨_, rfl⟩
          rw [← hC] at ex hap hz
          rw [dropAt hc, pcsW_ne _ _ hne] at hR
          have q10 : ((c.toNat : Int) == 10) = false := by
            rw [beq_eq_false_iff_ne]; exact fun e => hne (UInt8.toNat_inj.1 (by show c.toNat = 10; omega))
          have hsz : (S ++ C).size = S.size + 1 := by rw [hap, st_size, List.length_append, by_size]; rfl
          have RR : Bx (RestP l D q (k + 1) T.size (by' (S ++ C))) := ⟨R, hlin, fun _ => by rw [hR, hap, by_st], fun h => by omega⟩
          have HSZ := Bx.mk hsz
          clear hlin hR hap hC hc hg hne hsz
          generalize c.toNat = n at *
          go_wp2
          go_roundw
          case rel => exact ⟨k + 1, q, S ++ C, D, by go_num, rfl, rfl, by omega, by omega, hq1, by rw [HSZ.out]; omega, by omega, RR, hrow, hb, _, _, _, rfl⟩
          case measure => simp [intOf]; omega
        · have hR2 : ∃ R', R = by' S :: R' ∧ (k + 1 ≤ T.size → R' = pcsW [] (l.drop (k + 1))) ∧ (k + 1 = T.size + 1 → R' = []) := by
            by_cases hk1 : k < T.size
            · have h10 : l.getD k 0 = 10 := by
                by_cases h : l.getD k 0 = 10
                · exact h
                · exact absurd ⟨hk1, h⟩ hmid
              obtain ⟨c, hc⟩ : ∃ c, l[k]? = some c := ⟨_, List.getElem?_eq_getElem (show k < l.length by rw [HLL.out]; exact hk1)⟩
              have hg : l.getD k 0 = c := by simp [List.getD, hc]
              obtain rfl : c = 10 := hg.symm.trans h10
              rw [dropAt hc, pcsW_nl] at hR
              exact ⟨_, hR, fun _ => (pcsW_start _).symm, fun h => by omega⟩
            · rw [List.drop_eq_nil_of_le (by rw [HLL.out]; omega), pcsW_end] at hR
              exact ⟨[], hR, fun h => by omega, fun _ => rfl⟩
          obtain ⟨R', hRR, hR'⟩ := hR2
          rw [hRR] at hlin
          have hway : (k < T.size ∧ ∀ W, (Instr.index 9 (.string T) (.int .i64 (k : Int))).run Tryd.prog W = .ok (.int .u8 10) W) ∨ k = T.size := by
            by_cases hk1 : k < T.size
            · refine .inl ⟨hk1, fun W => ?_⟩
              have h10 : l.getD k 0 = 10 := by
                by_cases h : l.getD k 0 = 10
                · exact h
                · exact absurd ⟨hk1, h⟩ hmid
              have e := str_at hk1 W
              rw [HS.out, h10] at e; exact e
            · exact .inr (by omega)
          obtain ⟨T2, hT2⟩ : ∃ T2, T2 = st (Lib.trimSuffix (by' S) [13]) := ⟨_, rfl⟩
          have htrim : (S.size = 0 ∧ T2 = S) ∨ (∃ z n : Nat, S.size = z + 1 ∧ ((n : Int) == 13) = false ∧ (∀ W, (Instr.index 9 (.string S) (.int .i64 (z : Int))).run Tryd.prog W = .ok (.int .u8 (n : Nat)) W) ∧ T2 = S) ∨
              (∃ z : Nat, S.size = z + 1 ∧ (∀ W, (Instr.index 9 (.string S) (.int .i64 (z : Int))).run Tryd.prog W = .ok (.int .u8 13) W) ∧ S.extract 0 z = T2) := by
            by_cases h0 : S.size = 0
            · refine .inl ⟨h0, ?_⟩
              rw [hT2, trim_miss (.inl (List.length_eq_zero_iff.1 (by rw [by_size]; exact h0))), st_by]
            · obtain ⟨z, hz⟩ : ∃ z, S.size = z + 1 := ⟨S.size - 1, by omega⟩
              have hzl : (by' S).length = z + 1 := by rw [by_size]; exact hz
              have e := fun W => str_at (show z < S.size by omega) W
              by_cases h13 : (by' S).getD z 0 = 13
              · refine .inr (.inr ⟨z, hz, fun W => by have := e W; rw [h13] at this; exact this, ?_⟩)
                rw [hT2, trim_hit hzl h13, part_st]; simp
              · refine .inr (.inl ⟨z, _, hz, ?_, fun W => e W, ?_⟩)
                · rw [beq_eq_false_iff_ne]
                  exact fun e => h13 (UInt8.toNat_inj.1 (by show ((by' S).getD z 0).toNat = 13; omega))
                · rw [hT2, trim_miss (.inr ⟨z, hzl, h13⟩), st_by]
          have htl := Lib.trimSuffix_le (by' S) [13]
          rw [by_size] at htl
          have ct := fun W => rtokens_any T2 (by rw [hT2, st_size]; omega) W
          have htc : toksC (by' T2) = toks (bareL (by' S)) := by rw [hT2, by_st, bareL_note]; rfl
          clear hT2 htl hmid hR hRR
          cases ht : toks (bareL (by' S)) with
          | none =>
            rw [linL_bad ht] at hlin
            have hq0 : q ≠ 0 := by omega
            have e : linesL l = (q, []) := by rw [hlin]; unfold pre; rw [if_neg hq0]
            have ct2 : ∀ W, Calls Tryd.prog 13 #[.string T2] W fun e w' => e = .returned (.tuple #[.slice none 0 0, .bool false]) ∧ Below W.heap.size W w' := fun W => by
              have c := ct W
              unfold RTokP at c
              rw [htc, ht] at c; exact c
            have E := Bx.mk e; have CT := Bx.mk ct2; have HQ0 := Bx.mk hq0
            clear e ct ct2 htc ht hlin hq0 hR'
            have hT2000 : ¬ 2000 < T.size := hbig
            rcases hway with ⟨hk1, hkx⟩ | rfl
            · rcases htrim with ⟨hs0, rfl⟩ | ⟨z, n, hsz, hn13, hsx, rfl⟩ | ⟨z, hsz, hsx, hse⟩
              · skip
                go_wp2_with (go_at_call 13; ((with_reducible refine (CT.out _).mono ?_); rintro e w3 ⟨rfl, b3⟩; have B3 := Bx.mk (bel' hb.out hb.out.size b3); clear b3))
                refine bodyPost_ret (v := .tuple #[.slice none 0 0, .int .i64 (q : Nat), .int .i64 10]) (by simp [results, go_sem]) rfl ⟨?_, B3.out⟩
                rw [HLL.out, if_neg hbig, E.out, if_neg HQ0.out]
              · have hzz : (T2.size : Int) - 1 = (z : Int) := by omega
                go_wp2_with (go_at_call 13; ((with_reducible refine (CT.out _).mono ?_); rintro e w3 ⟨rfl, b3⟩; have B3 := Bx.mk (bel' hb.out hb.out.size b3); clear b3))
                refine bodyPost_ret (v := .tuple #[.slice none 0 0, .int .i64 (q : Nat), .int .i64 10]) (by simp [results, go_sem]) rfl ⟨?_, B3.out⟩
                rw [HLL.out, if_neg hbig, E.out, if_neg HQ0.out]
              · have hzz : (S.size : Int) - 1 = (z : Int) := by omega
                go_wp2_with (go_at_call 13; ((with_reducible refine (CT.out _).mono ?_); rintro e w3 ⟨rfl, b3⟩; have B3 := Bx.mk (bel' hb.out hb.out.size b3); clear b3))
                refine bodyPost_ret (v := .tuple #[.slice none 0 0, .int .i64 (q : Nat), .int .i64 10]) (by simp [results, go_sem]) rfl ⟨?_, B3.out⟩
                rw [HLL.out, if_neg hbig, E.out, if_neg HQ0.out]
            · rcases htrim with ⟨hs0, rfl⟩ | ⟨z, n, hsz, hn13, hsx, rfl⟩ | ⟨z, hsz, hsx, hse⟩
              · skip
                go_wp2_with (go_at_call 13; ((with_reducible refine (CT.out _).mono ?_); rintro e w3 ⟨rfl, b3⟩; have B3 := Bx.mk (bel' hb.out hb.out.size b3); clear b3))
                refine bodyPost_ret (v := .tuple #[.slice none 0 0, .int .i64 (q : Nat), .int .i64 10]) (by simp [results, go_sem]) rfl ⟨?_, B3.out⟩
                rw [HLL.out, if_neg hbig, E.out, if_neg HQ0.out]
              · have hzz : (T2.size : Int) - 1 = (z : Int) := by omega
                go_wp2_with (go_at_call 13; ((with_reducible refine (CT.out _).mono ?_); rintro e w3 ⟨rfl, b3⟩; have B3 := Bx.mk (bel' hb.out hb.out.size b3); clear b3))
                refine bodyPost_ret (v := .tuple #[.slice none 0 0, .int .i64 (q : Nat), .int .i64 10]) (by simp [results, go_sem]) rfl ⟨?_, B3.out⟩
                rw [HLL.out, if_neg hbig, E.out, if_neg HQ0.out]
              · have hzz : (S.size : Int) - 1 = (z : Int) := by omega
                go_wp2_with (go_at_call 13; ((with_reducible refine (CT.out _).mono ?_); rintro e w3 ⟨rfl, b3⟩; have B3 := Bx.mk (bel' hb.out hb.out.size b3); clear b3))
                refine bodyPost_ret (v := .tuple #[.slice none 0 0, .int .i64 (q : Nat), .int .i64 10]) (by simp [results, go_sem]) rfl ⟨?_, B3.out⟩
                rw [HLL.out, if_neg hbig, E.out, if_neg HQ0.out]
          | some ts =>
            rw [linL_good ht, pre_pre] at hlin
            have ct2 : ∀ W, Calls Tryd.prog 13 #[.string T2] W fun e w' => (∃ v, e = .returned (.tuple #[v, .bool true]) ∧ RTokRow w' W.heap.size v ts) ∧ Below W.heap.size W w' := fun W => by
              have c := ct W
              unfold RTokP at c
              rw [htc, ht] at c; exact c
            have RR0 : Bx (RestP l (D ++ if ts = [] then [] else [(q, ts)]) (q + 1) (k + 1) T.size (by' ⟨#[]⟩)) := ⟨R', hlin, hR'.1, hR'.2⟩
            have CT := Bx.mk ct2
            clear ct ct2 htc ht hlin hR'
            by_cases h0 : ts = []
            · subst h0
              have RR : Bx (RestP l D (q + 1) (k + 1) T.size (by' ⟨#[]⟩)) := ⟨by have := RR0.out; rwa [if_pos rfl, List.append_nil] at this⟩
              clear RR0
              rcases hway with ⟨hk1, hkx⟩ | rfl
              · rcases htrim with ⟨hs0, rfl⟩ | ⟨z, n, hsz, hn13, hsx, rfl⟩ | ⟨z, hsz, hsx, hse⟩
                · skip
                  go_wp2_with (go_at_call 13; ((with_reducible refine (CT.out _).mono ?_); rintro e w3 ⟨⟨v, rfl, hr⟩, b3⟩; obtain ⟨qq, cq, rfl⟩ := rowSlice hr.raw; have R3 := Bx.mk (hrow.out.bel b3); have B3 := Bx.mk (bel' hb.out hb.out.size b3); clear b3 hr))
                  go_roundw
                  case rel => exact ⟨_, q + 1, ⟨#[]⟩, D, by first | rfl | go_num, by go_num, rfl, by omega, by omega, by omega, Nat.zero_le _, by omega, RR, R3, B3, _, _, _, rfl⟩
                  case measure => simp [intOf] <;> omega
                · have hzz : (T2.size : Int) - 1 = (z : Int) := by omega
                  go_wp2_with (go_at_call 13; ((with_reducible refine (CT.out _).mono ?_); rintro e w3 ⟨⟨v, rfl, hr⟩, b3⟩; obtain ⟨qq, cq, rfl⟩ := rowSlice hr.raw; have R3 := Bx.mk (hrow.out.bel b3); have B3 := Bx.mk (bel' hb.out hb.out.size b3); clear b3 hr))
                  go_roundw
                  case rel => exact ⟨_, q + 1, ⟨#[]⟩, D, by first | rfl | go_num, by go_num, rfl, by omega, by omega, by omega, Nat.zero_le _, by omega, RR, R3, B3, _, _, _, rfl⟩
                  case measure => simp [intOf] <;> omega
                · have hzz : (S.size : Int) - 1 = (z : Int) := by omega
                  go_wp2_with (go_at_call 13; ((with_reducible refine (CT.out _).mono ?_); rintro e w3 ⟨⟨v, rfl, hr⟩, b3⟩; obtain ⟨qq, cq, rfl⟩ := rowSlice hr.raw; have R3 := Bx.mk (hrow.out.bel b3); have B3 := Bx.mk (bel' hb.out hb.out.size b3); clear b3 hr))
                  go_roundw
                  case rel => exact ⟨_, q + 1, ⟨#[]⟩, D, by first | rfl | go_num, by go_num, rfl, by omega, by omega, by omega, Nat.zero_le _, by omega, RR, R3, B3, _, _, _, rfl⟩
                  case measure => simp [intOf] <;> omega
              · rcases htrim with ⟨hs0, rfl⟩ | ⟨z, n, hsz, hn13, hsx, rfl⟩ | ⟨z, hsz, hsx, hse⟩
                · skip
                  go_wp2_with (go_at_call 13; ((with_reducible refine (CT.out _).mono ?_); rintro e w3 ⟨⟨v, rfl, hr⟩, b3⟩; obtain ⟨qq, cq, rfl⟩ := rowSlice hr.raw; have R3 := Bx.mk (hrow.out.bel b3); have B3 := Bx.mk (bel' hb.out hb.out.size b3); clear b3 hr))
                  go_roundw
                  case rel => exact ⟨_, q + 1, ⟨#[]⟩, D, by first | rfl | go_num, by go_num, rfl, by omega, by omega, by omega, Nat.zero_le _, by omega, RR, R3, B3, _, _, _, rfl⟩
                  case measure => simp [intOf] <;> omega
                · have hzz : (T2.size : Int) - 1 = (z : Int) := by omega
                  go_wp2_with (go_at_call 13; ((with_reducible refine (CT.out _).mono ?_); rintro e w3 ⟨⟨v, rfl, hr⟩, b3⟩; obtain ⟨qq, cq, rfl⟩ := rowSlice hr.raw; have R3 := Bx.mk (hrow.out.bel b3); have B3 := Bx.mk (bel' hb.out hb.out.size b3); clear b3 hr))
                  go_roundw
                  case rel => exact ⟨_, q + 1, ⟨#[]⟩, D, by first | rfl | go_num, by go_num, rfl, by omega, by omega, by omega, Nat.zero_le _, by omega, RR, R3, B3, _, _, _, rfl⟩
                  case measure => simp [intOf] <;> omega
                · have hzz : (S.size : Int) - 1 = (z : Int) := by omega
                  go_wp2_with (go_at_call 13; ((with_reducible refine (CT.out _).mono ?_); rintro e w3 ⟨⟨v, rfl, hr⟩, b3⟩; obtain ⟨qq, cq, rfl⟩ := rowSlice hr.raw; have R3 := Bx.mk (hrow.out.bel b3); have B3 := Bx.mk (bel' hb.out hb.out.size b3); clear b3 hr))
                  go_roundw
                  case rel => exact ⟨_, q + 1, ⟨#[]⟩, D, by first | rfl | go_num, by go_num, rfl, by omega, by omega, by omega, Nat.zero_le _, by omega, RR, R3, B3, _, _, _, rfl⟩
                  case measure => simp [intOf] <;> omega
            · have hpos : 0 < ts.length := by
                cases ts with
                | nil => exact absurd rfl h0
                | cons _ _ => simp
              obtain ⟨X, hX, hown, hall⟩ := hrow.out
              have hXl : X.length ≤ k := by rw [hX, List.length_map] at hDk; exact hDk
              have RR : Bx (RestP l (X.map lnOf ++ [(q, ts)]) (q + 1) (k + 1) T.size (by' ⟨#[]⟩)) := ⟨by have := RR0.out; rwa [if_neg h0, hX] at this⟩
              clear RR0
              have HO := Bx.mk hown; have HA := Bx.mk hall
              clear hown hall hX h0 hrow hDk
              rcases hway with ⟨hk1, hkx⟩ | rfl
              · rcases htrim with ⟨hs0, rfl⟩ | ⟨z, n, hsz, hn13, hsx, rfl⟩ | ⟨z, hsz, hsx, hse⟩
                · skip
                  go_wp2_with (first
                    | (go_at_call 13; ((with_reducible refine (CT.out _).mono ?_); rintro e w3 ⟨⟨v, rfl, hr⟩, b3⟩; obtain ⟨qq, cq, rfl⟩ := rowSlice hr.raw; have HRW := Bx.mk hr; have B3 := Bx.mk b3; clear b3 hr))
                    | (at_builtin; refine wpList_append_lies _ rfl (.tmp 65) (.tmp 69) 27 rfl w.heap.size 46 i0 _ 2 32 Tryd.underlying27 hi hz0 hz1 hz2 rfl (by omega) _ X.length (X.flatMap lnC) rfl ((rowBel HO.out B3.out).alloc _) ⟨w3.heap.size, 0, none⟩ 1 1 [.int .i64 (q : Nat), .slice qq ts.length cq] rfl rfl (World.news_of_block (cs := #[.int .i64 (q : Nat), .slice qq ts.length cq]) (t := 46) (fr := (0, 0)) (heap_alloc_new _ _)) (by simp [Value.oneCell']) (by omega) (by unfold maxLen; omega) (by omega) (by have := hb.out.size; have := B3.out.size; simp; omega) (w3.heap.size + 1) (by simp) ?_; intro g cap w4 hown3 hgrow hat hlt3; have B4 : Bx (Below w.heap.size w w4) := ⟨((bel' hb.out hb.out.size B3.out).alloc (by have := hb.out.size; have := B3.out.size; omega) _).grown hgrow (by have := hb.out.size; have := B3.out.size; simp; omega) (fun k hk => (rowLt HO.out k hk).1)⟩; have hpush := RLnRow.push (rowBel HO.out B3.out) (fun x hx => rowBel (HA.out x hx).raw B3.out) q (rowMono HRW.out.raw (by have := hb.out.size; omega)) hgrow hown3; have PU := Bx.mk hpush; clear hown3 hgrow hat hlt3 hpush))
                  go_roundw
                  case rel => exact ⟨_, q + 1, ⟨#[]⟩, X.map lnOf ++ [(q, ts)], by first | rfl | go_num, by go_num, rfl, by omega, by omega, by omega, Nat.zero_le _, by simp; omega, RR, PU, B4, _, _, _, rfl⟩
                  case measure => simp [intOf] <;> omega
                · have hzz : (T2.size : Int) - 1 = (z : Int) := by omega
                  go_wp2_with (first
                    | (go_at_call 13; ((with_reducible refine (CT.out _).mono ?_); rintro e w3 ⟨⟨v, rfl, hr⟩, b3⟩; obtain ⟨qq, cq, rfl⟩ := rowSlice hr.raw; have HRW := Bx.mk hr; have B3 := Bx.mk b3; clear b3 hr))
                    | (at_builtin; refine wpList_append_lies _ rfl (.tmp 65) (.tmp 69) 27 rfl w.heap.size 46 i0 _ 2 32 Tryd.underlying27 hi hz0 hz1 hz2 rfl (by omega) _ X.length (X.flatMap lnC) rfl ((rowBel HO.out B3.out).alloc _) ⟨w3.heap.size, 0, none⟩ 1 1 [.int .i64 (q : Nat), .slice qq ts.length cq] rfl rfl (World.news_of_block (cs := #[.int .i64 (q : Nat), .slice qq ts.length cq]) (t := 46) (fr := (0, 0)) (heap_alloc_new _ _)) (by simp [Value.oneCell']) (by omega) (by unfold maxLen; omega) (by omega) (by have := hb.out.size; have := B3.out.size; simp; omega) (w3.heap.size + 1) (by simp) ?_; intro g cap w4 hown3 hgrow hat hlt3; have B4 : Bx (Below w.heap.size w w4) := ⟨((bel' hb.out hb.out.size B3.out).alloc (by have := hb.out.size; have := B3.out.size; omega) _).grown hgrow (by have := hb.out.size; have := B3.out.size; simp; omega) (fun k hk => (rowLt HO.out k hk).1)⟩; have hpush := RLnRow.push (rowBel HO.out B3.out) (fun x hx => rowBel (HA.out x hx).raw B3.out) q (rowMono HRW.out.raw (by have := hb.out.size; omega)) hgrow hown3; have PU := Bx.mk hpush; clear hown3 hgrow hat hlt3 hpush))
                  go_roundw
                  case rel => exact ⟨_, q + 1, ⟨#[]⟩, X.map lnOf ++ [(q, ts)], by first | rfl | go_num, by go_num, rfl, by omega, by omega, by omega, Nat.zero_le _, by simp; omega, RR, PU, B4, _, _, _, rfl⟩
                  case measure => simp [intOf] <;> omega
                · have hzz : (S.size : Int) - 1 = (z : Int) := by omega
                  go_wp2_with (first
                    | (go_at_call 13; ((with_reducible refine (CT.out _).mono ?_); rintro e w3 ⟨⟨v, rfl, hr⟩, b3⟩; obtain ⟨qq, cq, rfl⟩ := rowSlice hr.raw; have HRW := Bx.mk hr; have B3 := Bx.mk b3; clear b3 hr))
                    | (at_builtin; refine wpList_append_lies _ rfl (.tmp 65) (.tmp 69) 27 rfl w.heap.size 46 i0 _ 2 32 Tryd.underlying27 hi hz0 hz1 hz2 rfl (by omega) _ X.length (X.flatMap lnC) rfl ((rowBel HO.out B3.out).alloc _) ⟨w3.heap.size, 0, none⟩ 1 1 [.int .i64 (q : Nat), .slice qq ts.length cq] rfl rfl (World.news_of_block (cs := #[.int .i64 (q : Nat), .slice qq ts.length cq]) (t := 46) (fr := (0, 0)) (heap_alloc_new _ _)) (by simp [Value.oneCell']) (by omega) (by unfold maxLen; omega) (by omega) (by have := hb.out.size; have := B3.out.size; simp; omega) (w3.heap.size + 1) (by simp) ?_; intro g cap w4 hown3 hgrow hat hlt3; have B4 : Bx (Below w.heap.size w w4) := ⟨((bel' hb.out hb.out.size B3.out).alloc (by have := hb.out.size; have := B3.out.size; omega) _).grown hgrow (by have := hb.out.size; have := B3.out.size; simp; omega) (fun k hk => (rowLt HO.out k hk).1)⟩; have hpush := RLnRow.push (rowBel HO.out B3.out) (fun x hx => rowBel (HA.out x hx).raw B3.out) q (rowMono HRW.out.raw (by have := hb.out.size; omega)) hgrow hown3; have PU := Bx.mk hpush; clear hown3 hgrow hat hlt3 hpush))
                  go_roundw
                  case rel => exact ⟨_, q + 1, ⟨#[]⟩, X.map lnOf ++ [(q, ts)], by first | rfl | go_num, by go_num, rfl, by omega, by omega, by omega, Nat.zero_le _, by simp; omega, RR, PU, B4, _, _, _, rfl⟩
                  case measure => simp [intOf] <;> omega
              · rcases htrim with ⟨hs0, rfl⟩ | ⟨z, n, hsz, hn13, hsx, rfl⟩ | ⟨z, hsz, hsx, hse⟩
                · skip
                  go_wp2_with (first
                    | (go_at_call 13; ((with_reducible refine (CT.out _).mono ?_); rintro e w3 ⟨⟨v, rfl, hr⟩, b3⟩; obtain ⟨qq, cq, rfl⟩ := rowSlice hr.raw; have HRW := Bx.mk hr; have B3 := Bx.mk b3; clear b3 hr))
                    | (at_builtin; refine wpList_append_lies _ rfl (.tmp 65) (.tmp 69) 27 rfl w.heap.size 46 i0 _ 2 32 Tryd.underlying27 hi hz0 hz1 hz2 rfl (by omega) _ X.length (X.flatMap lnC) rfl ((rowBel HO.out B3.out).alloc _) ⟨w3.heap.size, 0, none⟩ 1 1 [.int .i64 (q : Nat), .slice qq ts.length cq] rfl rfl (World.news_of_block (cs := #[.int .i64 (q : Nat), .slice qq ts.length cq]) (t := 46) (fr := (0, 0)) (heap_alloc_new _ _)) (by simp [Value.oneCell']) (by omega) (by unfold maxLen; omega) (by omega) (by have := hb.out.size; have := B3.out.size; simp; omega) (w3.heap.size + 1) (by simp) ?_; intro g cap w4 hown3 hgrow hat hlt3; have B4 : Bx (Below w.heap.size w w4) := ⟨((bel' hb.out hb.out.size B3.out).alloc (by have := hb.out.size; have := B3.out.size; omega) _).grown hgrow (by have := hb.out.size; have := B3.out.size; simp; omega) (fun k hk => (rowLt HO.out k hk).1)⟩; have hpush := RLnRow.push (rowBel HO.out B3.out) (fun x hx => rowBel (HA.out x hx).raw B3.out) q (rowMono HRW.out.raw (by have := hb.out.size; omega)) hgrow hown3; have PU := Bx.mk hpush; clear hown3 hgrow hat hlt3 hpush))
                  go_roundw
                  case rel => exact ⟨_, q + 1, ⟨#[]⟩, X.map lnOf ++ [(q, ts)], by first | rfl | go_num, by go_num, rfl, by omega, by omega, by omega, Nat.zero_le _, by simp; omega, RR, PU, B4, _, _, _, rfl⟩
                  case measure => simp [intOf] <;> omega
                · have hzz : (T2.size : Int) - 1 = (z : Int) := by omega
                  go_wp2_with (first
                    | (go_at_call 13; ((with_reducible refine (CT.out _).mono ?_); rintro e w3 ⟨⟨v, rfl, hr⟩, b3⟩; obtain ⟨qq, cq, rfl⟩ := rowSlice hr.raw; have HRW := Bx.mk hr; have B3 := Bx.mk b3; clear b3 hr))
                    | (at_builtin; refine wpList_append_lies _ rfl (.tmp 65) (.tmp 69) 27 rfl w.heap.size 46 i0 _ 2 32 Tryd.underlying27 hi hz0 hz1 hz2 rfl (by omega) _ X.length (X.flatMap lnC) rfl ((rowBel HO.out B3.out).alloc _) ⟨w3.heap.size, 0, none⟩ 1 1 [.int .i64 (q : Nat), .slice qq ts.length cq] rfl rfl (World.news_of_block (cs := #[.int .i64 (q : Nat), .slice qq ts.length cq]) (t := 46) (fr := (0, 0)) (heap_alloc_new _ _)) (by simp [Value.oneCell']) (by omega) (by unfold maxLen; omega) (by omega) (by have := hb.out.size; have := B3.out.size; simp; omega) (w3.heap.size + 1) (by simp) ?_; intro g cap w4 hown3 hgrow hat hlt3; have B4 : Bx (Below w.heap.size w w4) := ⟨((bel' hb.out hb.out.size B3.out).alloc (by have := hb.out.size; have := B3.out.size; omega) _).grown hgrow (by have := hb.out.size; have := B3.out.size; simp; omega) (fun k hk => (rowLt HO.out k hk).1)⟩; have hpush := RLnRow.push (rowBel HO.out B3.out) (fun x hx => rowBel (HA.out x hx).raw B3.out) q (rowMono HRW.out.raw (by have := hb.out.size; omega)) hgrow hown3; have PU := Bx.mk hpush; clear hown3 hgrow hat hlt3 hpush))
                  go_roundw
                  case rel => exact ⟨_, q + 1, ⟨#[]⟩, X.map lnOf ++ [(q, ts)], by first | rfl | go_num, by go_num, rfl, by omega, by omega, by omega, Nat.zero_le _, by simp; omega, RR, PU, B4, _, _, _, rfl⟩
                  case measure => simp [intOf] <;> omega
                · have hzz : (S.size : Int) - 1 = (z : Int) := by omega
                  go_wp2_with (first
                    | (go_at_call 13; ((with_reducible refine (CT.out _).mono ?_); rintro e w3 ⟨⟨v, rfl, hr⟩, b3⟩; obtain ⟨qq, cq, rfl⟩ := rowSlice hr.raw; have HRW := Bx.mk hr; have B3 := Bx.mk b3; clear b3 hr))
                    | (at_builtin; refine wpList_append_lies _ rfl (.tmp 65) (.tmp 69) 27 rfl w.heap.size 46 i0 _ 2 32 Tryd.underlying27 hi hz0 hz1 hz2 rfl (by omega) _ X.length (X.flatMap lnC) rfl ((rowBel HO.out B3.out).alloc _) ⟨w3.heap.size, 0, none⟩ 1 1 [.int .i64 (q : Nat), .slice qq ts.length cq] rfl rfl (World.news_of_block (cs := #[.int .i64 (q : Nat), .slice qq ts.length cq]) (t := 46) (fr := (0, 0)) (heap_alloc_new _ _)) (by simp [Value.oneCell']) (by omega) (by unfold maxLen; omega) (by omega) (by have := hb.out.size; have := B3.out.size; simp; omega) (w3.heap.size + 1) (by simp) ?_; intro g cap w4 hown3 hgrow hat hlt3; have B4 : Bx (Below w.heap.size w w4) := ⟨((bel' hb.out hb.out.size B3.out).alloc (by have := hb.out.size; have := B3.out.size; omega) _).grown hgrow (by have := hb.out.size; have := B3.out.size; simp; omega) (fun k hk => (rowLt HO.out k hk).1)⟩; have hpush := RLnRow.push (rowBel HO.out B3.out) (fun x hx => rowBel (HA.out x hx).raw B3.out) q (rowMono HRW.out.raw (by have := hb.out.size; omega)) hgrow hown3; have PU := Bx.mk hpush; clear hown3 hgrow hat hlt3 hpush))
                  go_roundw
                  case rel => exact ⟨_, q + 1, ⟨#[]⟩, X.map lnOf ++ [(q, ts)], by first | rfl | go_num, by go_num, rfl, by omega, by omega, by omega, Nat.zero_le _, by simp; omega, RR, PU, B4, _, _, _, rfl⟩
                  case measure => simp [intOf] <;> omega
      · obtain rfl : k = T.size + 1 := by omega
        obtain ⟨R, hlin, _, hR⟩ := hli.out
        rw [hR rfl] at hlin
        have e : linesL l = (0, D) := by rw [hlin]; simp [linL, pre]
        have E := Bx.mk e; clear e hlin hR hli
        go_wp2
        refine bodyPost_ret (v := .tuple #[.slice p m0 c0, .int .i64 0, .int .i64 0]) (by simp [results, go_sem]) rfl ⟨?_, hb.out⟩
        rw [HLL.out, if_neg hbig, E.out, if_pos rfl]
        exact ⟨_, rfl, hrow.out⟩
end Go.Proofs.YtmgipjkdeoelgaaDoor
