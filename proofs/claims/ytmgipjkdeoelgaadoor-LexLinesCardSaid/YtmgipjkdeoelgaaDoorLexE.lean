/- Contracts of lex: Lines. -/
import Derived.Test.YtmgipjkdeoelgaaDoorLexD
namespace Go.Proofs.YtmgipjkdeoelgaaDoor
set_option maxRecDepth 100000
open Go.RowKit

theorem info_line : (Tryd.prog.info? 35).map (fun i => (i.zero, i.size, i.bytes)) = some (some (.agg #[.int .i64 0, .slice none 0 0]), 2, 32) := by kernel_rfl
/-- the cells of a line whose tokens lie at v -/
def lnC (x : Nat × Value × List Tok) : List Value := [.int .i64 (x.1 : Nat), x.2.1]
def lnOf (x : Nat × Value × List Tok) : Ln := (x.1, x.2.2)
/-- a row of lines -/
def LnRow (w : World) (B : Nat) (v : Value) (L : List Ln) : Prop :=
  ∃ X : List (Nat × Value × List Tok), L = X.map lnOf ∧ w.ownsRow B 35 2 v X.length (X.flatMap lnC) ∧ ∀ x ∈ X, TokRow w B x.2.1 x.2.2
theorem LnRow.nil (w : World) (B : Nat) : LnRow w B (.slice none 0 0) [] := ⟨[], rfl, World.ownsRow_nil _ _ _ _, fun x h => by cases h⟩
theorem LnRow.bel {w w' : World} {B : Nat} {v : Value} {L : List Ln} (h : LnRow w B v L) (hb : Below w.heap.size w w') : LnRow w' B v L := by
  obtain ⟨X, e, h1, h2⟩ := h
  exact ⟨X, e, rowBel h1 hb, fun x hx => rowBel (h2 x hx).raw hb⟩
theorem LnRow.mono {w : World} {B C : Nat} {v : Value} {L : List Ln} (h : LnRow w B v L) (hC : C ≤ B) : LnRow w C v L := by
  obtain ⟨X, e, h1, h2⟩ := h
  exact ⟨X, e, rowMono h1 hC, fun x hx => rowMono (h2 x hx).raw hC⟩

theorem tok_line : (49 : TypeId) ≠ 35 := by decide
/-- one line more -/
theorem LnRow.push {w w' : World} {B : Nat} {v : Value} {X : List (Nat × Value × List Tok)} (hown : w.ownsRow B 35 2 v X.length (X.flatMap lnC)) (hall : ∀ x ∈ X, TokRow w B x.2.1 x.2.2) (n : Nat) {u : Value} {ts : List Tok} (hu : TokRow w B u ts)
    {o : Obj} (hg : (w.alloc o).grownBy w' v.ownBlock) {g cap : Nat} (hown' : w'.ownsRow B 35 2 (.slice (some ⟨g, 0, none⟩) (X.length + 1) cap) (X.length + 1) (X.flatMap lnC ++ [.int .i64 (n : Nat), u])) :
    LnRow w' B (.slice (some ⟨g, 0, none⟩) (X.length + 1) cap) (X.map lnOf ++ [(n, ts)]) := by
  have keep : ∀ {y us}, TokRow w B y us → TokRow w' B y us := fun {y us} h => rowKeep h.raw fun k hk => by
    have hlt := (rowLt h.raw k hk).2
    have e1 := hg.block k (by simp; omega) (fun e => rowApart h.raw hown tok_line k hk e.symm)
    rw [e1]
    exact ((Below.refl w.heap.size w).alloc (Nat.le_refl _) o).block k hlt
  refine ⟨X ++ [(n, u, ts)], by simp [lnOf], ?_, fun x hx => ?_⟩
  · rw [List.length_append, List.flatMap_append]
    exact hown'
  · rcases List.mem_append.1 hx with h | h
    · exact keep (hall x h)
    · simp at h; subst h; exact keep hu

/-- what Lines answers -/
def LinesP (s : List UInt8) (w : World) (e : Ending) (w' : World) : Prop :=
  (if 2000 < s.length then e = .returned (.tuple #[.slice none 0 0, .int .i64 0, .int .i64 17])
    else if (linesL s).1 = 0 then ∃ v, e = .returned (.tuple #[v, .int .i64 0, .int .i64 0]) ∧ LnRow w' w.heap.size v (linesL s).2
    else e = .returned (.tuple #[.slice none 0 0, .int .i64 ((linesL s).1 : Nat), .int .i64 10])) ∧ Below w.heap.size w w'

theorem dropAt {α : Type} {l : List α} {j : Nat} {a : α} (h : l[j]? = some a) : l.drop j = a :: l.drop (j + 1) := by
  obtain ⟨h', rfl⟩ := List.getElem?_eq_some_iff.1 h
  exact List.drop_eq_getElem_cons h'

set_option maxHeartbeats 1600000 in
theorem lines_any (T : ByteArray) (hT : T.size ≤ 1000000) (w : World) (hL : LibW w) :
    Calls Tryd.prog 6 #[.string T] w (LinesP (by' T) w) := by
  obtain ⟨i0, hi, hz0, hz1, hz2⟩ := info_parts info_line
  obtain ⟨m, hm⟩ := hL.max
  have HL := Bx.mk hL; clear hL
  by_cases hbig : 2000 < T.size
  · go_enter Tryd.func6, Tryd.ntmps6
    go_wp2
    refine bodyPost_ret (v := .tuple #[.slice none 0 0, .int .i64 0, .int .i64 17]) (by simp [results, go_sem]) rfl ⟨?_, Below.refl _ _⟩
    rw [by_size, if_pos hbig]
  · have cs := Tryd.strings_Split T ⟨#[10]⟩ m w (by omega) hm (by decide)
    obtain ⟨PS, hPS⟩ : ∃ PS, PS = Lib.splitB ⟨#[10]⟩ 0 (Lib.countB T ⟨#[10]⟩) T := ⟨_, rfl⟩
    have hpl := Lib.splitB_all ⟨#[10]⟩ (by decide) 0 _ T rfl
    have hpc := splitB_pcs T
    rw [← hPS] at cs hpl hpc
    rw [← hpl] at cs
    have hP : ∀ j, (h : j < PS.length) → (pcs (by' T))[j]? = some (by' PS[j]) := fun j h => by
      simp [← hpc, h]
    have hlen : (pcs (by' T)).length = PS.length := by rw [← hpc, List.length_map]
    have hle : ∀ j, (h : j < PS.length) → (PS[j]).size ≤ T.size := fun j h => by
      rw [← by_size, ← by_size T]
      exact pcs_le _ _ (List.mem_of_getElem? (hP j h))
    have hnum : PS.length ≤ 2001 := by
      rw [← hlen, pcs_length]
      have := List.count_le_length (a := (10 : UInt8)) (l := by' T)
      rw [by_size] at this; omega
    clear hPS hpl hpc
    obtain ⟨N, hN⟩ : ∃ N, N = PS.length := ⟨_, rfl⟩
    obtain ⟨w1, hw1⟩ : ∃ w1, w1 = w.alloc (.cells (PS.map Value.string).toArray 9) := ⟨_, rfl⟩
    have hcell : ∀ j, (h : j < PS.length) → w1.cell? ⟨w.heap.size, j, none⟩ = some (.string PS[j]) := fun j h => by
      rw [hw1, cellOf (heap_alloc_new _ _)]
      simp [h]
    have hs1 : w1.heap.size = w.heap.size + 1 := by rw [hw1]; simp
    have hb1 : Below w.heap.size w w1 := by rw [hw1]; exact (Below.refl _ _).alloc (Nat.le_refl _) _
    rw [← hN] at cs
    have cs : Calls Tryd.prog 10 #[.string T, .string ⟨#[10]⟩] w fun e w' => e = .returned (.slice (some ⟨w.heap.size, 0, none⟩) N N) ∧ w1 = w' := cs.mono fun e w' ⟨h1, h2⟩ => ⟨h1, by rw [hw1, h2]⟩
    have hL1 : LibW w1 := HL.out.below hb1
    have CS := Bx.mk cs; have HC := Bx.mk hcell; have HP := Bx.mk hP; have HLE := Bx.mk hle; have HS1 := Bx.mk hs1; have HB1 := Bx.mk hb1; have HLEN := Bx.mk hlen; have HL1 := Bx.mk hL1; have HN := Bx.mk hN
    have hN2 : N ≤ 2001 := by omega
    clear cs hcell hP hle hs1 hb1 hlen hL1 hw1 hN hnum
    go_enter Tryd.func6, Tryd.ntmps6
    go_wp2_with (go_at_call 10; ((refine CS.out.mono ?_); rintro e w' ⟨rfl, rfl⟩))
    go_loopw [5, 16] (fun v i wr => ∃ (k : Nat) (D : List Ln), i = .int .i64 (k : Int) ∧ k ≤ N ∧ D.length ≤ k ∧ Bx (linesL (by' T) = pre D (linL (k + 1) ((pcs (by' T)).drop k))) ∧ Bx (LnRow wr (w.heap.size + 1) v D) ∧ Bx (Below (w.heap.size + 1) w1 wr) ∧ ∃ p l c, v = .slice p l c)
      (fun _ i _ => N - (intOf i).toNat)
    case atStart => exact ⟨0, [], rfl, by omega, by simp, ⟨by rw [List.drop_zero]; exact (pre_nil (fun h => (linL_err _ _ h).1)).symm⟩, ⟨LnRow.nil _ _⟩, ⟨Below.refl _ _⟩, _, _, _, rfl⟩
    case round =>
      obtain ⟨k, D, rfl, hk, hDk, hli, hrow, hb, p, l, c, rfl⟩ := hrel
      by_cases hkn : k < N
      · have hkp : k < PS.length := by rw [← HN.out]; exact hkn
        have hcell : wr.cell? ⟨w.heap.size, k, none⟩ = some (.string PS[k]) := by
          rw [hb.out.cell (show w.heap.size < w.heap.size + 1 by omega)]; exact HC.out k hkp
        have hdrop : (pcs (by' T)).drop k = by' PS[k] :: (pcs (by' T)).drop (k + 1) := by
          exact dropAt (HP.out k hkp)
        have e := hli.out
        rw [hdrop] at e
        have hPz := HLE.out k hkp
        have cb := fun W h => bare_any PS[k] (by omega) W h
        have hbl := bareL_le (by' PS[k])
        rw [by_size] at hbl
        have csp := fun W h => split_any (st (bareL (by' PS[k]))) (by rw [st_size]; omega) W h
        rw [by_st] at csp
        generalize PS[k] = P at *
        obtain ⟨bl, hblx⟩ : ∃ bl, bl = bareL (by' P) := ⟨_, rfl⟩
        rw [← hblx] at cb csp hbl
        have hLr : LibW wr := HL1.out.below (by rw [HS1.out]; exact hb.out)
        have HLR := Bx.mk hLr
        cases ht : toks bl with
        | none =>
          rw [linL_bad (by rw [← hblx]; exact ht)] at e
          have e : linesL (by' T) = (k + 1, []) := e
          have csp2 : ∀ W, LibW W → Calls Tryd.prog 11 #[.string (st bl)] W fun e w' => e = .returned (.tuple #[.slice none 0 0, .bool false]) ∧ Below W.heap.size W w' := fun W h => by
            have c := csp W h
            unfold SplitP at c
            rw [ht] at c; exact c
          generalize st bl = SB at *
          have E := Bx.mk e; have CB := Bx.mk cb; have CP := Bx.mk csp2
          clear e cb csp csp2 ht hblx hli hdrop hbl hLr
          go_wp2_with (first
            | (go_at_call 12; ((refine (CB.out _ HLR.out).mono ?_); rintro e w2 ⟨rfl, b2⟩; have B2 := Bx.mk b2; clear b2))
            | (go_at_call 11; ((refine (CP.out _ (HLR.out.below B2.out)).mono ?_); rintro e w3 ⟨rfl, b3⟩; have B3 := Bx.mk (bel B2.out b3); clear b3)))
          refine bodyPost_ret (v := .tuple #[.slice none 0 0, .int .i64 ((k + 1 : Nat) : Int), .int .i64 10]) (by simp [results, go_sem]) rfl ⟨?_, ?_⟩
          · rw [by_size, if_neg hbig, E.out, if_neg (by simp)]
          · exact HB1.out.trans ((hb.out.mono (by omega)).trans (B3.out.mono (by have := hb.out.size; rw [HS1.out] at this; omega)))
        | some ts =>
          rw [linL_good (by rw [← hblx]; exact ht), pre_pre] at e
          have csp2 : ∀ W, LibW W → Calls Tryd.prog 11 #[.string (st bl)] W fun e w' => (∃ v, e = .returned (.tuple #[v, .bool true]) ∧ TokRow w' W.heap.size v ts) ∧ Below W.heap.size W w' := fun W h => by
            have c := csp W h
            unfold SplitP at c
            rw [ht] at c; exact c
          generalize st bl = SB at *
          have E := Bx.mk e; have CB := Bx.mk cb; have CP := Bx.mk csp2
          clear e cb csp csp2 ht hblx hli hdrop hbl hLr
          by_cases h0 : ts = []
          · subst h0
            go_wp2_with (first
              | (go_at_call 12; ((refine (CB.out _ HLR.out).mono ?_); rintro e w2 ⟨rfl, b2⟩; have B2 := Bx.mk b2; clear b2))
              | (go_at_call 11; ((refine (CP.out _ (HLR.out.below B2.out)).mono ?_); rintro e w3 ⟨⟨v, rfl, hr⟩, b3⟩; obtain ⟨q, cq, rfl⟩ := rowSlice hr; have B3 := Bx.mk (bel B2.out b3); clear b3 hr)))
            go_roundw
            case rel => exact ⟨k + 1, D, by go_num, by omega, by omega, ⟨by rw [E.out]; simp⟩, ⟨hrow.out.bel B3.out⟩, ⟨hb.out.trans (B3.out.mono (by have := hb.out.size; rw [HS1.out] at this; omega))⟩, _, _, _, rfl⟩
            case measure => simp [intOf]; omega
          · have hpos : 0 < ts.length := by
              cases ts with
              | nil => exact absurd rfl h0
              | cons _ _ => simp
            obtain ⟨X, hX, hown, hall⟩ := hrow.out
            have hXl : X.length ≤ k := by rw [hX, List.length_map] at hDk; exact hDk
            have hsz : w.heap.size + 1 ≤ wr.heap.size := by have := hb.out.size; rw [HS1.out] at this; exact this
            have HO := Bx.mk hown; have HA := Bx.mk hall; have HX := Bx.mk hX; have H0 := Bx.mk h0; have HSZ := Bx.mk hsz
            clear hown hall hX h0 hrow hDk hsz
            go_wp2_with (first
              | (go_at_call 12; ((refine (CB.out _ HLR.out).mono ?_); rintro e w2 ⟨rfl, b2⟩; have B2 := Bx.mk b2; clear b2))
              | (go_at_call 11; ((refine (CP.out _ (HLR.out.below B2.out)).mono ?_); rintro e w3 ⟨⟨v, rfl, hr⟩, b3⟩; obtain ⟨q, cq, rfl⟩ := rowSlice hr; have HR := Bx.mk hr; have B3 := Bx.mk (bel B2.out b3); clear b3 hr))
              | (at_builtin; refine wpList_append_lies _ rfl (.tmp 34) (.tmp 39) 23 rfl (w.heap.size + 1) 35 i0 _ 2 32 Tryd.underlying23 hi hz0 hz1 hz2 rfl (by omega) _ X.length (X.flatMap lnC) rfl ((rowBel HO.out B3.out).alloc _) ⟨w3.heap.size, 0, none⟩ 1 1 [.int .i64 ((k : Int) + 1), .slice q ts.length cq] rfl rfl (World.news_of_block (cs := #[.int .i64 ((k : Int) + 1), .slice q ts.length cq]) (t := 35) (fr := (0, 0)) (heap_alloc_new _ _)) (by simp [Value.oneCell']) (by omega) (by unfold maxLen; omega) (by omega) (by have := HSZ.out; have := B3.out.size; simp; omega) (w3.heap.size + 1) (by simp) ?_; intro g cap w4 hown3 hgrow hat hlt3; have B4 : Bx (Below (w.heap.size + 1) wr w4) := ⟨((B3.out.mono HSZ.out).alloc (by have := HSZ.out; have := B3.out.size; omega) _).grown hgrow (by have := HSZ.out; have := B3.out.size; simp; omega) (fun k hk => (rowLt HO.out k hk).1)⟩; have hpush := LnRow.push (rowBel HO.out B3.out) (fun x hx => rowBel (HA.out x hx).raw B3.out) (k + 1) (rowMono HR.out.raw (by have := HSZ.out; have := B2.out.size; omega)) hgrow (by rw [show ((k + 1 : Nat) : Int) = (k : Int) + 1 by omega]; exact hown3); have PU := Bx.mk hpush; clear hown3 hgrow hat hlt3 hpush))
            go_roundw
            case rel => exact ⟨k + 1, X.map lnOf ++ [(k + 1, ts)], by go_num, by omega, by simp; omega, ⟨by rw [E.out, if_neg H0.out, HX.out]⟩, ⟨PU.out⟩, ⟨hb.out.trans B4.out⟩, _, _, _, rfl⟩
            case measure => simp [intOf]; omega
      · obtain rfl : k = N := by omega
        have e := hli.out
        rw [List.drop_eq_nil_of_le (by rw [HLEN.out, HN.out]; exact Nat.le_refl _)] at e
        have e : linesL (by' T) = (0, D) := by rw [e]; simp [linL, pre]
        have E := Bx.mk e; clear e hli
        go_wp2
        refine bodyPost_ret (v := .tuple #[.slice p l c, .int .i64 0, .int .i64 0]) (by simp [results, go_sem]) rfl ⟨?_, ?_⟩
        · rw [by_size, if_neg hbig, E.out, if_pos rfl]
          exact ⟨_, rfl, hrow.out.mono (by omega)⟩
        · exact HB1.out.trans (hb.out.mono (by omega))
end Go.Proofs.YtmgipjkdeoelgaaDoor
