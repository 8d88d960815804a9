/- The laws of layer 9 (lex): LexLines. -/
import Derived.Test.YtmgipjkdeoelgaaDoorLexU
import Derived.Test.YtmgipjkdeoelgaaDoorLexG
namespace Go.Proofs.YtmgipjkdeoelgaaDoor
set_option maxRecDepth 100000
open Go.RowKit

set_option maxHeartbeats 6400000 in
theorem same9_any {L : List Ln} {B C : Nat} {v u : Value} (hL : L.length ≤ 1000000) (hT : ∀ l ∈ L, l.2.length ≤ 1000000) (w : World) (h1 : LnRow w B v L) (h2 : RLnRow w C u L) :
    Calls Tryd.prog 9 #[v, u] w fun e w' => e = .returned (.int .i64 0) ∧ Below w.heap.size w w' := by
  have H1 := Bx.mk h1; have H2 := Bx.mk h2; have HT := Bx.mk hT
  obtain ⟨p, c, rfl⟩ := h1.slice
  obtain ⟨p2, c2, rfl⟩ := h2.slice
  clear h1 h2 hT
  go_enter Tryd.func9, Tryd.ntmps9
  go_wp2_with fail
  go_loopw [14] (fun i wr => ∃ k : Nat, i = .int .i64 (k : Int) ∧ k ≤ L.length ∧ Bx (Below w.heap.size w wr)) (fun i _ => L.length - (intOf i).toNat)
  case atStart => exact ⟨0, rfl, by omega, ⟨Below.refl _ _⟩⟩
  case round =>
    obtain ⟨k, rfl, hk, hb⟩ := hrel
    by_cases hkn : k < L.length
    · obtain ⟨ga, ca, hva, hga, _, ata⟩ := H1.out.at (by omega)
      obtain ⟨rfl, _, rfl⟩ := Value.slice.inj hva
      obtain ⟨gb, cb, hvb, hgb, _, atb⟩ := H2.out.at (by omega)
      obtain ⟨rfl, _, rfl⟩ := Value.slice.inj hvb
      obtain ⟨l, hl⟩ : ∃ l, L[k]? = some l := ⟨_, List.getElem?_eq_getElem hkn⟩
      have htl := HT.out l (List.mem_of_getElem? hl)
      obtain ⟨ua, a0, a1, hta, ⟨pa, ka, rfl⟩⟩ := ata k l hl
      obtain ⟨ub, b0, b1, htb, ⟨pb, kb, rfl⟩⟩ := atb k l hl
      have A1 := Bx.mk a1; have B1 := Bx.mk b1
      have a0 : wr.cell? ⟨ga, k * 2, none⟩ = some (.int .i64 (l.1 : Nat)) := by rw [hb.out.cell hga]; exact a0
      have a1 : wr.cell? ⟨ga, k * 2 + 1, none⟩ = some (.slice pa l.2.length ka) := by rw [hb.out.cell hga]; exact a1
      have b0 : wr.cell? ⟨gb, k * 2, none⟩ = some (.int .i64 (l.1 : Nat)) := by rw [hb.out.cell hgb]; exact b0
      have b1 : wr.cell? ⟨gb, k * 2 + 1, none⟩ = some (.slice pb l.2.length kb) := by rw [hb.out.cell hgb]; exact b1
      have TA := Bx.mk hta; have TB := Bx.mk htb
      obtain ⟨ts, hts⟩ : ∃ ts, ts = l.2 := ⟨_, rfl⟩
      rw [← hts] at a1 b1 htl TA TB A1 B1
      generalize l.1 = x at *
      clear ata atb hl hva hvb hts hta htb
      go_wp2
      go_quiet (fail)
      go_wp2
      go_loopw [49] (fun i wr => ∃ j : Nat, i = .int .i64 (j : Int) ∧ j ≤ ts.length ∧ Bx (Below w.heap.size w wr)) (fun i _ => ts.length - (intOf i).toNat)
      case atStart => exact ⟨0, rfl, by omega, ⟨belDrewN hb.out _⟩⟩
      case round =>
        obtain ⟨j, rfl, hj, hq⟩ := hrel
        by_cases hjn : j < ts.length
        · obtain ⟨gc, cc, hvc, hgc, _, atc⟩ := TA.out.at (by omega)
          obtain ⟨rfl, _, rfl⟩ := Value.slice.inj hvc
          obtain ⟨gd, cd, hvd, hgd, _, atd⟩ := TB.out.at (by omega)
          obtain ⟨rfl, _, rfl⟩ := Value.slice.inj hvd
          obtain ⟨t, ht⟩ : ∃ t, ts[j]? = some t := ⟨_, List.getElem?_eq_getElem hjn⟩
          obtain ⟨c0, c1, c2⟩ := atc j t ht
          obtain ⟨d0, d1, d2⟩ := atd j t ht
          have c0 : wr.cell? ⟨gc, j * 3, none⟩ = _ := (hq.out.cell hgc).trans c0
          have c1 : wr.cell? ⟨gc, j * 3 + 1, none⟩ = _ := (hq.out.cell hgc).trans c1
          have c2 : wr.cell? ⟨gc, j * 3 + 2, none⟩ = _ := (hq.out.cell hgc).trans c2
          have d0 : wr.cell? ⟨gd, j * 3, none⟩ = _ := (hq.out.cell hgd).trans d0
          have d1 : wr.cell? ⟨gd, j * 3 + 1, none⟩ = _ := (hq.out.cell hgd).trans d1
          have d2 : wr.cell? ⟨gd, j * 3 + 2, none⟩ = _ := (hq.out.cell hgd).trans d2
          have e1 : wr.cell? ⟨ga, k * 2 + 1, none⟩ = some (.slice (some ⟨gc, 0, none⟩) ts.length ka) := (hq.out.cell hga).trans A1.out
          have e2 : wr.cell? ⟨gb, k * 2 + 1, none⟩ = some (.slice (some ⟨gd, 0, none⟩) ts.length kb) := (hq.out.cell hgb).trans B1.out
          generalize t.1 = t1 at *
          generalize st t.2.1 = t2 at *
          generalize t.2.2 = t3 at *
          clear atc atd ht hvc hvd
          go_wp2
          go_quiet (fail)
          go_wp2
          go_roundw
          case rel => exact ⟨j + 1, by go_num, by omega, ⟨belDrewN hq.out _⟩⟩
          case measure => simp [intOf] <;> omega
        · obtain rfl : j = ts.length := by omega
          go_wp2
          go_roundw
          case rel => exact ⟨k + 1, by go_num, by omega, hq⟩
          case measure => simp [intOf] <;> omega
    · obtain rfl : k = L.length := by omega
      go_wp2
      go_ret
      exact ⟨rfl, hb.out⟩
theorem toksF_le : ∀ (f : Nat) (s : List UInt8) (ts : List Tok), toksF f s = some ts → ts.length ≤ s.length
  | 0, s, ts, h => by simp [toksF] at h; subst h; simp
  | f + 1, s, ts, h => by
    have hd := dropWhile_le (p := blk) s
    unfold toksF at h
    split at h
    · cases h; simp
    · split at h
      · cases h
      · rename_i t ht
        have hl := firstL_len ht
        cases hr : toksF f ((s.dropWhile blk).drop t.2.1.length) with
        | none => rw [hr] at h; cases h
        | some r =>
          rw [hr] at h
          cases h
          have := toksF_le f _ r hr
          rw [List.length_drop] at this
          simp; omega
theorem toks_le (s : List UInt8) (ts : List Tok) (h : toks s = some ts) : ts.length ≤ s.length := toksF_le _ s ts h
theorem linL_toks : ∀ (P : List (List UInt8)) (n M : Nat), (∀ p ∈ P, p.length ≤ M) → ∀ l ∈ (linL n P).2, l.2.length ≤ M
  | [], n, M, _, l, h => by cases h
  | p :: P, n, M, hP, l, h => by
    have ih := linL_toks P (n + 1) M (fun q hq => hP q (by simp [hq]))
    cases ht : toks (bareL p) with
    | none => rw [linL_bad ht] at h; cases h
    | some ts =>
      rw [linL_good ht] at h
      unfold pre at h
      split at h
      · rcases List.mem_append.1 h with h | h
        · split at h
          · cases h
          · simp at h; subst h
            have h1 := toks_le _ _ ht
            have h2 := bareL_le p
            have h3 := hP p (by simp)
            show ts.length ≤ M
            omega
        · exact ih l h
      · cases h

set_option maxHeartbeats 3200000 in
theorem lexLines_walk (s : ByteArray) (w : World) (hL : LibW w) :
    Calls Tryd.prog 3 #[.string s] w fun e w' => e = .returned (.bool true) ∧ Below w.heap.size w w' := by
  have cs0 := fun W => cut9_any s 2010 W
  have hT : (s.extract 0 2010).size ≤ 2010 := by simp; omega
  generalize s.extract 0 2010 = T at *
  have cs : ∀ W, Calls Tryd.prog 5 #[.string s, .int .i64 2010] W fun e w' => e = .returned (.string T) ∧ W = w' := cs0
  have CS := Bx.mk cs; have HL := Bx.mk hL; clear cs cs0 hL
  have cl := fun W h => lines_any T (by omega) W h
  have cr := fun W => rlines_any T (by omega) W
  by_cases hbig : 2000 < T.size
  · have cl2 : ∀ W, LibW W → Calls Tryd.prog 6 #[.string T] W fun e w' => e = .returned (.tuple #[.slice none 0 0, .int .i64 0, .int .i64 17]) ∧ Below W.heap.size W w' := fun W h => (cl W h).mono fun e w' ⟨h1, h2⟩ => ⟨by rwa [by_size, if_pos hbig] at h1, h2⟩
    have cr2 : ∀ W, Calls Tryd.prog 7 #[.string T] W fun e w' => e = .returned (.tuple #[.slice none 0 0, .int .i64 0, .int .i64 17]) ∧ Below W.heap.size W w' := fun W => (cr W).mono fun e w' ⟨h1, h2⟩ => ⟨by rwa [by_size, if_pos hbig] at h1, h2⟩
    have sm := fun W => same9_any (L := []) (B := 0) (C := 0) (v := .slice none 0 0) (u := .slice none 0 0) (by simp) (fun l h => by cases h) W (LnRow.nil _ _) (RLnRow.nil _ _)
    have CL := Bx.mk cl2; have CR := Bx.mk cr2; have SM := Bx.mk sm
    clear cl cr cl2 cr2 sm hbig
    go_enter Tryd.func3, Tryd.ntmps3
    go_wp2_with (first
      | (go_at_call 5; ((with_reducible refine (CS.out _).mono ?_); rintro e w' ⟨rfl, rfl⟩))
      | (go_at_call 6; ((with_reducible refine (CL.out _ HL.out).mono ?_); rintro e w1 ⟨rfl, b1⟩; have B1 := Bx.mk b1; clear b1))
      | (go_at_call 7; ((with_reducible refine (CR.out _).mono ?_); rintro e w2 ⟨rfl, b2⟩; have B2 := Bx.mk (bel B1.out b2); clear b2))
      | (go_at_call 8; ((with_reducible refine (awake9_any _ (HL.out.below B2.out)).mono ?_); rintro e w3 ⟨rfl, b3⟩; have B3 := Bx.mk (bel B2.out b3); clear b3))
      | (go_at_call 9; ((with_reducible refine (SM.out _).mono ?_); rintro e w4 ⟨rfl, b4⟩; have B4 := Bx.mk (bel B3.out b4); clear b4)))
    go_ret
    exact ⟨rfl, B4.out⟩
  · by_cases h0 : (linesL (by' T)).1 = 0
    · have hlen : (linesL (by' T)).2.length ≤ 1000000 := by
        have := lines_len (by' T)
        rw [by_size] at this; omega
      have htok : ∀ l ∈ (linesL (by' T)).2, l.2.length ≤ 1000000 := linL_toks _ _ _ (fun p hp => by have := pcs_le _ p hp; rw [by_size] at this; omega)
      generalize hLe : (linesL (by' T)).2 = L at *
      have cl2 : ∀ W, LibW W → Calls Tryd.prog 6 #[.string T] W fun e w' => (∃ v, e = .returned (.tuple #[v, .int .i64 0, .int .i64 0]) ∧ LnRow w' W.heap.size v L) ∧ Below W.heap.size W w' := fun W h => (cl W h).mono fun e w' ⟨h1, h2⟩ => ⟨by rwa [by_size, if_neg hbig, if_pos h0, hLe] at h1, h2⟩
      have cr2 : ∀ W, Calls Tryd.prog 7 #[.string T] W fun e w' => (∃ v, e = .returned (.tuple #[v, .int .i64 0, .int .i64 0]) ∧ RLnRow w' W.heap.size v L) ∧ Below W.heap.size W w' := fun W => (cr W).mono fun e w' ⟨h1, h2⟩ => ⟨by rwa [by_size, if_neg hbig, if_pos h0, hLe] at h1, h2⟩
      have CL := Bx.mk cl2; have CR := Bx.mk cr2; have HLEN := Bx.mk hlen; have HTOK := Bx.mk htok
      clear cl cr cl2 cr2 hlen htok h0 hLe
      go_enter Tryd.func3, Tryd.ntmps3
      go_wp2_with (first
        | (go_at_call 5; ((with_reducible refine (CS.out _).mono ?_); rintro e w' ⟨rfl, rfl⟩))
        | (go_at_call 6; ((with_reducible refine (CL.out _ HL.out).mono ?_); rintro e w1 ⟨⟨v, rfl, r1⟩, b1⟩; obtain ⟨p1, c1, rfl⟩ := r1.slice; have R1 := Bx.mk r1; have B1 := Bx.mk b1; clear b1 r1))
        | (go_at_call 7; ((with_reducible refine (CR.out _).mono ?_); rintro e w2 ⟨⟨v, rfl, r2⟩, b2⟩; obtain ⟨p2, c2, rfl⟩ := r2.slice; have R2 := Bx.mk r2; have R1 := Bx.mk (R1.out.bel b2); have B2 := Bx.mk (bel B1.out b2); clear b2 r2))
        | (go_at_call 8; ((with_reducible refine (awake9_any _ (HL.out.below B2.out)).mono ?_); rintro e w3 ⟨rfl, b3⟩; have R1 := Bx.mk (R1.out.bel b3); have R2 := Bx.mk (R2.out.bel b3); have B3 := Bx.mk (bel B2.out b3); clear b3))
        | (go_at_call 9; ((with_reducible refine (same9_any HLEN.out HTOK.out _ R1.out R2.out).mono ?_); rintro e w4 ⟨rfl, b4⟩; have B4 := Bx.mk (bel B3.out b4); clear b4)))
      go_ret
      exact ⟨rfl, B4.out⟩
    · have cl2 : ∀ W, LibW W → Calls Tryd.prog 6 #[.string T] W fun e w' => e = .returned (.tuple #[.slice none 0 0, .int .i64 ((linesL (by' T)).1 : Nat), .int .i64 10]) ∧ Below W.heap.size W w' := fun W h => (cl W h).mono fun e w' ⟨h1, h2⟩ => ⟨by rwa [by_size, if_neg hbig, if_neg h0] at h1, h2⟩
      have cr2 : ∀ W, Calls Tryd.prog 7 #[.string T] W fun e w' => e = .returned (.tuple #[.slice none 0 0, .int .i64 ((linesL (by' T)).1 : Nat), .int .i64 10]) ∧ Below W.heap.size W w' := fun W => (cr W).mono fun e w' ⟨h1, h2⟩ => ⟨by rwa [by_size, if_neg hbig, if_neg h0] at h1, h2⟩
      have sm := fun W => same9_any (L := []) (B := 0) (C := 0) (v := .slice none 0 0) (u := .slice none 0 0) (by simp) (fun l h => by cases h) W (LnRow.nil _ _) (RLnRow.nil _ _)
      generalize (linesL (by' T)).1 = q at *
      have CL := Bx.mk cl2; have CR := Bx.mk cr2; have SM := Bx.mk sm
      clear cl cr cl2 cr2 sm hbig h0
      go_enter Tryd.func3, Tryd.ntmps3
      go_wp2_with (first
      | (go_at_call 5; ((with_reducible refine (CS.out _).mono ?_); rintro e w' ⟨rfl, rfl⟩))
      | (go_at_call 6; ((with_reducible refine (CL.out _ HL.out).mono ?_); rintro e w1 ⟨rfl, b1⟩; have B1 := Bx.mk b1; clear b1))
      | (go_at_call 7; ((with_reducible refine (CR.out _).mono ?_); rintro e w2 ⟨rfl, b2⟩; have B2 := Bx.mk (bel B1.out b2); clear b2))
      | (go_at_call 8; ((with_reducible refine (awake9_any _ (HL.out.below B2.out)).mono ?_); rintro e w3 ⟨rfl, b3⟩; have B3 := Bx.mk (bel B2.out b3); clear b3))
      | (go_at_call 9; ((with_reducible refine (SM.out _).mono ?_); rintro e w4 ⟨rfl, b4⟩; have B4 := Bx.mk (bel B3.out b4); clear b4)))
      go_ret
      exact ⟨rfl, B4.out⟩
end Go.Proofs.YtmgipjkdeoelgaaDoor
