/- Tables: ordeallaw22.TableReads. -/
import Derived.Test.YtacfdnjdjgdbcaaGreatDoorRtbC
import Derived.Test.YtacfdnjdjgdbcaaGreatDoorRtbE
import Derived.Test.YtacfdnjdjgdbcaaGreatDoorTj
namespace Go.Proofs.YtacfdnjdjgdbcaaGreatDoor
set_option maxRecDepth 100000
open Go.RowKit Go.Maps Go.Sort M

theorem says_few {s : ByteArray} {l : List Ent} (hs : s.size ≤ 900) (h : SaysT s 0 l) : l.length ≤ 100 := by
  rcases h with ⟨_, h2⟩ | ⟨_, h⟩
  · omega
  · rcases h with ⟨_, h3⟩ | ⟨_, x, a, h3, h4⟩
    · omega
    · have hb : (s.extract 0 (s.size - 32)).size ≤ 900 := by rw [ByteArray.size_extract]; omega
      generalize s.extract 0 (s.size - 32) = T at *
      have hx : x = 0 := by
        split at h4
        · omega
        · exact h4.symm
      subst hx
      have hle : numA T (rawA T 0 0 8) (magX T) ≤ T.size := numA_le (rawA_le' (Nat.zero_le _))
      unfold OutT at h3
      generalize numA T (rawA T 0 0 8) (magX T) = A0 at h3 hle
      generalize numV T (rawA T 0 0 8) (magX T) = N at h3
      generalize numX T (rawA T 0 0 8) (magX T) = X at h3
      have hT : T.size ≤ 1000000 := by omega
      clear h4
      rcases h3 with ⟨h1, h2⟩ | ⟨_, ⟨_, h3⟩ | ⟨h1, _⟩⟩
      · exact absurd h2.symm h1
      · have := (ReadsT.few hT hle h3).1
        omega
      · exact absurd rfl h1
theorem rp_bad {T : ByteArray} {k : Nat} {l : List Ent} (hT : T.size ≤ 900) (h : SaysT T k l) (hk : k ≠ 0) (W : World) (gs cs gk ck : Nat) (h1 : Row32 W gs 8 (v8l iV)) (h2 : Row32 W gk 64 kN) :
    Calls Tryz.prog 8 #[.agg #[.slice (some ⟨gs, 0, none⟩) 8 cs, .slice (some ⟨gk, 0, none⟩) 64 ck], .string T] W fun e w' => e = .returned (.tuple #[.slice none 0 0, .int .i64 (k : Int)]) ∧ Below W.heap.size W w' := by
  refine (refParse_any T W hT gs cs gk ck h1 h2).mono ?_
  rintro e w' ⟨hb, j, m, hs, hh⟩
  have e1 := (h.one hs).1
  subst e1
  rcases hh with ⟨_, he⟩ | ⟨h0, _⟩
  · exact ⟨he, hb⟩
  · exact absurd h0 hk
theorem rp_good {T : ByteArray} {l : List Ent} (hT : T.size ≤ 900) (h : SaysT T 0 l) (W : World) (gs cs gk ck : Nat) (h1 : Row32 W gs 8 (v8l iV)) (h2 : Row32 W gk 64 kN) :
    Calls Tryz.prog 8 #[.agg #[.slice (some ⟨gs, 0, none⟩) 8 cs, .slice (some ⟨gk, 0, none⟩) 64 ck], .string T] W fun e w' => ∃ p c, e = .returned (.tuple #[.slice p l.length c, .int .i64 0]) ∧ RefIn w' (.slice p l.length c) l ∧ Below W.heap.size W w' := by
  refine (refParse_any T W hT gs cs gk ck h1 h2).mono ?_
  rintro e w' ⟨hb, j, m, hs, hh⟩
  obtain ⟨e1, e2⟩ := h.one hs
  subst e1
  have e2 := e2 rfl
  subst e2
  rcases hh with ⟨h0, _⟩ | ⟨_, v, he, hr⟩
  · exact absurd rfl h0
  · obtain ⟨p, c, rfl⟩ := hr.val
    exact ⟨p, c, he, hr, hb⟩

set_option maxRecDepth 100000 in
set_option maxHeartbeats 4000000 in
theorem tableReads_walk (s : ByteArray) (sl : Bool) (w : World) (hK : KTab w) :
    Calls Tryz.prog 3 #[.string s, .bool sl] w fun e w' => e = .returned (.bool true) ∧ Below w.heap.size w w' := by
  have ccut := cut_any s 400 w
  rw [show ((400 : Nat) : Int) = 400 from rfl] at ccut
  obtain ⟨A, hA⟩ : ∃ A, A = s.extract 0 400 := ⟨_, rfl⟩
  have hAs : A.size ≤ 400 := by rw [hA, ByteArray.size_extract]; omega
  rw [← hA] at ccut
  have c1 := shaOf_any A (by omega) w hK
  obtain ⟨D, hD⟩ : ∃ D, D = shaN (sb A) := ⟨_, rfl⟩
  have hDl : D.length = 32 := by rw [hD]; exact shaN_length _
  rw [← hD] at c1
  obtain ⟨S2, hS2⟩ : ∃ S, S = bs D := ⟨_, rfl⟩
  have hcv : ∀ W : World, (convert 26 9 (.slice (some ⟨W.heap.size, 0, none⟩) 32 32)).run Tryz.prog (W.alloc (.cells (byts D).toArray 24)) = .ok (.string S2) (W.alloc (.cells (byts D).toArray 24)) := fun W => by
    rw [hS2]
    exact conv_rangeI (cap := 32) hDl (range_new _ _ _ _ rfl)
  have hSs : S2.size = 32 := by rw [hS2, bs_size, hDl]
  have ht : ∀ (W : World) (Z : Array Value), Z.size = 32 → (W.alloc (.cells Z 24)).there W.heap.size 0 32 := fun W Z hZ => by
    have := there_new W 24 Z.toList W.heap.size 0 32 rfl (by simp [hZ])
    simpa using this
  have hbl : (byts D).length = 32 := by rw [byts_length]; exact hDl
  have hb1 := byts_one D
  obtain ⟨C, hC⟩ : ∃ C, C = byts D := ⟨_, rfl⟩
  rw [← hC] at c1 hcv hbl hb1
  obtain ⟨T, hT⟩ : ∃ T, T = if sl then A ++ S2 else A := ⟨_, rfl⟩
  have hTs : T.size ≤ 432 := by
    rw [hT]; split
    · rw [ByteArray.size_append]; omega
    · omega
  have hlt : (9223372036854775807 < A.size + S2.size) = False := eq_false (by omega)
  have cps := fun W (h : KTab W) => parseE_any T W (by omega) h
  have caw := fun W (h : KTab W) => awake22_any W h
  have crb := fun k l (h : SaysT T k l) (hk : k ≠ 0) => rp_bad (by omega) h hk
  have crg := fun l (h : SaysT T 0 l) => rp_good (by omega) h
  have cfw := fun l (h : SaysT T 0 l) => says_few (by omega) h
  have CC := Box.mk ccut; have C1 := Box.mk c1; have HCV := Box.mk hcv; have CP := Box.mk cps; have CA := Box.mk caw; have CRB := Box.mk crb; have CRG := Box.mk crg; have CFW := Box.mk cfw; have HK := Box.mk hK
  clear ccut c1 hcv cps caw crb crg cfw hK hA hAs hD hDl hS2 hSs hC hTs
  cases sl
  · -- as it is
    have hTl : A = T := by rw [hT]; rfl
    have B1 : Box (Below w.heap.size w w) := ⟨Below.refl _ _⟩
    clear hT
    go_enter Tryz.func3, Tryz.ntmps3
    go_upto_region 6 with (first
      | (go_at_call 5; ((with_reducible refine CC.out.mono ?_); rintro e w' ⟨rfl, rfl⟩))
      | (go_at_call 7; ((try rw [hTl]); (with_reducible refine (CP.out _ (ktab_below HK.out B1.out)).mono ?_); rintro e w2 ⟨b2, k, l, hsay, h2⟩; have SAY := Box.mk hsay; have B2 := Box.mk (B1.out.trans (b2.mono B1.out.size)); have ev : ∃ v k, e = .returned (.tuple #[.pointer v, .int .i64 k]) := (by rcases h2 with ⟨_, rfl⟩ | ⟨_, _, _, rfl, _⟩; exact ⟨_, _, rfl⟩; exact ⟨_, _, rfl⟩); obtain ⟨tv, tk, rfl⟩ := ev; have H2 := Box.mk h2; clear hsay b2 h2)))
    rcases H2.out with ⟨hk, he⟩ | ⟨hk, tb, mo, he, ht2, hr⟩
    · simp only [Ending.returned.injEq, Value.tuple.injEq, Array.mk.injEq, List.cons.injEq, Value.pointer.injEq, Value.int.injEq, and_true, true_and] at he
      obtain ⟨rfl, rfl⟩ := he
      have e1 : ((k : Int) != 0) = true := by simp; omega
      have e1p : ((k : Int) = 0) = False := eq_false (by omega)
      have e1n : (k = 0) = False := eq_false hk
      have CX := Box.mk (CRB.out k l SAY.out hk)
      clear hk CRB CRG CFW H2
      go_wp2_with (first
        | (go_at_call 9; ((with_reducible refine (made_rows _).mono ?_); rintro e w3 ⟨⟨gs, cs, gk, ck, rfl, r1, r2, _, _⟩, b3⟩; have R3 := Box.mk (And.intro r1 r2); have B3 := Box.mk (B2.out.trans (b3.mono B2.out.size)); clear r1 r2 b3))
        | (go_at_call 8; ((try rw [hTl]); (with_reducible refine (CX.out _ _ _ _ _ R3.out.1 R3.out.2).mono ?_); rintro e w4 ⟨rfl, b4⟩; have B4 := Box.mk (B3.out.trans (b4.mono B3.out.size)); clear b4))
        | (go_at_call 10; ((with_reducible refine (CA.out _ (ktab_below HK.out B4.out)).mono ?_); rintro e w5 ⟨rfl, b5⟩; have B5 := Box.mk (B4.out.trans (b5.mono B4.out.size)); clear b5)))
      go_ret
      exact ⟨rfl, B5.out⟩
    · subst hk
      simp only [Ending.returned.injEq, Value.tuple.injEq, Array.mk.injEq, List.cons.injEq, Value.pointer.injEq, Value.int.injEq, and_true, true_and] at he
      obtain ⟨rfl, rfl⟩ := he
      have CX := Box.mk (CRG.out l SAY.out)
      have FW := Box.mk (CFW.out l SAY.out)
      have TT := Box.mk ht2; have RI := Box.mk hr
      clear ht2 hr CRB CRG CFW H2
      go_wp2_with (first
        | (go_at_call 9; ((with_reducible refine (made_rows _).mono ?_); rintro e w3 ⟨⟨gs, cs, gk, ck, rfl, r1, r2, _, _⟩, b3⟩; have R3 := Box.mk (And.intro r1 r2); have B3 := Box.mk (B2.out.trans (b3.mono B2.out.size)); have T3 := Box.mk (TT.out.below b3); clear r1 r2 b3))
        | (go_at_call 8; ((try rw [hTl]); (with_reducible refine (CX.out _ _ _ _ _ R3.out.1 R3.out.2).mono ?_); rintro e w4 ⟨vp, vc, rfl, rr, b4⟩; have RR := Box.mk rr; have B4 := Box.mk (B3.out.trans (b4.mono B3.out.size)); have T4 := Box.mk (T3.out.below b4); clear rr b4))
        | (go_at_call 10; ((with_reducible refine (CA.out _ (ktab_below HK.out B4.out)).mono ?_); rintro e w5 ⟨rfl, b5⟩; have B5 := Box.mk (B4.out.trans (b5.mono B4.out.size)); have T5 := Box.mk (T4.out.below b5); have R5 := Box.mk (RR.out.below b5); clear b5))
        | (go_at_call 11; ((with_reducible refine (same_any _ _ _ _ _ _ T5.out R5.out (List.reverse_perm l).symm RI.out FW.out).mono ?_); rintro e w6 ⟨rfl, b6⟩; have B6 := Box.mk (B5.out.trans (b6.mono B5.out.size)); clear b6)))
      go_ret
      exact ⟨rfl, B6.out⟩
  · -- sealed
    have hTl : A ++ S2 = T := by rw [hT]; rfl
    clear hT
    go_enter Tryz.func3, Tryz.ntmps3
    go_upto_region 6 with (first
      | (go_at_call 5; ((with_reducible refine CC.out.mono ?_); rintro e w' ⟨rfl, rfl⟩))
      | (go_at_call 6; ((with_reducible refine C1.out.mono ?_); rintro e w1 ⟨rfl, b1⟩; have B1 := Box.mk (b1.alloc b1.size (.cells C.toArray 24)); have hcv1 := HCV.out w1; clear b1 C1))
      | ((with_reducible refine at_store 24 (.tmp 5) (.tmp 14) ?_); refine wpList_store_mid rfl 24 (.tmp 5) (.tmp 14) rfl w1.heap.size 0 C.toArray rfl rfl (by have e : C.toArray.size = 32 := (by simp [hbl]); rw [e]; exact ht w1 _ rfl) (by have e : C.toArray.size = 32 := (by simp [hbl]); rw [e]; exact info_hash) (all_oneCell_toArray hb1) ?_; rw [show (w1.alloc _).setCells w1.heap.size 0 C.toArray.toList = w1.alloc (.cells C.toArray 24) from fillE w1 _ _ _ (by simp [hbl])])
      | (go_at_call 7; ((try rw [hTl]); (with_reducible refine (CP.out _ (ktab_below HK.out B1.out)).mono ?_); rintro e w2 ⟨b2, k, l, hsay, h2⟩; have SAY := Box.mk hsay; have B2 := Box.mk (B1.out.trans (b2.mono B1.out.size)); have ev : ∃ v k, e = .returned (.tuple #[.pointer v, .int .i64 k]) := (by rcases h2 with ⟨_, rfl⟩ | ⟨_, _, _, rfl, _⟩; exact ⟨_, _, rfl⟩; exact ⟨_, _, rfl⟩); obtain ⟨tv, tk, rfl⟩ := ev; have H2 := Box.mk h2; clear hsay b2 h2)))
    rcases H2.out with ⟨hk, he⟩ | ⟨hk, tb, mo, he, ht2, hr⟩
    · simp only [Ending.returned.injEq, Value.tuple.injEq, Array.mk.injEq, List.cons.injEq, Value.pointer.injEq, Value.int.injEq, and_true, true_and] at he
      obtain ⟨rfl, rfl⟩ := he
      have e1 : ((k : Int) != 0) = true := by simp; omega
      have e1p : ((k : Int) = 0) = False := eq_false (by omega)
      have e1n : (k = 0) = False := eq_false hk
      have CX := Box.mk (CRB.out k l SAY.out hk)
      clear hk CRB CRG CFW H2
      go_wp2_with (first
        | (go_at_call 9; ((with_reducible refine (made_rows _).mono ?_); rintro e w3 ⟨⟨gs, cs, gk, ck, rfl, r1, r2, _, _⟩, b3⟩; have R3 := Box.mk (And.intro r1 r2); have B3 := Box.mk (B2.out.trans (b3.mono B2.out.size)); clear r1 r2 b3))
        | (go_at_call 8; ((try rw [hTl]); (with_reducible refine (CX.out _ _ _ _ _ R3.out.1 R3.out.2).mono ?_); rintro e w4 ⟨rfl, b4⟩; have B4 := Box.mk (B3.out.trans (b4.mono B3.out.size)); clear b4))
        | (go_at_call 10; ((with_reducible refine (CA.out _ (ktab_below HK.out B4.out)).mono ?_); rintro e w5 ⟨rfl, b5⟩; have B5 := Box.mk (B4.out.trans (b5.mono B4.out.size)); clear b5)))
      go_ret
      exact ⟨rfl, B5.out⟩
    · subst hk
      simp only [Ending.returned.injEq, Value.tuple.injEq, Array.mk.injEq, List.cons.injEq, Value.pointer.injEq, Value.int.injEq, and_true, true_and] at he
      obtain ⟨rfl, rfl⟩ := he
      have CX := Box.mk (CRG.out l SAY.out)
      have FW := Box.mk (CFW.out l SAY.out)
      have TT := Box.mk ht2; have RI := Box.mk hr
      clear ht2 hr CRB CRG CFW H2
      go_wp2_with (first
        | (go_at_call 9; ((with_reducible refine (made_rows _).mono ?_); rintro e w3 ⟨⟨gs, cs, gk, ck, rfl, r1, r2, _, _⟩, b3⟩; have R3 := Box.mk (And.intro r1 r2); have B3 := Box.mk (B2.out.trans (b3.mono B2.out.size)); have T3 := Box.mk (TT.out.below b3); clear r1 r2 b3))
        | (go_at_call 8; ((try rw [hTl]); (with_reducible refine (CX.out _ _ _ _ _ R3.out.1 R3.out.2).mono ?_); rintro e w4 ⟨vp, vc, rfl, rr, b4⟩; have RR := Box.mk rr; have B4 := Box.mk (B3.out.trans (b4.mono B3.out.size)); have T4 := Box.mk (T3.out.below b4); clear rr b4))
        | (go_at_call 10; ((with_reducible refine (CA.out _ (ktab_below HK.out B4.out)).mono ?_); rintro e w5 ⟨rfl, b5⟩; have B5 := Box.mk (B4.out.trans (b5.mono B4.out.size)); have T5 := Box.mk (T4.out.below b5); have R5 := Box.mk (RR.out.below b5); clear b5))
        | (go_at_call 11; ((with_reducible refine (same_any _ _ _ _ _ _ T5.out R5.out (List.reverse_perm l).symm RI.out FW.out).mono ?_); rintro e w6 ⟨rfl, b6⟩; have B6 := Box.mk (B5.out.trans (b6.mono B5.out.size)); clear b6)))
      go_ret
      exact ⟨rfl, B6.out⟩
end Go.Proofs.YtacfdnjdjgdbcaaGreatDoor
