/- Checkpoints: ordeallaw23.CkptFull. -/
import Derived.Test.YteilmohlgfgmnaaGreatDoorCkpG
import Derived.Test.YteilmohlgfgmnaaGreatDoorHz
namespace Go.Proofs.YteilmohlgfgmnaaGreatDoor
set_option maxRecDepth 100000
open Go.RowKit Go.Maps Go.Sort M

theorem Calm.crash {S : DS} (h : Calm S) : S.crash = -1 := by
  unfold Calm at h
  exact h.2.2
theorem NoCrash.alive {S : DS} (h : NoCrash S) : S.dead = false := by
  unfold NoCrash at h
  exact h.1
theorem NoCrash.crash {S : DS} (h : NoCrash S) : S.crash = -1 := by
  unfold NoCrash at h
  exact h.2
theorem clean_c {w : World} {b k : Nat} {F : Nat → Prop} {S : DS} {P : Option (List Nat) → Prop} (d : CkD w b F S k P) (hk : k ≤ 40000) (hc : Calm S) (hr : S.used ≤ S.room) :
    Calls Tryz.prog 25 #[.pointer (some ⟨b, 0, none⟩)] w fun e w' => ∃ S' s, e = .returned (.int .i64 0) ∧ CkD w' b F S' (k + 120) P ∧ CNow S' s none ∧ Calm S' ∧ KeepF F w w' := by
  refine (clean_any b F S w d.h (d.z.fine (by omega) (by omega))).mono fun e w' ⟨h1, h2, h3⟩ => ?_
  obtain ⟨s, f, n⟩ := d.n
  obtain ⟨a, f', n', c⟩ := inv_clean d.i n
  obtain ⟨x, y, _, _⟩ := step_ok (D := []) (P := P) hc 0 (by omega) ⟨d.i, s, f, n⟩ (fun _ => by simpa using hr)
  have x : cleanC S = 0 := x
  obtain rfl := c x
  exact ⟨_, s, by rw [h1, x], ⟨h2, (d.z.remove nmF_len).up (by omega) (by omega), a, s, none, n'⟩, n', y, h3⟩
theorem names_c {w : World} {b : Nat} {F : Nat → Prop} {S : DS} (h : HasF w b F S) (hd : S.dead = false) (hl : S.names.length = 1) :
    Calls Tryz.prog 31 #[.pointer (some ⟨b, 0, none⟩)] w fun e w' => ∃ q c, e = .returned (.tuple #[.slice q 1 c, .int .i64 0]) ∧ Below w.heap.size w w' := by
  obtain ⟨L, d, rfl, o⟩ := h
  refine (names_any L S w d hd (by omega)).mono fun e w' ⟨v, h1, h2, h3⟩ => ?_
  rw [hl] at h2
  rcases h2.2 with ⟨_, h0⟩ | ⟨g, cap, cur, hh, _⟩
  · exact absurd h0 (by omega)
  · exact ⟨_, _, by rw [h1, hh], h3⟩
theorem names_one {w : World} {b k : Nat} {F : Nat → Prop} {S : DS} {P : Option (List Nat) → Prop} {s : Option Nat} (d : CkD w b F S k P) (n : CNow S s none) (hP : ¬ P none) : S.names.length = 1 := by
  have v := (d.i.at n).what
  cases s with
  | none => exact absurd v hP
  | some m => exact n.names.length_eq

set_option maxRecDepth 100000 in
set_option maxHeartbeats 8000000 in
theorem ckptFull_walk (va vb : Value) (n m : Nat) (A B A' B' : Nat → ByteArray) (room fail : Int) (w : World) (ha : IIn w va n A B) (hb : IIn w vb m A' B') (hn : n ≤ 9223372036854775807) (hm : m ≤ 9223372036854775807)
    (hro : room ≤ 9223372036854775807) (hfa : fail ≤ 9223372036854775807) (hK : KTab w) :
    Calls Tryz.prog 7 #[va, vb, .int .i64 room, .int .i64 fail] w fun e w' => e = .returned (.bool true) ∧ Below w.heap.size w w' := by
  have kg : 0 < w.heap.size := ktab_lt hK
  have HK := Box.mk hK; have KG := Box.mk kg; have HA := Box.mk ha; have HB := Box.mk hb; have HN := Box.mk hn; have HM := Box.mk hm; have HRO := Box.mk hro; have HFA := Box.mk hfa
  obtain ⟨va1, va2, rfl⟩ := ha.shape
  obtain ⟨vb1, vb2, rfl⟩ := hb.shape
  clear hK kg ha hb hn hm hro hfa
  go_enter Tryz.func7, Tryz.ntmps7
  go_upto_region 2 with (go_at_call 15; ((with_reducible refine (dnew_f 100000 w (by omega) (by omega)).mono ?_); rintro e w1 ⟨b, rfl, d1, b1⟩; have D1 := Box.mk (CkD.begun d1 (by omega)); have B1 := Box.mk b1; clear d1 b1))
  go_upto_region 3 with (go_at_call 22; ((with_reducible refine (grow_any _ n A B w1 (HA.out.below B1.out) HN.out (ktab_below HK.out B1.out)).mono ?_); rintro e w2 hg; obtain ⟨tb, v, R, rfl, t2, r2, v2, l2, _, b2⟩ := hg.tab (fun _ => False); obtain ⟨rp, rc, rfl⟩ := r2.val; have T2 := Box.mk t2; have R2 := Box.mk r2; have V2 := Box.mk v2; have L2 := Box.mk l2; have B2 := Box.mk b2; clear hg t2 r2 v2 l2 b2))
  have b02 := Box.mk (B1.out.trans (B2.out.mono B1.out.size))
  go_upto_region 4 with (go_at_call 22; ((with_reducible refine (grow_any _ m A' B' w2 (HB.out.below b02.out) HM.out (ktab_below HK.out b02.out)).mono ?_); rintro e w3 hg; obtain ⟨ub, v, Q, rfl, t3, r3, v3, l3, _, b3⟩ := hg.tab (fun _ => False); obtain ⟨qp, qc, rfl⟩ := r3.val; have T3 := Box.mk t3; have R3 := Box.mk r3; have V3 := Box.mk v3; have L3 := Box.mk l3; have B3 := Box.mk b3; clear hg t3 r3 v3 l3 b3))
  have b13 := B2.out.trans (B3.out.mono B2.out.size)
  have b03 := Box.mk (b02.out.trans (B3.out.mono b02.out.size))
  obtain ⟨F, hF⟩ : ∃ F, F = ExtF (fun k => k < w.heap.size) w1 w3 := ⟨_, rfl⟩
  have sub1 : ∀ k, ExtF (fun _ => False) w1 w2 k → F k := fun k hk => by
    rw [hF]
    rcases hk with hk | ⟨h1, h2⟩
    · exact hk.elim
    · exact .inr ⟨h1, Nat.lt_of_lt_of_le h2 B3.out.size⟩
  have sub2 : ∀ k, ExtF (fun _ => False) w2 w3 k → F k := fun k hk => by
    rw [hF]
    rcases hk with hk | ⟨h1, h2⟩
    · exact hk.elim
    · exact .inr ⟨Nat.le_trans B2.out.size h1, h2⟩
  have D3 := Box.mk (show CkD w3 b F (newS 100000) 0 (fun x => x = none) by rw [hF]; exact D1.out.ext b13)
  have TT := Box.mk (T2.out.keep (KeepF.of_below B3.out) sub1)
  have TU := Box.mk (T3.out.keep (KeepF.refl _ _) sub2)
  have VT := Box.mk (fun h0 k hk => sub1 k (V2.out h0 k hk))
  have VU := Box.mk (fun h0 k hk => sub2 k (V3.out h0 k hk))
  have RT := Box.mk (R2.out.below B3.out)
  have KF3 := Box.mk (show KF F by rw [hF]; exact .inl KG.out)
  have KT := Box.mk (ktab_below HK.out b03.out)
  have old := Box.mk (show ∀ k, k < w.heap.size → F k from fun k hk => by rw [hF]; exact .inl hk)
  have CC := Box.mk (show Calm (newS 100000) from ⟨rfl, rfl, rfl⟩)
  have SZ := Box.mk (show (newS 100000).used + (bytT R).length ≤ (newS 100000).room by have := bytT_small' L2.out.len L2.out.text; show (0 : Int) + _ ≤ max 100000 0; omega)
  have RM := Box.mk (show (newS 100000).room = 100000 from rfl)
  obtain ⟨S0, hS0⟩ : ∃ S, S = newS 100000 := ⟨_, rfl⟩
  rw [← hS0] at D3 CC SZ RM
  clear hF sub1 sub2 D1 T2 T3 V2 V3 B2 B3 b13 b02 B1 R2 hS0
  -- the first Save
  go_upto_region 6 with (go_at_call 24; ((with_reducible refine (save_c D3.out (by omega) TT.out KT.out KF3.out).mono ?_); rintro e w4 hs; obtain ⟨S4, rfl, d4, c4, r4, k4⟩ := hs.ok D3.out CC.out SZ.out; have D4 := Box.mk d4; have K4 := Box.mk k4; have C4 := Box.mk c4; clear hs d4 c4 r4 k4 D3 CC SZ RM))
  have NC4 := Box.mk (show NoCrash S4 from ⟨C4.out.alive, C4.out.crash⟩)
  go_upto_region 7 with (go_at_call 29; ((with_reducible refine (room_c room D4.out HRO.out).mono ?_); rintro e w5 ⟨rfl, d5, k5⟩; have D5 := Box.mk d5; have K5 := Box.mk (K4.out.trans k5); clear d5 k5 D4))
  go_upto_region 8 with (go_at_call 28; ((with_reducible refine (fail_c fail D5.out HFA.out).mono ?_); rintro e w6 ⟨rfl, d6, k6⟩; have D6 := Box.mk d6; have K6 := Box.mk (K5.out.trans k6); clear d6 k6 D5))
  obtain ⟨S6, hS6⟩ : ∃ S : DS, S = { ({ S4 with room := max room 0 } : DS) with fail := max fail (-1) } := ⟨_, rfl⟩
  have NC6 := Box.mk (show NoCrash S6 by rw [hS6]; exact ⟨NC4.out.alive, NC4.out.crash⟩)
  rw [← hS6] at D6
  clear hS6
  have KT6 := Box.mk (ktab_keepF KT.out KF3.out K6.out)
  have TU6 := Box.mk (TU.out.keep K6.out (fun _ h => h))
  go_upto_region 9 with (go_at_call 24; ((with_reducible refine (save_c D6.out (by omega) TU6.out KT6.out KF3.out).mono ?_); rintro e w7 ⟨kk, S7, rfl, hr, d7, _, k7⟩; have hno := (let ⟨_, _, nn⟩ := D6.out.n; hr.no NC6.out D6.out.i nn); have KK := Box.mk hno.1; have NC7 := Box.mk hno.2; have D7 := Box.mk d7; have K7 := Box.mk (K6.out.trans k7); clear hr d7 k7 hno D6))
  have KT7 := Box.mk (ktab_keepF KT.out KF3.out K7.out)
  have hLok : ∀ X ∈ [R, Q], LstOk X := fun X hX => by
    simp only [List.mem_cons, List.not_mem_nil, or_false] at hX
    rcases hX with h | h
    · rw [h]; exact L2.out
    · rw [h]; exact L3.out
  have HLO := Box.mk hLok
  have HP7 := Box.mk (show ∀ x, (x = some (bytT R) ∨ x = some (bytT Q)) → ∃ X ∈ [R, Q], x = some (bytT X) from fun x hx => by
    rcases hx with h | h
    · exact ⟨R, by simp, h⟩
    · exact ⟨Q, by simp, h⟩)
  clear hLok
  go_upto_region 10 with (go_at_call 20; ((with_reducible refine (load_c D7.out (by omega) NC7.out.alive KT7.out [R, Q] HLO.out HP7.out).mono ?_); rintro e w8 ⟨X, hX, b8, xb, mo, l, rfl, t8, p8⟩; have T8 := Box.mk t8; have P8 := Box.mk p8; have B8 := Box.mk b8; have HX := Box.mk hX; clear t8 p8 b8 hX))
  have RR := Box.mk ((RT.out.keepF VT.out K7.out).below B8.out)
  have RQ := Box.mk ((R3.out.keepF VU.out K7.out).below B8.out)
  have hl100 : l.length ≤ 100 := by have h1 := P8.out.length_eq; have h2 := (HLO.out X HX.out).len; omega
  have cs1 : ∀ (W : World), Below w8.heap.size w8 W → R.Perm l → Calls Tryz.prog 14 #[.pointer (some ⟨xb, 0, none⟩), .slice rp R.length rc] W (SameP 0 W) := fun W hW hp => same_yes xb mo l R _ W (T8.out.below hW) (RR.out.below hW) hp L2.out.up (by have := L2.out.len; omega)
  have cs1n : ∀ (W : World), Below w8.heap.size w8 W → ¬ R.Perm l → Calls Tryz.prog 14 #[.pointer (some ⟨xb, 0, none⟩), .slice rp R.length rc] W (SameP (-1) W) := fun W hW hp => same_no xb mo l R _ W (T8.out.below hW) (RR.out.below hW) hp hl100
  have cs2 : ∀ (W : World), Below w8.heap.size w8 W → Q.Perm l → Calls Tryz.prog 14 #[.pointer (some ⟨xb, 0, none⟩), .slice qp Q.length qc] W (SameP 0 W) := fun W hW hp => same_yes xb mo l Q _ W (T8.out.below hW) (RQ.out.below hW) hp L3.out.up (by have := L3.out.len; omega)
  have CS1 := Box.mk cs1; have CN1 := Box.mk cs1n; have CS2 := Box.mk cs2
  clear cs1 cs1n cs2 hl100 RR RQ
  have hkk := KK.out
  by_cases hp : R.Perm l
  · have HP := Box.mk hp
    clear hp
    rcases hkk with rfl | rfl | rfl
    all_goals go_upto_region 12 with (go_at_call 14; ((with_reducible refine (CS1.out _ (Below.refl _ _) HP.out).mono ?_); rintro e w9 ⟨rfl, b9⟩; have X9 := Box.mk b9; clear b9))
    · have D9 := Box.mk (D7.out.below (belT B8.out X9.out))
      have K9 := Box.mk (K7.out.trans (KeepF.of_below (belT B8.out X9.out)))
      go_upto_region 13 with (go_at_call 29; ((with_reducible refine (room_c 100000 D9.out (by omega)).mono ?_); rintro e w10 ⟨rfl, d10, k10⟩; have D10 := Box.mk d10; have K10 := Box.mk (K9.out.trans k10); clear d10 k10 D9))
      go_upto_region 14 with (go_at_call 28; ((with_reducible refine (fail_c (-1) D10.out (by omega)).mono ?_); rintro e w11 ⟨rfl, d11, k11⟩; have D11 := Box.mk d11; have K11 := Box.mk (K10.out.trans k11); clear d11 k11 D10))
      have KT11 := Box.mk (ktab_keepF KT.out KF3.out K11.out)
      have TU11 := Box.mk (TU.out.keep K11.out (fun _ h => h))
      obtain ⟨S11, hS11⟩ : ∃ S : DS, S = { ({ S7 with room := max 100000 0 } : DS) with fail := max (-1) (-1) } := ⟨_, rfl⟩
      have C11 := Box.mk (show Calm S11 by rw [hS11]; exact ⟨NC7.out.alive, rfl, NC7.out.crash⟩)
      have R11 := Box.mk (show S11.room = 100000 by rw [hS11]; rfl)
      rw [← hS11] at D11
      have SZ11 := Box.mk (show S11.used + (bytT Q).length ≤ S11.room by have h1 := D11.out.used; have h2 := bytT_small' L3.out.len L3.out.text; rw [R11.out]; omega)
      clear hS11
      go_upto_region 16 with (first
        | (go_at_call 24; ((with_reducible refine (save_c D11.out (by omega) TU11.out KT11.out KF3.out).mono ?_); rintro e w12 hs; obtain ⟨S12, rfl, d12, c12, r12, k12⟩ := hs.ok D11.out C11.out SZ11.out; have D12 := Box.mk d12; have C12 := Box.mk c12; have R12 := Box.mk (r12.trans R11.out); have K12 := Box.mk (K11.out.trans k12); have U12 := Box.mk (show S12.used ≤ S12.room by have h1 := d12.used; rw [r12, R11.out]; omega); clear hs d12 c12 r12 k12 D11))
        | (go_at_call 25; ((with_reducible refine (clean_c D12.out (by omega) C12.out U12.out).mono ?_); rintro e w13 ⟨S13, s13, rfl, d13, n13, c13, k13⟩; have D13 := Box.mk d13; have C13 := Box.mk c13; have K13 := Box.mk (K12.out.trans k13); have O13 := Box.mk (names_one d13 n13 (fun h => by cases h)); clear d13 n13 c13 k13 D12)))
      have KT13 := Box.mk (ktab_keepF KT.out KF3.out K13.out)
      go_upto_region 17 with (go_at_call 20; ((with_reducible refine (load_c D13.out (by omega) C13.out.alive KT13.out [Q] (fun R' h => by rw [List.mem_singleton] at h; rw [h]; exact L3.out) (fun x hx => ⟨Q, by simp, hx⟩)).mono ?_); rintro e w14 ⟨R', hR', b14, yb, mo2, l2, rfl, t14, p14⟩; rw [List.mem_singleton] at hR'; rw [hR'] at p14; have T14 := Box.mk t14; have P14 := Box.mk p14; have B14 := Box.mk b14; clear t14 p14 b14))
      go_upto_region 18 with (go_at_call 31; ((with_reducible refine (names_c (D13.out.h.below B14.out) C13.out.alive O13.out).mono ?_); rintro e w15 ⟨nq, nc, rfl, b15⟩; have B15 := Box.mk (belT B14.out b15); have T15 := Box.mk (T14.out.below b15); clear b15))
      have KT15 := Box.mk (ktab_below KT13.out B15.out)
      have RQ := Box.mk (R3.out.keepF VU.out K13.out)
      go_wp2_with (first
        | (go_at_call 16; ((with_reducible refine (awake23_any _ KT15.out).mono ?_); rintro e w16 ⟨rfl, b16⟩; have B16 := Box.mk (belT B15.out b16); have T16 := Box.mk (T15.out.below b16); clear b16))
        | (go_at_call 14; ((with_reducible refine (same_yes yb mo2 l2 Q _ _ T16.out (RQ.out.below B16.out) P14.out.symm L3.out.up (by have := L3.out.len; omega)).mono ?_); rintro e w17 ⟨rfl, b17⟩; have B17 := Box.mk (belT B16.out b17); clear b17)))
      go_ret
      refine ⟨rfl, ?_⟩
      have y13 := b03.out.trans (K13.out.below b03.out.size old.out)
      exact y13.trans (B17.out.mono y13.size)
    · have D9 := Box.mk (D7.out.below (belT B8.out X9.out))
      have K9 := Box.mk (K7.out.trans (KeepF.of_below (belT B8.out X9.out)))
      go_upto_region 13 with (go_at_call 29; ((with_reducible refine (room_c 100000 D9.out (by omega)).mono ?_); rintro e w10 ⟨rfl, d10, k10⟩; have D10 := Box.mk d10; have K10 := Box.mk (K9.out.trans k10); clear d10 k10 D9))
      go_upto_region 14 with (go_at_call 28; ((with_reducible refine (fail_c (-1) D10.out (by omega)).mono ?_); rintro e w11 ⟨rfl, d11, k11⟩; have D11 := Box.mk d11; have K11 := Box.mk (K10.out.trans k11); clear d11 k11 D10))
      have KT11 := Box.mk (ktab_keepF KT.out KF3.out K11.out)
      have TU11 := Box.mk (TU.out.keep K11.out (fun _ h => h))
      obtain ⟨S11, hS11⟩ : ∃ S : DS, S = { ({ S7 with room := max 100000 0 } : DS) with fail := max (-1) (-1) } := ⟨_, rfl⟩
      have C11 := Box.mk (show Calm S11 by rw [hS11]; exact ⟨NC7.out.alive, rfl, NC7.out.crash⟩)
      have R11 := Box.mk (show S11.room = 100000 by rw [hS11]; rfl)
      rw [← hS11] at D11
      have SZ11 := Box.mk (show S11.used + (bytT Q).length ≤ S11.room by have h1 := D11.out.used; have h2 := bytT_small' L3.out.len L3.out.text; rw [R11.out]; omega)
      clear hS11
      go_upto_region 16 with (first
        | (go_at_call 24; ((with_reducible refine (save_c D11.out (by omega) TU11.out KT11.out KF3.out).mono ?_); rintro e w12 hs; obtain ⟨S12, rfl, d12, c12, r12, k12⟩ := hs.ok D11.out C11.out SZ11.out; have D12 := Box.mk d12; have C12 := Box.mk c12; have R12 := Box.mk (r12.trans R11.out); have K12 := Box.mk (K11.out.trans k12); have U12 := Box.mk (show S12.used ≤ S12.room by have h1 := d12.used; rw [r12, R11.out]; omega); clear hs d12 c12 r12 k12 D11))
        | (go_at_call 25; ((with_reducible refine (clean_c D12.out (by omega) C12.out U12.out).mono ?_); rintro e w13 ⟨S13, s13, rfl, d13, n13, c13, k13⟩; have D13 := Box.mk d13; have C13 := Box.mk c13; have K13 := Box.mk (K12.out.trans k13); have O13 := Box.mk (names_one d13 n13 (fun h => by cases h)); clear d13 n13 c13 k13 D12)))
      have KT13 := Box.mk (ktab_keepF KT.out KF3.out K13.out)
      go_upto_region 17 with (go_at_call 20; ((with_reducible refine (load_c D13.out (by omega) C13.out.alive KT13.out [Q] (fun R' h => by rw [List.mem_singleton] at h; rw [h]; exact L3.out) (fun x hx => ⟨Q, by simp, hx⟩)).mono ?_); rintro e w14 ⟨R', hR', b14, yb, mo2, l2, rfl, t14, p14⟩; rw [List.mem_singleton] at hR'; rw [hR'] at p14; have T14 := Box.mk t14; have P14 := Box.mk p14; have B14 := Box.mk b14; clear t14 p14 b14))
      go_upto_region 18 with (go_at_call 31; ((with_reducible refine (names_c (D13.out.h.below B14.out) C13.out.alive O13.out).mono ?_); rintro e w15 ⟨nq, nc, rfl, b15⟩; have B15 := Box.mk (belT B14.out b15); have T15 := Box.mk (T14.out.below b15); clear b15))
      have KT15 := Box.mk (ktab_below KT13.out B15.out)
      have RQ := Box.mk (R3.out.keepF VU.out K13.out)
      go_wp2_with (first
        | (go_at_call 16; ((with_reducible refine (awake23_any _ KT15.out).mono ?_); rintro e w16 ⟨rfl, b16⟩; have B16 := Box.mk (belT B15.out b16); have T16 := Box.mk (T15.out.below b16); clear b16))
        | (go_at_call 14; ((with_reducible refine (same_yes yb mo2 l2 Q _ _ T16.out (RQ.out.below B16.out) P14.out.symm L3.out.up (by have := L3.out.len; omega)).mono ?_); rintro e w17 ⟨rfl, b17⟩; have B17 := Box.mk (belT B16.out b17); clear b17)))
      go_ret
      refine ⟨rfl, ?_⟩
      have y13 := b03.out.trans (K13.out.below b03.out.size old.out)
      exact y13.trans (B17.out.mono y13.size)
    · have D9 := Box.mk (D7.out.below (belT B8.out X9.out))
      have K9 := Box.mk (K7.out.trans (KeepF.of_below (belT B8.out X9.out)))
      go_upto_region 13 with (go_at_call 29; ((with_reducible refine (room_c 100000 D9.out (by omega)).mono ?_); rintro e w10 ⟨rfl, d10, k10⟩; have D10 := Box.mk d10; have K10 := Box.mk (K9.out.trans k10); clear d10 k10 D9))
      go_upto_region 14 with (go_at_call 28; ((with_reducible refine (fail_c (-1) D10.out (by omega)).mono ?_); rintro e w11 ⟨rfl, d11, k11⟩; have D11 := Box.mk d11; have K11 := Box.mk (K10.out.trans k11); clear d11 k11 D10))
      have KT11 := Box.mk (ktab_keepF KT.out KF3.out K11.out)
      have TU11 := Box.mk (TU.out.keep K11.out (fun _ h => h))
      obtain ⟨S11, hS11⟩ : ∃ S : DS, S = { ({ S7 with room := max 100000 0 } : DS) with fail := max (-1) (-1) } := ⟨_, rfl⟩
      have C11 := Box.mk (show Calm S11 by rw [hS11]; exact ⟨NC7.out.alive, rfl, NC7.out.crash⟩)
      have R11 := Box.mk (show S11.room = 100000 by rw [hS11]; rfl)
      rw [← hS11] at D11
      have SZ11 := Box.mk (show S11.used + (bytT Q).length ≤ S11.room by have h1 := D11.out.used; have h2 := bytT_small' L3.out.len L3.out.text; rw [R11.out]; omega)
      clear hS11
      go_upto_region 16 with (first
        | (go_at_call 24; ((with_reducible refine (save_c D11.out (by omega) TU11.out KT11.out KF3.out).mono ?_); rintro e w12 hs; obtain ⟨S12, rfl, d12, c12, r12, k12⟩ := hs.ok D11.out C11.out SZ11.out; have D12 := Box.mk d12; have C12 := Box.mk c12; have R12 := Box.mk (r12.trans R11.out); have K12 := Box.mk (K11.out.trans k12); have U12 := Box.mk (show S12.used ≤ S12.room by have h1 := d12.used; rw [r12, R11.out]; omega); clear hs d12 c12 r12 k12 D11))
        | (go_at_call 25; ((with_reducible refine (clean_c D12.out (by omega) C12.out U12.out).mono ?_); rintro e w13 ⟨S13, s13, rfl, d13, n13, c13, k13⟩; have D13 := Box.mk d13; have C13 := Box.mk c13; have K13 := Box.mk (K12.out.trans k13); have O13 := Box.mk (names_one d13 n13 (fun h => by cases h)); clear d13 n13 c13 k13 D12)))
      have KT13 := Box.mk (ktab_keepF KT.out KF3.out K13.out)
      go_upto_region 17 with (go_at_call 20; ((with_reducible refine (load_c D13.out (by omega) C13.out.alive KT13.out [Q] (fun R' h => by rw [List.mem_singleton] at h; rw [h]; exact L3.out) (fun x hx => ⟨Q, by simp, hx⟩)).mono ?_); rintro e w14 ⟨R', hR', b14, yb, mo2, l2, rfl, t14, p14⟩; rw [List.mem_singleton] at hR'; rw [hR'] at p14; have T14 := Box.mk t14; have P14 := Box.mk p14; have B14 := Box.mk b14; clear t14 p14 b14))
      go_upto_region 18 with (go_at_call 31; ((with_reducible refine (names_c (D13.out.h.below B14.out) C13.out.alive O13.out).mono ?_); rintro e w15 ⟨nq, nc, rfl, b15⟩; have B15 := Box.mk (belT B14.out b15); have T15 := Box.mk (T14.out.below b15); clear b15))
      have KT15 := Box.mk (ktab_below KT13.out B15.out)
      have RQ := Box.mk (R3.out.keepF VU.out K13.out)
      go_wp2_with (first
        | (go_at_call 16; ((with_reducible refine (awake23_any _ KT15.out).mono ?_); rintro e w16 ⟨rfl, b16⟩; have B16 := Box.mk (belT B15.out b16); have T16 := Box.mk (T15.out.below b16); clear b16))
        | (go_at_call 14; ((with_reducible refine (same_yes yb mo2 l2 Q _ _ T16.out (RQ.out.below B16.out) P14.out.symm L3.out.up (by have := L3.out.len; omega)).mono ?_); rintro e w17 ⟨rfl, b17⟩; have B17 := Box.mk (belT B16.out b17); clear b17)))
      go_ret
      refine ⟨rfl, ?_⟩
      have y13 := b03.out.trans (K13.out.below b03.out.size old.out)
      exact y13.trans (B17.out.mono y13.size)
  · have hXQ : Q.Perm l := by
      have hx := HX.out
      simp only [List.mem_cons, List.not_mem_nil, or_false] at hx
      rcases hx with h | h
      · exact absurd (by rw [← h]; exact P8.out.symm) hp
      · rw [← h]; exact P8.out.symm
    have HQ := Box.mk hXQ
    have HP := Box.mk hp
    clear hp hXQ
    rcases hkk with rfl | rfl | rfl
    all_goals go_upto_region 12 with (first
        | (go_at_call 14; ((with_reducible refine (CN1.out _ (Below.refl _ _) HP.out).mono ?_); rintro e wa ⟨rfl, ba⟩; have XA := Box.mk ba; clear ba))
        | (go_at_call 14; ((with_reducible refine (CS2.out _ XA.out HQ.out).mono ?_); rintro e w9 ⟨rfl, b9⟩; have X9 := Box.mk (belT XA.out b9); clear b9 XA)))
    · have D9 := Box.mk (D7.out.below (belT B8.out X9.out))
      have K9 := Box.mk (K7.out.trans (KeepF.of_below (belT B8.out X9.out)))
      go_upto_region 13 with (go_at_call 29; ((with_reducible refine (room_c 100000 D9.out (by omega)).mono ?_); rintro e w10 ⟨rfl, d10, k10⟩; have D10 := Box.mk d10; have K10 := Box.mk (K9.out.trans k10); clear d10 k10 D9))
      go_upto_region 14 with (go_at_call 28; ((with_reducible refine (fail_c (-1) D10.out (by omega)).mono ?_); rintro e w11 ⟨rfl, d11, k11⟩; have D11 := Box.mk d11; have K11 := Box.mk (K10.out.trans k11); clear d11 k11 D10))
      have KT11 := Box.mk (ktab_keepF KT.out KF3.out K11.out)
      have TU11 := Box.mk (TU.out.keep K11.out (fun _ h => h))
      obtain ⟨S11, hS11⟩ : ∃ S : DS, S = { ({ S7 with room := max 100000 0 } : DS) with fail := max (-1) (-1) } := ⟨_, rfl⟩
      have C11 := Box.mk (show Calm S11 by rw [hS11]; exact ⟨NC7.out.alive, rfl, NC7.out.crash⟩)
      have R11 := Box.mk (show S11.room = 100000 by rw [hS11]; rfl)
      rw [← hS11] at D11
      have SZ11 := Box.mk (show S11.used + (bytT Q).length ≤ S11.room by have h1 := D11.out.used; have h2 := bytT_small' L3.out.len L3.out.text; rw [R11.out]; omega)
      clear hS11
      go_upto_region 16 with (first
        | (go_at_call 24; ((with_reducible refine (save_c D11.out (by omega) TU11.out KT11.out KF3.out).mono ?_); rintro e w12 hs; obtain ⟨S12, rfl, d12, c12, r12, k12⟩ := hs.ok D11.out C11.out SZ11.out; have D12 := Box.mk d12; have C12 := Box.mk c12; have R12 := Box.mk (r12.trans R11.out); have K12 := Box.mk (K11.out.trans k12); have U12 := Box.mk (show S12.used ≤ S12.room by have h1 := d12.used; rw [r12, R11.out]; omega); clear hs d12 c12 r12 k12 D11))
        | (go_at_call 25; ((with_reducible refine (clean_c D12.out (by omega) C12.out U12.out).mono ?_); rintro e w13 ⟨S13, s13, rfl, d13, n13, c13, k13⟩; have D13 := Box.mk d13; have C13 := Box.mk c13; have K13 := Box.mk (K12.out.trans k13); have O13 := Box.mk (names_one d13 n13 (fun h => by cases h)); clear d13 n13 c13 k13 D12)))
      have KT13 := Box.mk (ktab_keepF KT.out KF3.out K13.out)
      go_upto_region 17 with (go_at_call 20; ((with_reducible refine (load_c D13.out (by omega) C13.out.alive KT13.out [Q] (fun R' h => by rw [List.mem_singleton] at h; rw [h]; exact L3.out) (fun x hx => ⟨Q, by simp, hx⟩)).mono ?_); rintro e w14 ⟨R', hR', b14, yb, mo2, l2, rfl, t14, p14⟩; rw [List.mem_singleton] at hR'; rw [hR'] at p14; have T14 := Box.mk t14; have P14 := Box.mk p14; have B14 := Box.mk b14; clear t14 p14 b14))
      go_upto_region 18 with (go_at_call 31; ((with_reducible refine (names_c (D13.out.h.below B14.out) C13.out.alive O13.out).mono ?_); rintro e w15 ⟨nq, nc, rfl, b15⟩; have B15 := Box.mk (belT B14.out b15); have T15 := Box.mk (T14.out.below b15); clear b15))
      have KT15 := Box.mk (ktab_below KT13.out B15.out)
      have RQ := Box.mk (R3.out.keepF VU.out K13.out)
      go_wp2_with (first
        | (go_at_call 16; ((with_reducible refine (awake23_any _ KT15.out).mono ?_); rintro e w16 ⟨rfl, b16⟩; have B16 := Box.mk (belT B15.out b16); have T16 := Box.mk (T15.out.below b16); clear b16))
        | (go_at_call 14; ((with_reducible refine (same_yes yb mo2 l2 Q _ _ T16.out (RQ.out.below B16.out) P14.out.symm L3.out.up (by have := L3.out.len; omega)).mono ?_); rintro e w17 ⟨rfl, b17⟩; have B17 := Box.mk (belT B16.out b17); clear b17)))
      go_ret
      refine ⟨rfl, ?_⟩
      have y13 := b03.out.trans (K13.out.below b03.out.size old.out)
      exact y13.trans (B17.out.mono y13.size)
    · have D9 := Box.mk (D7.out.below (belT B8.out X9.out))
      have K9 := Box.mk (K7.out.trans (KeepF.of_below (belT B8.out X9.out)))
      go_upto_region 13 with (go_at_call 29; ((with_reducible refine (room_c 100000 D9.out (by omega)).mono ?_); rintro e w10 ⟨rfl, d10, k10⟩; have D10 := Box.mk d10; have K10 := Box.mk (K9.out.trans k10); clear d10 k10 D9))
      go_upto_region 14 with (go_at_call 28; ((with_reducible refine (fail_c (-1) D10.out (by omega)).mono ?_); rintro e w11 ⟨rfl, d11, k11⟩; have D11 := Box.mk d11; have K11 := Box.mk (K10.out.trans k11); clear d11 k11 D10))
      have KT11 := Box.mk (ktab_keepF KT.out KF3.out K11.out)
      have TU11 := Box.mk (TU.out.keep K11.out (fun _ h => h))
      obtain ⟨S11, hS11⟩ : ∃ S : DS, S = { ({ S7 with room := max 100000 0 } : DS) with fail := max (-1) (-1) } := ⟨_, rfl⟩
      have C11 := Box.mk (show Calm S11 by rw [hS11]; exact ⟨NC7.out.alive, rfl, NC7.out.crash⟩)
      have R11 := Box.mk (show S11.room = 100000 by rw [hS11]; rfl)
      rw [← hS11] at D11
      have SZ11 := Box.mk (show S11.used + (bytT Q).length ≤ S11.room by have h1 := D11.out.used; have h2 := bytT_small' L3.out.len L3.out.text; rw [R11.out]; omega)
      clear hS11
      go_upto_region 16 with (first
        | (go_at_call 24; ((with_reducible refine (save_c D11.out (by omega) TU11.out KT11.out KF3.out).mono ?_); rintro e w12 hs; obtain ⟨S12, rfl, d12, c12, r12, k12⟩ := hs.ok D11.out C11.out SZ11.out; have D12 := Box.mk d12; have C12 := Box.mk c12; have R12 := Box.mk (r12.trans R11.out); have K12 := Box.mk (K11.out.trans k12); have U12 := Box.mk (show S12.used ≤ S12.room by have h1 := d12.used; rw [r12, R11.out]; omega); clear hs d12 c12 r12 k12 D11))
        | (go_at_call 25; ((with_reducible refine (clean_c D12.out (by omega) C12.out U12.out).mono ?_); rintro e w13 ⟨S13, s13, rfl, d13, n13, c13, k13⟩; have D13 := Box.mk d13; have C13 := Box.mk c13; have K13 := Box.mk (K12.out.trans k13); have O13 := Box.mk (names_one d13 n13 (fun h => by cases h)); clear d13 n13 c13 k13 D12)))
      have KT13 := Box.mk (ktab_keepF KT.out KF3.out K13.out)
      go_upto_region 17 with (go_at_call 20; ((with_reducible refine (load_c D13.out (by omega) C13.out.alive KT13.out [Q] (fun R' h => by rw [List.mem_singleton] at h; rw [h]; exact L3.out) (fun x hx => ⟨Q, by simp, hx⟩)).mono ?_); rintro e w14 ⟨R', hR', b14, yb, mo2, l2, rfl, t14, p14⟩; rw [List.mem_singleton] at hR'; rw [hR'] at p14; have T14 := Box.mk t14; have P14 := Box.mk p14; have B14 := Box.mk b14; clear t14 p14 b14))
      go_upto_region 18 with (go_at_call 31; ((with_reducible refine (names_c (D13.out.h.below B14.out) C13.out.alive O13.out).mono ?_); rintro e w15 ⟨nq, nc, rfl, b15⟩; have B15 := Box.mk (belT B14.out b15); have T15 := Box.mk (T14.out.below b15); clear b15))
      have KT15 := Box.mk (ktab_below KT13.out B15.out)
      have RQ := Box.mk (R3.out.keepF VU.out K13.out)
      go_wp2_with (first
        | (go_at_call 16; ((with_reducible refine (awake23_any _ KT15.out).mono ?_); rintro e w16 ⟨rfl, b16⟩; have B16 := Box.mk (belT B15.out b16); have T16 := Box.mk (T15.out.below b16); clear b16))
        | (go_at_call 14; ((with_reducible refine (same_yes yb mo2 l2 Q _ _ T16.out (RQ.out.below B16.out) P14.out.symm L3.out.up (by have := L3.out.len; omega)).mono ?_); rintro e w17 ⟨rfl, b17⟩; have B17 := Box.mk (belT B16.out b17); clear b17)))
      go_ret
      refine ⟨rfl, ?_⟩
      have y13 := b03.out.trans (K13.out.below b03.out.size old.out)
      exact y13.trans (B17.out.mono y13.size)
    · have D9 := Box.mk (D7.out.below (belT B8.out X9.out))
      have K9 := Box.mk (K7.out.trans (KeepF.of_below (belT B8.out X9.out)))
      go_upto_region 13 with (go_at_call 29; ((with_reducible refine (room_c 100000 D9.out (by omega)).mono ?_); rintro e w10 ⟨rfl, d10, k10⟩; have D10 := Box.mk d10; have K10 := Box.mk (K9.out.trans k10); clear d10 k10 D9))
      go_upto_region 14 with (go_at_call 28; ((with_reducible refine (fail_c (-1) D10.out (by omega)).mono ?_); rintro e w11 ⟨rfl, d11, k11⟩; have D11 := Box.mk d11; have K11 := Box.mk (K10.out.trans k11); clear d11 k11 D10))
      have KT11 := Box.mk (ktab_keepF KT.out KF3.out K11.out)
      have TU11 := Box.mk (TU.out.keep K11.out (fun _ h => h))
      obtain ⟨S11, hS11⟩ : ∃ S : DS, S = { ({ S7 with room := max 100000 0 } : DS) with fail := max (-1) (-1) } := ⟨_, rfl⟩
      have C11 := Box.mk (show Calm S11 by rw [hS11]; exact ⟨NC7.out.alive, rfl, NC7.out.crash⟩)
      have R11 := Box.mk (show S11.room = 100000 by rw [hS11]; rfl)
      rw [← hS11] at D11
      have SZ11 := Box.mk (show S11.used + (bytT Q).length ≤ S11.room by have h1 := D11.out.used; have h2 := bytT_small' L3.out.len L3.out.text; rw [R11.out]; omega)
      clear hS11
      go_upto_region 16 with (first
        | (go_at_call 24; ((with_reducible refine (save_c D11.out (by omega) TU11.out KT11.out KF3.out).mono ?_); rintro e w12 hs; obtain ⟨S12, rfl, d12, c12, r12, k12⟩ := hs.ok D11.out C11.out SZ11.out; have D12 := Box.mk d12; have C12 := Box.mk c12; have R12 := Box.mk (r12.trans R11.out); have K12 := Box.mk (K11.out.trans k12); have U12 := Box.mk (show S12.used ≤ S12.room by have h1 := d12.used; rw [r12, R11.out]; omega); clear hs d12 c12 r12 k12 D11))
        | (go_at_call 25; ((with_reducible refine (clean_c D12.out (by omega) C12.out U12.out).mono ?_); rintro e w13 ⟨S13, s13, rfl, d13, n13, c13, k13⟩; have D13 := Box.mk d13; have C13 := Box.mk c13; have K13 := Box.mk (K12.out.trans k13); have O13 := Box.mk (names_one d13 n13 (fun h => by cases h)); clear d13 n13 c13 k13 D12)))
      have KT13 := Box.mk (ktab_keepF KT.out KF3.out K13.out)
      go_upto_region 17 with (go_at_call 20; ((with_reducible refine (load_c D13.out (by omega) C13.out.alive KT13.out [Q] (fun R' h => by rw [List.mem_singleton] at h; rw [h]; exact L3.out) (fun x hx => ⟨Q, by simp, hx⟩)).mono ?_); rintro e w14 ⟨R', hR', b14, yb, mo2, l2, rfl, t14, p14⟩; rw [List.mem_singleton] at hR'; rw [hR'] at p14; have T14 := Box.mk t14; have P14 := Box.mk p14; have B14 := Box.mk b14; clear t14 p14 b14))
      go_upto_region 18 with (go_at_call 31; ((with_reducible refine (names_c (D13.out.h.below B14.out) C13.out.alive O13.out).mono ?_); rintro e w15 ⟨nq, nc, rfl, b15⟩; have B15 := Box.mk (belT B14.out b15); have T15 := Box.mk (T14.out.below b15); clear b15))
      have KT15 := Box.mk (ktab_below KT13.out B15.out)
      have RQ := Box.mk (R3.out.keepF VU.out K13.out)
      go_wp2_with (first
        | (go_at_call 16; ((with_reducible refine (awake23_any _ KT15.out).mono ?_); rintro e w16 ⟨rfl, b16⟩; have B16 := Box.mk (belT B15.out b16); have T16 := Box.mk (T15.out.below b16); clear b16))
        | (go_at_call 14; ((with_reducible refine (same_yes yb mo2 l2 Q _ _ T16.out (RQ.out.below B16.out) P14.out.symm L3.out.up (by have := L3.out.len; omega)).mono ?_); rintro e w17 ⟨rfl, b17⟩; have B17 := Box.mk (belT B16.out b17); clear b17)))
      go_ret
      refine ⟨rfl, ?_⟩
      have y13 := b03.out.trans (K13.out.below b03.out.size old.out)
      exact y13.trans (B17.out.mono y13.size)
end Go.Proofs.YteilmohlgfgmnaaGreatDoor
