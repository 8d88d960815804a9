/- Checkpoints: ordeallaw23.CkptCrash. -/
import Derived.Test.YteilmohlgfgmnaaGreatDoorUb
namespace Go.Proofs.YteilmohlgfgmnaaGreatDoor
set_option maxRecDepth 100000
open Go.RowKit Go.Maps Go.Sort M

theorem tabF_new {w : World} {F : Nat → Prop} : TabF (w.alloc (.cells #[.map none] 67)) (ExtF F w (w.alloc (.cells #[.map none] 67))) w.heap.size [] := by
  have t : (w.alloc (.cells #[.map none] 67)).heap[w.heap.size]? = some (.cells #[.map none] 67 (0, 0)) := heap_alloc_new w _
  have T0 : Tab (w.alloc (.cells #[.map none] 67)) w.heap.size none [] := ⟨by simp only [World.cell?, t]; rfl, by simp only [World.frozen?, t]; rfl, fun _ => rfl, fun m e => by cases e⟩
  exact ⟨⟨none, [], T0, fun m e => (by cases e), List.Perm.refl _⟩, .inr ⟨Nat.le_refl _, by simp⟩, List.Pairwise.nil, fun x hx => (nomatch hx), by simp⟩
theorem ints_below {w : World} {v : Value} {xs : List Int} (h : IntsIn w v xs) : ∀ k, 0 < xs.length → v.ownBlock = some k → k < w.heap.size := fun k h0 hk => by
  obtain ⟨b, off, c, hv, hb, _⟩ := h.cells h0
  rw [hv] at hk
  cases hk; exact hb
theorem IntsIn.keepF {F : Nat → Prop} {w w' : World} {v : Value} {xs : List Int} (h : IntsIn w v xs) (k : KeepF F w w') (hF : ∀ k, k < w.heap.size → F k) : IntsIn w' v xs :=
  h.keep k.size (fun b _ hb => k.block b (hF b hb) hb)

set_option maxRecDepth 100000 in
set_option maxHeartbeats 8000000 in
theorem ckptCrash_walk (va vb vc : Value) (n m : Nat) (A B A' B' : Nat → ByteArray) (crash : Int) (choice : List Int) (w : World) (ha : IIn w va n A B) (hb : IIn w vb m A' B') (hn : n ≤ 9223372036854775807) (hm : m ≤ 9223372036854775807)
    (hc : crash ≤ 9223372036854775807) (hi : IntsIn w vc choice) (hK : KTab w) :
    Calls Tryz.prog 6 #[va, vb, .int .i64 crash, vc] w fun e w' => e = .returned (.bool true) ∧ Below w.heap.size w w' := by
  have kg : 0 < w.heap.size := ktab_lt hK
  have HK := Box.mk hK; have KG := Box.mk kg; have HA := Box.mk ha; have HB := Box.mk hb; have HI := Box.mk hi; have HN := Box.mk hn; have HM := Box.mk hm; have HC := Box.mk hc
  obtain ⟨va1, va2, rfl⟩ := ha.shape
  obtain ⟨vb1, vb2, rfl⟩ := hb.shape
  obtain ⟨vc1, vc2, rfl⟩ := hi.val
  clear hK kg ha hb hi hn hm hc
  go_enter Tryz.func6, Tryz.ntmps6
  go_upto_region 2 with (go_at_call 15; ((with_reducible refine (dnew_f 100000 w (by omega) (by omega)).mono ?_); rintro e w1 ⟨b, rfl, d1, b1⟩; have D1 := Box.mk (CkD.begun d1 (by omega)); have B1 := Box.mk b1; clear d1 b1))
  go_upto_region 3 with (go_at_call 22; ((with_reducible refine (grow_any _ n A B w1 (HA.out.below B1.out) HN.out (ktab_below HK.out B1.out)).mono ?_); rintro e w2 hg; obtain ⟨tb, v, R, rfl, t2, r2, v2, l2, _, b2⟩ := hg.tab (fun _ => False); obtain ⟨rp, rc, rfl⟩ := r2.val; have T2 := Box.mk t2; have R2 := Box.mk r2; have V2 := Box.mk v2; have L2 := Box.mk l2; have B2 := Box.mk b2; clear hg t2 r2 v2 l2 b2))
  have b02 := Box.mk (B1.out.trans (B2.out.mono B1.out.size))
  go_upto_region 4 with (go_at_call 22; ((with_reducible refine (grow_any _ m A' B' w2 (HB.out.below b02.out) HM.out (ktab_below HK.out b02.out)).mono ?_); rintro e w3 hg; obtain ⟨ub, v, Q, rfl, t3, r3, v3, l3, _, b3⟩ := hg.tab (fun _ => False); obtain ⟨qp, qc, rfl⟩ := r3.val; have T3 := Box.mk t3; have R3 := Box.mk r3; have V3 := Box.mk v3; have L3 := Box.mk l3; have B3 := Box.mk b3; clear hg t3 r3 v3 l3 b3))
  have b13 := B2.out.trans (B3.out.mono B2.out.size)
  have b03 := Box.mk (b02.out.trans (B3.out.mono b02.out.size))
  obtain ⟨F, hF⟩ : ∃ F, F = ExtF (fun k => k < w.heap.size) w1 w3 := ⟨_, rfl⟩
  have sub1 : ∀ k, ExtF (fun _ => False) w1 w2 k → F k := fun k hk => by
    rw [hF]
    rcases hk with hk | ⟨h1, h2⟩
    · exact hk.elim
    · exact .inr ⟨h1, Nat.lt_of_lt_of_le h2 B3.out.size⟩
  have sub2 : ∀ k, ExtF (fun _ => False) w2 w3 k → F k := fun k hk => by
    rw [hF]
    rcases hk with hk | ⟨h1, h2⟩
    · exact hk.elim
    · exact .inr ⟨Nat.le_trans B2.out.size h1, h2⟩
  have D3 := Box.mk (show CkD w3 b F (newS 100000) 0 (fun x => x = none) by rw [hF]; exact D1.out.ext b13)
  have TT := Box.mk (T2.out.keep (KeepF.of_below B3.out) sub1)
  have TU := Box.mk (T3.out.keep (KeepF.refl _ _) sub2)
  have VT := Box.mk (fun h0 k hk => sub1 k (V2.out h0 k hk))
  have VU := Box.mk (fun h0 k hk => sub2 k (V3.out h0 k hk))
  have RT := Box.mk (R2.out.below B3.out)
  have KF3 := Box.mk (show KF F by rw [hF]; exact .inl KG.out)
  have KT := Box.mk (ktab_below HK.out b03.out)
  have old := Box.mk (show ∀ k, k < w.heap.size → F k from fun k hk => by rw [hF]; exact .inl hk)
  have CC := Box.mk (show Calm (newS 100000) from ⟨rfl, rfl, rfl⟩)
  have SZ := Box.mk (show (newS 100000).used + (bytT R).length ≤ (newS 100000).room by have := bytT_small' L2.out.len L2.out.text; show (0 : Int) + _ ≤ max 100000 0; omega)
  have RM := Box.mk (show (newS 100000).room = 100000 from rfl)
  obtain ⟨S0, hS0⟩ : ∃ S, S = newS 100000 := ⟨_, rfl⟩
  rw [← hS0] at D3 CC SZ RM
  clear hF sub1 sub2 D1 T2 T3 V2 V3 B2 B3 b13 b02 B1 R2 hS0
  -- the first Save
  go_upto_region 6 with (go_at_call 24; ((with_reducible refine (save_c D3.out (by omega) TT.out KT.out KF3.out).mono ?_); rintro e w4 hs; obtain ⟨S4, rfl, d4, c4, r4, k4⟩ := hs.ok D3.out CC.out SZ.out; have D4 := Box.mk d4; have K4 := Box.mk k4; have R4 := Box.mk (r4.trans RM.out); clear hs d4 c4 r4 k4 D3 CC SZ RM))
  go_upto_region 7 with (go_at_call 27; ((with_reducible refine (crash_c crash D4.out HC.out).mono ?_); rintro e w5 ⟨rfl, d5, k5⟩; have D5 := Box.mk d5; have K5 := Box.mk (K4.out.trans k5); have R5 := Box.mk (show ({ S4 with crash := max crash (-1) } : DS).room = 100000 from R4.out); clear d5 k5 D4 R4))
  have KT5 := Box.mk (ktab_keepF KT.out KF3.out K5.out)
  have TU5 := Box.mk (TU.out.keep K5.out (fun _ h => h))
  -- the second Save
  go_upto_region 8 with (go_at_call 24; ((with_reducible refine (save_c D5.out (by omega) TU5.out KT5.out KF3.out).mono ?_); rintro e w6 ⟨kk, S6, rfl, hr, d6, z6, k6⟩; have D6 := Box.mk d6; have Z6 := Box.mk z6; have K6 := Box.mk (K5.out.trans k6); have R6 := Box.mk (hr.room.trans R5.out); clear hr d6 z6 k6 D5))
  -- what the file may hold
  obtain ⟨L, hL1, hL2, hd6⟩ : ∃ L : List (List Ent), (∀ X ∈ L, X = R ∨ X = Q) ∧ (kk = 0 → ∀ X ∈ L, X = Q) ∧ CkD w6 b F S6 240 (fun x => ∃ X ∈ L, x = some (bytT X)) := by
    by_cases h0 : kk = 0
    · exact ⟨[Q], fun X hX => .inr (List.mem_singleton.1 hX), fun _ X hX => List.mem_singleton.1 hX, (Z6.out h0).mono fun x hx => ⟨Q, by simp, hx⟩⟩
    · refine ⟨[R, Q], fun X hX => by simpa using hX, fun h => absurd h h0, D6.out.mono fun x hx => ?_⟩
      rcases hx with hx | hx
      · exact ⟨R, by simp, hx⟩
      · exact ⟨Q, by simp, hx⟩
  have hLok : ∀ X ∈ L, LstOk X := fun X hX => by
    rcases hL1 X hX with h | h
    · rw [h]; exact L2.out
    · rw [h]; exact L3.out
  have E6 := Box.mk hd6; have HL1 := Box.mk hL1; have HL2 := Box.mk hL2; have HLO := Box.mk hLok
  have I6 := Box.mk (show IntsIn w6 (.slice vc1 choice.length vc2) choice from (HI.out.keep (Nat.le_trans b03.out.size K6.out.size) (fun q hq hl => (K6.out.block q (old.out q hl) (Nat.lt_of_lt_of_le hl b03.out.size)).trans (b03.out.block q hl))))
  have IB := Box.mk (show ∀ k, 0 < choice.length → (Value.slice vc1 choice.length vc2).ownBlock = some k → F k from fun k h0 hk => old.out k (ints_below HI.out k h0 hk))
  clear hd6 hL1 hL2 hLok D6 Z6
  go_upto_region 9 with (go_at_call 26; ((with_reducible refine (restart_c E6.out (by omega) I6.out IB.out).mono ?_); rintro e w7 ⟨S7, rfl, d7, c7, r7, k7⟩; have D7 := Box.mk d7; have C7 := Box.mk c7; have K7 := Box.mk (K6.out.trans k7); have R7 := Box.mk (r7.trans R6.out); clear r7 d7 c7 k7 E6))
  have KT7 := Box.mk (ktab_keepF KT.out KF3.out K7.out)
  go_upto_region 10 with (go_at_call 20; ((with_reducible refine (load_c D7.out (by omega) C7.out.alive KT7.out L HLO.out (fun x hx => hx)).mono ?_); rintro e w8 ⟨X, hX, b8, xb, mo, l, rfl, t8, p8⟩; have T8 := Box.mk t8; have P8 := Box.mk p8; have B8 := Box.mk b8; have HX := Box.mk hX; clear t8 p8 b8 hX))
  have RR := Box.mk ((RT.out.keepF VT.out K7.out).below B8.out)
  have RQ := Box.mk ((R3.out.keepF VU.out K7.out).below B8.out)
  have hl100 : l.length ≤ 100 := by have h1 := P8.out.length_eq; have h2 := (HLO.out X HX.out).len; omega
  have cs1 : ∀ (W : World), Below w8.heap.size w8 W → R.Perm l → Calls Tryz.prog 14 #[.pointer (some ⟨xb, 0, none⟩), .slice rp R.length rc] W (SameP 0 W) := fun W hW hp => same_yes xb mo l R _ W (T8.out.below hW) (RR.out.below hW) hp L2.out.up (by have := L2.out.len; omega)
  have cs1n : ∀ (W : World), Below w8.heap.size w8 W → ¬ R.Perm l → Calls Tryz.prog 14 #[.pointer (some ⟨xb, 0, none⟩), .slice rp R.length rc] W (SameP (-1) W) := fun W hW hp => same_no xb mo l R _ W (T8.out.below hW) (RR.out.below hW) hp hl100
  have cs2 : ∀ (W : World), Below w8.heap.size w8 W → Q.Perm l → Calls Tryz.prog 14 #[.pointer (some ⟨xb, 0, none⟩), .slice qp Q.length qc] W (SameP 0 W) := fun W hW hp => same_yes xb mo l Q _ W (T8.out.below hW) (RQ.out.below hW) hp L3.out.up (by have := L3.out.len; omega)
  have CS1 := Box.mk cs1; have CN1 := Box.mk cs1n; have CS2 := Box.mk cs2
  clear cs1 cs1n cs2 hl100 RR RQ
  by_cases hk0 : kk = 0
  · have hXQ : Q.Perm l := by have := HL2.out hk0 X HX.out; rw [← this]; exact P8.out.symm
    have HQ := Box.mk hXQ
    subst hk0
    clear hXQ
    by_cases hp : R.Perm l
    · have HP := Box.mk hp
      clear hp
      go_upto_region 12 with (first
        | (go_at_call 14; ((with_reducible refine (CS1.out _ (Below.refl _ _) HP.out).mono ?_); rintro e wa ⟨rfl, ba⟩; have XA := Box.mk ba; clear ba))
        | (go_at_call 14; ((with_reducible refine (CS2.out _ XA.out HQ.out).mono ?_); rintro e w9 ⟨rfl, b9⟩; have X9 := Box.mk (belT XA.out b9); clear b9)))
      have b79 := belT B8.out X9.out
      obtain ⟨WN, hWN⟩ : ∃ W, W = w9.alloc (.cells #[.map none] 67) := ⟨_, rfl⟩
      have b9n : Below w9.heap.size w9 WN := by rw [hWN]; exact aset22 _ _
      have b7n := belT b79 b9n
      obtain ⟨FN, hFN⟩ : ∃ f, f = ExtF F w7 WN := ⟨_, rfl⟩
      have TN := Box.mk (show TabF WN FN w9.heap.size [] by
        rw [hWN, hFN, hWN]
        exact (tabF_new (F := F)).keep (KeepF.refl _ _) (fun k hk => by
          rcases hk with hk | ⟨h1, h2⟩
          · exact .inl hk
          · exact .inr ⟨Nat.le_trans b79.size h1, h2⟩))
      have DN := Box.mk (show CkD WN b FN S7 240 _ by rw [hFN]; exact D7.out.ext b7n)
      have KN := Box.mk (ktab_below KT7.out b7n)
      have FS := Box.mk (show ∀ k, F k → FN k from fun k hk => by rw [hFN]; exact .inl hk)
      have KFN := Box.mk (show KF FN from FS.out _ KF3.out)
      have SN := Box.mk (show S7.used + (bytT []).length ≤ S7.room by have h1 := D7.out.used; have h2 := bytT_le (G := []) (fun x hx => (nomatch hx)); rw [R7.out]; simp only [List.length_nil] at h2; omega)
      have HW := Box.mk hWN
      have B7N := Box.mk b7n
      clear b79 b9n b7n hFN hWN
      go_upto_region 14 with (go_at_call 24; ((rw [← HW.out]; with_reducible refine (save_c DN.out (by omega) TN.out KN.out KFN.out).mono ?_); rintro e w11 hs; obtain ⟨S11, rfl, d11, c11, r11, k11⟩ := hs.ok DN.out C7.out SN.out; have D11 := Box.mk d11; have K11 := Box.mk k11; clear hs d11 c11 r11 k11))
      go_upto_region 15 with (go_at_call 26; ((with_reducible refine (restart_c D11.out (by omega) (ints_nil _) (fun k h0 _ => absurd h0 (Nat.lt_irrefl _))).mono ?_); rintro e w12 ⟨S12, rfl, d12, c12, r12, k12⟩; have D12 := Box.mk d12; have C12 := Box.mk c12; have K12 := Box.mk (K11.out.trans k12); clear d12 c12 r12 k12 D11))
      have KT12 := Box.mk (ktab_keepF KN.out KFN.out K12.out)
      go_upto_region 16 with (go_at_call 20; ((with_reducible refine (load_c D12.out (by omega) C12.out.alive KT12.out [[]] (fun R' h => by rw [List.mem_singleton] at h; rw [h]; exact LstOk.nil) (fun x hx => ⟨[], by simp, hx⟩)).mono ?_); rintro e w13 ⟨R', hR', b13, yb, mo2, l2, rfl, t13, p13⟩; rw [List.mem_singleton] at hR'; rw [hR'] at p13; obtain rfl := List.Perm.eq_nil p13; have T13 := Box.mk t13; have B13 := Box.mk b13; clear t13 p13 b13))
      have KT13 := Box.mk (ktab_below KT12.out B13.out)
      go_wp2_with (first
        | (go_at_call 16; ((with_reducible refine (awake23_any _ KT13.out).mono ?_); rintro e w14 ⟨rfl, b14⟩; have B14 := Box.mk b14; have T14 := Box.mk (T13.out.below b14); clear b14))
        | (go_at_call 30; ((with_reducible refine (len_any _ _ _ _ T14.out).mono ?_); rintro e w' ⟨rfl, rfl⟩)))
      go_ret
      refine ⟨rfl, ?_⟩
      have y7 := b03.out.trans (K7.out.below b03.out.size old.out)
      have yN := y7.trans (B7N.out.mono y7.size)
      have y12 := yN.trans (K12.out.below yN.size (fun k hk => FS.out k (old.out k hk)))
      have y13 := y12.trans (B13.out.mono y12.size)
      exact y13.trans (B14.out.mono y13.size)
    · have HP := Box.mk hp
      clear hp
      go_upto_region 12 with (first
        | (go_at_call 14; ((with_reducible refine (CN1.out _ (Below.refl _ _) HP.out).mono ?_); rintro e wa ⟨rfl, ba⟩; have XA := Box.mk ba; clear ba))
        | (go_at_call 14; ((with_reducible refine (CS2.out _ XA.out HQ.out).mono ?_); rintro e wb ⟨rfl, bb⟩; have XB := Box.mk (belT XA.out bb); clear bb XA))
        | (go_at_call 14; ((with_reducible refine (CS2.out _ XB.out HQ.out).mono ?_); rintro e w9 ⟨rfl, b9⟩; have X9 := Box.mk (belT XB.out b9); clear b9)))
      have b79 := belT B8.out X9.out
      obtain ⟨WN, hWN⟩ : ∃ W, W = w9.alloc (.cells #[.map none] 67) := ⟨_, rfl⟩
      have b9n : Below w9.heap.size w9 WN := by rw [hWN]; exact aset22 _ _
      have b7n := belT b79 b9n
      obtain ⟨FN, hFN⟩ : ∃ f, f = ExtF F w7 WN := ⟨_, rfl⟩
      have TN := Box.mk (show TabF WN FN w9.heap.size [] by
        rw [hWN, hFN, hWN]
        exact (tabF_new (F := F)).keep (KeepF.refl _ _) (fun k hk => by
          rcases hk with hk | ⟨h1, h2⟩
          · exact .inl hk
          · exact .inr ⟨Nat.le_trans b79.size h1, h2⟩))
      have DN := Box.mk (show CkD WN b FN S7 240 _ by rw [hFN]; exact D7.out.ext b7n)
      have KN := Box.mk (ktab_below KT7.out b7n)
      have FS := Box.mk (show ∀ k, F k → FN k from fun k hk => by rw [hFN]; exact .inl hk)
      have KFN := Box.mk (show KF FN from FS.out _ KF3.out)
      have SN := Box.mk (show S7.used + (bytT []).length ≤ S7.room by have h1 := D7.out.used; have h2 := bytT_le (G := []) (fun x hx => (nomatch hx)); rw [R7.out]; simp only [List.length_nil] at h2; omega)
      have HW := Box.mk hWN
      have B7N := Box.mk b7n
      clear b79 b9n b7n hFN hWN
      go_upto_region 14 with (go_at_call 24; ((rw [← HW.out]; with_reducible refine (save_c DN.out (by omega) TN.out KN.out KFN.out).mono ?_); rintro e w11 hs; obtain ⟨S11, rfl, d11, c11, r11, k11⟩ := hs.ok DN.out C7.out SN.out; have D11 := Box.mk d11; have K11 := Box.mk k11; clear hs d11 c11 r11 k11))
      go_upto_region 15 with (go_at_call 26; ((with_reducible refine (restart_c D11.out (by omega) (ints_nil _) (fun k h0 _ => absurd h0 (Nat.lt_irrefl _))).mono ?_); rintro e w12 ⟨S12, rfl, d12, c12, r12, k12⟩; have D12 := Box.mk d12; have C12 := Box.mk c12; have K12 := Box.mk (K11.out.trans k12); clear d12 c12 r12 k12 D11))
      have KT12 := Box.mk (ktab_keepF KN.out KFN.out K12.out)
      go_upto_region 16 with (go_at_call 20; ((with_reducible refine (load_c D12.out (by omega) C12.out.alive KT12.out [[]] (fun R' h => by rw [List.mem_singleton] at h; rw [h]; exact LstOk.nil) (fun x hx => ⟨[], by simp, hx⟩)).mono ?_); rintro e w13 ⟨R', hR', b13, yb, mo2, l2, rfl, t13, p13⟩; rw [List.mem_singleton] at hR'; rw [hR'] at p13; obtain rfl := List.Perm.eq_nil p13; have T13 := Box.mk t13; have B13 := Box.mk b13; clear t13 p13 b13))
      have KT13 := Box.mk (ktab_below KT12.out B13.out)
      go_wp2_with (first
        | (go_at_call 16; ((with_reducible refine (awake23_any _ KT13.out).mono ?_); rintro e w14 ⟨rfl, b14⟩; have B14 := Box.mk b14; have T14 := Box.mk (T13.out.below b14); clear b14))
        | (go_at_call 30; ((with_reducible refine (len_any _ _ _ _ T14.out).mono ?_); rintro e w' ⟨rfl, rfl⟩)))
      go_ret
      refine ⟨rfl, ?_⟩
      have y7 := b03.out.trans (K7.out.below b03.out.size old.out)
      have yN := y7.trans (B7N.out.mono y7.size)
      have y12 := yN.trans (K12.out.below yN.size (fun k hk => FS.out k (old.out k hk)))
      have y13 := y12.trans (B13.out.mono y12.size)
      exact y13.trans (B14.out.mono y13.size)
  · have e1 : (kk == 0) = false := by simp [hk0]
    have e3 : (kk = 0) = False := eq_false hk0
    by_cases hp : R.Perm l
    · have HP := Box.mk hp
      clear hp
      go_upto_region 12 with (go_at_call 14; ((with_reducible refine (CS1.out _ (Below.refl _ _) HP.out).mono ?_); rintro e w9 ⟨rfl, b9⟩; have X9 := Box.mk b9; clear b9))
      have b79 := belT B8.out X9.out
      obtain ⟨WN, hWN⟩ : ∃ W, W = w9.alloc (.cells #[.map none] 67) := ⟨_, rfl⟩
      have b9n : Below w9.heap.size w9 WN := by rw [hWN]; exact aset22 _ _
      have b7n := belT b79 b9n
      obtain ⟨FN, hFN⟩ : ∃ f, f = ExtF F w7 WN := ⟨_, rfl⟩
      have TN := Box.mk (show TabF WN FN w9.heap.size [] by
        rw [hWN, hFN, hWN]
        exact (tabF_new (F := F)).keep (KeepF.refl _ _) (fun k hk => by
          rcases hk with hk | ⟨h1, h2⟩
          · exact .inl hk
          · exact .inr ⟨Nat.le_trans b79.size h1, h2⟩))
      have DN := Box.mk (show CkD WN b FN S7 240 _ by rw [hFN]; exact D7.out.ext b7n)
      have KN := Box.mk (ktab_below KT7.out b7n)
      have FS := Box.mk (show ∀ k, F k → FN k from fun k hk => by rw [hFN]; exact .inl hk)
      have KFN := Box.mk (show KF FN from FS.out _ KF3.out)
      have SN := Box.mk (show S7.used + (bytT []).length ≤ S7.room by have h1 := D7.out.used; have h2 := bytT_le (G := []) (fun x hx => (nomatch hx)); rw [R7.out]; simp only [List.length_nil] at h2; omega)
      have HW := Box.mk hWN
      have B7N := Box.mk b7n
      clear b79 b9n b7n hFN hWN
      go_upto_region 14 with (go_at_call 24; ((rw [← HW.out]; with_reducible refine (save_c DN.out (by omega) TN.out KN.out KFN.out).mono ?_); rintro e w11 hs; obtain ⟨S11, rfl, d11, c11, r11, k11⟩ := hs.ok DN.out C7.out SN.out; have D11 := Box.mk d11; have K11 := Box.mk k11; clear hs d11 c11 r11 k11))
      go_upto_region 15 with (go_at_call 26; ((with_reducible refine (restart_c D11.out (by omega) (ints_nil _) (fun k h0 _ => absurd h0 (Nat.lt_irrefl _))).mono ?_); rintro e w12 ⟨S12, rfl, d12, c12, r12, k12⟩; have D12 := Box.mk d12; have C12 := Box.mk c12; have K12 := Box.mk (K11.out.trans k12); clear d12 c12 r12 k12 D11))
      have KT12 := Box.mk (ktab_keepF KN.out KFN.out K12.out)
      go_upto_region 16 with (go_at_call 20; ((with_reducible refine (load_c D12.out (by omega) C12.out.alive KT12.out [[]] (fun R' h => by rw [List.mem_singleton] at h; rw [h]; exact LstOk.nil) (fun x hx => ⟨[], by simp, hx⟩)).mono ?_); rintro e w13 ⟨R', hR', b13, yb, mo2, l2, rfl, t13, p13⟩; rw [List.mem_singleton] at hR'; rw [hR'] at p13; obtain rfl := List.Perm.eq_nil p13; have T13 := Box.mk t13; have B13 := Box.mk b13; clear t13 p13 b13))
      have KT13 := Box.mk (ktab_below KT12.out B13.out)
      go_wp2_with (first
        | (go_at_call 16; ((with_reducible refine (awake23_any _ KT13.out).mono ?_); rintro e w14 ⟨rfl, b14⟩; have B14 := Box.mk b14; have T14 := Box.mk (T13.out.below b14); clear b14))
        | (go_at_call 30; ((with_reducible refine (len_any _ _ _ _ T14.out).mono ?_); rintro e w' ⟨rfl, rfl⟩)))
      go_ret
      refine ⟨rfl, ?_⟩
      have y7 := b03.out.trans (K7.out.below b03.out.size old.out)
      have yN := y7.trans (B7N.out.mono y7.size)
      have y12 := yN.trans (K12.out.below yN.size (fun k hk => FS.out k (old.out k hk)))
      have y13 := y12.trans (B13.out.mono y12.size)
      exact y13.trans (B14.out.mono y13.size)
    · have hXQ : Q.Perm l := by
        rcases HL1.out X HX.out with h | h
        · exact absurd (by rw [← h]; exact P8.out.symm) hp
        · rw [← h]; exact P8.out.symm
      have HQ := Box.mk hXQ
      have HP := Box.mk hp
      clear hp hXQ
      go_upto_region 12 with (first
        | (go_at_call 14; ((with_reducible refine (CN1.out _ (Below.refl _ _) HP.out).mono ?_); rintro e wa ⟨rfl, ba⟩; have XA := Box.mk ba; clear ba))
        | (go_at_call 14; ((with_reducible refine (CS2.out _ XA.out HQ.out).mono ?_); rintro e w9 ⟨rfl, b9⟩; have X9 := Box.mk (belT XA.out b9); clear b9 XA)))
      have b79 := belT B8.out X9.out
      obtain ⟨WN, hWN⟩ : ∃ W, W = w9.alloc (.cells #[.map none] 67) := ⟨_, rfl⟩
      have b9n : Below w9.heap.size w9 WN := by rw [hWN]; exact aset22 _ _
      have b7n := belT b79 b9n
      obtain ⟨FN, hFN⟩ : ∃ f, f = ExtF F w7 WN := ⟨_, rfl⟩
      have TN := Box.mk (show TabF WN FN w9.heap.size [] by
        rw [hWN, hFN, hWN]
        exact (tabF_new (F := F)).keep (KeepF.refl _ _) (fun k hk => by
          rcases hk with hk | ⟨h1, h2⟩
          · exact .inl hk
          · exact .inr ⟨Nat.le_trans b79.size h1, h2⟩))
      have DN := Box.mk (show CkD WN b FN S7 240 _ by rw [hFN]; exact D7.out.ext b7n)
      have KN := Box.mk (ktab_below KT7.out b7n)
      have FS := Box.mk (show ∀ k, F k → FN k from fun k hk => by rw [hFN]; exact .inl hk)
      have KFN := Box.mk (show KF FN from FS.out _ KF3.out)
      have SN := Box.mk (show S7.used + (bytT []).length ≤ S7.room by have h1 := D7.out.used; have h2 := bytT_le (G := []) (fun x hx => (nomatch hx)); rw [R7.out]; simp only [List.length_nil] at h2; omega)
      have HW := Box.mk hWN
      have B7N := Box.mk b7n
      clear b79 b9n b7n hFN hWN
      go_upto_region 14 with (go_at_call 24; ((rw [← HW.out]; with_reducible refine (save_c DN.out (by omega) TN.out KN.out KFN.out).mono ?_); rintro e w11 hs; obtain ⟨S11, rfl, d11, c11, r11, k11⟩ := hs.ok DN.out C7.out SN.out; have D11 := Box.mk d11; have K11 := Box.mk k11; clear hs d11 c11 r11 k11))
      go_upto_region 15 with (go_at_call 26; ((with_reducible refine (restart_c D11.out (by omega) (ints_nil _) (fun k h0 _ => absurd h0 (Nat.lt_irrefl _))).mono ?_); rintro e w12 ⟨S12, rfl, d12, c12, r12, k12⟩; have D12 := Box.mk d12; have C12 := Box.mk c12; have K12 := Box.mk (K11.out.trans k12); clear d12 c12 r12 k12 D11))
      have KT12 := Box.mk (ktab_keepF KN.out KFN.out K12.out)
      go_upto_region 16 with (go_at_call 20; ((with_reducible refine (load_c D12.out (by omega) C12.out.alive KT12.out [[]] (fun R' h => by rw [List.mem_singleton] at h; rw [h]; exact LstOk.nil) (fun x hx => ⟨[], by simp, hx⟩)).mono ?_); rintro e w13 ⟨R', hR', b13, yb, mo2, l2, rfl, t13, p13⟩; rw [List.mem_singleton] at hR'; rw [hR'] at p13; obtain rfl := List.Perm.eq_nil p13; have T13 := Box.mk t13; have B13 := Box.mk b13; clear t13 p13 b13))
      have KT13 := Box.mk (ktab_below KT12.out B13.out)
      go_wp2_with (first
        | (go_at_call 16; ((with_reducible refine (awake23_any _ KT13.out).mono ?_); rintro e w14 ⟨rfl, b14⟩; have B14 := Box.mk b14; have T14 := Box.mk (T13.out.below b14); clear b14))
        | (go_at_call 30; ((with_reducible refine (len_any _ _ _ _ T14.out).mono ?_); rintro e w' ⟨rfl, rfl⟩)))
      go_ret
      refine ⟨rfl, ?_⟩
      have y7 := b03.out.trans (K7.out.below b03.out.size old.out)
      have yN := y7.trans (B7N.out.mono y7.size)
      have y12 := yN.trans (K12.out.below yN.size (fun k hk => FS.out k (old.out k hk)))
      have y13 := y12.trans (B13.out.mono y12.size)
      exact y13.trans (B14.out.mono y13.size)
end Go.Proofs.YteilmohlgfgmnaaGreatDoor
