/- Checkpoints: ordeallaw23.CkptPlays. -/
import Derived.Test.YteilmohlgfgmnaaGreatDoorCkpI
import Derived.Deep.AppendLies
namespace Go.Proofs.YteilmohlgfgmnaaGreatDoor
set_option maxRecDepth 100000
open Go.RowKit Go.Maps Go.Sort M

theorem info_ents : (Tryz.prog.info? 31).map (fun i => (i.zero, i.size, i.bytes)) = some (some (.slice none 0 0), 1, 24) := by kernel_rfl
theorem may_new {w w' : World} {F F' : Nat → Prop} {u : Value} {R : List Ent} (hu : ∃ q n c, u = .slice q n c) (hr : RefIn w u R) (ho : 0 < R.length → ∀ k, u.ownBlock = some k → F k) (hF : ∀ k, F k → F' k) (hn : F' w.heap.size)
    (hw : w' = w.alloc (.cells #[u] 31)) : MayIn w' F' (.slice (some ⟨w.heap.size, 0, none⟩) 1 1) [u] [R] := by
  have t : w'.heap[w.heap.size]? = some (.cells #[u] 31 (0, 0)) := by rw [hw]; exact heap_alloc_new w _
  refine ⟨⟨w.heap.size, 1, rfl, hn, by rw [hw]; simp, fun j v hv => ?_⟩, rfl, fun v hv => by rw [List.mem_singleton] at hv; rw [hv]; exact hu, fun i v Q hv hQ => ?_⟩
  · match j, hv with
    | 0, hv =>
      obtain rfl : u = v := by simpa using hv
      simp only [World.cell?, t]; rfl
    | j + 1, hv => simp at hv
  · match i, hv, hQ with
    | 0, hv, hQ =>
      obtain rfl : u = v := by simpa using hv
      obtain rfl : R = Q := by simpa using hQ
      exact ⟨hr.below (by rw [hw]; exact aset22 _ _), fun h0 k hk => hF _ (ho h0 k hk)⟩
    | i + 1, hv, _ => simp at hv

theorem may_own {w w' : World} {F F' : Nat → Prop} {v u : Value} {us : List Value} {Ls : List (List Ent)} {R : List Ent} {g cap : Nat} (h : MayIn w F v us Ls) (ho : w'.ownsRow w.heap.size 31 1 (.slice (some ⟨g, 0, none⟩) (us.length + 1) cap) (us.length + 1) (us ++ [u])) (hb : Below w.heap.size w w')
    (hu : ∃ q n c, u = .slice q n c) (hr : RefIn w u R) (hro : 0 < R.length → ∀ k, u.ownBlock = some k → F k) (hF : ∀ k, F k → F' k) (hn : ∀ k, w.heap.size ≤ k → k < w'.heap.size → F' k) :
    MayIn w' F' (.slice (some ⟨g, 0, none⟩) (us.length + 1) cap) (us ++ [u]) (Ls ++ [R]) := by
  obtain ⟨l1, l2⟩ := ho.lt g rfl
  refine ⟨⟨g, cap, by simp, hn g l1 l2, l2, fun j x hx => ?_⟩, by simp [h.len], fun x hx => ?_, fun i x Q hx hQ => ?_⟩
  · have hj := (List.getElem?_eq_some_iff.1 hx).1
    rw [List.length_append, List.length_singleton] at hj
    have c := ho.cellAt j (by omega)
    rw [Nat.zero_add, c]; exact hx
  · rcases List.mem_append.1 hx with hx | hx
    · exact h.one x hx
    · rw [List.mem_singleton] at hx; rw [hx]; exact hu
  · rcases Nat.lt_or_ge i us.length with hi | hi
    · rw [List.getElem?_append_left hi] at hx
      rw [List.getElem?_append_left (by rw [← h.len]; exact hi)] at hQ
      obtain ⟨a, b⟩ := h.each i x Q hx hQ
      exact ⟨a.below hb, fun h0 k hk => hF _ (b h0 k hk)⟩
    · have e : i = us.length := by
        have hj := (List.getElem?_eq_some_iff.1 hx).1
        rw [List.length_append, List.length_singleton] at hj
        omega
      rw [List.getElem?_append_right (by omega), show i - us.length = 0 by omega] at hx
      rw [List.getElem?_append_right (by rw [← h.len]; omega), show i - Ls.length = 0 by rw [← h.len]; omega] at hQ
      obtain rfl : u = x := by simpa using hx
      obtain rfl : R = Q := by simpa using hQ
      exact ⟨hr.below hb, fun h0 k hk => hF _ (hro h0 k hk)⟩

set_option maxRecDepth 100000 in
set_option maxHeartbeats 8000000 in
theorem ckptPlays_walk (room : Int) (va : Value) (n : Nat) (K N : Nat → Int) (VI VC : Nat → Value) (NI : Nat → Nat) (A B : Nat → Nat → ByteArray) (X : Nat → List Int) (w : World) (ha : CActIn w va n K N VI VC NI A B X) (hn : n ≤ 9223372036854775807)
    (h1 : -9223372036854775808 ≤ room) (h2 : room ≤ 9223372036854775807) (hK : KTab w) :
    Calls Tryz.prog 5 #[.int .i64 room, va] w fun e w' => e = .returned (.bool true) ∧ Below w.heap.size w w' := by
  have kg : 0 < w.heap.size := ktab_lt hK
  obtain ⟨va1, va2, rfl⟩ := ha.shape
  have HK := Box.mk hK; have KG := Box.mk kg; have HA := Box.mk ha; have H1 := Box.mk h1; have H2 := Box.mk h2
  obtain ⟨i0, hi, hz0, hz1, hz2⟩ := info_parts info_ents
  clear hK kg ha h1 h2
  go_enter Tryz.func5, Tryz.ntmps5
  go_upto_region 4 with (first
    | (go_at_call 15; ((with_reducible refine (dnew_f room w H1.out H2.out).mono ?_); rintro e w1 ⟨b, rfl, d1, b1⟩; have D1 := Box.mk (CkD.begun d1 H2.out); have B1 := Box.mk b1; clear d1 b1))
    | (go_at_call 16; ((with_reducible refine (awake23_any w1 (ktab_below HK.out B1.out)).mono ?_); rintro e w2 ⟨rfl, b2⟩; have B2 := Box.mk b2; clear b2)))
  obtain ⟨S0, hS0⟩ : ∃ S, S = newS room := ⟨_, rfl⟩
  rw [← hS0] at D1
  clear hS0
  obtain ⟨W3, hW3⟩ : ∃ W, W = w2.alloc (.cells #[] 92) := ⟨_, rfl⟩
  obtain ⟨W4, hW4⟩ : ∃ W, W = W3.alloc (.cells #[.slice (some ⟨w2.heap.size, 0, none⟩) 0 0] 31) := ⟨_, rfl⟩
  have b23 : Below w2.heap.size w2 W3 := by rw [hW3]; exact aset22 _ _
  have b34 : Below W3.heap.size W3 W4 := by rw [hW4]; exact aset22 _ _
  have b14 : Below w1.heap.size w1 W4 := (B2.out.trans (b23.mono B2.out.size)).trans (b34.mono (Nat.le_trans B2.out.size b23.size))
  obtain ⟨F, hF⟩ : ∃ F, F = ExtF (fun k => k < w.heap.size) w1 W4 := ⟨_, rfl⟩
  have s3 : W3.heap.size = w2.heap.size + 1 := by rw [hW3]; simp
  have s4 : W4.heap.size = w2.heap.size + 2 := by rw [hW4]; simp [s3]
  have M0 := Box.mk (show MayIn W4 F (.slice (some ⟨w2.heap.size + 1, 0, none⟩) 1 1) [.slice (some ⟨w2.heap.size, 0, none⟩) 0 0] [[]] by
    rw [← s3]
    exact may_new (F := F) ⟨_, _, _, rfl⟩ ⟨⟨_, _, rfl⟩, fun h => absurd h (by simp)⟩ (fun h => absurd h (by simp)) (fun _ h => h) (by rw [hF]; exact .inr ⟨by have := B2.out.size; omega, by omega⟩) hW4)
  have D0 := Box.mk (show CkD W4 b F S0 0 (MayP [[]]) by rw [hF]; exact (D1.out.ext b14).mono fun x hx => .inl ⟨hx, by simp⟩)
  have OLD0 := Box.mk (show ∀ k, k < w.heap.size → F k from fun k hk => by rw [hF]; exact .inl hk)
  have X0 := Box.mk (B1.out.trans (b14.mono B1.out.size))
  have E3 := Box.mk hW3; have E4 := Box.mk hW4
  clear hW3 hW4 b23 b34 b14 hF s3 s4 D1 B1 B2
  go_wp2_with fail
  rw [← E3.out, ← E4.out]
  clear E3 E4
  go_loopw [6, 7] (fun v i wr => ∃ (k : Nat) (F : Nat → Prop) (S : DS) (us : List Value) (Ls : List (List Ent)), i = .int .i64 (k : Int) ∧ k ≤ n ∧ k ≤ 15 ∧ 0 < us.length ∧ us.length ≤ k + 1 ∧ Box (MayIn wr F v us Ls) ∧ Box (∀ R ∈ Ls, LstOk R) ∧ Box (CkD wr b F S (120 * k) (MayP Ls)) ∧ Box (∀ k, k < w.heap.size → F k) ∧ Box (Below w.heap.size w wr)) (fun _ i _ => min n 15 - (intOf i).toNat)
  case atStart => exact ⟨0, F, S0, _, _, rfl, by omega, by omega, by simp, by simp, M0, ⟨fun R hR => by rw [List.mem_singleton] at hR; rw [hR]; exact LstOk.nil⟩, D0, OLD0, X0⟩
  case round =>
    clear D0 M0 OLD0 X0
    obtain ⟨k, F, S, us, Ls, rfl, hkn, hk15, hus0, hus, hM, hL, hD, hO, hB⟩ := hrel
    by_cases hlt : k < n ∧ k < 15
    · obtain ⟨hlt1, hlt2⟩ := hlt
      obtain ⟨ab, ao, ac, hv, hab, hc⟩ := HA.out.cells (by omega)
      obtain ⟨rfl, _, rfl⟩ := Value.slice.inj hv
      obtain ⟨c0, c1, c2, c3⟩ := hc k hlt1
      have q0 := (hB.out.cell hab).trans c0
      have q1 := (hB.out.cell hab).trans c1
      have q2 := (hB.out.cell hab).trans c2
      have q3 := (hB.out.cell hab).trans c3
      obtain ⟨ip, ic, hvi⟩ := (HA.out.items k hlt1).1.shape
      obtain ⟨cp, cc, hvc⟩ := (HA.out.ints k hlt1).val
      have QI := Box.mk (HA.out.items k hlt1)
      have QC := Box.mk (HA.out.ints k hlt1)
      have QR := Box.mk (HA.out.rng k hlt1)
      rw [hvi] at q2 QI
      rw [hvc] at q3 QC
      obtain ⟨kd, hkd⟩ : ∃ x, x = K k := ⟨_, rfl⟩
      obtain ⟨nn, hnn⟩ : ∃ x, x = N k := ⟨_, rfl⟩
      obtain ⟨ni, hni⟩ : ∃ x, x = NI k := ⟨_, rfl⟩
      obtain ⟨ch, hch⟩ : ∃ x, x = X k := ⟨_, rfl⟩
      rw [← hkd] at q0
      rw [← hnn] at q1 QR
      rw [← hni] at q2 QI
      rw [← hch] at q3 QC
      clear hv hc c0 c1 c2 c3 hvi hvc hkd hnn hni hch
      obtain ⟨WA, hWA⟩ : ∃ W, W = wr.alloc (.cells #[.int .i64 kd, .int .i64 nn, .slice ip ni ic, .slice cp ch.length cc] 57) := ⟨_, rfl⟩
      have tA : WA.heap[wr.heap.size]? = some (.cells #[.int .i64 kd, .int .i64 nn, .slice ip ni ic, .slice cp ch.length cc] 57 (0, 0)) := by rw [hWA]; exact heap_alloc_new wr _
      have a0 : WA.cell? ⟨wr.heap.size, 0, none⟩ = some (.int .i64 kd) := by simp only [World.cell?, tA]; rfl
      have a1 : WA.cell? ⟨wr.heap.size, 1, none⟩ = some (.int .i64 nn) := by simp only [World.cell?, tA]; rfl
      have a2 : WA.cell? ⟨wr.heap.size, 2, none⟩ = some (.slice ip ni ic) := by simp only [World.cell?, tA]; rfl
      have a3 : WA.cell? ⟨wr.heap.size, 3, none⟩ = some (.slice cp ch.length cc) := by simp only [World.cell?, tA]; rfl
      have bA : Below wr.heap.size wr WA := by rw [hWA]; exact aset22 _ _
      go_upto_region 9 with fail
      rw [← hWA]
      have DA := Box.mk (hD.out.below bA)
      have MA := Box.mk (hM.out.keep (KeepF.of_below bA) (fun _ h => h))
      have BA := Box.mk (belT hB.out bA)
      clear tA hWA bA hD hM hB q0 q1 q2 q3
      go_upto_block 2 with fail
      go_cut [6, 9, 10, 11, 12] from 32 to 145 (fun v6 v9 v10 v11 v12 wx => ∃ (F : Nat → Prop) (S : DS) (us : List Value) (Ls : List (List Ent)), 0 < us.length ∧ us.length ≤ k + 2 ∧ Box (MayIn wx F v6 us Ls) ∧ Box (∀ R ∈ Ls, LstOk R) ∧ Box (CkD wx b F S (120 * (k + 1)) (MayP Ls)) ∧ Box (∀ k, k < w.heap.size → F k) ∧ Box (Below w.heap.size w wx))
      case first =>
        have e1 : ∀ j : Int, kd ≠ j → (kd == j) = false := fun j h => by simp [h]
        have EQ := Box.mk e1
        clear e1
        by_cases k1 : kd = 1
        · subst k1
          clear EQ
          go_upto_region 12 with (go_at_call 22; ((with_reducible refine (grow_any _ ni _ _ _ (QI.out.1.below BA.out) QI.out.2 (ktab_below HK.out BA.out)).mono ?_); rintro e w3 hg; obtain ⟨tb, vx, R, rfl, t3, r3, v3, l3, _, b3⟩ := hg.tab F; obtain ⟨rp, rc, rfl⟩ := r3.val; have T3 := Box.mk t3; have R3 := Box.mk r3; have V3 := Box.mk v3; have L3 := Box.mk l3; have B3 := Box.mk b3; clear hg t3 r3 v3 l3 b3))
          have D3 := Box.mk (DA.out.ext B3.out)
          have M3 := Box.mk (MA.out.keep (KeepF.of_below B3.out) (fun k h => (show ExtF F WA w3 k from .inl h)))
          have O3 := Box.mk (show ∀ k, k < w.heap.size → ExtF F WA w3 k from fun k hk => .inl (hO.out k hk))
          have X3 := Box.mk (belT BA.out B3.out)
          have KT3 := Box.mk (ktab_below HK.out X3.out)
          have KF3 := Box.mk (show KF (ExtF F WA w3) from O3.out _ KG.out)
          obtain ⟨G, hG⟩ : ∃ G, G = ExtF F WA w3 := ⟨_, rfl⟩
          rw [← hG] at D3 M3 O3 KF3 T3 V3
          clear hG DA MA BA B3 hO
          go_upto_region 13 with (go_at_call 23; ((with_reducible refine (dead_f b G S w3 D3.out.h).mono ?_); rintro e w' ⟨rfl, rfl⟩))
          go_upto_region 14 with (go_at_call 24; ((with_reducible refine (save_c D3.out (by omega) T3.out KT3.out KF3.out).mono ?_); rintro e w4 hs; obtain ⟨kk, S4, rfl, k4, s1, s2, s3⟩ := hs.may D3.out; have K4 := Box.mk k4; have Y1 := Box.mk s1; have Y2 := Box.mk s2; have Y3 := Box.mk s3; clear hs k4 s1 s2 s3))
          have M4 := Box.mk (M3.out.keep K4.out (fun _ h => h))
          have R4 := Box.mk (R3.out.keepF V3.out K4.out)
          have X4 := Box.mk (X3.out.trans (K4.out.below X3.out.size O3.out))
          have LR := Box.mk (show ∀ Q ∈ Ls ++ [R], LstOk Q from fun Q hQ => by
            rcases List.mem_append.1 hQ with h | h
            · exact hL.out Q h
            · rw [List.mem_singleton] at h; rw [h]; exact L3.out)
          clear D3 M3 R3 T3 X3 KT3 KF3
          by_cases hd : S.dead = true
          · rw [hd]
            obtain ⟨z1, z2⟩ := Y3.out hd
            have Z2 := Box.mk z2
            have e1 : (kk == 0) = false := by simp [z1]
            have e3 : (kk = 0) = False := eq_false z1
            clear z2 Y1 Y2 Y3
            go_wp2_with fail
            go_meet
            case rel => exact ⟨G, S4, us, Ls, hus0, by omega, M4, hL, ⟨Z2.out.up (by omega)⟩, O3, X4⟩
          · have hd' : S.dead = false := by simpa using hd
            rw [hd']
            clear hd
            by_cases z1 : kk = 0
            · have Z1 := Box.mk (Y1.out z1)
              subst z1
              clear Y1 Y2 Y3
              go_wp2_with fail
              obtain ⟨W5, hW5⟩ : ∃ W, W = w4.alloc (.cells #[.slice rp R.length rc] 31) := ⟨_, rfl⟩
              rw [← hW5]
              have b5 : Below w4.heap.size w4 W5 := by rw [hW5]; exact aset22 _ _
              go_meet
              case rel => exact ⟨ExtF G w4 W5, S4, _, [R], by simp, by simp, ⟨may_new (F := G) ⟨_, _, _, rfl⟩ R4.out V3.out (fun _ h => .inl h) (.inr ⟨Nat.le_refl _, by rw [hW5]; simp⟩) hW5⟩, ⟨fun Q hQ => LR.out Q (List.mem_append_right _ hQ)⟩, ⟨(Z1.out.ext b5).up (by omega)⟩, ⟨fun k hk => .inl (O3.out k hk)⟩, ⟨belT X4.out b5⟩⟩
            · have Z2 := Box.mk (Y2.out z1)
              have e1 : (kk == 0) = false := by simp [z1]
              have e3 : (kk = 0) = False := eq_false z1
              clear Y1 Y2 Y3 z1
              obtain ⟨mg, mc, hmv, fmg, lmg, rmg⟩ := M4.out.val
              subst hmv
              have one : ∀ u ∈ us, u.oneCell' = true := fun u hu => by obtain ⟨q, n, c, e⟩ := M4.out.one u hu; rw [e]; rfl
              have hO0 : (w4.alloc (.cells #[] 31)).ownsRow w4.heap.size 31 1 (.slice (some ⟨w4.heap.size, 0, none⟩) 0 0) 0 [] := World.ownsRow_made _ _ _ (Nat.le_refl _) (by decide) rfl
              have OO := Box.mk hO0; have ON := Box.mk one; have RG := Box.mk rmg
              have us16 : us.length ≤ 16 := by omega
              have rg2 : ∀ (j : Nat) (u : Value), us[j]? = some u → (w4.alloc (.cells #[] 31)).cell? ((⟨mg, 0, none⟩ : Addr).add j) = some u := fun j u hu => by
                rw [WideShapes.add_plain, Nat.zero_add]
                have h0 := rmg j u hu
                rw [Nat.zero_add] at h0
                exact ((aset22 w4 (.cells #[] 31)).cell lmg).trans h0
              have RG2 := Box.mk rg2
              clear hO0 one rmg rg2
              go_wp2_with (first
                | (at_builtin; refine wpList_append_lies _ rfl (.tmp 67) (.tmp 68) 53 rfl w4.heap.size 31 i0 _ 1 24 Tryz.underlying53 hi hz0 hz1 hz2 rfl (by omega) _ 0 [] rfl OO.out ⟨mg, 0, none⟩ us.length mc us rfl (by omega) RG2.out ON.out hus0 (by unfold maxLen; omega) (by omega) (by simp) (w4.heap.size + 1) (by simp) ?_; intro g5 cap5 w5 hown5 hgrow5 hat5 hlt5; rw [Nat.zero_add, List.nil_append] at hown5; have P5 := Box.mk hown5; have B5 : Box (Below w4.heap.size w4 w5) := ⟨(aset22 w4 _).grown hgrow5 (by simp) (fun k hk => by cases hk; exact Nat.le_refl _)⟩; clear hown5 hgrow5 hat5)
                | (at_builtin; refine wpList_append_lies _ rfl (.tmp 69) (.tmp 71) 53 rfl w4.heap.size 31 i0 _ 1 24 Tryz.underlying53 hi hz0 hz1 hz2 rfl (by omega) _ us.length us rfl (P5.out.alloc _) ⟨w5.heap.size, 0, none⟩ 1 1 [.slice rp R.length rc] rfl rfl (World.news_of_block (cs := #[.slice rp R.length rc]) (t := 31) (fr := (0, 0)) (heap_alloc_new _ _)) (by simp [Value.oneCell']) (by omega) (by unfold maxLen; omega) (by omega) (by have := B5.out.size; simp; omega) (w5.heap.size + 1) (by simp) ?_; intro g6 cap6 w6 hown6 hgrow6 hat6 hlt6; have P6 := Box.mk hown6; have B6 : Box (Below w4.heap.size w4 w6) := ⟨(B5.out.alloc B5.out.size _).grown hgrow6 (by have := B5.out.size; simp; omega) (fun k hk => (P5.out.lt k hk).1)⟩; have L6 := Box.mk hlt6; clear hown6 hgrow6 hat6 hlt6))
              go_meet
              case rel => exact ⟨ExtF G w4 w6, S4, _, Ls ++ [R], by simp, by simp; omega, ⟨may_own M4.out P6.out B6.out ⟨_, _, _, rfl⟩ R4.out V3.out (fun _ h => .inl h) (fun k h1 h2 => .inr ⟨h1, h2⟩)⟩, LR, ⟨(Z2.out.ext B6.out).up (by omega)⟩, ⟨fun k hk => .inl (O3.out k hk)⟩, ⟨belT X4.out B6.out⟩⟩
        · have f1 := EQ.out 1 k1
          have g1 : (kd = 1) = False := eq_false k1
          by_cases k2 : kd = 2
          · subst k2
            clear EQ f1 g1
            go_wp2_with (go_at_call 25; ((with_reducible refine (clean_p DA.out (by omega)).mono ?_); rintro e w4 ⟨kk, S4, rfl, d4, k4⟩; have D4 := Box.mk d4; have K4 := Box.mk k4; clear d4 k4))
            go_meet
            case rel => exact ⟨F, S4, us, Ls, hus0, by omega, ⟨MA.out.keep K4.out (fun _ h => h)⟩, hL, ⟨D4.out.up (by omega)⟩, hO, ⟨BA.out.trans (K4.out.below BA.out.size hO.out)⟩⟩
          · have f2 := EQ.out 2 k2
            have g2 : (kd = 2) = False := eq_false k2
            by_cases k3 : kd = 3
            · subst k3
              clear EQ f1 g1 f2 g2
              go_wp2_with (go_at_call 26; ((with_reducible refine (restart_c DA.out (by omega) (QC.out.keep BA.out.size (fun q _ hl => BA.out.block q hl)) (fun q h0 hk => hO.out q (ints_below QC.out q h0 hk))).mono ?_); rintro e w4 ⟨S4, rfl, d4, _, _, k4⟩; have D4 := Box.mk d4; have K4 := Box.mk k4; clear d4 k4))
              go_meet
              case rel => exact ⟨F, S4, us, Ls, hus0, by omega, ⟨MA.out.keep K4.out (fun _ h => h)⟩, hL, ⟨D4.out.up (by omega)⟩, hO, ⟨BA.out.trans (K4.out.below BA.out.size hO.out)⟩⟩
            · have f3 := EQ.out 3 k3
              have g3 : (kd = 3) = False := eq_false k3
              by_cases k4 : kd = 4
              · subst k4
                clear EQ f1 g1 f2 g2 f3 g3
                go_wp2_with (go_at_call 27; ((with_reducible refine (crash_c nn DA.out QR.out).mono ?_); rintro e w4 ⟨rfl, d4, k4⟩; have D4 := Box.mk d4; have K4 := Box.mk k4; clear d4 k4))
                go_meet
                case rel => exact ⟨F, _, us, Ls, hus0, by omega, ⟨MA.out.keep K4.out (fun _ h => h)⟩, hL, ⟨D4.out.up (by omega)⟩, hO, ⟨BA.out.trans (K4.out.below BA.out.size hO.out)⟩⟩
              · have f4 := EQ.out 4 k4
                have g4 : (kd = 4) = False := eq_false k4
                by_cases k5 : kd = 5
                · subst k5
                  clear EQ f1 g1 f2 g2 f3 g3 f4 g4
                  go_wp2_with (go_at_call 28; ((with_reducible refine (fail_c nn DA.out QR.out).mono ?_); rintro e w4 ⟨rfl, d4, k4⟩; have D4 := Box.mk d4; have K4 := Box.mk k4; clear d4 k4))
                  go_meet
                  case rel => exact ⟨F, _, us, Ls, hus0, by omega, ⟨MA.out.keep K4.out (fun _ h => h)⟩, hL, ⟨D4.out.up (by omega)⟩, hO, ⟨BA.out.trans (K4.out.below BA.out.size hO.out)⟩⟩
                · have f5 := EQ.out 5 k5
                  have g5 : (kd = 5) = False := eq_false k5
                  by_cases k6 : kd = 6
                  · subst k6
                    clear EQ f1 g1 f2 g2 f3 g3 f4 g4 f5 g5
                    go_wp2_with (go_at_call 29; ((with_reducible refine (room_c nn DA.out QR.out).mono ?_); rintro e w4 ⟨rfl, d4, k4⟩; have D4 := Box.mk d4; have K4 := Box.mk k4; clear d4 k4))
                    go_meet
                    case rel => exact ⟨F, _, us, Ls, hus0, by omega, ⟨MA.out.keep K4.out (fun _ h => h)⟩, hL, ⟨D4.out.up (by omega)⟩, hO, ⟨BA.out.trans (K4.out.below BA.out.size hO.out)⟩⟩
                  · have f6 := EQ.out 6 k6
                    have g6 : (kd = 6) = False := eq_false k6
                    go_wp2_with fail
                    go_meet
                    case rel => exact ⟨F, S, us, Ls, hus0, by omega, MA, hL, ⟨DA.out.up (by omega)⟩, hO, BA⟩
      case rest =>
        clear DA MA hL hO BA QI QC QR a0 a1 a2 a3
        obtain ⟨F, S, us, Ls, hus0, hus, hM, hL, hD, hO, hB⟩ := hcut
        obtain ⟨mg, mc, hmv, fmg, lmg, rmg⟩ := hM.out.val
        subst hmv
        have RG := Box.mk rmg
        clear rmg
        have M9 := Box.mk hM.out
        go_upto_region 28 with fail
        by_cases hd : S.dead = true
        · go_wp2_with (first
            | (go_at_call 23; ((with_reducible refine (dead_f b F S wc hD.out.h).mono ?_); rintro e w' ⟨rfl, rfl⟩; rw [hd]))
            | (go_at_call 20; ((with_reducible refine (loadd_p hD.out (by omega) hd).mono ?_); rintro e w' ⟨rfl, rfl⟩)))
          go_roundw
          case rel => exact ⟨k + 1, F, S, us, Ls, by go_num, by omega, by omega, hus0, by omega, M9, hL, hD, hO, hB⟩
          case measure => simp [intOf] <;> omega
        · have hd' : S.dead = false := by simpa using hd
          clear hd
          have KTc := Box.mk (ktab_below HK.out hB.out)
          go_upto_region 36 with (first
            | (go_at_call 23; ((with_reducible refine (dead_f b F S wc hD.out.h).mono ?_); rintro e w' ⟨rfl, rfl⟩; rw [hd']))
            | (go_at_call 20; ((with_reducible refine (load_p hD.out (by omega) hd' KTc.out hL.out).mono ?_); rintro e w8 ⟨R, ok, hR, b8, xb, mo, l, rfl, t8, p8⟩; have T8 := Box.mk t8; have P8 := Box.mk p8; have B8 := Box.mk b8; have HR := Box.mk hR; clear t8 p8 b8 hR)))
          have LR := Box.mk (hL.out R HR.out)
          have hl100 : l.length ≤ 100 := by have h1 := P8.out.length_eq; have h2 := LR.out.len; omega
          go_wp2_with fail
          go_loopw [19, 132] (fun f i wr => ∃ (j : Nat) (fb : Bool), i = .int .i64 (j : Int) ∧ f = .bool fb ∧ j ≤ us.length ∧ Box (fb = false → ∀ Q ∈ Ls.take j, Q ≠ R) ∧ Box (Below w8.heap.size w8 wr)) (fun _ i _ => us.length - (intOf i).toNat)
          case atStart => exact ⟨0, false, rfl, rfl, by omega, ⟨fun _ Q hQ => by simp at hQ⟩, ⟨Below.refl _ _⟩⟩
          case round =>
            obtain ⟨j, fb, rfl, rfl, hj, hf, hb⟩ := hrel
            by_cases hlt : j < us.length
            · obtain ⟨u, hu⟩ : ∃ u, us[j]? = some u := ⟨_, List.getElem?_eq_getElem hlt⟩
              obtain ⟨Q, hQ⟩ : ∃ Q, Ls[j]? = some Q := ⟨_, List.getElem?_eq_getElem (by have := M9.out.len; omega)⟩
              obtain ⟨uq, un, uc, rfl⟩ := M9.out.one u (List.mem_of_getElem? hu)
              obtain ⟨rq, _⟩ := M9.out.each j _ Q hu hQ
              have q0 : wr.cell? ⟨mg, j, none⟩ = some (.slice uq un uc) := by
                have h0 := RG.out j _ hu
                rw [Nat.zero_add] at h0
                exact ((B8.out.trans (hb.out.mono B8.out.size)).cell lmg).trans h0
              have hLq := hL.out Q (List.mem_of_getElem? hQ)
              have bx := hb.out
              have RQ := Box.mk ((rq.below B8.out).below bx)
              have TX := Box.mk (T8.out.below bx)
              have HQ := Box.mk hQ; have LQ := Box.mk hLq
              clear rq hu hQ hLq
              cases fb with
              | true =>
                go_wp2_with fail
                go_roundw
                case rel => exact ⟨j + 1, true, by go_num, rfl, by omega, ⟨fun h => by cases h⟩, hb⟩
                case measure => simp [intOf] <;> omega
              | false =>
                by_cases hp : Q.Perm l
                · go_wp2_with (go_at_call 14; ((with_reducible refine (same_yes xb mo l Q _ _ TX.out RQ.out hp LQ.out.up (by have := LQ.out.len; omega)).mono ?_); rintro e wy ⟨rfl, by9⟩; have BY := Box.mk (belT hb.out by9); clear by9))
                  go_roundw
                  case rel => exact ⟨j + 1, true, by go_num, rfl, by omega, ⟨fun h => by cases h⟩, BY⟩
                  case measure => simp [intOf] <;> omega
                · have nx : ∀ Z ∈ Ls.take (j + 1), Z ≠ R := fun Z hZ => by
                    rw [List.take_add_one, HQ.out] at hZ
                    rcases List.mem_append.1 hZ with h | h
                    · exact hf.out rfl Z h
                    · simp only [Option.toList_some, List.mem_singleton] at h
                      rw [h]; intro e; exact hp (by rw [e]; exact P8.out.symm)
                  have NX := Box.mk nx
                  clear nx
                  go_wp2_with (go_at_call 14; ((with_reducible refine (same_no xb mo l Q _ _ TX.out RQ.out hp hl100).mono ?_); rintro e wy ⟨rfl, by9⟩; have BY := Box.mk (belT hb.out by9); clear by9))
                  go_roundw
                  case rel => exact ⟨j + 1, false, by go_num, rfl, by omega, ⟨fun _ => NX.out⟩, BY⟩
                  case measure => simp [intOf] <;> omega
            · obtain rfl : j = us.length := by omega
              cases fb with
              | false =>
                exfalso
                have h0 := hf.out rfl
                rw [M9.out.len, List.take_length] at h0
                exact h0 R HR.out rfl
              | true =>
                have bx := Box.mk (B8.out.trans (hb.out.mono B8.out.size))
                go_wp2_with fail
                go_roundw
                case rel => exact ⟨k + 1, F, S, us, Ls, by go_num, by omega, by omega, hus0, by omega, ⟨M9.out.keep (KeepF.of_below bx.out) (fun _ h => h)⟩, hL, ⟨hD.out.below bx.out⟩, hO, ⟨belT hB.out bx.out⟩⟩
                case measure => simp [intOf] <;> omega
    · by_cases hkm : k < n
      · obtain rfl : k = 15 := by omega
        go_wp2_with fail
        go_ret
        exact ⟨rfl, hB.out⟩
      · obtain rfl : k = n := by omega
        go_wp2_with fail
        go_ret
        exact ⟨rfl, hB.out⟩
end Go.Proofs.YteilmohlgfgmnaaGreatDoor
