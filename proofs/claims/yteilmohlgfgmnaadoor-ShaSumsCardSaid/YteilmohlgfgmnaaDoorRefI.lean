/- ShaSums. -/
import Derived.Test.YteilmohlgfgmnaaDoorRefH
import Derived.Test.YteilmohlgfgmnaaDoorJd
namespace Go.Proofs.YteilmohlgfgmnaaDoor
set_option maxRecDepth 100000
open Go.RowKit

theorem sliceOf {w : World} {B e z n : Nat} {v : Value} {xs : List Value} (hn : 0 < n) (h : w.ownsRow B e z v n xs) : ∃ g c, v = .slice (some ⟨g, 0, none⟩) n c ∧ B ≤ g := by
  rcases h.2 with ⟨_, h0⟩ | ⟨g, cap, cur, hv, _⟩
  · exfalso; simp_all
  · exact ⟨g, cap, hv, (h.lt g (by rw [hv]; rfl)).1⟩
theorem rowsS : rootsM (M.primesM 8) 2 8 = v8l M.iV := by
  have e : (M.primesM 8).take 8 = M.primesM 8 := List.take_of_length_le (by rw [M.primes8]; decide)
  unfold rootsM; rw [e]; exact M.roots2
theorem rowsK : rootsM (M.primesM 64) 3 64 = M.kN := by
  have e : (M.primesM 64).take 64 = M.primesM 64 := List.take_of_length_le (by rw [M.primes64]; decide)
  unfold rootsM; rw [e]; exact M.roots3
/-- the constants that Made makes -/
theorem made_rows (w : World) :
    Calls Tryd.prog 6 #[] w fun e w' => (∃ gs cs gk ck, e = .returned (.agg #[.slice (some ⟨gs, 0, none⟩) 8 cs, .slice (some ⟨gk, 0, none⟩) 64 ck]) ∧ Row32 w' gs 8 (v8l M.iV) ∧ Row32 w' gk 64 M.kN ∧ w.heap.size ≤ gs ∧ w.heap.size ≤ gk) ∧ Below w.heap.size w w' := by
  refine (made_any w).mono ?_
  rintro e w' ⟨⟨S, T, rfl, h1, h2⟩, hb⟩
  rw [rowsS] at h1; rw [rowsK] at h2
  obtain ⟨gs, cs, rfl, l1⟩ := sliceOf (by decide) h1
  obtain ⟨gk, ck, rfl, l2⟩ := sliceOf (by decide) h2
  exact ⟨⟨gs, cs, gk, ck, rfl, Row32.of rfl h1, Row32.of (by decide +kernel) h2, l1, l2⟩, hb⟩
/-- what stands about the sum that grows -/
structure ShK (W : World) (hb gs cs gk ck tb vb : Nat) (a b n : Int) : Prop where
  s : Row32 W gs 8 (v8l M.iV)
  k : Row32 W gk 64 M.kN
  t0 : W.cell? ⟨tb, 0, none⟩ = some (.slice (some ⟨gs, 0, none⟩) 8 cs)
  t1 : W.cell? ⟨tb, 1, none⟩ = some (.slice (some ⟨gk, 0, none⟩) 64 ck)
  v0 : W.cell? ⟨vb, 0, none⟩ = some (.int .i64 a)
  v1 : W.cell? ⟨vb, 1, none⟩ = some (.int .i64 b)
  v2 : W.cell? ⟨vb, 2, none⟩ = some (.int .i64 n)
  n1 : gs ≠ hb
  n2 : gk ≠ hb
  n3 : tb ≠ hb
  n4 : vb ≠ hb
theorem ShK.chg {W X : World} {hb gs cs gk ck tb vb : Nat} {a b n : Int} (h : ShK W hb gs cs gk ck tb vb a b n) (c : ShaChg hb W X) : ShK X hb gs cs gk ck tb vb a b n :=
  ⟨h.s.keep (c.block _ (h.s.lt (by decide)) h.n1), h.k.keep (c.block _ (h.k.lt (by decide)) h.n2), c.cell h.t0 h.n3, c.cell h.t1 h.n3, c.cell h.v0 h.n4, c.cell h.v1 h.n4, c.cell h.v2 h.n4, h.n1, h.n2, h.n3, h.n4⟩
theorem ShK.below {W X : World} {hb gs cs gk ck tb vb : Nat} {a b n : Int} (h : ShK W hb gs cs gk ck tb vb a b n) (c : Below W.heap.size W X) : ShK X hb gs cs gk ck tb vb a b n := h.chg (ShaChg.of_below c)
theorem ShK.v {W : World} {hb gs cs gk ck tb vb : Nat} {a b n : Int} (h : ShK W hb gs cs gk ck tb vb a b n) (k : Nat) (hk : k < 3) : ∃ x, W.cell? ⟨vb, k, none⟩ = some (.int .i64 x) := by
  rcases (by omega : k = 0 ∨ k = 1 ∨ k = 2) with rfl | rfl | rfl
  · exact ⟨_, h.v0⟩
  · exact ⟨_, h.v1⟩
  · exact ⟨_, h.v2⟩
theorem fillS (w : World) (T : TypeId) (Z : Array Value) (cs : List Value) (h : Z.size = cs.length) : (w.alloc (.cells Z T)).setCells w.heap.size 0 cs = w.alloc (.cells cs.toArray T) := by
  have go : ∀ (cs : List Value) (p z : List Value), z.length = cs.length → (w.alloc (.cells (p ++ z).toArray T)).setCells w.heap.size p.length cs = w.alloc (.cells (p ++ cs).toArray T) := by
    intro cs
    induction cs with
    | nil => intro p z hz; rw [List.eq_nil_of_length_eq_zero hz]; rfl
    | cons c cs ih =>
      intro p z hz
      cases z with
      | nil => simp at hz
      | cons y z =>
        rw [World.setCells, World.setCell_alloc_new]
        have e : (p ++ y :: z).toArray.set! p.length c = ((p ++ [c]) ++ z).toArray := by simp
        have e2 := ih (p ++ [c]) z (by simpa using hz)
        rw [List.length_append] at e2
        simp only [List.append_assoc, List.singleton_append, List.length_singleton] at e2
        simp_all
  have := go cs [] Z.toList (by simpa using h)
  simpa using this

theorem conv_hashS {w : World} {g n cap : Nat} {l : List Nat} (hl : l.length = n) (h : w.rangeAt g 0 (byts l)) :
    (convert 38 9 (.slice (some ⟨g, 0, none⟩) n cap)).run Tryd.prog w = .ok (.string (bs l)) w := by
  refine run_convert_bytes_arg (P := Tryd.prog) w 38 5 Tryd.underlying38 Tryd.underlying5 g 0 n cap (l.map fun n => ((n : Nat) : Int)) (by simp [hl]) (fun i hi => ?_) 9 Tryd.underlying9
  have hi' : i < l.length := by omega
  have hg : (byts l)[i]? = some (.int .u8 ((l.getD i 0 : Nat) : Int)) := by simp [byts, List.getD, hi']
  have hc := h i _ hg
  rw [Nat.zero_add] at hc
  rw [Nat.zero_add, hc]
  simp [List.getD, hi']
theorem info_hashS : (Tryd.prog.info? 36).map (·.size) = some 32 := by kernel_rfl

set_option maxRecDepth 100000 in
set_option maxHeartbeats 2000000 in
theorem shaSums_walk (s0 : ByteArray) (a b : Int) (w : World) (hK : KTab w) :
    Calls Tryd.prog 3 #[.string s0, .int .i64 a, .int .i64 b] w fun e w' => e = .returned (.bool true) ∧ Below w.heap.size w w' := by
  have hGl := global_lt hK
  obtain ⟨s, hs⟩ : ∃ s, s = s0.extract 0 300 := ⟨_, rfl⟩
  have hsz : s.size ≤ 300 := by rw [hs]; exact cut_size s0 300
  have cc : Calls Tryd.prog 5 #[.string s0, .int .i64 300] w fun e w' => e = .returned (.string s) ∧ w = w' := by rw [hs]; exact cut_any s0 300 w
  have cm := made_rows w
  have CC := Bx.mk cc; have CM := Bx.mk cm; have HK := Bx.mk hK
  clear cc cm hs hK
  go_enter Tryd.func3, Tryd.ntmps3
  go_wp2_with (first
    | (go_at_call 5; refine CC.out.mono ?_; rintro e w' ⟨rfl, rfl⟩)
    | (go_at_call 6; refine CM.out.mono ?_; rintro e w1 ⟨⟨gs, cs, gk, ck, rfl, r1, r2, l1, l2⟩, b1⟩; have R1 := Bx.mk r1; have R2 := Bx.mk r2; have L12 := Bx.mk (And.intro l1 l2); have B1 := Bx.mk b1; clear r1 r2 l1 l2 b1))
  have hW1 : w.heap.size ≤ w1.heap.size := B1.out.size
  have k1 := R1.out.lt (by decide)
  have k2 := R2.out.lt (by decide)
  obtain ⟨V, hV⟩ : ∃ V, V = ((w1.alloc (.cells #[.slice (some ⟨gs, 0, none⟩) 8 cs, .slice (some ⟨gk, 0, none⟩) 64 ck] 25)).alloc (.cells Tryd.zeroCells32 32)).alloc (.cells #[.int .i64 a, .int .i64 b, .int .i64 (s.size : Int)] 3) := ⟨_, rfl⟩
  have bV : Below w1.heap.size w1 V := by rw [hV]; exact ((((Below.refl _ _).alloc (Nat.le_refl _) _).alloc (by simp) _).alloc (by simp; omega) _)
  have X1 : HasW V (w1.heap.size + 1) ((sb s).take 0) (List.replicate 64 0) := by
    rw [hV, List.take_zero]
    exact (has_new (w1.alloc (.cells #[.slice (some ⟨gs, 0, none⟩) 8 cs, .slice (some ⟨gk, 0, none⟩) 64 ck] 25)) (w1.heap.size + 1) (by simp)).below ((Below.refl _ _).alloc (Nat.le_refl _) _)
  have tC : ∀ (o : Nat) (v : Value), (w1.alloc (.cells #[.slice (some ⟨gs, 0, none⟩) 8 cs, .slice (some ⟨gk, 0, none⟩) 64 ck] 25)).cell? ⟨w1.heap.size, o, none⟩ = some v → V.cell? ⟨w1.heap.size, o, none⟩ = some v := fun o v h => by
    rw [hV]; exact cell_below (((Below.refl _ _).alloc (Nat.le_refl _) _).alloc (by simp) _) h
  have X2 : ShK V (w1.heap.size + 1) gs cs gk ck w1.heap.size (w1.heap.size + 1 + 1) a b s.size := by
    refine ⟨R1.out.below bV k1, R2.out.below bV k2, tC _ _ ?_, tC _ _ ?_, ?_, ?_, ?_, by omega, by omega, by omega, by omega⟩
    · simp [go_sem]
    · simp [go_sem]
    all_goals (rw [hV]; simp [go_sem])
  have X3 : Below w.heap.size w V := B1.out.trans (bV.mono hW1)
  have XX := Bx.mk (And.intro X1 (And.intro X2 X3))
  rw [← hV]
  clear hV bV X1 tC X2 X3
  go_loopw [9, 24] (fun av kx wr => ∃ t k : Nat, av = .int .i64 (t : Int) ∧ kx = .int .i64 (k : Int) ∧ t ≤ s.size ∧ k ≤ 3 ∧ Bx (∃ R, HasW wr (w1.heap.size + 1) ((sb s).take t) R) ∧ Bx (ShK wr (w1.heap.size + 1) gs cs gk ck w1.heap.size (w1.heap.size + 1 + 1) a b s.size) ∧ Bx (Below w.heap.size w wr)) (fun _ kx _ => 3 - (intOf kx).toNat)
  case atStart => exact ⟨0, 0, rfl, rfl, by omega, by omega, ⟨_, XX.out.1⟩, ⟨XX.out.2.1⟩, ⟨XX.out.2.2⟩⟩
  case round =>
    clear XX
    obtain ⟨t, k, rfl, rfl, ht, hk, h1, h2, h3⟩ := hrel
    obtain ⟨wo, rfl⟩ : ∃ wo : World, wo = wr := ⟨_, rfl⟩
    by_cases hlt : k < 3
    · have hki : (k : Int) < 3 := by omega
      obtain ⟨c, hc⟩ := h2.out.v k hlt
      obtain ⟨u, hu, htu, hus⟩ : ∃ u : Nat, min (max c (t : Int)) (s.size : Int) = (u : Int) ∧ t ≤ u ∧ u ≤ s.size := ⟨(min (max c (t : Int)) (s.size : Int)).toNat, by omega, by omega, by omega⟩
      obtain ⟨x, hx⟩ : ∃ x, x = s.extract t u := ⟨_, rfl⟩
      have hxs : x.size = u - t := by rw [hx, ByteArray.size_extract]; omega
      have hsx : (sb s).take t ++ sb x = (sb s).take u := by
        have e : sb x = ((sb s).drop t).take (u - t) := by
          rw [hx]; simp only [sb_data, ByteArray.data_extract, Array.toList_extract, List.extract_eq_take_drop, List.map_take, List.map_drop]
        rw [e, show u = t + (u - t) by omega, List.take_add, show t + (u - t) - t = u - t by omega]
      have hsu : sb (s.extract 0 u) = (sb s).take u := by
        simp only [sb_data, ByteArray.data_extract, Array.toList_extract, List.extract_eq_take_drop, List.map_take, List.drop_zero, Nat.sub_zero]
      obtain ⟨R0, q1⟩ := h1.out
      have cw := shaWrite_any (w1.heap.size + 1) ((sb s).take t) R0 x wo q1 (by rw [List.length_take, sb_length]; omega) (ktab_below HK.out h3.out) (by omega)
      rw [hsx] at cw
      have cs' := fun (R : List Nat) (W : World) (h : HasW W (w1.heap.size + 1) ((sb s).take u) R) (hk : KTab W) => sum_any (w1.heap.size + 1) ((sb s).take u) R W h (by rw [List.length_take, sb_length]; omega) hk
      have co : ∀ W : World, ShK W (w1.heap.size + 1) gs cs gk ck w1.heap.size (w1.heap.size + 1 + 1) a b s.size → Calls Tryd.prog 9 #[.agg #[.slice (some ⟨gs, 0, none⟩) 8 cs, .slice (some ⟨gk, 0, none⟩) 64 ck], .string (s.extract 0 u)] W fun e w' => e = .returned (.string (bs (M.shaN ((sb s).take u)))) ∧ Below W.heap.size W w' := fun W h => by
        rw [← hsu]
        exact (refOf_any (s.extract 0 u) (by rw [ByteArray.size_extract]; omega) gs cs gk ck W h.s h.k).mono fun e w' h => h
      obtain ⟨D, hD⟩ : ∃ D, D = M.shaN ((sb s).take u) := ⟨_, rfl⟩
      have hDl : D.length = 32 := by rw [hD]; exact M.shaN_length _
      simp only [← hD] at co
      simp only [← hD] at cs'
      obtain ⟨S2, hS2⟩ : ∃ S, S = bs D := ⟨_, rfl⟩
      have hcv : ∀ (W : World) (g : Nat), W.rangeAt g 0 (byts D) → (convert 38 9 (.slice (some ⟨g, 0, none⟩) 32 32)).run Tryd.prog W = .ok (.string S2) W := fun W g h => by rw [hS2]; exact conv_hashS (cap := 32) hDl h
      simp only [← hS2] at co
      have hn : ∀ W : World, (W.alloc (.cells (byts D).toArray 36)).rangeAt W.heap.size 0 (byts D) := fun W => range_new W _ _ _ rfl
      have ht32 : ∀ (W : World) (Z : Array Value), Z.size = 32 → (W.alloc (.cells Z 36)).there W.heap.size 0 32 := fun W Z hZ => by
        have := there_new W 36 Z.toList W.heap.size 0 32 rfl (by simp [hZ])
        simpa using this
      have hbl : (byts D).length = 32 := by rw [byts_length]; exact hDl
      have hb1 := byts_one D
      obtain ⟨C, hC⟩ : ∃ C, C = byts D := ⟨_, rfl⟩
      rw [← hC] at hbl hb1
      simp only [← hC] at cs' hcv hn
      have CW := Bx.mk cw; have CS := Bx.mk cs'; have CO := Bx.mk co; have HCV := Bx.mk hcv; have HN := Bx.mk hn; have T32 := Bx.mk ht32
      have hxe : s.extract t u = x := hx.symm
      have sb1 : (S2.toList == S2.toList) = true := by simp
      clear cw cs' co hcv hn ht32 hx hxs hsx hsu q1 hD hDl hS2 hC
      go_upto_region 12 with (first
        | (go_at_call 7; refine CW.out.mono ?_; rintro e w5 ⟨rfl, ⟨R5, h5⟩, d5⟩; have Y1 := Bx.mk (h3.out.trans (d5.below (B := w.heap.size) (by omega) h3.out.size)); have Y2 := Bx.mk (h2.out.chg d5); have Y3 := Bx.mk h5; clear h5 d5)
        | (go_at_call 8; refine (CS.out _ _ Y3.out (ktab_below HK.out Y1.out)).mono ?_; rintro e w6 ⟨rfl, b6⟩; have Z1 := Bx.mk (Y1.out.trans (b6.mono Y1.out.size)); have Z2 := Bx.mk (Y2.out.below b6); have Z3 := Bx.mk (Y3.out.below b6); clear b6)
        | ((with_reducible refine at_store 36 (.tmp 13) (.tmp 40) ?_); refine wpList_store_mid rfl 36 (.tmp 13) (.tmp 40) rfl w6.heap.size 0 C.toArray rfl rfl (by have e : C.toArray.size = 32 := (by simp [hbl]); rw [e]; exact T32.out w6 _ rfl) (by have e : C.toArray.size = 32 := (by simp [hbl]); rw [e]; exact info_hashS) (all_oneCell_toArray hb1) ?_; rw [show (w6.alloc _).setCells w6.heap.size 0 C.toArray.toList = w6.alloc (.cells C.toArray 36) from fillS w6 _ _ _ (by simp [hbl])]))
      obtain ⟨xb, hxb⟩ : ∃ xb, xb = w6.heap.size := ⟨_, rfl⟩
      have hr0 := HN.out w6
      have hA7 : Below w6.heap.size w6 (w6.alloc (.cells C.toArray 36)) := (Below.refl _ _).alloc (Nat.le_refl _) _
      rw [← hxb] at hr0
      simp only [← hxb]
      obtain ⟨W7, hW7⟩ : ∃ W, W = w6.alloc (.cells C.toArray 36) := ⟨_, rfl⟩
      rw [← hW7] at hr0 hA7
      rw [← hW7]
      have K7 := Bx.mk (Z2.out.below (hA7.drew)); have H7 := Bx.mk (Z3.out.below (hA7.drew)); have B7 := Bx.mk (Z1.out.trans ((hA7.drew).mono Z1.out.size))
      have hr1 := (World.rangeAt_drew _ _ _ _).2 hr0
      clear hW7 hA7 hr0 Z1 Z2 Z3 Y1 Y2 Y3 hxb
      have RR := Bx.mk hr1
      clear hr1
      have q0 := HCV.out _ _ RR.out
      have q1 := K7.out.t0
      have q2 := K7.out.t1
      go_region_held3 (fun W => (convert 38 9 (.slice (some ⟨xb, 0, none⟩) 32 32)).run Tryd.prog W = .ok (.string S2) W ∧ W.cell? ⟨w1.heap.size, 0, none⟩ = some (.slice (some ⟨gs, 0, none⟩) 8 cs) ∧ W.cell? ⟨w1.heap.size, 1, none⟩ = some (.slice (some ⟨gk, 0, none⟩) 64 ck))
        (first | exact ⟨q0, q1, q2⟩ | exact ⟨p0, p1, p2⟩ | assumption)
        ((go_at_call 9; (with_reducible refine (CO.out _ K7.out).mono ?_); rintro e w8 ⟨rfl, b8⟩; have K8 := Bx.mk (K7.out.below b8); have H8 := Bx.mk (H7.out.below b8); have B8 := Bx.mk (B7.out.trans (b8.mono B7.out.size)); have p0 := HCV.out _ _ (range_below b8 RR.out); have p1 := K8.out.t0; have p2 := K8.out.t1; clear b8))
      all_goals
        go_wp2_with fail
        go_roundw
        case rel => exact ⟨u, k + 1, rfl, by go_num, hus, by omega, ⟨_, H8.out⟩, K8, B8⟩
        case measure => simp [intOf]; omega
    · obtain rfl : k = 3 := by omega
      clear h1
      have c1 := shaOf_any s (by omega) wo (ktab_below HK.out h3.out)
      have co : ∀ W : World, ShK W (w1.heap.size + 1) gs cs gk ck w1.heap.size (w1.heap.size + 1 + 1) a b s.size → Calls Tryd.prog 9 #[.agg #[.slice (some ⟨gs, 0, none⟩) 8 cs, .slice (some ⟨gk, 0, none⟩) 64 ck], .string s] W fun e w' => e = .returned (.string (bs (M.shaN (sb s)))) ∧ Below W.heap.size W w' := fun W h =>
        (refOf_any s (by omega) gs cs gk ck W h.s h.k).mono fun e w' h => h
      have ca := fun (W : World) (h : KTab W) => awake3_any W h
      obtain ⟨D, hD⟩ : ∃ D, D = M.shaN (sb s) := ⟨_, rfl⟩
      have hDl : D.length = 32 := by rw [hD]; exact M.shaN_length _
      simp only [← hD] at co c1
      obtain ⟨S2, hS2⟩ : ∃ S, S = bs D := ⟨_, rfl⟩
      have hcv : ∀ (W : World) (g : Nat), W.rangeAt g 0 (byts D) → (convert 38 9 (.slice (some ⟨g, 0, none⟩) 32 32)).run Tryd.prog W = .ok (.string S2) W := fun W g h => by rw [hS2]; exact conv_hashS (cap := 32) hDl h
      simp only [← hS2] at co
      have hn : ∀ W : World, (W.alloc (.cells (byts D).toArray 36)).rangeAt W.heap.size 0 (byts D) := fun W => range_new W _ _ _ rfl
      have ht32 : ∀ (W : World) (Z : Array Value), Z.size = 32 → (W.alloc (.cells Z 36)).there W.heap.size 0 32 := fun W Z hZ => by
        have := there_new W 36 Z.toList W.heap.size 0 32 rfl (by simp [hZ])
        simpa using this
      have hbl : (byts D).length = 32 := by rw [byts_length]; exact hDl
      have hb1 := byts_one D
      obtain ⟨C, hC⟩ : ∃ C, C = byts D := ⟨_, rfl⟩
      rw [← hC] at hbl hb1
      simp only [← hC] at c1 hcv hn
      have C1 := Bx.mk c1; have CO := Bx.mk co; have CA := Bx.mk ca; have HCV := Bx.mk hcv; have HN := Bx.mk hn; have T32 := Bx.mk ht32
      have sb1 : (S2.toList == S2.toList) = true := by simp
      clear c1 co ca hcv hn ht32 hD hDl hS2 hC
      go_upto_region 16 with (first
        | (go_at_call 10; refine C1.out.mono ?_; rintro e w6 ⟨rfl, b6⟩; have Z1 := Bx.mk (h3.out.trans (b6.mono h3.out.size)); have Z2 := Bx.mk (h2.out.below b6); clear b6)
        | ((with_reducible refine at_store 36 (.tmp 14) (.tmp 51) ?_); refine wpList_store_mid rfl 36 (.tmp 14) (.tmp 51) rfl w6.heap.size 0 C.toArray rfl rfl (by have e : C.toArray.size = 32 := (by simp [hbl]); rw [e]; exact T32.out w6 _ rfl) (by have e : C.toArray.size = 32 := (by simp [hbl]); rw [e]; exact info_hashS) (all_oneCell_toArray hb1) ?_; rw [show (w6.alloc _).setCells w6.heap.size 0 C.toArray.toList = w6.alloc (.cells C.toArray 36) from fillS w6 _ _ _ (by simp [hbl])]))
      obtain ⟨xb, hxb⟩ : ∃ xb, xb = w6.heap.size := ⟨_, rfl⟩
      have hr0 := HN.out w6
      have hA7 : Below w6.heap.size w6 (w6.alloc (.cells C.toArray 36)) := (Below.refl _ _).alloc (Nat.le_refl _) _
      rw [← hxb] at hr0
      simp only [← hxb]
      obtain ⟨W7, hW7⟩ : ∃ W, W = w6.alloc (.cells C.toArray 36) := ⟨_, rfl⟩
      rw [← hW7] at hr0 hA7
      rw [← hW7]
      have K7 := Bx.mk (Z2.out.below (hA7.drew)); have B7 := Bx.mk (Z1.out.trans ((hA7.drew).mono Z1.out.size))
      have hr1 := (World.rangeAt_drew _ _ _ _).2 hr0
      clear hW7 hA7 hr0 Z1 Z2 hxb h2 h3 C1
      have RR := Bx.mk hr1
      clear hr1
      have q0 := HCV.out _ _ RR.out
      have q1 := K7.out.t0
      have q2 := K7.out.t1
      go_region_held3 (fun W => (convert 38 9 (.slice (some ⟨xb, 0, none⟩) 32 32)).run Tryd.prog W = .ok (.string S2) W ∧ W.cell? ⟨w1.heap.size, 0, none⟩ = some (.slice (some ⟨gs, 0, none⟩) 8 cs) ∧ W.cell? ⟨w1.heap.size, 1, none⟩ = some (.slice (some ⟨gk, 0, none⟩) 64 ck))
        (first | exact ⟨q0, q1, q2⟩ | exact ⟨p0, p1, p2⟩ | exact ⟨o0, o1, o2⟩ | assumption)
        (first
          | (go_at_call 11; (with_reducible refine (CA.out _ (ktab_below HK.out B7.out)).mono ?_); rintro e w8 ⟨rfl, b8⟩; have K8 := Bx.mk (K7.out.below b8); have B8 := Bx.mk (B7.out.trans (b8.mono B7.out.size)); have r8 := range_below b8 RR.out; have R8 := Bx.mk r8; have p0 := HCV.out _ _ r8; have p1 := K8.out.t0; have p2 := K8.out.t1; clear b8 r8)
          | (go_at_call 9; (with_reducible refine (CO.out _ K8.out).mono ?_); rintro e w9 ⟨rfl, b9⟩; have K9 := Bx.mk (K8.out.below b9); have B9 := Bx.mk (B8.out.trans (b9.mono B8.out.size)); have o0 := HCV.out _ _ (range_below b9 R8.out); have o1 := K9.out.t0; have o2 := K9.out.t1; clear b9))
      all_goals
        go_wp2_with fail
        go_ret
        exact ⟨rfl, B9.out⟩
end Go.Proofs.YteilmohlgfgmnaaDoor
