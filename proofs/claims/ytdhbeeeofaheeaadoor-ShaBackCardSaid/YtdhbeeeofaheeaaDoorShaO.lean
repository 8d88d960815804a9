/- ShaBack: the walk. -/
import Derived.Test.YtdhbeeeofaheeaaDoorShaN
namespace Go.Proofs.YtdhbeeeofaheeaaDoor
set_option maxRecDepth 100000
open Go.RowKit M

theorem parse_text {l : List Nat} (h1 : l.length = 32) (h2 : ∀ d ∈ l, d < 256) (w : World) :
    Calls Tryd.prog 20 #[.string (bs (hexL l))] w fun e w' => e = .returned (.tuple #[.agg (byts l).toArray, .bool true]) ∧ Below w.heap.size w w' := by
  have h := parse_any (bs (hexL l)) (by rw [bs_size, hexL_length, h1]; omega) w
  obtain ⟨e1, e2⟩ := prs_text h1 h2
  unfold PrsP at h
  rw [sb_bs _ (hexL_lt l h2), e1, e2] at h
  exact h

theorem bs_toList (l : List Nat) : (bs l).toList = l.map UInt8.ofNat := by
  unfold bs; rw [Lib.strOfNums_toList]; simp [Lib.bytesOf]

set_option maxRecDepth 100000 in
set_option maxHeartbeats 1000000 in
theorem shaBack_walk (a b : List Nat) (ha : a.length = 32) (hb : b.length = 32) (ta : ∀ d ∈ a, d < 256) (tb : ∀ d ∈ b, d < 256) (w : World) (hK : KTab w) :
    Calls Tryd.prog 5 #[.agg (byts a).toArray, .agg (byts b).toArray] w fun e w' => e = .returned (.bool true) ∧ Below w.heap.size w w' := by
  have ct1 := fun w => text_any a ha ta w
  have ct2 := fun w => text_any b hb tb w
  have cp1 := fun w => parse_text ha ta w
  have cp2 := fun w => parse_text hb tb w
  have cc1 := fun w => shaCompare_any a b ha hb ta tb w
  have cc2 := fun w => shaCompare_any b a hb ha tb ta w
  have he1 := fun w => hash_eql ha ha ta ta w
  have he2 := fun w => hash_eql hb hb tb tb w
  simp only [decide_true] at he1 he2
  have hl : Op.bytesLess (bs (hexL a)).toList (bs (hexL b)).toList = decide (Lib.compareBytes (u8l a) (u8l b) < 0) := by
    rw [bs_toList, bs_toList]
    exact hex_less a b (by rw [ha, hb]) ta tb
  rw [cmp_anti (u8l b) (u8l a)] at cc2
  obtain ⟨rl, rh⟩ := cmp_range (u8l a) (u8l b)
  obtain ⟨R, hR⟩ : ∃ R, R = Lib.compareBytes (u8l a) (u8l b) := ⟨_, rfl⟩
  obtain ⟨S1, hS1⟩ : ∃ S, S = bs (hexL a) := ⟨_, rfl⟩
  obtain ⟨S2, hS2⟩ : ∃ S, S = bs (hexL b) := ⟨_, rfl⟩
  have caw : ∀ W, Below w.heap.size w W → Calls Tryd.prog 19 #[] W fun e w' => e = .returned (.bool true) ∧ Below W.heap.size W w' := fun W h => awake3_any W (ktab_below hK h)
  rw [← hS1, ← hS2, ← hR] at hl
  rw [← hR] at cc1 cc2 rl rh
  rw [← hS1] at ct1 cp1
  rw [← hS2] at ct2 cp2
  have u1 : (Tryd.prog.info? 36).map (fun i => i.size) = some (byts a).length := by
    have := hash_size ha
    simpa using this
  have u2 : (Tryd.prog.info? 36).map (fun i => i.size) = some (byts b).length := by
    have := hash_size hb
    simpa using this
  have CT1 := Box.mk ct1; have CT2 := Box.mk ct2; have CP1 := Box.mk cp1; have CP2 := Box.mk cp2; have CC1 := Box.mk cc1; have CC2 := Box.mk cc2; have HL := Box.mk hl; have CAW := Box.mk caw
  have U1 := Box.mk u1; have U2 := Box.mk u2; have HA := Box.mk ha; have HB := Box.mk hb; have HE1 := Box.mk he1; have HE2 := Box.mk he2
  have y1 : ((w.alloc (.cells (byts a).toArray 36)).alloc (.cells (byts b).toArray 36)).rangeAt w.heap.size 0 (byts a) := range_below ((Below.refl _ _).alloc (Nat.le_refl _) _) (range_new w _ _ _ rfl)
  have y2 : ((w.alloc (.cells (byts a).toArray 36)).alloc (.cells (byts b).toArray 36)).rangeAt (w.heap.size + 1) 0 (byts b) := range_new _ _ _ _ (by simp)
  have y3 : Below w.heap.size w ((w.alloc (.cells (byts a).toArray 36)).alloc (.cells (byts b).toArray 36)) := ((Below.refl _ _).alloc (Nat.le_refl _) _).alloc (by simp) _
  have Y1 := Box.mk y1; have Y2 := Box.mk y2; have Y3 := Box.mk y3
  clear ct1 ct2 cp1 cp2 cc1 cc2 hl caw hK ha hb ta tb hR hS1 hS2 u1 u2 he1 he2 y1 y2 y3
  go_enter Tryd.func5, Tryd.ntmps5
  go_wp2_with (first
    | ((with_reducible refine at_load 36 (.tmp 2) ?_); refine wpList_load_mid rfl 36 (.tmp 2) rfl w.heap.size 0 rfl (byts a) _ Y1.out Tryd.underlying36 rfl U1.out ?_)
    | (go_at_call 23; ((with_reducible refine (CT1.out _).mono ?_); rintro e w1 ⟨rfl, b1⟩; have Z1 := Box.mk (range_below b1 Y1.out); have Z2 := Box.mk (range_below b1 Y2.out); have Z3 := Box.mk (bch Y3.out b1); clear b1))
    | (go_at_call 20; ((with_reducible refine (CP1.out _).mono ?_); rintro e w2 ⟨rfl, b2⟩; have V1 := Box.mk (range_below b2 Z1.out); have V2 := Box.mk (range_below b2 Z2.out); have V3 := Box.mk (bch Z3.out b2); clear b2))
    | ((with_reducible refine at_store 36 (.tmp 5) (.tmp 14) ?_)
       refine wpList_store_mid rfl 36 (.tmp 5) (.tmp 14) rfl w2.heap.size 0 (byts a).toArray rfl rfl (hash_there (there_new w2 36 (byts (List.replicate 32 0)) _ 0 32 rfl (by decide)) HA.out) (hash_size HA.out) (all_oneCell_toArray (byts_one _)) ?_
       have m1 : ((w2.alloc (.cells (byts (List.replicate 32 0)).toArray 36)).setCells w2.heap.size 0 (byts a)).rangeAt w2.heap.size 0 (byts a) := World.rangeAt_setCells_same _ _ _ _ (by rw [byts_length, HA.out]; exact there_new w2 36 (byts (List.replicate 32 0)) _ 0 32 rfl (by decide))
       have m2 : Below w2.heap.size w2 ((w2.alloc (.cells (byts (List.replicate 32 0)).toArray 36)).setCells w2.heap.size 0 (byts a)) := below_setCells (Nat.le_refl _) _ _ _ _ ((Below.refl _ _).alloc (Nat.le_refl _) _)
       change wpList _ _ _ _ _ ((w2.alloc (.cells (byts (List.replicate 32 0)).toArray 36)).setCells w2.heap.size 0 (byts a))
       generalize (w2.alloc (.cells (byts (List.replicate 32 0)).toArray 36)).setCells w2.heap.size 0 (byts a) = W3 at m1 m2 ⊢
       obtain ⟨xa, hxa⟩ : ∃ z, z = w2.heap.size := ⟨_, rfl⟩
       rw [← hxa] at m1 ⊢
       have N1 := Box.mk (range_below m2 V1.out)
       have N2 := Box.mk (range_below m2 V2.out)
       have N3 := Box.mk (bch V3.out m2)
       have N4 := Box.mk m1
       clear m1 m2 hxa)
    | ((with_reducible refine at_load 36 (.tmp 3) ?_); refine wpList_load_mid rfl 36 (.tmp 3) rfl (w.heap.size + 1) 0 rfl (byts b) _ N2.out Tryd.underlying36 rfl U2.out ?_)
    | (go_at_call 23; ((with_reducible refine (CT2.out _).mono ?_); rintro e w4 ⟨rfl, b4⟩; have P1 := Box.mk (range_below b4 N1.out); have P2 := Box.mk (range_below b4 N2.out); have P3 := Box.mk (bch N3.out b4); have P4 := Box.mk (range_below b4 N4.out); clear b4))
    | (go_at_call 20; ((with_reducible refine (CP2.out _).mono ?_); rintro e w5 ⟨rfl, b5⟩; have O1 := Box.mk (range_below b5 P1.out); have O2 := Box.mk (range_below b5 P2.out); have O3 := Box.mk (bch P3.out b5); have O4 := Box.mk (range_below b5 P4.out); clear b5))
    | ((with_reducible refine at_store 36 (.tmp 7) (.tmp 20) ?_)
       refine wpList_store_mid rfl 36 (.tmp 7) (.tmp 20) rfl w5.heap.size 0 (byts b).toArray rfl rfl (hash_there (there_new w5 36 (byts (List.replicate 32 0)) _ 0 32 rfl (by decide)) HB.out) (hash_size HB.out) (all_oneCell_toArray (byts_one _)) ?_
       have m1 : ((w5.alloc (.cells (byts (List.replicate 32 0)).toArray 36)).setCells w5.heap.size 0 (byts b)).rangeAt w5.heap.size 0 (byts b) := World.rangeAt_setCells_same _ _ _ _ (by rw [byts_length, HB.out]; exact there_new w5 36 (byts (List.replicate 32 0)) _ 0 32 rfl (by decide))
       have m2 : Below w5.heap.size w5 ((w5.alloc (.cells (byts (List.replicate 32 0)).toArray 36)).setCells w5.heap.size 0 (byts b)) := below_setCells (Nat.le_refl _) _ _ _ _ ((Below.refl _ _).alloc (Nat.le_refl _) _)
       change wpList _ _ _ _ _ ((w5.alloc (.cells (byts (List.replicate 32 0)).toArray 36)).setCells w5.heap.size 0 (byts b))
       generalize (w5.alloc (.cells (byts (List.replicate 32 0)).toArray 36)).setCells w5.heap.size 0 (byts b) = W6 at m1 m2 ⊢
       obtain ⟨xb, hxb⟩ : ∃ z, z = w5.heap.size := ⟨_, rfl⟩
       rw [← hxb] at m1 ⊢
       have M1 := Box.mk (range_below m2 O1.out)
       have M2 := Box.mk (range_below m2 O2.out)
       have M3 := Box.mk (bch O3.out m2)
       have M4 := Box.mk (range_below m2 O4.out)
       have M5 := Box.mk m1
       clear m1 m2 hxb))
  clear Y1 Y2 Y3 Z1 Z2 Z3 V1 V2 V3 N1 N2 N3 N4 P1 P2 P3 P4 O1 O2 O3 O4
  have hu := Tryd.underlying36
  have hi1 := U1.out
  have hi2 := U2.out
  refine wp_region_held_drew (S := fun w' => w'.rangeAt w.heap.size 0 (byts a) ∧ w'.rangeAt (w.heap.size + 1) 0 (byts b) ∧ w'.rangeAt xa 0 (byts a) ∧ w'.rangeAt xb 0 (byts b) ∧ Below w.heap.size w w') (by kernel_rfl) ⟨(World.rangeAt_drew _ _ _ _).2 M1.out, (World.rangeAt_drew _ _ _ _).2 M2.out, (World.rangeAt_drew _ _ _ _).2 M4.out, (World.rangeAt_drew _ _ _ _).2 M5.out, M3.out.drew⟩ (fun hHeld => ?_)
  refine wpAnyH_take (i := 0) (v := _) rfl (by kernel_rfl) (by kernel_rfl) (by kernel_rfl) (fun _ _ _ h => h) (yieldsIf_load_mid (by rfl) _ _ rfl _ _ rfl (byts a) _ (fun w' h => h.1) hu rfl hi1) hHeld ?_
  try simp only [Act.put, List.setIfInBounds_toArray, List.set_cons_zero, List.set_cons_succ]
  refine wpAnyH_take (i := 2) (v := _) rfl (by kernel_rfl) (by kernel_rfl) (by kernel_rfl) (fun _ _ _ h => h) (yieldsIf_load_mid (by rfl) _ _ rfl _ _ rfl (byts b) _ (fun w' h => h.2.1) hu rfl hi2) hHeld ?_
  try simp only [Act.put, List.setIfInBounds_toArray, List.set_cons_zero, List.set_cons_succ]
  refine wpAnyH_ready (rs := [1]) (by kernel_rfl) (by simp) ?_
  refine AllReadyH.cons rfl (fun K hK => ?_) AllReadyH.nil
  go_simp
  go_wp2_with (first
    | (go_at_call 23; ((with_reducible refine (CT1.out _).mono ?_); rintro e w7 ⟨rfl, b7⟩)))
  refine hK.out _ _ ?_ (fun hHeld => ?_)
  · obtain ⟨q1, q2, q3, q4, q5⟩ := hHeld
    exact ⟨range_below b7 q1, range_below b7 q2, range_below b7 q3, range_below b7 q4, bch q5 b7⟩
  clear hK K b7
  try simp only [Act.put, List.setIfInBounds_toArray, List.set_cons_zero, List.set_cons_succ]
  refine wpAnyH_ready (rs := [3]) (by kernel_rfl) (by simp) ?_
  refine AllReadyH.cons rfl (fun K hK => ?_) AllReadyH.nil
  go_simp
  go_wp2_with (first
    | (go_at_call 23; ((with_reducible refine (CT2.out _).mono ?_); rintro e w8 ⟨rfl, b8⟩)))
  refine hK.out _ _ ?_ (fun hHeld => ?_)
  · rename_i hOld
    obtain ⟨q1, q2, q3, q4, q5⟩ := hHeld
    exact ⟨range_below b8 q1, range_below b8 q2, range_below b8 q3, range_below b8 q4, bch q5 b8⟩
  clear hK K b8
  try simp only [Act.put, List.setIfInBounds_toArray, List.set_cons_zero, List.set_cons_succ]
  have hless := HL.out
  refine wpAnyH_ready (rs := [4]) (by kernel_rfl) (by simp) ?_
  refine AllReadyH.cons rfl (fun K hK => ?_) AllReadyH.nil
  go_simp
  refine hK.out _ _ hHeld (fun hHeld => ?_)
  clear hK K
  try simp only [Act.put, List.setIfInBounds_toArray, List.set_cons_zero, List.set_cons_succ]
  refine wpAnyH_ready (rs := [5]) (by kernel_rfl) (by simp) ?_
  refine AllReadyH.cons rfl (fun K hK => ?_) AllReadyH.nil
  go_simp
  refine hK.out _ _ hHeld (fun hHeld => ?_)
  clear hK K
  try simp only [Act.put, List.setIfInBounds_toArray, List.set_cons_zero, List.set_cons_succ]
  refine wpAnyH_done (by kernel_rfl) ?_ _
  go_wp2_with fail
  have he1 := HE1.out
  have he2 := HE2.out
  clear hless
  rcases (by omega : R = -1 ∨ R = 0 ∨ R = 1) with rfl | rfl | rfl
  all_goals
    clear rl rh
    refine wp_region_held_drew (S := fun w' => w'.rangeAt w.heap.size 0 (byts a) ∧ w'.rangeAt (w.heap.size + 1) 0 (byts b) ∧ w'.rangeAt xa 0 (byts a) ∧ w'.rangeAt xb 0 (byts b) ∧ Below w.heap.size w w') (by kernel_rfl) ⟨(World.rangeAt_drew _ _ _ _).2 hHeld.1, (World.rangeAt_drew _ _ _ _).2 hHeld.2.1, (World.rangeAt_drew _ _ _ _).2 hHeld.2.2.1, (World.rangeAt_drew _ _ _ _).2 hHeld.2.2.2.1, hHeld.2.2.2.2.drew⟩ (fun hHeld => ?_)
    refine wpAnyH_ready (rs := [0]) (by kernel_rfl) (by simp) ?_
    refine AllReadyH.cons rfl (fun K hK => ?_) AllReadyH.nil
    go_simp
    go_wp2_with (first
    | (go_at_call 19; ((with_reducible refine (CAW.out _ hHeld.2.2.2.2).mono ?_); rintro e w9 ⟨rfl, b9⟩)))
    refine hK.out _ _ ⟨range_below b9 hHeld.1, range_below b9 hHeld.2.1, range_below b9 hHeld.2.2.1, range_below b9 hHeld.2.2.2.1, bch hHeld.2.2.2.2 b9⟩ (fun hHeld => ?_)
    clear hK K b9
    try simp only [Act.put, List.setIfInBounds_toArray, List.set_cons_zero, List.set_cons_succ]
    refine wpAnyH_ready (rs := [1]) (by kernel_rfl) (by simp) ?_
    refine AllReadyH.cons rfl (fun K hK => ?_) AllReadyH.nil
    go_simp
    refine hK.out _ _ hHeld (fun hHeld => ?_)
    clear hK K
    try simp only [Act.put, List.setIfInBounds_toArray, List.set_cons_zero, List.set_cons_succ]
    refine wpAnyH_ready (rs := [2]) (by kernel_rfl) (by simp) ?_
    refine AllReadyH.cons rfl (fun K hK => ?_) AllReadyH.nil
    go_simp
    refine hK.out _ _ hHeld (fun hHeld => ?_)
    clear hK K
    try simp only [Act.put, List.setIfInBounds_toArray, List.set_cons_zero, List.set_cons_succ]
    refine wpAnyH_ready (rs := [3]) (by kernel_rfl) (by simp) ?_
    refine AllReadyH.cons rfl (fun K hK => ?_) AllReadyH.nil
    go_simp
    refine hK.out _ _ hHeld (fun hHeld => ?_)
    clear hK K
    try simp only [Act.put, List.setIfInBounds_toArray, List.set_cons_zero, List.set_cons_succ]
    refine wpAnyH_ready (rs := [4]) (by kernel_rfl) (by simp) ?_
    refine AllReadyH.cons rfl (fun K hK => ?_) AllReadyH.nil
    go_simp
    refine hK.out _ _ hHeld (fun hHeld => ?_)
    clear hK K
    try simp only [Act.put, List.setIfInBounds_toArray, List.set_cons_zero, List.set_cons_succ]
    refine wpAnyH_ready (rs := [5]) (by kernel_rfl) (by simp) ?_
    refine AllReadyH.cons rfl (fun K hK => ?_) AllReadyH.nil
    go_simp
    refine hK.out _ _ hHeld (fun hHeld => ?_)
    clear hK K
    try simp only [Act.put, List.setIfInBounds_toArray, List.set_cons_zero, List.set_cons_succ]
    refine wpAnyH_ready (rs := [6]) (by kernel_rfl) (by simp) ?_
    refine AllReadyH.cons rfl (fun K hK => ?_) AllReadyH.nil
    go_simp
    refine hK.out _ _ hHeld (fun hHeld => ?_)
    clear hK K
    try simp only [Act.put, List.setIfInBounds_toArray, List.set_cons_zero, List.set_cons_succ]
    refine wpAnyH_ready (rs := [7]) (by kernel_rfl) (by simp) ?_
    refine AllReadyH.cons rfl (fun K hK => ?_) AllReadyH.nil
    go_simp
    refine hK.out _ _ hHeld (fun hHeld => ?_)
    clear hK K
    try simp only [Act.put, List.setIfInBounds_toArray, List.set_cons_zero, List.set_cons_succ]
    refine wpAnyH_take (i := 8) (v := _) rfl (by kernel_rfl) (by kernel_rfl) (by kernel_rfl) (fun _ _ _ h => h) (yieldsIf_load_mid (by rfl) _ _ rfl _ _ rfl (byts a) _ (fun w' h => h.2.2.1) hu rfl hi1) hHeld ?_
    try simp only [Act.put, List.setIfInBounds_toArray, List.set_cons_zero, List.set_cons_succ]
    refine wpAnyH_take (i := 9) (v := _) rfl (by kernel_rfl) (by kernel_rfl) (by kernel_rfl) (fun _ _ _ h => h) (yieldsIf_load_mid (by rfl) _ _ rfl _ _ rfl (byts a) _ (fun w' h => h.1) hu rfl hi1) hHeld ?_
    try simp only [Act.put, List.setIfInBounds_toArray, List.set_cons_zero, List.set_cons_succ]
    refine wpAnyH_ready (rs := [10]) (by kernel_rfl) (by simp) ?_
    refine AllReadyH.cons rfl (fun K hK => ?_) AllReadyH.nil
    go_simp
    refine hK.out _ _ hHeld (fun hHeld => ?_)
    clear hK K
    try simp only [Act.put, List.setIfInBounds_toArray, List.set_cons_zero, List.set_cons_succ]
    refine wpAnyH_ready (rs := [11]) (by kernel_rfl) (by simp) ?_
    refine AllReadyH.cons rfl (fun K hK => ?_) AllReadyH.nil
    go_simp
    refine hK.out _ _ hHeld (fun hHeld => ?_)
    clear hK K
    try simp only [Act.put, List.setIfInBounds_toArray, List.set_cons_zero, List.set_cons_succ]
    refine wpAnyH_ready (rs := [12]) (by kernel_rfl) (by simp) ?_
    refine AllReadyH.cons rfl (fun K hK => ?_) AllReadyH.nil
    go_simp
    refine hK.out _ _ hHeld (fun hHeld => ?_)
    clear hK K
    try simp only [Act.put, List.setIfInBounds_toArray, List.set_cons_zero, List.set_cons_succ]
    refine wpAnyH_take (i := 13) (v := _) rfl (by kernel_rfl) (by kernel_rfl) (by kernel_rfl) (fun _ _ _ h => h) (yieldsIf_load_mid (by rfl) _ _ rfl _ _ rfl (byts b) _ (fun w' h => h.2.2.2.1) hu rfl hi2) hHeld ?_
    try simp only [Act.put, List.setIfInBounds_toArray, List.set_cons_zero, List.set_cons_succ]
    refine wpAnyH_take (i := 14) (v := _) rfl (by kernel_rfl) (by kernel_rfl) (by kernel_rfl) (fun _ _ _ h => h) (yieldsIf_load_mid (by rfl) _ _ rfl _ _ rfl (byts b) _ (fun w' h => h.2.1) hu rfl hi2) hHeld ?_
    try simp only [Act.put, List.setIfInBounds_toArray, List.set_cons_zero, List.set_cons_succ]
    refine wpAnyH_ready (rs := [15]) (by kernel_rfl) (by simp) ?_
    refine AllReadyH.cons rfl (fun K hK => ?_) AllReadyH.nil
    go_simp
    refine hK.out _ _ hHeld (fun hHeld => ?_)
    clear hK K
    try simp only [Act.put, List.setIfInBounds_toArray, List.set_cons_zero, List.set_cons_succ]
    refine wpAnyH_ready (rs := [16]) (by kernel_rfl) (by simp) ?_
    refine AllReadyH.cons rfl (fun K hK => ?_) AllReadyH.nil
    go_simp
    refine hK.out _ _ hHeld (fun hHeld => ?_)
    clear hK K
    try simp only [Act.put, List.setIfInBounds_toArray, List.set_cons_zero, List.set_cons_succ]
    refine wpAnyH_ready (rs := [17]) (by kernel_rfl) (by simp) ?_
    refine AllReadyH.cons rfl (fun K hK => ?_) AllReadyH.nil
    go_simp
    refine hK.out _ _ hHeld (fun hHeld => ?_)
    clear hK K
    try simp only [Act.put, List.setIfInBounds_toArray, List.set_cons_zero, List.set_cons_succ]
    refine wpAnyH_take (i := 19) (v := _) rfl (by kernel_rfl) (by kernel_rfl) (by kernel_rfl) (fun _ _ _ h => h) (yieldsIf_load_mid (by rfl) _ _ rfl _ _ rfl (byts a) _ (fun w' h => h.1) hu rfl hi1) hHeld ?_
    try simp only [Act.put, List.setIfInBounds_toArray, List.set_cons_zero, List.set_cons_succ]
    refine wpAnyH_take (i := 20) (v := _) rfl (by kernel_rfl) (by kernel_rfl) (by kernel_rfl) (fun _ _ _ h => h) (yieldsIf_load_mid (by rfl) _ _ rfl _ _ rfl (byts b) _ (fun w' h => h.2.1) hu rfl hi2) hHeld ?_
    try simp only [Act.put, List.setIfInBounds_toArray, List.set_cons_zero, List.set_cons_succ]
    refine wpAnyH_take (i := 18) (v := _) rfl (by kernel_rfl) (by kernel_rfl) (by kernel_rfl) (fun _ _ _ h => h) (Or.inl ⟨by rfl, fun w' hw' => by go_simp; rfl⟩) hHeld ?_
    try simp only [Act.put, List.setIfInBounds_toArray, List.set_cons_zero, List.set_cons_succ]
    refine wpAnyH_ready (rs := [21]) (by kernel_rfl) (by simp) ?_
    refine AllReadyH.cons rfl (fun K hK => ?_) AllReadyH.nil
    go_simp
    go_wp2_with (first
    | (go_at_call 24; ((with_reducible refine (CC1.out _).mono ?_); rintro e w10 ⟨rfl, b10⟩)))
    refine hK.out _ _ ⟨range_below b10 hHeld.1, range_below b10 hHeld.2.1, range_below b10 hHeld.2.2.1, range_below b10 hHeld.2.2.2.1, bch hHeld.2.2.2.2 b10⟩ (fun hHeld => ?_)
    clear hK K b10
    try simp only [Act.put, List.setIfInBounds_toArray, List.set_cons_zero, List.set_cons_succ]
    refine wpAnyH_ready (rs := [22]) (by kernel_rfl) (by simp) ?_
    refine AllReadyH.cons rfl (fun K hK => ?_) AllReadyH.nil
    go_simp
    refine hK.out _ _ hHeld (fun hHeld => ?_)
    clear hK K
    try simp only [Act.put, List.setIfInBounds_toArray, List.set_cons_zero, List.set_cons_succ]
    refine wpAnyH_ready (rs := [23]) (by kernel_rfl) (by simp) ?_
    refine AllReadyH.cons rfl (fun K hK => ?_) AllReadyH.nil
    go_simp
    refine hK.out _ _ hHeld (fun hHeld => ?_)
    clear hK K
    try simp only [Act.put, List.setIfInBounds_toArray, List.set_cons_zero, List.set_cons_succ]
    refine wpAnyH_ready (rs := [24]) (by kernel_rfl) (by simp) ?_
    refine AllReadyH.cons rfl (fun K hK => ?_) AllReadyH.nil
    go_simp
    refine hK.out _ _ hHeld (fun hHeld => ?_)
    clear hK K
    try simp only [Act.put, List.setIfInBounds_toArray, List.set_cons_zero, List.set_cons_succ]
    refine wpAnyH_ready (rs := [25]) (by kernel_rfl) (by simp) ?_
    refine AllReadyH.cons rfl (fun K hK => ?_) AllReadyH.nil
    go_simp
    refine hK.out _ _ hHeld (fun hHeld => ?_)
    clear hK K
    try simp only [Act.put, List.setIfInBounds_toArray, List.set_cons_zero, List.set_cons_succ]
    refine wpAnyH_take (i := 26) (v := _) rfl (by kernel_rfl) (by kernel_rfl) (by kernel_rfl) (fun _ _ _ h => h) (yieldsIf_load_mid (by rfl) _ _ rfl _ _ rfl (byts a) _ (fun w' h => h.1) hu rfl hi1) hHeld ?_
    try simp only [Act.put, List.setIfInBounds_toArray, List.set_cons_zero, List.set_cons_succ]
    refine wpAnyH_take (i := 27) (v := _) rfl (by kernel_rfl) (by kernel_rfl) (by kernel_rfl) (fun _ _ _ h => h) (yieldsIf_load_mid (by rfl) _ _ rfl _ _ rfl (byts b) _ (fun w' h => h.2.1) hu rfl hi2) hHeld ?_
    try simp only [Act.put, List.setIfInBounds_toArray, List.set_cons_zero, List.set_cons_succ]
    refine wpAnyH_take (i := 29) (v := _) rfl (by kernel_rfl) (by kernel_rfl) (by kernel_rfl) (fun _ _ _ h => h) (yieldsIf_load_mid (by rfl) _ _ rfl _ _ rfl (byts b) _ (fun w' h => h.2.1) hu rfl hi2) hHeld ?_
    try simp only [Act.put, List.setIfInBounds_toArray, List.set_cons_zero, List.set_cons_succ]
    refine wpAnyH_take (i := 30) (v := _) rfl (by kernel_rfl) (by kernel_rfl) (by kernel_rfl) (fun _ _ _ h => h) (yieldsIf_load_mid (by rfl) _ _ rfl _ _ rfl (byts a) _ (fun w' h => h.1) hu rfl hi1) hHeld ?_
    try simp only [Act.put, List.setIfInBounds_toArray, List.set_cons_zero, List.set_cons_succ]
    refine wpAnyH_ready (rs := [28]) (by kernel_rfl) (by simp) ?_
    refine AllReadyH.cons rfl (fun K hK => ?_) AllReadyH.nil
    go_simp
    go_wp2_with (first
    | (go_at_call 24; ((with_reducible refine (CC1.out _).mono ?_); rintro e w11 ⟨rfl, b11⟩)))
    refine hK.out _ _ ⟨range_below b11 hHeld.1, range_below b11 hHeld.2.1, range_below b11 hHeld.2.2.1, range_below b11 hHeld.2.2.2.1, bch hHeld.2.2.2.2 b11⟩ (fun hHeld => ?_)
    clear hK K b11
    try simp only [Act.put, List.setIfInBounds_toArray, List.set_cons_zero, List.set_cons_succ]
    refine wpAnyH_ready (rs := [31]) (by kernel_rfl) (by simp) ?_
    refine AllReadyH.cons rfl (fun K hK => ?_) AllReadyH.nil
    go_simp
    go_wp2_with (first
    | (go_at_call 24; ((with_reducible refine (CC2.out _).mono ?_); rintro e w12 ⟨rfl, b12⟩)))
    refine hK.out _ _ ⟨range_below b12 hHeld.1, range_below b12 hHeld.2.1, range_below b12 hHeld.2.2.1, range_below b12 hHeld.2.2.2.1, bch hHeld.2.2.2.2 b12⟩ (fun hHeld => ?_)
    clear hK K b12
    try simp only [Act.put, List.setIfInBounds_toArray, List.set_cons_zero, List.set_cons_succ]
    refine wpAnyH_ready (rs := [32]) (by kernel_rfl) (by simp) ?_
    refine AllReadyH.cons rfl (fun K hK => ?_) AllReadyH.nil
    go_simp
    refine hK.out _ _ hHeld (fun hHeld => ?_)
    clear hK K
    try simp only [Act.put, List.setIfInBounds_toArray, List.set_cons_zero, List.set_cons_succ]
    refine wpAnyH_ready (rs := [33]) (by kernel_rfl) (by simp) ?_
    refine AllReadyH.cons rfl (fun K hK => ?_) AllReadyH.nil
    go_simp
    refine hK.out _ _ hHeld (fun hHeld => ?_)
    clear hK K
    try simp only [Act.put, List.setIfInBounds_toArray, List.set_cons_zero, List.set_cons_succ]
    refine wpAnyH_ready (rs := [34]) (by kernel_rfl) (by simp) ?_
    refine AllReadyH.cons rfl (fun K hK => ?_) AllReadyH.nil
    go_simp
    refine hK.out _ _ hHeld (fun hHeld => ?_)
    clear hK K
    try simp only [Act.put, List.setIfInBounds_toArray, List.set_cons_zero, List.set_cons_succ]
    refine wpAnyH_ready (rs := [35]) (by kernel_rfl) (by simp) ?_
    refine AllReadyH.cons rfl (fun K hK => ?_) AllReadyH.nil
    go_simp
    refine hK.out _ _ hHeld (fun hHeld => ?_)
    clear hK K
    try simp only [Act.put, List.setIfInBounds_toArray, List.set_cons_zero, List.set_cons_succ]
    refine wpAnyH_done (by kernel_rfl) ?_ _
    go_wp2_with fail
    go_ret
    exact ⟨rfl, hHeld.2.2.2.2⟩
end Go.Proofs.YtdhbeeeofaheeaaDoor
