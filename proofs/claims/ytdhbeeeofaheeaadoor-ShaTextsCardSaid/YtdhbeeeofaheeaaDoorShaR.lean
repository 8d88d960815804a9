/- ShaTexts: sums are texts, and texts sums. The walk. -/
import Derived.Test.YtdhbeeeofaheeaaDoorShaQ
namespace Go.Proofs.YtdhbeeeofaheeaaDoor
set_option maxRecDepth 100000
open Go.RowKit M

theorem conv_rangeT {w : World} {g n cap : Nat} {l : List Nat} (hl : l.length = n) (h : w.rangeAt g 0 (byts l)) :
    (convert 38 9 (.slice (some ⟨g, 0, none⟩) n cap)).run Tryd.prog w = .ok (.string (bs l)) w := by
  refine run_convert_bytes_arg (P := Tryd.prog) w 38 5 Tryd.underlying38 Tryd.underlying5 g 0 n cap (l.map fun n => ((n : Nat) : Int)) (by simp [hl]) (fun i hi => ?_) 9 Tryd.underlying9
  have hi' : i < l.length := by omega
  have hg : (byts l)[i]? = some (.int .u8 ((l.getD i 0 : Nat) : Int)) := by simp [byts, List.getD, hi']
  have hc := h i _ hg
  rw [Nat.zero_add] at hc
  rw [Nat.zero_add, hc]
  simp [List.getD, hi']
theorem bs_toListT (l : List Nat) : (bs l).toList = l.map UInt8.ofNat := by
  unfold bs; rw [Lib.strOfNums_toList]; simp [Lib.bytesOf]
theorem prsD_length {l : List Nat} : (prsD l).length = 32 := by
  unfold prsD
  split
  · rename_i h
    unfold digsB at h
    simp only [Bool.and_eq_true, decide_eq_true_eq] at h
    rw [prsL_length]; omega
  · simp
theorem prsD_lt (l : List Nat) : ∀ d ∈ prsD l, d < 256 := by
  unfold prsD
  split
  · exact prsL_lt l
  · intro d hd; rw [List.mem_replicate] at hd; omega

theorem cmp_zero : ∀ (x y : List UInt8), (x == y) = decide (Lib.compareBytes x y = 0)
  | [], [] => rfl
  | [], _ :: _ => rfl
  | _ :: _, [] => rfl
  | x :: a, y :: b => by
    have ih := cmp_zero a b
    simp only [Lib.compareBytes, List.cons_beq_cons, ih]
    by_cases h1 : x < y
    · have h2 : ¬ x = y := fun h => by subst h; rw [UInt8.lt_iff_toNat_lt] at h1; omega
      simp [h1, h2]
    · by_cases h2 : y < x
      · have h3 : ¬ x = y := fun h => by subst h; exact h1 h2
        simp [h1, h2, h3]
      · have h3 : x = y := by
          apply UInt8.toNat_inj.1
          rw [UInt8.lt_iff_toNat_lt] at h1 h2
          omega
        simp [h3]
theorem zeros32 : (byts (List.replicate 32 0)).toArray = #[.int .u8 0, .int .u8 0, .int .u8 0, .int .u8 0, .int .u8 0, .int .u8 0, .int .u8 0, .int .u8 0, .int .u8 0, .int .u8 0, .int .u8 0, .int .u8 0, .int .u8 0, .int .u8 0, .int .u8 0, .int .u8 0, .int .u8 0, .int .u8 0, .int .u8 0, .int .u8 0, .int .u8 0, .int .u8 0, .int .u8 0, .int .u8 0, .int .u8 0, .int .u8 0, .int .u8 0, .int .u8 0, .int .u8 0, .int .u8 0, .int .u8 0, .int .u8 0] := by simp [byts, List.replicate]
theorem wpList_load_wanted {P : Program} {ops : Array Oper} {rest : List Oper} {op : Oper} {a : Act} {w : World} {Q : Exit → Act → World → Prop} (hwt : Region.wanted op (yielded ops a.tmps) = true) (ty : TypeId) (x : Operand) (ho : op.op = .load ty x)
    (b o : Nat) (hx : a.eval x = .pointer (some ⟨b, o, none⟩)) (cs : List Value) (d : TypeDesc) (hc : w.rangeAt b o cs)
    (hu : P.underlying ty = some d) (hd : d.isRow = true) (hi : (P.info? ty).map (·.size) = some cs.length)
    (h : wpList P ops Q rest (a.put op.dst (.agg cs.toArray)) w) : wpList P ops Q (op :: rest) a w := by
  unfold wpList
  rw [if_pos hwt]
  exact Or.inl (wp_load_mid ty x ho b o hx cs d hc hu hd hi h)

set_option maxRecDepth 100000 in
set_option maxHeartbeats 2000000 in
theorem shaTexts_walk (a b : List Nat) (s0 : ByteArray) (ha : a.length = 32) (hb : b.length = 32) (ta : ∀ d ∈ a, d < 256) (tb : ∀ d ∈ b, d < 256) (w : World) (hK : KTab w) :
    Calls Tryd.prog 4 #[.agg (byts a).toArray, .agg (byts b).toArray, .string s0] w fun e w' => e = .returned (.bool true) ∧ Below w.heap.size w w' := by
  obtain ⟨s, hs⟩ : ∃ s, s = s0.extract 0 70 := ⟨_, rfl⟩
  have hsz : s.size ≤ 70 := by rw [hs]; exact cut_size s0 70
  have cc : ∀ W, Calls Tryd.prog 13 #[.string s0, .int .i64 70] W fun e w' => e = .returned (.string s) ∧ W = w' := fun W => by rw [hs]; exact cut_any s0 70 W
  obtain ⟨D, hD⟩ : ∃ D, D = prsD (sb s) := ⟨_, rfl⟩
  obtain ⟨B, hB⟩ : ∃ B, B = digsB (sb s) := ⟨_, rfl⟩
  have hDl : D.length = 32 := by rw [hD]; exact prsD_length
  have hDt : ∀ d ∈ D, d < 256 := by rw [hD]; exact prsD_lt _
  have cp : ∀ W, Calls Tryd.prog 20 #[.string s] W fun e w' => e = .returned (.tuple #[.agg (byts D).toArray, .bool B]) ∧ Below W.heap.size W w' := fun W => by
    have h := parse_any s (by omega) W
    unfold PrsP at h
    rw [hD, hB]; exact h
  have cd : ∀ W, Calls Tryd.prog 21 #[.string s] W fun e w' => e = .returned (.bool B) ∧ W = w' := fun W => by
    rw [hB]; exact refDigits_any s (by omega) W
  have chD : B = true → ∀ W, Calls Tryd.prog 22 #[.string (bs D)] W fun e w' => e = .returned (.string s) ∧ Below W.heap.size W w' := fun hBt W => by
    have h := refHex_any (bs D) (by rw [bs_size, hDl]; omega) W
    rw [sb_bs D hDt, hD, hex_prsD (by rw [← hB]; exact hBt) (sb_lt s), bs_list] at h
    rw [hD]; exact h
  have hD0 : B = false → D = List.replicate 32 0 := fun h => by
    rw [hD, prsD, if_neg (by rw [← hB, h]; decide)]
  have heq := fun w => hash_eql hDl (l' := List.replicate 32 0) (by simp) hDt (by intro d hd; rw [List.mem_replicate] at hd; omega) w
  have ct1 := fun w => text_any a ha ta w
  have chA : ∀ W, Calls Tryd.prog 22 #[.string (bs a)] W fun e w' => e = .returned (.string (bs (hexL a))) ∧ Below W.heap.size W w' := fun W => by
    have h := refHex_any (bs a) (by rw [bs_size, ha]; omega) W
    rw [sb_bs a ta] at h; exact h
  have cc1 := fun w => shaCompare_any a b ha hb ta tb w
  have l1 : Op.bytesLess (bs a).toList (bs b).toList = decide (Lib.compareBytes (u8l a) (u8l b) < 0) := by
    rw [bs_toListT, bs_toListT]; exact cmp_less a b (by rw [ha, hb]) ta tb
  have l2 : Op.bytesLess (bs b).toList (bs a).toList = decide (0 < Lib.compareBytes (u8l a) (u8l b)) := by
    rw [bs_toListT, bs_toListT, cmp_less b a (by rw [ha, hb]) tb ta, cmp_anti (u8l b) (u8l a)]
    exact decide_eq_decide.2 (by omega)
  have l3 : ((bs a).toList == (bs b).toList) = decide (Lib.compareBytes (u8l a) (u8l b) = 0) := by
    rw [bs_toListT, bs_toListT]; exact cmp_zero _ _
  obtain ⟨rl, rh⟩ := cmp_range (u8l a) (u8l b)
  obtain ⟨R, hR⟩ : ∃ R, R = Lib.compareBytes (u8l a) (u8l b) := ⟨_, rfl⟩
  rw [← hR] at l1 l2 l3 cc1 rl rh
  have caw : ∀ W, Below w.heap.size w W → Calls Tryd.prog 19 #[] W fun e w' => e = .returned (.bool true) ∧ Below W.heap.size W w' := fun W h => awake3_any W (ktab_below hK h)
  have u1 : (Tryd.prog.info? 36).map (fun i => i.size) = some (byts a).length := by
    have := hash_size ha
    simpa using this
  have u2 : (Tryd.prog.info? 36).map (fun i => i.size) = some (byts b).length := by
    have := hash_size hb
    simpa using this
  have u3 : (Tryd.prog.info? 36).map (fun i => i.size) = some (byts D).length := by
    have := hash_size hDl
    simpa using this
  obtain ⟨SA, hSA⟩ : ∃ S, S = bs a := ⟨_, rfl⟩
  obtain ⟨SB, hSB⟩ : ∃ S, S = bs b := ⟨_, rfl⟩
  obtain ⟨SD, hSD⟩ : ∃ S, S = bs D := ⟨_, rfl⟩
  obtain ⟨HA', hHA⟩ : ∃ S, S = bs (hexL a) := ⟨_, rfl⟩
  have cvA : ∀ W : World, W.rangeAt w.heap.size 0 (byts a) → (convert 38 9 (.slice (some ⟨w.heap.size, 0, none⟩) 32 32)).run Tryd.prog W = .ok (.string SA) W := fun W h => by rw [hSA]; exact conv_rangeT ha h
  have cvB : ∀ W : World, W.rangeAt (w.heap.size + 1) 0 (byts b) → (convert 38 9 (.slice (some ⟨w.heap.size + 1, 0, none⟩) 32 32)).run Tryd.prog W = .ok (.string SB) W := fun W h => by rw [hSB]; exact conv_rangeT hb h
  have cvD : ∀ (W : World) (x : Nat), W.rangeAt x 0 (byts D) → (convert 38 9 (.slice (some ⟨x, 0, none⟩) 32 32)).run Tryd.prog W = .ok (.string SD) W := fun W x h => by rw [hSD]; exact conv_rangeT hDl h
  rw [← hSA, ← hSB] at l1 l2 l3
  rw [← hSD] at chD
  rw [← hSA, ← hHA] at chA
  rw [← hHA] at ct1
  have CC := Box.mk cc; have CP := Box.mk cp; have CD := Box.mk cd; have CHD := Box.mk chD; have HD0 := Box.mk hD0; have HEQ := Box.mk heq; have CT1 := Box.mk ct1; have CHA := Box.mk chA; have CC1 := Box.mk cc1; have CAW := Box.mk caw
  have U1 := Box.mk u1; have U2 := Box.mk u2; have U3 := Box.mk u3; have HA := Box.mk ha; have HB := Box.mk hb; have HDL := Box.mk hDl; have CVA := Box.mk cvA; have CVB := Box.mk cvB; have CVD := Box.mk cvD
  have L1 := Box.mk l1; have L2 := Box.mk l2; have L3 := Box.mk l3
  have RR : R = -1 ∨ R = 0 ∨ R = 1 := by omega
  have RB := Box.mk RR
  have y1 : ((w.alloc (.cells (byts a).toArray 36)).alloc (.cells (byts b).toArray 36)).rangeAt w.heap.size 0 (byts a) := range_below ((Below.refl _ _).alloc (Nat.le_refl _) _) (range_new w _ _ _ rfl)
  have y2 : ((w.alloc (.cells (byts a).toArray 36)).alloc (.cells (byts b).toArray 36)).rangeAt (w.heap.size + 1) 0 (byts b) := range_new _ _ _ _ (by simp)
  have y3 : Below w.heap.size w ((w.alloc (.cells (byts a).toArray 36)).alloc (.cells (byts b).toArray 36)) := ((Below.refl _ _).alloc (Nat.le_refl _) _).alloc (by simp) _
  have Y1 := Box.mk y1; have Y2 := Box.mk y2; have Y3 := Box.mk y3
  clear cc cp cd chD hD0 heq ct1 chA cc1 caw u1 u2 u3 ha hb ta tb hDl hDt hD hB hSA hSB hSD hHA cvA cvB cvD l1 l2 l3 rl rh RR hR hs hsz hK y1 y2 y3
  go_enter Tryd.func4, Tryd.ntmps4
  go_wp2_with (first
    | (go_at_call 13; ((with_reducible refine (CC.out _).mono ?_); rintro e w' ⟨rfl, rfl⟩))
    | (go_at_call 20; ((with_reducible refine (CP.out _).mono ?_); rintro e w2 ⟨rfl, b2⟩; have V1 := Box.mk (range_below b2 Y1.out); have V2 := Box.mk (range_below b2 Y2.out); have V3 := Box.mk (bch Y3.out b2); clear b2))
    | ((with_reducible refine at_store 36 (.tmp 7) (.tmp 15) ?_)
       refine wpList_store_mid rfl 36 (.tmp 7) (.tmp 15) rfl w2.heap.size 0 (byts D).toArray rfl rfl (hash_there (there_new w2 36 (byts (List.replicate 32 0)) _ 0 32 rfl (by decide)) HDL.out) (hash_size HDL.out) (all_oneCell_toArray (byts_one _)) ?_
       have m1 : ((w2.alloc (.cells (byts (List.replicate 32 0)).toArray 36)).setCells w2.heap.size 0 (byts D)).rangeAt w2.heap.size 0 (byts D) := World.rangeAt_setCells_same _ _ _ _ (by rw [byts_length, HDL.out]; exact there_new w2 36 (byts (List.replicate 32 0)) _ 0 32 rfl (by decide))
       have m2 : Below w2.heap.size w2 ((w2.alloc (.cells (byts (List.replicate 32 0)).toArray 36)).setCells w2.heap.size 0 (byts D)) := below_setCells (Nat.le_refl _) _ _ _ _ ((Below.refl _ _).alloc (Nat.le_refl _) _)
       change wpList _ _ _ _ _ ((w2.alloc (.cells (byts (List.replicate 32 0)).toArray 36)).setCells w2.heap.size 0 (byts D))
       generalize (w2.alloc (.cells (byts (List.replicate 32 0)).toArray 36)).setCells w2.heap.size 0 (byts D) = W3 at m1 m2 ⊢
       obtain ⟨xa, hxa⟩ : ∃ z, z = w2.heap.size := ⟨_, rfl⟩
       rw [← hxa] at m1 ⊢
       have N1 := Box.mk (range_below m2 V1.out)
       have N2 := Box.mk (range_below m2 V2.out)
       have N3 := Box.mk (bch V3.out m2)
       have N4 := Box.mk m1
       clear m1 m2 hxa))
  clear Y1 Y2 Y3 V1 V2 V3
  rcases RB.out with rfl | rfl | rfl
  all_goals
    have d1 : (convert 38 9 (.slice (some ⟨w.heap.size, 0, none⟩) 32 32)).run Tryd.prog W3.drew = .ok (.string SA) W3.drew := CVA.out _ ((World.rangeAt_drew _ _ _ _).2 N1.out)
    have d2 : (convert 38 9 (.slice (some ⟨w.heap.size + 1, 0, none⟩) 32 32)).run Tryd.prog W3.drew = .ok (.string SB) W3.drew := CVB.out _ ((World.rangeAt_drew _ _ _ _).2 N2.out)
    have D12 := And.intro d1 d2
    clear d1 d2
    have lv1 := L1.out
    have lv2 := L2.out
    have lv3 := L3.out
    simp at lv1 lv2
    first | (rw [show decide ((-1 : Int) = 0) = false from rfl] at lv3) | (rw [show decide ((0 : Int) = 0) = true from rfl] at lv3) | (rw [show decide ((1 : Int) = 0) = false from rfl] at lv3)
    go_region_held3 (fun wx => (convert 38 9 (.slice (some ⟨w.heap.size, 0, none⟩) 32 32)).run Tryd.prog wx = .ok (.string SA) wx ∧ (convert 38 9 (.slice (some ⟨w.heap.size + 1, 0, none⟩) 32 32)).run Tryd.prog wx = .ok (.string SB) wx) (assumption) (first | fail)
    clear D12
    have P1 : Box (W3.drew.rangeAt w.heap.size 0 (byts a)) := ⟨(World.rangeAt_drew _ _ _ _).2 N1.out⟩
    have P2 : Box (W3.drew.rangeAt (w.heap.size + 1) 0 (byts b)) := ⟨(World.rangeAt_drew _ _ _ _).2 N2.out⟩
    have P3 : Box (Below w.heap.size w W3.drew) := ⟨N3.out.drew⟩
    have P4 : Box (W3.drew.rangeAt xa 0 (byts D)) := ⟨(World.rangeAt_drew _ _ _ _).2 N4.out⟩
    generalize W3.drew = W4 at P1 P2 P3 P4 ⊢
    clear N1 N2 N3 N4 L1 L2 L3
    go_wp2_with fail
    have d1 : (convert 38 9 (.slice (some ⟨w.heap.size, 0, none⟩) 32 32)).run Tryd.prog W4.drew = .ok (.string SA) W4.drew := CVA.out _ ((World.rangeAt_drew _ _ _ _).2 P1.out)
    have d2 : (convert 38 9 (.slice (some ⟨w.heap.size + 1, 0, none⟩) 32 32)).run Tryd.prog W4.drew = .ok (.string SB) W4.drew := CVB.out _ ((World.rangeAt_drew _ _ _ _).2 P2.out)
    have D12 := And.intro d1 d2
    clear d1 d2
    go_region_held3 (fun wx => (convert 38 9 (.slice (some ⟨w.heap.size, 0, none⟩) 32 32)).run Tryd.prog wx = .ok (.string SA) wx ∧ (convert 38 9 (.slice (some ⟨w.heap.size + 1, 0, none⟩) 32 32)).run Tryd.prog wx = .ok (.string SB) wx) (assumption) (first | fail)
    clear D12 lv1 lv2 lv3
    have M1 : Box (W4.drew.rangeAt w.heap.size 0 (byts a)) := ⟨(World.rangeAt_drew _ _ _ _).2 P1.out⟩
    have M2 : Box (W4.drew.rangeAt (w.heap.size + 1) 0 (byts b)) := ⟨(World.rangeAt_drew _ _ _ _).2 P2.out⟩
    have M3 : Box (Below w.heap.size w W4.drew) := ⟨P3.out.drew⟩
    have M4 : Box (W4.drew.rangeAt xa 0 (byts D)) := ⟨(World.rangeAt_drew _ _ _ _).2 P4.out⟩
    generalize W4.drew = W5 at M1 M2 M3 M4 ⊢
    clear P1 P2 P3 P4
    cases B
    · have hq0 := HD0.out rfl
      have hq2 : ∀ w : World, (Op.equalIn 10000 36 (.agg (byts D).toArray) (.agg #[.int .u8 0, .int .u8 0, .int .u8 0, .int .u8 0, .int .u8 0, .int .u8 0, .int .u8 0, .int .u8 0, .int .u8 0, .int .u8 0, .int .u8 0, .int .u8 0, .int .u8 0, .int .u8 0, .int .u8 0, .int .u8 0, .int .u8 0, .int .u8 0, .int .u8 0, .int .u8 0, .int .u8 0, .int .u8 0, .int .u8 0, .int .u8 0, .int .u8 0, .int .u8 0, .int .u8 0, .int .u8 0, .int .u8 0, .int .u8 0, .int .u8 0, .int .u8 0])).run Tryd.prog w = .ok true w := fun w => by
        have h := HEQ.out w
        rw [decide_eq_true hq0, zeros32] at h; exact h
      clear hq0
      go_wp2_with (first
        | (go_at_call 19; ((with_reducible refine (CAW.out _ M3.out).mono ?_); rintro e w7 ⟨rfl, b6⟩; have T1 := Box.mk (range_below b6 M1.out); have T2 := Box.mk (range_below b6 M2.out); have T3 := Box.mk (bch M3.out b6); have Q4 := Box.mk (range_below b6 M4.out); clear b6))
        | (go_at_call 21; ((with_reducible refine (CD.out _).mono ?_); rintro e w' ⟨rfl, rfl⟩))
        | ((with_reducible refine at_load 36 (.tmp 7) ?_); refine wpList_load_wanted (by rfl) 36 (.tmp 7) rfl xa 0 rfl (byts D) _ Q4.out Tryd.underlying36 rfl U3.out ?_))
      clear hq2 Q4 M1 M2 M3 M4
      have hu := Tryd.underlying36
      have hi1 := U1.out
      have hi2 := U2.out
      refine wp_region_held_drew (S := fun w' => w'.rangeAt w.heap.size 0 (byts a) ∧ w'.rangeAt (w.heap.size + 1) 0 (byts b) ∧ Below w.heap.size w w') (by kernel_rfl) ⟨(World.rangeAt_drew _ _ _ _).2 T1.out, (World.rangeAt_drew _ _ _ _).2 T2.out, T3.out.drew⟩ (fun hHeld => ?_)
      clear T1 T2 T3
      refine wpAnyH_take (i := 0) (v := _) rfl (by kernel_rfl) (by kernel_rfl) (by kernel_rfl) (fun _ _ _ h => h) (yieldsIf_load_mid (by rfl) _ _ rfl _ _ rfl (byts a) _ (fun w' h => h.1) hu rfl hi1) hHeld ?_
      try simp only [Act.put, List.setIfInBounds_toArray, List.set_cons_zero, List.set_cons_succ]
      refine wpAnyH_take (i := 2) (v := .slice (some ⟨w.heap.size, 0, none⟩) 32 32) rfl (by kernel_rfl) (by kernel_rfl) (by kernel_rfl) (fun _ _ _ h => h) (Or.inl ⟨by rfl, fun w' hw' => by go_simp; try rfl⟩) hHeld ?_
      try simp only [Act.put, List.setIfInBounds_toArray, List.set_cons_zero, List.set_cons_succ]
      refine wpAnyH_take (i := 3) (v := .string SA) rfl (by kernel_rfl) (by kernel_rfl) (by kernel_rfl) (fun _ _ _ h => h) (Or.inl ⟨by rfl, fun w' hw' => by have hcv := CVA.out w' hw'.1; go_simp; try rfl⟩) hHeld ?_
      try simp only [Act.put, List.setIfInBounds_toArray, List.set_cons_zero, List.set_cons_succ]
      refine wpAnyH_ready (rs := [1]) (by kernel_rfl) (by simp) ?_
      refine AllReadyH.cons rfl (fun K hK => ?_) AllReadyH.nil
      go_simp
      go_wp2_with (first
        | (go_at_call 23; ((with_reducible refine (CT1.out _).mono ?_); rintro e w9 ⟨rfl, b9⟩)))
      refine hK.out _ _ ⟨range_below b9 hHeld.1, range_below b9 hHeld.2.1, bch hHeld.2.2 b9⟩ (fun hHeld => ?_)
      clear hK K b9
      try simp only [Act.put, List.setIfInBounds_toArray, List.set_cons_zero, List.set_cons_succ]
      refine wpAnyH_ready (rs := [4]) (by kernel_rfl) (by simp) ?_
      refine AllReadyH.cons rfl (fun K hK => ?_) AllReadyH.nil
      go_simp
      go_wp2_with (first
        | (go_at_call 22; ((with_reducible refine (CHA.out _).mono ?_); rintro e w9 ⟨rfl, b9⟩)))
      refine hK.out _ _ ⟨range_below b9 hHeld.1, range_below b9 hHeld.2.1, bch hHeld.2.2 b9⟩ (fun hHeld => ?_)
      clear hK K b9
      try simp only [Act.put, List.setIfInBounds_toArray, List.set_cons_zero, List.set_cons_succ]
      refine wpAnyH_ready (rs := [5]) (by kernel_rfl) (by simp) ?_
      refine AllReadyH.cons rfl (fun K hK => ?_) AllReadyH.nil
      go_simp
      refine hK.out _ _ hHeld (fun hHeld => ?_)
      clear hK K
      try simp only [Act.put, List.setIfInBounds_toArray, List.set_cons_zero, List.set_cons_succ]
      refine wpAnyH_ready (rs := [6]) (by kernel_rfl) (by simp) ?_
      refine AllReadyH.cons rfl (fun K hK => ?_) AllReadyH.nil
      go_simp
      refine hK.out _ _ hHeld (fun hHeld => ?_)
      clear hK K
      try simp only [Act.put, List.setIfInBounds_toArray, List.set_cons_zero, List.set_cons_succ]
      refine wpAnyH_take (i := 7) (v := _) rfl (by kernel_rfl) (by kernel_rfl) (by kernel_rfl) (fun _ _ _ h => h) (yieldsIf_load_mid (by rfl) _ _ rfl _ _ rfl (byts a) _ (fun w' h => h.1) hu rfl hi1) hHeld ?_
      try simp only [Act.put, List.setIfInBounds_toArray, List.set_cons_zero, List.set_cons_succ]
      refine wpAnyH_take (i := 8) (v := _) rfl (by kernel_rfl) (by kernel_rfl) (by kernel_rfl) (fun _ _ _ h => h) (yieldsIf_load_mid (by rfl) _ _ rfl _ _ rfl (byts b) _ (fun w' h => h.2.1) hu rfl hi2) hHeld ?_
      try simp only [Act.put, List.setIfInBounds_toArray, List.set_cons_zero, List.set_cons_succ]
      refine wpAnyH_take (i := 10) (v := _) rfl (by kernel_rfl) (by kernel_rfl) (by kernel_rfl) (fun _ _ _ h => h) (Or.inl ⟨by rfl, fun w' hw' => by go_simp; rfl⟩) hHeld ?_
      try simp only [Act.put, List.setIfInBounds_toArray, List.set_cons_zero, List.set_cons_succ]
      refine wpAnyH_ready (rs := [9]) (by kernel_rfl) (by simp) ?_
      refine AllReadyH.cons rfl (fun K hK => ?_) AllReadyH.nil
      go_simp
      go_wp2_with (first
        | (go_at_call 24; ((with_reducible refine (CC1.out _).mono ?_); rintro e w9 ⟨rfl, b9⟩)))
      refine hK.out _ _ ⟨range_below b9 hHeld.1, range_below b9 hHeld.2.1, bch hHeld.2.2 b9⟩ (fun hHeld => ?_)
      clear hK K b9
      try simp only [Act.put, List.setIfInBounds_toArray, List.set_cons_zero, List.set_cons_succ]
      refine wpAnyH_ready (rs := [11]) (by kernel_rfl) (by simp) ?_
      refine AllReadyH.cons rfl (fun K hK => ?_) AllReadyH.nil
      go_simp
      refine hK.out _ _ hHeld (fun hHeld => ?_)
      clear hK K
      try simp only [Act.put, List.setIfInBounds_toArray, List.set_cons_zero, List.set_cons_succ]
      refine wpAnyH_ready (rs := [12]) (by kernel_rfl) (by simp) ?_
      refine AllReadyH.cons rfl (fun K hK => ?_) AllReadyH.nil
      go_simp
      refine hK.out _ _ hHeld (fun hHeld => ?_)
      clear hK K
      try simp only [Act.put, List.setIfInBounds_toArray, List.set_cons_zero, List.set_cons_succ]
      refine wpAnyH_ready (rs := [13]) (by kernel_rfl) (by simp) ?_
      refine AllReadyH.cons rfl (fun K hK => ?_) AllReadyH.nil
      go_simp
      refine hK.out _ _ hHeld (fun hHeld => ?_)
      clear hK K
      try simp only [Act.put, List.setIfInBounds_toArray, List.set_cons_zero, List.set_cons_succ]
      refine wpAnyH_done (by kernel_rfl) ?_ _
      go_wp2_with fail
      go_ret
      exact ⟨rfl, hHeld.2.2⟩
    · have chd := CHD.out rfl
      have CHD2 := Box.mk chd; clear chd
      go_wp2_with (first
        | (go_at_call 19; ((with_reducible refine (CAW.out _ M3.out).mono ?_); rintro e w6 ⟨rfl, b6⟩; have Q1 := Box.mk (range_below b6 M1.out); have Q2 := Box.mk (range_below b6 M2.out); have Q3 := Box.mk (bch M3.out b6); have Q4 := Box.mk (range_below b6 M4.out); have hcv := CVD.out w6 xa Q4.out; clear b6))
        | (go_at_call 21; ((with_reducible refine (CD.out _).mono ?_); rintro e w' ⟨rfl, rfl⟩))
        | (go_at_call 22; ((with_reducible refine (CHD2.out _).mono ?_); rintro e w7 ⟨rfl, b7⟩; have T1 := Box.mk (range_below b7 Q1.out); have T2 := Box.mk (range_below b7 Q2.out); have T3 := Box.mk (bch Q3.out b7); clear b7)))
      clear hcv Q1 Q2 Q3 Q4 CHD2 M1 M2 M3 M4
      have hu := Tryd.underlying36
      have hi1 := U1.out
      have hi2 := U2.out
      refine wp_region_held_drew (S := fun w' => w'.rangeAt w.heap.size 0 (byts a) ∧ w'.rangeAt (w.heap.size + 1) 0 (byts b) ∧ Below w.heap.size w w') (by kernel_rfl) ⟨(World.rangeAt_drew _ _ _ _).2 T1.out, (World.rangeAt_drew _ _ _ _).2 T2.out, T3.out.drew⟩ (fun hHeld => ?_)
      clear T1 T2 T3
      refine wpAnyH_take (i := 0) (v := _) rfl (by kernel_rfl) (by kernel_rfl) (by kernel_rfl) (fun _ _ _ h => h) (yieldsIf_load_mid (by rfl) _ _ rfl _ _ rfl (byts a) _ (fun w' h => h.1) hu rfl hi1) hHeld ?_
      try simp only [Act.put, List.setIfInBounds_toArray, List.set_cons_zero, List.set_cons_succ]
      refine wpAnyH_take (i := 2) (v := .slice (some ⟨w.heap.size, 0, none⟩) 32 32) rfl (by kernel_rfl) (by kernel_rfl) (by kernel_rfl) (fun _ _ _ h => h) (Or.inl ⟨by rfl, fun w' hw' => by go_simp; try rfl⟩) hHeld ?_
      try simp only [Act.put, List.setIfInBounds_toArray, List.set_cons_zero, List.set_cons_succ]
      refine wpAnyH_take (i := 3) (v := .string SA) rfl (by kernel_rfl) (by kernel_rfl) (by kernel_rfl) (fun _ _ _ h => h) (Or.inl ⟨by rfl, fun w' hw' => by have hcv := CVA.out w' hw'.1; go_simp; try rfl⟩) hHeld ?_
      try simp only [Act.put, List.setIfInBounds_toArray, List.set_cons_zero, List.set_cons_succ]
      refine wpAnyH_ready (rs := [1]) (by kernel_rfl) (by simp) ?_
      refine AllReadyH.cons rfl (fun K hK => ?_) AllReadyH.nil
      go_simp
      go_wp2_with (first
        | (go_at_call 23; ((with_reducible refine (CT1.out _).mono ?_); rintro e w9 ⟨rfl, b9⟩)))
      refine hK.out _ _ ⟨range_below b9 hHeld.1, range_below b9 hHeld.2.1, bch hHeld.2.2 b9⟩ (fun hHeld => ?_)
      clear hK K b9
      try simp only [Act.put, List.setIfInBounds_toArray, List.set_cons_zero, List.set_cons_succ]
      refine wpAnyH_ready (rs := [4]) (by kernel_rfl) (by simp) ?_
      refine AllReadyH.cons rfl (fun K hK => ?_) AllReadyH.nil
      go_simp
      go_wp2_with (first
        | (go_at_call 22; ((with_reducible refine (CHA.out _).mono ?_); rintro e w9 ⟨rfl, b9⟩)))
      refine hK.out _ _ ⟨range_below b9 hHeld.1, range_below b9 hHeld.2.1, bch hHeld.2.2 b9⟩ (fun hHeld => ?_)
      clear hK K b9
      try simp only [Act.put, List.setIfInBounds_toArray, List.set_cons_zero, List.set_cons_succ]
      refine wpAnyH_ready (rs := [5]) (by kernel_rfl) (by simp) ?_
      refine AllReadyH.cons rfl (fun K hK => ?_) AllReadyH.nil
      go_simp
      refine hK.out _ _ hHeld (fun hHeld => ?_)
      clear hK K
      try simp only [Act.put, List.setIfInBounds_toArray, List.set_cons_zero, List.set_cons_succ]
      refine wpAnyH_ready (rs := [6]) (by kernel_rfl) (by simp) ?_
      refine AllReadyH.cons rfl (fun K hK => ?_) AllReadyH.nil
      go_simp
      refine hK.out _ _ hHeld (fun hHeld => ?_)
      clear hK K
      try simp only [Act.put, List.setIfInBounds_toArray, List.set_cons_zero, List.set_cons_succ]
      refine wpAnyH_take (i := 7) (v := _) rfl (by kernel_rfl) (by kernel_rfl) (by kernel_rfl) (fun _ _ _ h => h) (yieldsIf_load_mid (by rfl) _ _ rfl _ _ rfl (byts a) _ (fun w' h => h.1) hu rfl hi1) hHeld ?_
      try simp only [Act.put, List.setIfInBounds_toArray, List.set_cons_zero, List.set_cons_succ]
      refine wpAnyH_take (i := 8) (v := _) rfl (by kernel_rfl) (by kernel_rfl) (by kernel_rfl) (fun _ _ _ h => h) (yieldsIf_load_mid (by rfl) _ _ rfl _ _ rfl (byts b) _ (fun w' h => h.2.1) hu rfl hi2) hHeld ?_
      try simp only [Act.put, List.setIfInBounds_toArray, List.set_cons_zero, List.set_cons_succ]
      refine wpAnyH_take (i := 10) (v := _) rfl (by kernel_rfl) (by kernel_rfl) (by kernel_rfl) (fun _ _ _ h => h) (Or.inl ⟨by rfl, fun w' hw' => by go_simp; rfl⟩) hHeld ?_
      try simp only [Act.put, List.setIfInBounds_toArray, List.set_cons_zero, List.set_cons_succ]
      refine wpAnyH_ready (rs := [9]) (by kernel_rfl) (by simp) ?_
      refine AllReadyH.cons rfl (fun K hK => ?_) AllReadyH.nil
      go_simp
      go_wp2_with (first
        | (go_at_call 24; ((with_reducible refine (CC1.out _).mono ?_); rintro e w9 ⟨rfl, b9⟩)))
      refine hK.out _ _ ⟨range_below b9 hHeld.1, range_below b9 hHeld.2.1, bch hHeld.2.2 b9⟩ (fun hHeld => ?_)
      clear hK K b9
      try simp only [Act.put, List.setIfInBounds_toArray, List.set_cons_zero, List.set_cons_succ]
      refine wpAnyH_ready (rs := [11]) (by kernel_rfl) (by simp) ?_
      refine AllReadyH.cons rfl (fun K hK => ?_) AllReadyH.nil
      go_simp
      refine hK.out _ _ hHeld (fun hHeld => ?_)
      clear hK K
      try simp only [Act.put, List.setIfInBounds_toArray, List.set_cons_zero, List.set_cons_succ]
      refine wpAnyH_ready (rs := [12]) (by kernel_rfl) (by simp) ?_
      refine AllReadyH.cons rfl (fun K hK => ?_) AllReadyH.nil
      go_simp
      refine hK.out _ _ hHeld (fun hHeld => ?_)
      clear hK K
      try simp only [Act.put, List.setIfInBounds_toArray, List.set_cons_zero, List.set_cons_succ]
      refine wpAnyH_ready (rs := [13]) (by kernel_rfl) (by simp) ?_
      refine AllReadyH.cons rfl (fun K hK => ?_) AllReadyH.nil
      go_simp
      refine hK.out _ _ hHeld (fun hHeld => ?_)
      clear hK K
      try simp only [Act.put, List.setIfInBounds_toArray, List.set_cons_zero, List.set_cons_succ]
      refine wpAnyH_done (by kernel_rfl) ?_ _
      go_wp2_with fail
      go_ret
      exact ⟨rfl, hHeld.2.2⟩
end Go.Proofs.YtdhbeeeofaheeaaDoor
