/- Tables: Parse at a table's bytes, and at bytes with another seal. -/
import Derived.Test.YtpinpplbjgbkaaaDoorTabW
import Derived.BigQuiet
namespace Go.Proofs.YtpinpplbjgbkaaaDoor
set_option maxRecDepth 100000
open Go.RowKit Go.Maps Go.Sort M

/-- what Parse leaves of a table's bytes -/
def ParsG (G : List Ent) (w : World) (e : Ending) (w' : World) : Prop :=
  Below w.heap.size w w' ∧ ∃ tb mo, e = .returned (.tuple #[.pointer (some ⟨tb, 0, none⟩), .int .i64 0]) ∧ Tab w' tb mo G.reverse

set_option maxRecDepth 100000 in
set_option maxHeartbeats 2000000 in
theorem parseG_any (s : ByteArray) (w : World) (hs : s.size ≤ 20000) (hK : KTab w) (G : List Ent) (hB : sb s = bytT G) (hG1 : Rising G) (hG2 : ∀ x ∈ G, x.text.size ≤ 300) (hG3 : G.length ≤ 100) :
    Calls Tryd.prog 8 #[.string s] w (ParsG G w) := by
  obtain ⟨m, hm⟩ : ∃ m, m = s.size := ⟨_, rfl⟩
  have hsl : ∀ W, (Builtin.len_ #[9] 3 #[.string s]).run Tryd.prog W = .ok (.int .i64 (m : Int)) W := fun W => by
    rw [hm]
    simp [Builtin.len_, run_underlying Tryd.underlying9, Result.andThen]
    rfl
  have h40 : ¬ m < 40 := by
    have h := congrArg List.length hB
    rw [sb_length] at h
    unfold bytT encT preL at h
    rw [List.length_append, List.length_append, List.length_append, shaN_length] at h
    have : magL.length = 8 := rfl
    omega
  · obtain ⟨q, hq⟩ : ∃ q, q = m - 32 := ⟨_, rfl⟩
    have d40 : decide ((m : Int) < 40) = false := decide_eq_false (by omega)
    have d40p : ((m : Int) < 40) = False := eq_false (by omega)
    have hmz : ((s.size : Nat) : Int) = (m : Int) := by rw [hm]
    have qw : IntKind.i64.wrap ((m : Int) - 32) = (q : Int) := by rw [IntWalk.i64_in _ (by omega)]; omega
    have hq1 : (0 : Int) ≤ (q : Int) := by omega
    have hq2 : (q : Int) ≤ (m : Int) := by omega
    have hq3 : q ≤ m := by omega
    have hq4 : q ≤ s.size := by omega
    have HM := Box.mk hm; have HQ := Box.mk hq
    clear hm hq
    go_enter Tryd.func8, Tryd.ntmps8
    go_upto_region 3 with fail
    go_quiet (fail)
    obtain ⟨BD, hBD⟩ : ∃ BD, BD = s.extract 0 q := ⟨_, rfl⟩
    obtain ⟨SL, hSL⟩ : ∃ SL, SL = s.extract q s.size := ⟨_, rfl⟩
    rw [← hBD, ← hSL]
    have hbs : sb BD = (sb s).take q := by rw [hBD, sb_part _ _ _ hq4, List.drop_zero, Nat.sub_zero]
    have hss : sb SL = (sb s).drop q := by rw [hSL, sb_part _ _ _ (Nat.le_refl _), List.take_of_length_le (by rw [List.length_drop, sb_length]; omega)]
    have hbz : BD.size ≤ 20000 := by rw [← sb_length, hbs, List.length_take, sb_length]; omega
    have hall : sb s = sb BD ++ sb SL := by rw [hbs, hss, List.take_append_drop]
    have hbw : Below w.heap.size w (w.drewN nq) := ⟨rfl, rfl, rfl, Nat.le_refl _, fun _ _ => rfl⟩
    have hKw : KTab (w.drewN nq) := ktab_below hK hbw
    generalize w.drewN nq = w2 at hbw hKw ⊢
    have hq5 : q = (encT G).length := by
      have h := congrArg List.length hB
      rw [sb_length] at h
      unfold bytT at h
      rw [List.length_append, shaN_length] at h
      have a := HM.out; have b := HQ.out
      omega
    have hbe : sb BD = encT G := by rw [hbs, hB, hq5]; unfold bytT; rw [List.take_left]
    have hse : sb SL = shaN (encT G) := by rw [hss, hB, hq5]; unfold bytT; rw [List.drop_left]
    have hgood : Good BD G := ⟨hbe, hG1, hG2, hG3⟩
    have c2 := shaOf_any BD (by omega) w2 hKw
    obtain ⟨D, hD⟩ : ∃ D, D = shaN (sb BD) := ⟨_, rfl⟩
    have hDl : D.length = 32 := by rw [hD]; exact shaN_length _
    have hDb : ∀ d ∈ D, d < 2 ^ 8 := by rw [hD]; exact shaN_lt _
    rw [← hD] at c2
    obtain ⟨S2, hS2⟩ : ∃ S, S = bs D := ⟨_, rfl⟩
    have hcv : ∀ W : World, (convert 26 9 (.slice (some ⟨W.heap.size, 0, none⟩) 32 32)).run Tryd.prog (W.alloc (.cells (byts D).toArray 24)) = .ok (.string S2) (W.alloc (.cells (byts D).toArray 24)) := fun W => by
      rw [hS2]
      exact conv_rangeI (cap := 32) hDl (range_new _ _ _ _ rfl)
    have ht : ∀ (W : World) (Z : Array Value), Z.size = 32 → (W.alloc (.cells Z 24)).there W.heap.size 0 32 := fun W Z hZ => by
      have := there_new W 24 Z.toList W.heap.size 0 32 rfl (by simp [hZ])
      simpa using this
    have hbl : (byts D).length = 32 := by rw [byts_length]; exact hDl
    have hb1 := byts_one D
    obtain ⟨C, hC⟩ : ∃ C, C = byts D := ⟨_, rfl⟩
    rw [← hC] at c2 hcv hbl hb1
    obtain ⟨E, hE⟩ : ∃ E, E = (S2.toList == SL.toList) := ⟨_, rfl⟩
    have hEs : E = decide (S2 = SL) := by rw [hE]; exact str_beq S2 SL
    have hEq : (S2.toList == SL.toList) = E := hE.symm
    have crd := fun W => read_any BD (by omega) W
    have cdc := fun W (rb : Nat) (h : Rd W rb BD 0 0) => decodedG_any rb BD W h (by omega) G hgood
    have cdn := fun W (rb a x : Nat) (h : Rd W rb BD a x) => done_any rb BD a x W h
    have het : E = true := by
      rw [hEs]
      refine decide_eq_true ?_
      rw [hS2, hD, hbe, ← hse, bs_list]
    have C2 := Box.mk c2; have HCV := Box.mk hcv; have CRD := Box.mk crd; have CDC := Box.mk cdc; have CDN := Box.mk cdn; have BW := Box.mk hbw; have HD := Box.mk hD
    subst het
    clear hB hG1 hG2 hG3 hbe hse hq5 hgood
    clear c2 hcv crd cdc cdn hbw hKw hBD hSL hbs hss hall hD hDl hDb hS2 hC hE hEs hsl hq1 hq2 hq3 hq4 hmz qw d40 d40p h40 HM HQ
    go_upto_region 10 with (first
      | (go_at_call 7; ((with_reducible refine C2.out.mono ?_); rintro e w7 ⟨rfl, b7⟩; have B7 := Box.mk b7; have hcv7 := HCV.out w7; clear b7 C2))
      | ((with_reducible refine at_store 24 (.tmp 6) (.tmp 24) ?_); refine wpList_store_mid rfl 24 (.tmp 6) (.tmp 24) rfl w7.heap.size 0 C.toArray rfl rfl (by have e : C.toArray.size = 32 := (by simp [hbl]); rw [e]; exact ht w7 _ rfl) (by have e : C.toArray.size = 32 := (by simp [hbl]); rw [e]; exact info_hash) (all_oneCell_toArray hb1) ?_; rw [show (w7.alloc _).setCells w7.heap.size 0 C.toArray.toList = w7.alloc (.cells C.toArray 24) from fillE w7 _ _ _ (by simp [hbl])])
      | (go_at_call 17; ((with_reducible refine (CRD.out _).mono ?_); rintro e w8 ⟨rfl, r8, b8⟩; have sz7 : (w7.alloc (.cells C.toArray 24)).heap.size = w7.heap.size + 1 := (by simp); rw [sz7] at r8; have R8 := Box.mk r8; have B8 := Box.mk b8; clear r8 b8))
      | (go_at_call 18; ((with_reducible refine (CDC.out _ _ R8.out).mono ?_); rintro e w9 ⟨tb, mo, rfl, t9, r9, o9⟩; have R9 := Box.mk r9; have O9 := Box.mk o9; have T9 := Box.mk t9; clear r9 o9 t9))
      | (go_at_call 19; ((with_reducible refine (CDN.out _ _ _ _ R9.out).mono ?_); rintro e w10 ⟨rfl, r10, o10⟩; have O10 := Box.mk o10; clear r10 o10)))
    have u7 := BW.out.trans (B7.out.mono BW.out.size)
    have u8 := u7.alloc u7.size (.cells C.toArray 24)
    have u9 := u8.trans (B8.out.mono u8.size)
    have h7 := u7.size
    have u10 := u9.trans (O9.out.below (B := w.heap.size) (by omega) u9.size)
    have u11 := u10.trans (O10.out.below (B := w.heap.size) (by omega) u10.size)
    have U := Box.mk u11
    have hT := T9.out
    have hne : tb ≠ w7.heap.size + 1 := fun e => by
      have h1 := hT.cell
      have h2 := R9.out.c0
      rw [e, h2] at h1
      cases h1
    have hT10 := hT.keep (O10.out.block tb hT.lt hne) (fun m e => O10.out.block m (hT.mapd m e).2.lt (mapE_ne (hT.mapd m e).2 R9.out.c0))
    have TT := Box.mk hT10
    clear hT hne hT10 u7 u8 u9 u10 u11 h7
    go_wp2
    exact bodyPost_ret (v := .tuple #[.pointer (some ⟨tb, 0, none⟩), .int .i64 0]) (by simp [results, go_sem]) rfl ⟨U.out, tb, mo, rfl, TT.out⟩

set_option maxRecDepth 100000 in
set_option maxHeartbeats 2000000 in
theorem parseB_any (s : ByteArray) (w : World) (hs : s.size ≤ 20000) (hK : KTab w) (h4 : 40 ≤ s.size) (hB : (sb s).drop (s.size - 32) ≠ shaN ((sb s).take (s.size - 32))) :
    Calls Tryd.prog 8 #[.string s] w (fun e w' => e = .returned (.tuple #[.pointer none, .int .i64 4]) ∧ Below w.heap.size w w') := by
  obtain ⟨m, hm⟩ : ∃ m, m = s.size := ⟨_, rfl⟩
  have hsl : ∀ W, (Builtin.len_ #[9] 3 #[.string s]).run Tryd.prog W = .ok (.int .i64 (m : Int)) W := fun W => by
    rw [hm]
    simp [Builtin.len_, run_underlying Tryd.underlying9, Result.andThen]
    rfl
  have h40 : ¬ m < 40 := by omega
  · obtain ⟨q, hq⟩ : ∃ q, q = m - 32 := ⟨_, rfl⟩
    have d40 : decide ((m : Int) < 40) = false := decide_eq_false (by omega)
    have d40p : ((m : Int) < 40) = False := eq_false (by omega)
    have hmz : ((s.size : Nat) : Int) = (m : Int) := by rw [hm]
    have qw : IntKind.i64.wrap ((m : Int) - 32) = (q : Int) := by rw [IntWalk.i64_in _ (by omega)]; omega
    have hq1 : (0 : Int) ≤ (q : Int) := by omega
    have hq2 : (q : Int) ≤ (m : Int) := by omega
    have hq3 : q ≤ m := by omega
    have hq4 : q ≤ s.size := by omega
    have HM := Box.mk hm; have HQ := Box.mk hq
    clear hm hq
    go_enter Tryd.func8, Tryd.ntmps8
    go_upto_region 3 with fail
    go_quiet (fail)
    obtain ⟨BD, hBD⟩ : ∃ BD, BD = s.extract 0 q := ⟨_, rfl⟩
    obtain ⟨SL, hSL⟩ : ∃ SL, SL = s.extract q s.size := ⟨_, rfl⟩
    rw [← hBD, ← hSL]
    have hbs : sb BD = (sb s).take q := by rw [hBD, sb_part _ _ _ hq4, List.drop_zero, Nat.sub_zero]
    have hss : sb SL = (sb s).drop q := by rw [hSL, sb_part _ _ _ (Nat.le_refl _), List.take_of_length_le (by rw [List.length_drop, sb_length]; omega)]
    have hbz : BD.size ≤ 20000 := by rw [← sb_length, hbs, List.length_take, sb_length]; omega
    have hall : sb s = sb BD ++ sb SL := by rw [hbs, hss, List.take_append_drop]
    have hbw : Below w.heap.size w (w.drewN nq) := ⟨rfl, rfl, rfl, Nat.le_refl _, fun _ _ => rfl⟩
    have hKw : KTab (w.drewN nq) := ktab_below hK hbw
    generalize w.drewN nq = w2 at hbw hKw ⊢
    have c2 := shaOf_any BD (by omega) w2 hKw
    obtain ⟨D, hD⟩ : ∃ D, D = shaN (sb BD) := ⟨_, rfl⟩
    have hDl : D.length = 32 := by rw [hD]; exact shaN_length _
    have hDb : ∀ d ∈ D, d < 2 ^ 8 := by rw [hD]; exact shaN_lt _
    rw [← hD] at c2
    obtain ⟨S2, hS2⟩ : ∃ S, S = bs D := ⟨_, rfl⟩
    have hcv : ∀ W : World, (convert 26 9 (.slice (some ⟨W.heap.size, 0, none⟩) 32 32)).run Tryd.prog (W.alloc (.cells (byts D).toArray 24)) = .ok (.string S2) (W.alloc (.cells (byts D).toArray 24)) := fun W => by
      rw [hS2]
      exact conv_rangeI (cap := 32) hDl (range_new _ _ _ _ rfl)
    have ht : ∀ (W : World) (Z : Array Value), Z.size = 32 → (W.alloc (.cells Z 24)).there W.heap.size 0 32 := fun W Z hZ => by
      have := there_new W 24 Z.toList W.heap.size 0 32 rfl (by simp [hZ])
      simpa using this
    have hbl : (byts D).length = 32 := by rw [byts_length]; exact hDl
    have hb1 := byts_one D
    obtain ⟨C, hC⟩ : ∃ C, C = byts D := ⟨_, rfl⟩
    rw [← hC] at c2 hcv hbl hb1
    obtain ⟨E, hE⟩ : ∃ E, E = (S2.toList == SL.toList) := ⟨_, rfl⟩
    have hEs : E = decide (S2 = SL) := by rw [hE]; exact str_beq S2 SL
    have hEq : (S2.toList == SL.toList) = E := hE.symm
    have hef : E = false := by
      rw [hEs]
      refine decide_eq_false fun e => hB ?_
      have hqs : s.size - 32 = q := by have a := HM.out; have b := HQ.out; omega
      rw [hqs, ← hbs, ← hss, ← e, hS2, sb_bs _ hDb, hD]
    subst hef
    clear hB
    have C2 := Box.mk c2; have HCV := Box.mk hcv; have BW := Box.mk hbw; have HD := Box.mk hD
    clear c2 hcv hbw hKw hBD hSL hbs hss hall hD hDl hDb hS2 hC hE hEs hsl hq1 hq2 hq3 hq4 hmz qw d40 d40p h40 HM HQ
    go_wp2_with (first
      | (go_at_call 7; ((with_reducible refine C2.out.mono ?_); rintro e w7 ⟨rfl, b7⟩; have B7 := Box.mk b7; have hcv7 := HCV.out w7; clear b7 C2))
      | ((with_reducible refine at_store 24 (.tmp 6) (.tmp 24) ?_); refine wpList_store_mid rfl 24 (.tmp 6) (.tmp 24) rfl w7.heap.size 0 C.toArray rfl rfl (by have e : C.toArray.size = 32 := (by simp [hbl]); rw [e]; exact ht w7 _ rfl) (by have e : C.toArray.size = 32 := (by simp [hbl]); rw [e]; exact info_hash) (all_oneCell_toArray hb1) ?_; rw [show (w7.alloc _).setCells w7.heap.size 0 C.toArray.toList = w7.alloc (.cells C.toArray 24) from fillE w7 _ _ _ (by simp [hbl])]))
    exact bodyPost_ret (v := .tuple #[.pointer none, .int .i64 4]) (by simp [results, go_sem]) rfl ⟨rfl, (BW.out.trans (B7.out.mono BW.out.size)).alloc (by have := BW.out.size; have := B7.out.size; omega) _⟩
end Go.Proofs.YtpinpplbjgbkaaaDoor
