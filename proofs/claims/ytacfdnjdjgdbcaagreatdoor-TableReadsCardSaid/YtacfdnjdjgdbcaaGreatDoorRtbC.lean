/- Tables: Parse, to the last number. -/
import Derived.Test.YtacfdnjdjgdbcaaGreatDoorRtbB
import Derived.BigQuiet
namespace Go.Proofs.YtacfdnjdjgdbcaaGreatDoor
set_option maxRecDepth 100000
open Go.RowKit Go.Maps Go.Sort M

/-- what Parse leaves of any bytes -/
def ParsE (s : ByteArray) (w : World) (e : Ending) (w' : World) : Prop :=
  Below w.heap.size w w' ∧ ∃ (k : Nat) (l : List Ent), SaysT s k l ∧ ((k ≠ 0 ∧ e = .returned (.tuple #[.pointer none, .int .i64 (k : Int)])) ∨ (k = 0 ∧ ∃ tb mo, e = .returned (.tuple #[.pointer (some ⟨tb, 0, none⟩), .int .i64 0]) ∧ Tab w' tb mo l.reverse ∧ Rising l))

set_option maxRecDepth 100000 in
set_option maxHeartbeats 2000000 in
theorem parseE_any (s : ByteArray) (w : World) (hs : s.size ≤ 900) (hK : KTab w) :
    Calls Tryz.prog 7 #[.string s] w (ParsE s w) := by
  obtain ⟨m, hm⟩ : ∃ m, m = s.size := ⟨_, rfl⟩
  have hsl : ∀ W, (Builtin.len_ #[9] 3 #[.string s]).run Tryz.prog W = .ok (.int .i64 (m : Int)) W := fun W => by
    rw [hm]
    simp [Builtin.len_, run_underlying Tryz.underlying9, Result.andThen]
    rfl
  by_cases h40 : m < 40
  · have d40 : decide ((m : Int) < 40) = true := decide_eq_true (by omega)
    have d40p : ((m : Int) < 40) = True := eq_true (by omega)
    have hmz : ((s.size : Nat) : Int) = (m : Int) := by rw [hm]
    clear hm
    go_enter Tryz.func7, Tryz.ntmps7
    go_wp2
    exact bodyPost_ret (v := .tuple #[.pointer none, .int .i64 2]) (by simp [results, go_sem]) rfl ⟨Below.refl _ _, 2, [], .inl ⟨by omega, rfl⟩, .inl ⟨by omega, rfl⟩⟩
  · obtain ⟨q, hq⟩ : ∃ q, q = m - 32 := ⟨_, rfl⟩
    have d40 : decide ((m : Int) < 40) = false := decide_eq_false (by omega)
    have d40p : ((m : Int) < 40) = False := eq_false (by omega)
    have hmz : ((s.size : Nat) : Int) = (m : Int) := by rw [hm]
    have qw : IntKind.i64.wrap ((m : Int) - 32) = (q : Int) := by rw [IntWalk.i64_in _ (by omega)]; omega
    have hq1 : (0 : Int) ≤ (q : Int) := by omega
    have hq2 : (q : Int) ≤ (m : Int) := by omega
    have hq3 : q ≤ m := by omega
    have hq4 : q ≤ s.size := by omega
    have HM := Box.mk hm; have HQ := Box.mk hq
    clear hm hq
    go_enter Tryz.func7, Tryz.ntmps7
    go_upto_region 3 with fail
    go_quiet (fail)
    obtain ⟨BD, hBD⟩ : ∃ BD, BD = s.extract 0 q := ⟨_, rfl⟩
    obtain ⟨SL, hSL⟩ : ∃ SL, SL = s.extract q s.size := ⟨_, rfl⟩
    rw [← hBD, ← hSL]
    have hbs : sb BD = (sb s).take q := by rw [hBD, sb_part _ _ _ hq4, List.drop_zero, Nat.sub_zero]
    have hss : sb SL = (sb s).drop q := by rw [hSL, sb_part _ _ _ (Nat.le_refl _), List.take_of_length_le (by rw [List.length_drop, sb_length]; omega)]
    have hbz : BD.size ≤ 900 := by rw [← sb_length, hbs, List.length_take, sb_length]; omega
    have hall : sb s = sb BD ++ sb SL := by rw [hbs, hss, List.take_append_drop]
    have hbw : Below w.heap.size w (w.drewN nq) := ⟨rfl, rfl, rfl, Nat.le_refl _, fun _ _ => rfl⟩
    have hKw : KTab (w.drewN nq) := ktab_below hK hbw
    generalize w.drewN nq = w2 at hbw hKw ⊢
    have c2 := shaOf_any BD (by omega) w2 hKw
    obtain ⟨D, hD⟩ : ∃ D, D = shaN (sb BD) := ⟨_, rfl⟩
    have hDl : D.length = 32 := by rw [hD]; exact shaN_length _
    have hDb : ∀ d ∈ D, d < 2 ^ 8 := by rw [hD]; exact shaN_lt _
    rw [← hD] at c2
    obtain ⟨S2, hS2⟩ : ∃ S, S = bs D := ⟨_, rfl⟩
    have hcv : ∀ W : World, (convert 26 9 (.slice (some ⟨W.heap.size, 0, none⟩) 32 32)).run Tryz.prog (W.alloc (.cells (byts D).toArray 24)) = .ok (.string S2) (W.alloc (.cells (byts D).toArray 24)) := fun W => by
      rw [hS2]
      exact conv_rangeI (cap := 32) hDl (range_new _ _ _ _ rfl)
    have ht : ∀ (W : World) (Z : Array Value), Z.size = 32 → (W.alloc (.cells Z 24)).there W.heap.size 0 32 := fun W Z hZ => by
      have := there_new W 24 Z.toList W.heap.size 0 32 rfl (by simp [hZ])
      simpa using this
    have hbl : (byts D).length = 32 := by rw [byts_length]; exact hDl
    have hb1 := byts_one D
    obtain ⟨C, hC⟩ : ∃ C, C = byts D := ⟨_, rfl⟩
    rw [← hC] at c2 hcv hbl hb1
    obtain ⟨E, hE⟩ : ∃ E, E = (S2.toList == SL.toList) := ⟨_, rfl⟩
    have hEs : E = decide (S2 = SL) := by rw [hE]; exact str_beq S2 SL
    have hEq : (S2.toList == SL.toList) = E := hE.symm
    have crd := fun W => read_any BD (by omega) W
    have cdc := fun W (rb : Nat) (h : Rd W rb BD 0 0) => decodedE_any rb BD W h (by omega)
    have cdn := fun W (rb a x : Nat) (h : Rd W rb BD a x) => done_any rb BD a x W h
    have hq5 : q = s.size - 32 := by rw [HQ.out, HM.out]
    have s40 : 40 ≤ s.size := by have := HM.out; omega
    have fin : (E = true → shaN (sb BD) = sb SL) ∧ (E = false → shaN (sb BD) ≠ sb SL) := by
      constructor
      · intro h
        rw [hEs] at h
        have e := of_decide_eq_true h
        rw [← hD, ← e, hS2, sb_bs _ hDb]
      · intro h hh
        rw [hEs] at h
        have e := of_decide_eq_false h
        exact e (by rw [hS2, hD, hh, bs_list])
    have sy4 : shaN (sb BD) ≠ sb SL → SaysT s 4 [] := fun h => .inr ⟨s40, .inl ⟨by rw [← hq5, ← hBD, ← hSL]; exact h, rfl⟩⟩
    have syo : shaN (sb BD) = sb SL → ∀ x a l, OutT BD x a l → SaysT s (if x = 0 ∧ a < BD.size then 3 else x) l := fun h x a l ho => .inr ⟨s40, .inr ⟨by rw [← hq5, ← hBD, ← hSL]; exact h, x, a, by rw [← hq5, ← hBD]; exact ho, by rw [← hq5, ← hBD]⟩⟩
    have SY4 := Box.mk sy4; have SYO := Box.mk syo
    clear sy4 syo hq5 s40
    have FI := Box.mk fin; have C2 := Box.mk c2; have HCV := Box.mk hcv; have CRD := Box.mk crd; have CDC := Box.mk cdc; have CDN := Box.mk cdn; have BW := Box.mk hbw; have HD := Box.mk hD
    clear fin c2 hcv crd cdc cdn hbw hKw hBD hSL hbs hss hall hD hDl hDb hS2 hC hE hEs hsl hq1 hq2 hq3 hq4 hmz qw d40 d40p h40 HM HQ
    cases E with
    | false =>
      go_wp2_with (first
        | (go_at_call 6; ((with_reducible refine C2.out.mono ?_); rintro e w7 ⟨rfl, b7⟩; have B7 := Box.mk b7; have hcv7 := HCV.out w7; clear b7 C2))
        | ((with_reducible refine at_store 24 (.tmp 6) (.tmp 24) ?_); refine wpList_store_mid rfl 24 (.tmp 6) (.tmp 24) rfl w7.heap.size 0 C.toArray rfl rfl (by have e : C.toArray.size = 32 := (by simp [hbl]); rw [e]; exact ht w7 _ rfl) (by have e : C.toArray.size = 32 := (by simp [hbl]); rw [e]; exact info_hash) (all_oneCell_toArray hb1) ?_; rw [show (w7.alloc _).setCells w7.heap.size 0 C.toArray.toList = w7.alloc (.cells C.toArray 24) from fillE w7 _ _ _ (by simp [hbl])]))
      exact bodyPost_ret (v := .tuple #[.pointer none, .int .i64 4]) (by simp [results, go_sem]) rfl ⟨(BW.out.trans (B7.out.mono BW.out.size)).alloc (by have := BW.out.size; have := B7.out.size; omega) _, 4, [], SY4.out (FI.out.2 (by simp)), .inl ⟨by omega, rfl⟩⟩
    | true =>
      go_upto_region 10 with (first
        | (go_at_call 6; ((with_reducible refine C2.out.mono ?_); rintro e w7 ⟨rfl, b7⟩; have B7 := Box.mk b7; have hcv7 := HCV.out w7; clear b7 C2))
        | ((with_reducible refine at_store 24 (.tmp 6) (.tmp 24) ?_); refine wpList_store_mid rfl 24 (.tmp 6) (.tmp 24) rfl w7.heap.size 0 C.toArray rfl rfl (by have e : C.toArray.size = 32 := (by simp [hbl]); rw [e]; exact ht w7 _ rfl) (by have e : C.toArray.size = 32 := (by simp [hbl]); rw [e]; exact info_hash) (all_oneCell_toArray hb1) ?_; rw [show (w7.alloc _).setCells w7.heap.size 0 C.toArray.toList = w7.alloc (.cells C.toArray 24) from fillE w7 _ _ _ (by simp [hbl])])
        | (go_at_call 21; ((with_reducible refine (CRD.out _).mono ?_); rintro e w8 ⟨rfl, r8, b8⟩; have sz7 : (w7.alloc (.cells C.toArray 24)).heap.size = w7.heap.size + 1 := (by simp); rw [sz7] at r8; have R8 := Box.mk r8; have B8 := Box.mk b8; clear r8 b8))
        | (go_at_call 22; ((with_reducible refine (CDC.out _ _ R8.out).mono ?_); rintro e w9 ⟨a9, x9, l9, r9, o9, ot9, h9⟩; have OT9 := Box.mk ot9; clear ot9; have R9 := Box.mk r9; have O9 := Box.mk o9; have ev : ∃ v, e = .returned (.pointer v) := (by rcases h9 with ⟨rfl, _⟩ | ⟨_, _, rfl, _⟩; exact ⟨_, rfl⟩; exact ⟨_, rfl⟩); obtain ⟨pv, rfl⟩ := ev; have H9 := Box.mk h9; clear r9 o9 h9))
        | (go_at_call 23; ((with_reducible refine (CDN.out _ _ _ _ R9.out).mono ?_); rintro e w10 ⟨rfl, r10, o10⟩; have O10 := Box.mk o10; clear r10 o10)))
      obtain ⟨y, hy⟩ : ∃ y, y = if x9 = 0 ∧ a9 < BD.size then 3 else x9 := ⟨_, rfl⟩
      have say : SaysT s y l9 := by rw [hy]; exact SYO.out (FI.out.1 (by simp)) _ _ _ OT9.out
      have SAY := Box.mk say
      clear say
      rw [← hy]
      have u7 := BW.out.trans (B7.out.mono BW.out.size)
      have u8 := u7.alloc u7.size (.cells C.toArray 24)
      have u9 := u8.trans (B8.out.mono u8.size)
      have h7 := u7.size
      have u10 := u9.trans (O9.out.below (B := w.heap.size) (by omega) u9.size)
      have u11 := u10.trans (O10.out.below (B := w.heap.size) (by omega) u10.size)
      have U := Box.mk u11
      by_cases hy0 : y = 0
      · have hx9 : x9 = 0 ∧ ¬ a9 < BD.size := by
          rw [hy] at hy0
          split at hy0
          · cases hy0
          · rename_i h; exact ⟨hy0, fun h2 => h ⟨hy0, h2⟩⟩
        rcases H9.out with ⟨_, hn⟩ | ⟨tb, mo, he, hT, hl⟩
        · exact absurd hx9.1 hn
        · injection he with he
          injection he with he
          have hri := hl hx9.1
          have hne : tb ≠ w7.heap.size + 1 := fun e => by
            have h1 := hT.cell
            have h2 := R9.out.c0
            rw [e, h2] at h1
            cases h1
          have hT10 := hT.keep (O10.out.block tb hT.lt hne) (fun m e => O10.out.block m (hT.mapd m e).2.lt (mapE_ne (hT.mapd m e).2 R9.out.c0))
          have TT := Box.mk hT10; have RI := Box.mk hri
          clear hy hx9 hT hl hri hne hT10 H9 u7 u8 u9 u10 u11 h7
          subst hy0
          subst he
          go_wp2
          exact bodyPost_ret (v := .tuple #[.pointer (some ⟨tb, 0, none⟩), .int .i64 0]) (by simp [results, go_sem]) rfl ⟨U.out, 0, l9, SAY.out, .inr ⟨rfl, tb, mo, rfl, TT.out, RI.out⟩⟩
      · have e1 : ((y : Int) != 0) = true := by simp; omega
        have e2 : ((y : Int) = 0) = False := eq_false (by omega)
        have e3 : (y = 0) = False := eq_false hy0
        clear hy u7 u8 u9 u10 u11 h7
        go_wp2
        exact bodyPost_ret (v := .tuple #[.pointer none, .int .i64 (y : Int)]) (by simp [results, go_sem]) rfl ⟨U.out, y, l9, SAY.out, .inl ⟨hy0, rfl⟩⟩
end Go.Proofs.YtacfdnjdjgdbcaaGreatDoor
