/- OutcomeGood: the law's walk. -/
import Derived.Test.YtnlcmdgjoikljaaDoorOutI
import Derived.Deep.CutBlock
import Derived.Deep.DeepCutAuto
namespace Go.Proofs.YtnlcmdgjoikljaaDoor
set_option maxRecDepth 100000
open Go.RowKit

theorem flatTake41 : ∀ (l : List StM) (k : Nat), (l.take k).flatMap stC = (l.flatMap stC).take (k * 41)
  | [], k => by simp
  | x :: l, 0 => by simp
  | x :: l, k + 1 => by
    have h1 : (stC x).take ((k + 1) * 41) = stC x := List.take_of_length_le (by rw [stC_len (stOk x)]; omega)
    rw [List.take_succ_cons, List.flatMap_cons, List.flatMap_cons, List.take_append, h1, stC_len (stOk x), flatTake41 l k, show (k + 1) * 41 - 41 = k * 41 by omega]
theorem slTake {w : World} {p : Option Addr} {c : Nat} {X : List StM} (h : SlIn w (.slice p X.length c) 41 X.length (X.flatMap stC)) (hk : 10 < X.length) : SlIn w (.slice p 10 c) 41 (X.take 10).length ((X.take 10).flatMap stC) := by
  have hl : (X.take 10).length = 10 := by rw [List.length_take]; omega
  rw [flatTake41, hl]
  refine ⟨by rw [List.length_take, h.1]; omega, .inr ?_⟩
  obtain ⟨b, off, c', hv, hb, hc⟩ := h.at (by omega)
  obtain ⟨rfl, _, rfl⟩ := Value.slice.inj hv
  exact ⟨b, off, _, rfl, hb, fun i u hu => hc i u (by
    have hi : i < 10 * 41 := by
      have := (List.getElem?_eq_some_iff.1 hu).1
      rw [List.length_take] at this; omega
    rwa [List.getElem?_take_of_lt hi] at hu)⟩

set_option maxHeartbeats 6400000 in
theorem outcomeGood_walk (v : Value) (X : List StM) (n : Int) (hl : X.length ≤ maxLen) (hcap : ∀ p m c, v = .slice p m c → m ≤ c) (w : World) (h : SlIn w v 41 X.length (X.flatMap stC)) (hn1 : -9223372036854775808 ≤ n) (hn2 : n ≤ 9223372036854775807)
    (haw : ∀ W, Below w.heap.size w W → Calls Tryd.prog 6 #[] W fun e w' => e = .returned (.bool true) ∧ Below W.heap.size W w') :
    Calls Tryd.prog 4 #[v, .int .i64 n] w fun e w' => e = .returned (.bool true) ∧ Below w.heap.size w w' := by
  unfold maxLen at hl
  obtain ⟨p, c, rfl⟩ := h.slice
  have hcc := hcap _ _ _ rfl
  have H := Bx.mk h; have HAW := Bx.mk haw
  clear h haw hcap
  have hu := Tryd.underlying44
  go_enter Tryd.func4, Tryd.ntmps4
  go_upto_if 11 with fail
  go_cut [0] (fun s0 wx => ∃ p m c, s0 = .slice p m c ∧ m = (X.take 10).length ∧ Bx (SlIn w (.slice p m c) 41 (X.take 10).length ((X.take 10).flatMap stC)) ∧ wx = w)
  case first =>
    by_cases h10 : 10 < X.length
    · have h10i : (10 : Int) < (X.length : Int) := by omega
      have hc10 : (10 : Int) ≤ (c : Int) := by omega
      have hr := slTake H.out h10
      have HR := Bx.mk hr
      have hm : 10 = (X.take 10).length := by rw [List.length_take]; omega
      have HM := Bx.mk hm
      clear hr hm h10
      go_wp2_with fail
      go_meet
      exact ⟨_, _, _, rfl, HM.out, HR, rfl⟩
    · have h10i : ¬ (10 : Int) < (X.length : Int) := by omega
      have hm : X.take 10 = X := List.take_of_length_le (by omega)
      have HM := Bx.mk hm
      clear hm h10
      go_wp2_with fail
      go_meet
      exact ⟨_, _, _, rfl, by rw [HM.out], ⟨by rw [HM.out]; exact H.out⟩, rfl⟩
  case rest =>
  obtain ⟨p, m, c, rfl, hmm, HY, hw⟩ := hcut
  have hw := hw.symm
  subst hw
  have hY10 : (X.take 10).length ≤ 10 := by rw [List.length_take]; omega
  generalize X.take 10 = Y at *
  subst hmm
  clear H hcc
  go_wp2_with fail
  go_loopw [5, 16] (fun v i wr => ∃ k : Nat, i = .int .i64 (k : Int) ∧ k ≤ Y.length ∧ v = .bool (wantM n none (Y.take k)) ∧ Bx (Below w.heap.size w wr)) (fun _ i _ => Y.length - (intOf i).toNat)
  case atStart => exact ⟨0, rfl, by omega, rfl, ⟨Below.refl _ _⟩⟩
  case round =>
    obtain ⟨k, rfl, hk, rfl, hb⟩ := hrel
    by_cases hlt : k < Y.length
    · obtain ⟨bb, off, c', hv, hbl, hcl⟩ := HY.out.at (by omega)
      obtain ⟨rfl, _, rfl⟩ := Value.slice.inj hv
      obtain ⟨x, hx⟩ : ∃ x, Y[k]? = some x := ⟨_, List.getElem?_eq_getElem hlt⟩
      have hcw : ∀ i u, (Y.flatMap stC)[i]? = some u → wr.cell? ⟨bb, off + i, none⟩ = some u := fun i u hu => (hb.out.cell hbl).trans (hcl i u hu)
      have R1 := Bx.mk (rangeSl hcw hx)
      have E := Bx.mk (want_take n Y k x hx)
      have I1 := Bx.mk (info_sz x); have I2 := Bx.mk (info_sa x); have O1 := Bx.mk (all_oneCell_toArray (stC_one x))
      have AS : Bx ((wr.alloc (.cells #[.int .i64 0, .int .u64 0, .int .u64 0, .int .u64 0, .int .u64 0, .int .u64 0, .int .u64 0, .int .u64 0, .int .u64 0, .int .u64 0, .int .u64 0, .int .u64 0, .int .u64 0, .int .u64 0, .int .u64 0, .int .u64 0, .int .u64 0, .int .u64 0, .int .u64 0, .int .u64 0, .int .u64 0, .int .u64 0, .int .u64 0, .int .u64 0, .int .u64 0, .int .u64 0, .int .u64 0, .int .u64 0, .int .u64 0, .int .u64 0, .int .u64 0, .int .u64 0, .int .u64 0, .int .u64 0, .int .u64 0, .int .u64 0, .int .u64 0, .int .u64 0, .int .u64 0, .int .u64 0, .int .u64 0] 44)).setCells wr.heap.size 0 (stA x).toList = wr.alloc (.cells (stA x) 44)) := ⟨by
        have := allocSet wr 44 #[.int .i64 0, .int .u64 0, .int .u64 0, .int .u64 0, .int .u64 0, .int .u64 0, .int .u64 0, .int .u64 0, .int .u64 0, .int .u64 0, .int .u64 0, .int .u64 0, .int .u64 0, .int .u64 0, .int .u64 0, .int .u64 0, .int .u64 0, .int .u64 0, .int .u64 0, .int .u64 0, .int .u64 0, .int .u64 0, .int .u64 0, .int .u64 0, .int .u64 0, .int .u64 0, .int .u64 0, .int .u64 0, .int .u64 0, .int .u64 0, .int .u64 0, .int .u64 0, .int .u64 0, .int .u64 0, .int .u64 0, .int .u64 0, .int .u64 0, .int .u64 0, .int .u64 0, .int .u64 0, .int .u64 0] (stC x) (by rw [stC_len (stOk x)]; rfl)
        simpa using this⟩
      have TH : Bx ((wr.alloc (.cells #[.int .i64 0, .int .u64 0, .int .u64 0, .int .u64 0, .int .u64 0, .int .u64 0, .int .u64 0, .int .u64 0, .int .u64 0, .int .u64 0, .int .u64 0, .int .u64 0, .int .u64 0, .int .u64 0, .int .u64 0, .int .u64 0, .int .u64 0, .int .u64 0, .int .u64 0, .int .u64 0, .int .u64 0, .int .u64 0, .int .u64 0, .int .u64 0, .int .u64 0, .int .u64 0, .int .u64 0, .int .u64 0, .int .u64 0, .int .u64 0, .int .u64 0, .int .u64 0, .int .u64 0, .int .u64 0, .int .u64 0, .int .u64 0, .int .u64 0, .int .u64 0, .int .u64 0, .int .u64 0, .int .u64 0] 44)).there wr.heap.size 0 (stA x).size) := ⟨by
        have := thereNew wr #[.int .i64 0, .int .u64 0, .int .u64 0, .int .u64 0, .int .u64 0, .int .u64 0, .int .u64 0, .int .u64 0, .int .u64 0, .int .u64 0, .int .u64 0, .int .u64 0, .int .u64 0, .int .u64 0, .int .u64 0, .int .u64 0, .int .u64 0, .int .u64 0, .int .u64 0, .int .u64 0, .int .u64 0, .int .u64 0, .int .u64 0, .int .u64 0, .int .u64 0, .int .u64 0, .int .u64 0, .int .u64 0, .int .u64 0, .int .u64 0, .int .u64 0, .int .u64 0, .int .u64 0, .int .u64 0, .int .u64 0, .int .u64 0, .int .u64 0, .int .u64 0, .int .u64 0, .int .u64 0, .int .u64 0] 44
        have e2 : (stA x).size = 41 := by simp [stC_len (stOk x)]
        rw [e2]; exact this⟩
      obtain ⟨q0, qv⟩ := stA_at (heap_alloc_new wr (.cells (stA x) 44))
      have R2 := Bx.mk (rangeNew wr x 44)
      have QV := Bx.mk qv; have HCW := Bx.mk hcw; have HX := Bx.mk hx
      generalize wantM n none (Y.take k) = B at *
      have HZ : Bx (Below wr.heap.size wr (wr.alloc (.cells (stA x) 44))) := ⟨aset _ _⟩
      have HBZ : Bx (Below w.heap.size w (wr.alloc (.cells (stA x) 44))) := ⟨hb.out.alloc hb.out.size _⟩
      clear hv hcw hcl qv hx
      go_upto_region 7 with (first
        | ((with_reducible refine at_load 44 (.tmp 19) ?_); refine wpList_load_mid rfl 44 (.tmp 19) (by rfl) bb (off + k * 41) (by rfl) (stC x) _ R1.out hu rfl I1.out ?_)
        | ((with_reducible refine at_store 44 (.tmp 7) (.tmp 20) ?_); refine wpList_store_mid rfl 44 (.tmp 7) (.tmp 20) (by rfl) wr.heap.size 0 (stA x) (by rfl) (by rfl) TH.out I2.out O1.out ?_; rw [AS.out]))
      generalize wr.alloc (.cells (stA x) 44) = wz at *
      simp only [Act.put]
      obtain ⟨B2, hB2⟩ : ∃ B2, B2 = (B && (decide (x.n = n) && decide (0 ≤ n) && decide (n ≤ 40))) := ⟨_, rfl⟩
      have HB2 := Bx.mk hB2
      clear hB2
      go_cut [5] (fun s5 wx => s5 = .bool B2 ∧ wx = wz)
      case first =>
        cases B
        · go_wp2_with fail
          go_meet
          exact ⟨by rw [HB2.out]; rfl, rfl⟩
        · by_cases hn : x.n = n
          · have HN := Bx.mk hn
            by_cases h0 : 0 ≤ n
            · by_cases h1 : n ≤ 40
              · have HD : Bx (B2 = true) := ⟨by rw [HB2.out, decide_eq_true hn, decide_eq_true h0, decide_eq_true h1]; rfl⟩
                have hq : (x.n == n) = true := by rw [hn]; simp
                clear hn HN
                go_wp2_with fail
                go_meet
                exact ⟨by rw [HD.out], rfl⟩
              · have HD : Bx (B2 = false) := ⟨by rw [HB2.out, decide_eq_true hn, decide_eq_true h0, decide_eq_false h1]; rfl⟩
                have hq : (x.n == n) = true := by rw [hn]; simp
                clear hn HN
                go_wp2_with fail
                go_meet
                exact ⟨by rw [HD.out], rfl⟩
            · have HD : Bx (B2 = false) := ⟨by rw [HB2.out, decide_eq_true hn, decide_eq_false h0]; rfl⟩
              have hq : (x.n == n) = true := by rw [hn]; simp
              clear hn HN
              go_wp2_with fail
              go_meet
              exact ⟨by rw [HD.out], rfl⟩
          · have HD : Bx (B2 = false) := ⟨by rw [HB2.out, decide_eq_false hn]; rfl⟩
            have hq : (x.n == n) = false := by simpa using hn
            clear hn
            go_wp2_with fail
            go_meet
            exact ⟨by rw [HD.out], rfl⟩
      case rest =>
      obtain ⟨rfl, hw⟩ := hcut
      have hw := hw.symm
      subst hw
      obtain ⟨P, hP⟩ : ∃ P, P = (match prevM Y k with | none => true | some p => decide (cmpSt p x < 0)) := ⟨_, rfl⟩
      obtain ⟨B3, hB3⟩ : ∃ B3, B3 = (B2 && P) := ⟨_, rfl⟩
      have HP := Bx.mk hP; have HB3 := Bx.mk hB3
      clear hP hB3
      go_upto_if 37 with fail
      go_cut [5] (fun s5 wx => s5 = .bool B3 ∧ Bx (Below w.heap.size w wx) ∧ Bx (∀ i y, x.v[i]? = some y → wx.cell? ⟨wr.heap.size, 1 + i, none⟩ = some (.int .u64 y)))
      case first =>
        by_cases hk0 : k = 0
        · subst hk0
          have HD : Bx (B3 = B2) := ⟨by rw [HB3.out, HP.out]; cases B2 <;> rfl⟩
          go_wp2_with fail
          go_meet
          exact ⟨by rw [HD.out], HBZ, QV⟩
        · obtain ⟨j, rfl⟩ : ∃ j, k = j + 1 := ⟨k - 1, by omega⟩
          obtain ⟨y, hy⟩ : ∃ y, Y[j]? = some y := ⟨_, List.getElem?_eq_getElem (by omega)⟩
          have hk1 : (0 : Int) < ((j + 1 : Nat) : Int) := by omega
          cases B2
          · have HD : Bx (B3 = false) := ⟨by rw [HB3.out]; rfl⟩
            clear hy
            go_wp2_with fail
            go_quiet (fail)
            go_wp2_with fail
            go_meet
            exact ⟨by rw [HD.out], ⟨belDr HBZ.out _⟩, ⟨fun i y hy => by simpa using QV.out i y hy⟩⟩
          · have RY : Bx (wz.rangeAt bb (off + j * 41) (stC y)) := ⟨rangeBel (rangeSl HCW.out hy) HZ.out⟩
            have cc := fun W => compareSt_any y x (stOk y) (stOk x) W
            have I3 := Bx.mk (info_sz y)
            obtain ⟨r, hr⟩ : ∃ r, r = cmpSt y x := ⟨_, rfl⟩
            have HD : Bx (B3 = decide (r < 0)) := ⟨by
              rw [HB3.out, HP.out]
              show (true && (match Y[j]? with | none => true | some p => decide (cmpSt p x < 0))) = _
              rw [hy, hr]; rfl⟩
            rw [← hr] at cc
            have CC := Bx.mk cc
            clear cc hr hy
            have hj2 : (0 : Int) ≤ (j : Int) := by omega
            have hj3 : (j : Int) < (Y.length : Int) := by omega
            have hj4 : IntKind.i64.wrap (j : Int) = (j : Int) := IntWalk.i64_in _ (by omega)
            have hj5 : IntKind.i64.wrap ((j : Int) + 1 - 1) = (j : Int) := by rw [IntWalk.i64_in _ (by omega)]; omega
            have i1 := I1.out
            have i3 := I3.out
            go_wp2_with fail
            refine wp_region_held_drew (S := fun w' => w'.rangeAt bb (off + j * 41) (stC y) ∧ w'.rangeAt wr.heap.size 0 (stC x) ∧ Below w.heap.size w w') (by kernel_rfl) ⟨(World.rangeAt_drew _ _ _ _).2 RY.out, (World.rangeAt_drew _ _ _ _).2 R2.out, HBZ.out.drew⟩ (fun hHeld => ?_)
            generalize wz.drew = wd at *
            refine wpAnyH_take (i := 0) (v := .bool true) rfl (by kernel_rfl) (by kernel_rfl) (by kernel_rfl) (fun _ _ _ h => h) (Or.inl ⟨by rfl, fun w' _ => by go_simp; try rfl⟩) hHeld ?_
            refine wpAnyH_take (i := 1) (v := .bool true) rfl (by kernel_rfl) (by kernel_rfl) (by kernel_rfl) (fun _ _ _ h => h) (Or.inl ⟨by rfl, fun w' _ => by go_simp; try rfl⟩) hHeld ?_
            refine wpAnyH_take (i := 2) (v := .slice (some ⟨bb, off, none⟩) Y.length c) rfl (by kernel_rfl) (by kernel_rfl) (by kernel_rfl) (fun _ _ _ h => h) (Or.inl ⟨by rfl, fun w' _ => by go_simp; try rfl⟩) hHeld ?_
            refine wpAnyH_take (i := 3) (v := .int .i64 ((j : Int) + 1)) rfl (by kernel_rfl) (by kernel_rfl) (by kernel_rfl) (fun _ _ _ h => h) (Or.inl ⟨by rfl, fun w' _ => by go_simp; try rfl⟩) hHeld ?_
            refine wpAnyH_take (i := 4) (v := .int .i64 (j : Int)) rfl (by kernel_rfl) (by kernel_rfl) (by kernel_rfl) (fun _ _ _ h => h) (Or.inl ⟨by rfl, fun w' _ => by go_simp; try rfl⟩) hHeld ?_
            refine wpAnyH_take (i := 5) (v := .pointer (some ⟨bb, off + j * 41, none⟩)) rfl (by kernel_rfl) (by kernel_rfl) (by kernel_rfl) (fun _ _ _ h => h) (Or.inl ⟨by rfl, fun w' _ => by go_simp; try rfl⟩) hHeld ?_
            simp only [Act.put, List.getElem_toArray, List.getElem_cons_succ, List.getElem_cons_zero, List.setIfInBounds_toArray, List.set_cons_zero, List.set_cons_succ]
            refine wpAnyH_take (i := 6) (v := _) rfl (by kernel_rfl) (by kernel_rfl) (by kernel_rfl) (fun _ _ _ h => h) (yieldsIf_load_mid (by rfl) _ _ rfl _ _ rfl (stC y) _ (fun w' h => h.1) hu rfl i3) hHeld ?_
            simp only [Act.put, List.getElem_toArray, List.getElem_cons_succ, List.getElem_cons_zero, List.setIfInBounds_toArray, List.set_cons_zero, List.set_cons_succ]
            refine wpAnyH_take (i := 7) (v := _) rfl (by kernel_rfl) (by kernel_rfl) (by kernel_rfl) (fun _ _ _ h => h) (yieldsIf_load_mid (by rfl) _ _ rfl _ _ rfl (stC x) _ (fun w' h => h.2.1) hu rfl i1) hHeld ?_
            refine wpAnyH_ready (rs := [8]) (by kernel_rfl) (by simp) ?_
            refine AllReadyH.cons rfl (fun K hK => ?_) AllReadyH.nil
            go_simp
            go_at_call 17; ((with_reducible refine (CC.out _).mono ?_); rintro e w3 ⟨rfl, hb3⟩)
            refine hK.out _ _ ⟨rangeBel hHeld.1 hb3, rangeBel hHeld.2.1 hb3, bel hHeld.2.2 hb3⟩ (fun hHeld => ?_)
            clear hK K hb3
            refine wpAnyH_take (i := 9) (v := .bool (decide (r < 0))) rfl (by kernel_rfl) (by kernel_rfl) (by kernel_rfl) (fun _ _ _ h => h) (Or.inl ⟨by rfl, fun w' _ => by go_simp; try rfl⟩) hHeld ?_
            refine wpAnyH_take (i := 10) (v := .bool (decide (r < 0))) rfl (by kernel_rfl) (by kernel_rfl) (by kernel_rfl) (fun _ _ _ h => h) (Or.inl ⟨by rfl, fun w' _ => by go_simp; try rfl⟩) hHeld ?_
            refine wpAnyH_take (i := 11) (v := .bool (decide (r < 0))) rfl (by kernel_rfl) (by kernel_rfl) (by kernel_rfl) (fun _ _ _ h => h) (Or.inl ⟨by rfl, fun w' _ => by go_simp; try rfl⟩) hHeld ?_
            refine wpAnyH_done (by kernel_rfl) ?_ _
            have HB := Bx.mk hHeld.2.2
            have R4 := Bx.mk hHeld.2.1
            clear hHeld
            go_wp2_with fail
            go_meet
            exact ⟨by rw [HD.out], HB, ⟨fun i z hz => by have h1 := R4.out (1 + i) _ (stC_num hz); simpa using h1⟩⟩
      case rest =>
      obtain ⟨rfl, HBW, QW⟩ := hcut
      obtain ⟨C, hC⟩ : ∃ C, C = clamp40 n := ⟨_, rfl⟩
      have hC40 : C ≤ 40 := by rw [hC]; exact clamp_le n
      obtain ⟨m, hm⟩ : ∃ m, m = min n 40 := ⟨_, rfl⟩
      have hm1 : (if (40 : Int) < n then 40 else n) = m := by rw [hm]; split <;> omega
      have hm2 : (if m < 0 then 0 else m) = (C : Int) := by rw [hC, hm]; unfold clamp40; split <;> omega
      clear hm
      have HC := Bx.mk hC
      clear hC
      go_wp2_with fail
      go_loopw [5, 8] (fun v i wi => ∃ j : Nat, i = .int .i64 (j : Int) ∧ C ≤ j ∧ j ≤ 40 ∧ v = .bool (B3 && tailM n x j) ∧ wi = wc) (fun _ i _ => 40 - (intOf i).toNat)
      case atStart => exact ⟨C, rfl, by omega, by omega, by rw [HC.out, tail_start]; cases B3 <;> rfl, rfl⟩
      case round =>
        obtain ⟨j, rfl, hj1, hj2, rfl, hw⟩ := hrel
        have hw := hw.symm
        subst hw
        by_cases hj : j < 40
        · obtain ⟨z, hz⟩ : ∃ z, x.v[j]? = some z := ⟨_, List.getElem?_eq_getElem (by rw [x.len]; exact hj)⟩
          have hs := tail_succ n x j z hz (by rw [← HC.out]; exact hj1)
          have qz := QW.out j z hz
          obtain ⟨T, hT⟩ : ∃ T, T = (B3 && tailM n x j) := ⟨_, rfl⟩
          have hT2 : (B3 && tailM n x (j + 1)) = (T && decide (z = 0)) := by rw [hs, hT]; cases B3 <;> rfl
          rw [← hT]
          have HT2 := Bx.mk hT2
          clear hs hz hT hT2
          cases T
          · go_wp2_with fail
            go_roundw
            case rel => exact ⟨j + 1, by go_num, by omega, by omega, by rw [HT2.out]; rfl, by simp⟩
            case measure => simp [intOf] <;> omega
          · by_cases hz0 : z = 0
            · subst hz0
              go_wp2_with fail
              go_roundw
              case rel => exact ⟨j + 1, by go_num, by omega, by omega, by rw [HT2.out]; rfl, by simp⟩
              case measure => simp [intOf] <;> omega
            · have hq : (z == 0) = false := by simpa using hz0
              have hd : decide (z = 0) = false := by simpa using hz0
              have HD := Bx.mk hd
              clear hz0 hd
              go_wp2_with fail
              go_roundw
              case rel => exact ⟨j + 1, by go_num, by omega, by omega, by rw [HT2.out, HD.out]; rfl, by simp⟩
              case measure => simp [intOf] <;> omega
        · obtain rfl : j = 40 := by omega
          have HE : Bx (wantM n none (Y.take (k + 1)) = (B3 && tailM n x 40)) := ⟨by
            rw [E.out, HB3.out, HB2.out, HP.out]
            unfold headM
            cases prevM Y k <;> simp only [Bool.and_assoc]⟩
          go_wp2_with fail
          go_roundw
          case rel => exact ⟨k + 1, by go_num, by omega, by rw [HE.out], HBW⟩
          case measure => simp [intOf] <;> omega
    · obtain rfl : k = Y.length := by omega
      have HG : Bx (wantM n none (Y.take Y.length) = goodM n none Y) := ⟨by rw [List.take_length, want_good]⟩
      have cg := fun W (hW : Below w.heap.size w W) => good_any (.slice p Y.length c) Y n (by omega) W (HY.out.below hW)
      rw [HG.out]
      generalize goodM n none Y = G at *
      have CG := Bx.mk cg
      clear cg
      cases G
      all_goals
        go_wp2_with (first
          | (go_at_call 6; ((with_reducible refine (HAW.out _ hb.out).mono ?_); rintro e w2 ⟨rfl, hb2⟩; have B2 := Bx.mk (bel hb.out hb2); clear hb2))
          | (go_at_call 18; ((with_reducible refine (CG.out _ B2.out).mono ?_); rintro e w3 ⟨rfl, hb3⟩; have B4 := Bx.mk (bel B2.out hb3); clear hb3)))
        go_ret
        exact ⟨rfl, B4.out⟩
end Go.Proofs.YtnlcmdgjoikljaaDoor
