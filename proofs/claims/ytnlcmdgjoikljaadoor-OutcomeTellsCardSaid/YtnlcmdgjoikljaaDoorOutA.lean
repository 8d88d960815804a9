/- States of tests: comparing numbers; numbers that are not 0. -/
import Derived.Test.YtnlcmdgjoikljaaDoorLitV
import Derived.Test.YtnlcmdgjoikljaaDoorLitJ
namespace Go.Proofs.YtnlcmdgjoikljaaDoor
set_option maxRecDepth 100000
open Go.RowKit

theorem notNaNu_any (x : Int) (w : World) :
    Calls Tryd.prog 78 #[.int .u64 x] w fun e w' => e = .returned (.bool false) ∧ w = w' := by
  go_enter Tryd.func78, Tryd.ntmps78
  go_wp2
  go_ret
  exact ⟨by simp, rfl⟩
theorem compareU_any (x y : Int) (w : World) :
    Calls Tryd.prog 55 #[.int .u64 x, .int .u64 y] w fun e w' => e = .returned (.int .i64 (cmpI x y)) ∧ w = w' := by
  have h : (x < y ∧ cmpI x y = -1) ∨ (y < x ∧ cmpI x y = 1) ∨ (x = y ∧ cmpI x y = 0) := by
    unfold cmpI
    by_cases h1 : x < y
    · exact .inl ⟨h1, by rw [if_pos h1]⟩
    · by_cases h2 : y < x
      · exact .inr (.inl ⟨h2, by rw [if_neg h1, if_pos h2]⟩)
      · exact .inr (.inr ⟨by omega, by rw [if_neg h1, if_neg h2]⟩)
  have cx := Bx.mk (fun W => notNaNu_any x W); have cy := Bx.mk (fun W => notNaNu_any y W)
  rcases h with ⟨h, e⟩ | ⟨h, e⟩ | ⟨rfl, e⟩
  all_goals
    rw [e]
    clear e
    go_enter Tryd.func55, Tryd.ntmps55
    go_wp2_with (go_at_call 78; first
      | ((with_reducible refine (cx.out _).mono ?_); rintro e w' ⟨rfl, rfl⟩)
      | ((with_reducible refine (cy.out _).mono ?_); rintro e w' ⟨rfl, rfl⟩))
    go_ret
    exact ⟨rfl, rfl⟩

/-- two lists of numbers, by the first that is unlike -/
def cmpLs : List Int → List Int → Int
  | x :: xs, y :: ys => if cmpI x y = 0 then cmpLs xs ys else cmpI x y
  | _, _ => 0
set_option maxHeartbeats 1600000 in
theorem compareLs_any (xs ys : List Int) (b1 o1 b2 o2 c1 c2 n : Nat) (hx : xs.length = n) (hy : ys.length = n) (hn : n ≤ 1000) (w : World)
    (h1 : ∀ i x, xs[i]? = some x → w.cell? ⟨b1, o1 + i, none⟩ = some (.int .u64 x)) (h2 : ∀ i x, ys[i]? = some x → w.cell? ⟨b2, o2 + i, none⟩ = some (.int .u64 x)) :
    Calls Tryd.prog 36 #[.slice (some ⟨b1, o1, none⟩) n c1, .slice (some ⟨b2, o2, none⟩) n c2] w fun e w' => e = .returned (.int .i64 (cmpLs xs ys)) ∧ w = w' := by
  have H1 := Bx.mk h1; have H2 := Bx.mk h2; have HX := Bx.mk hx; have HY := Bx.mk hy
  clear h1 h2 hx hy
  go_enter Tryd.func36, Tryd.ntmps36
  go_wp2_with fail
  go_loop [11] (fun i => ∃ k : Nat, i = .int .i64 (k : Int) ∧ k ≤ n ∧ Bx (cmpLs xs ys = cmpLs (xs.drop k) (ys.drop k))) (fun i => n - (intOf i).toNat)
  case atStart => exact ⟨0, rfl, by omega, ⟨rfl⟩⟩
  case round =>
    obtain ⟨k, rfl, hk, hf⟩ := hrel
    by_cases hkn : k < n
    · obtain ⟨x, hx⟩ : ∃ x, xs[k]? = some x := ⟨_, List.getElem?_eq_getElem (by rw [HX.out]; exact hkn)⟩
      obtain ⟨y, hy⟩ : ∃ y, ys[k]? = some y := ⟨_, List.getElem?_eq_getElem (by rw [HY.out]; exact hkn)⟩
      have e1 := H1.out k x hx
      have e2 := H2.out k y hy
      have e := hf.out
      rw [atDrop hx, atDrop hy, cmpLs] at e
      have cl := fun W => compareU_any x y W
      obtain ⟨r, hr⟩ : ∃ r, r = cmpI x y := ⟨_, rfl⟩
      rw [← hr] at e cl
      by_cases h0 : r = 0
      · subst h0
        rw [if_pos rfl] at e
        have CL := Bx.mk cl; have E := Bx.mk e
        clear cl e hx hy hf hr
        go_wp2_with (go_at_call 55; ((with_reducible refine (CL.out _).mono ?_); rintro e w' ⟨rfl, rfl⟩))
        go_round
        case rel => exact ⟨k + 1, by go_num, by omega, E⟩
        case measure => simp [intOf] <;> omega
      · rw [if_neg h0] at e
        have hq : ((r : Int) != 0) = true := by rw [bne_iff_ne]; exact h0
        have CL := Bx.mk cl; have E := Bx.mk e
        clear cl e hx hy hf hr h0
        go_wp2_with (go_at_call 55; ((with_reducible refine (CL.out _).mono ?_); rintro e w' ⟨rfl, rfl⟩))
        go_ret
        rw [E.out]
        exact ⟨rfl, rfl⟩
    · obtain rfl : k = n := by omega
      have e : cmpLs xs ys = 0 := by rw [hf.out, List.drop_of_length_le (by rw [HX.out]; exact Nat.le_refl _)]; rfl
      have E := Bx.mk e
      clear e hf
      go_wp2
      go_ret
      rw [E.out]
      exact ⟨rfl, rfl⟩

theorem isSet_any (x : Int) (w : World) :
    Calls Tryd.prog 56 #[.int .u64 x] w fun e w' => e = .returned (.bool (decide (x ≠ 0))) ∧ w = w' := by
  by_cases h : x = 0
  · subst h
    go_enter Tryd.func56, Tryd.ntmps56
    go_wp2
    go_ret
    exact ⟨by simp, rfl⟩
  · have hq : ((x : Int) != 0) = true := by rw [bne_iff_ne]; exact h
    go_enter Tryd.func56, Tryd.ntmps56
    go_wp2
    go_ret
    exact ⟨by simp [h], rfl⟩
/-- where the first number lies that is not 0 -/
def setAt : List Int → Nat → Int
  | [], _ => -1
  | x :: r, k => if x ≠ 0 then (k : Int) else setAt r (k + 1)
theorem setAt_any (L : List Int) : ∀ k, decide (0 ≤ setAt L k) = L.any (fun x => decide (x ≠ 0)) := by
  induction L with
  | nil => intro k; rfl
  | cons x r ih =>
    intro k
    rw [setAt, List.any_cons]
    by_cases h : x ≠ 0
    · rw [if_pos h]; simp [h]
    · rw [if_neg h, ih]; simp [h]
set_option maxHeartbeats 1600000 in
theorem indexSet_any (xs : List Int) (b o c n : Nat) (hx : xs.length = n) (hn : n ≤ 1000) (w : World) (h1 : ∀ i x, xs[i]? = some x → w.cell? ⟨b, o + i, none⟩ = some (.int .u64 x)) :
    Calls Tryd.prog 79 #[.slice (some ⟨b, o, none⟩) n c, .func (.func 56) #[] #[]] w fun e w' => e = .returned (.int .i64 (setAt xs 0)) ∧ w = w' := by
  have H1 := Bx.mk h1; have HX := Bx.mk hx
  clear h1 hx
  go_enter Tryd.func79, Tryd.ntmps79
  go_wp2_with fail
  go_loop [8] (fun i => ∃ k : Nat, i = .int .i64 (k : Int) ∧ k ≤ n ∧ Bx (setAt xs 0 = setAt (xs.drop k) k)) (fun i => n - (intOf i).toNat)
  case atStart => exact ⟨0, rfl, by omega, ⟨rfl⟩⟩
  case round =>
    obtain ⟨k, rfl, hk, hf⟩ := hrel
    by_cases hkn : k < n
    · obtain ⟨x, hx⟩ : ∃ x, xs[k]? = some x := ⟨_, List.getElem?_eq_getElem (by rw [HX.out]; exact hkn)⟩
      have e1 := H1.out k x hx
      have e := hf.out
      rw [atDrop hx, setAt] at e
      have cl := fun W => isSet_any x W
      by_cases h0 : x ≠ 0
      · rw [if_pos h0] at e
        rw [decide_eq_true h0] at cl
        have CL := Bx.mk cl; have E := Bx.mk e
        clear cl e hx hf h0
        go_wp2_with (go_at_call 56; ((with_reducible refine (CL.out _).mono ?_); rintro e w' ⟨rfl, rfl⟩))
        go_ret
        rw [E.out]
        exact ⟨rfl, rfl⟩
      · rw [if_neg h0] at e
        rw [decide_eq_false h0] at cl
        have CL := Bx.mk cl; have E := Bx.mk e
        clear cl e hx hf h0
        go_wp2_with (go_at_call 56; ((with_reducible refine (CL.out _).mono ?_); rintro e w' ⟨rfl, rfl⟩))
        go_round
        case rel => exact ⟨k + 1, by go_num, by omega, E⟩
        case measure => simp [intOf] <;> omega
    · obtain rfl : k = n := by omega
      have e : setAt xs 0 = -1 := by rw [hf.out, List.drop_of_length_le (by rw [HX.out]; exact Nat.le_refl _)]; rfl
      have E := Bx.mk e
      clear e hf
      go_wp2
      go_ret
      rw [E.out]
      exact ⟨rfl, rfl⟩
theorem hasSet_any (xs : List Int) (b o c n : Nat) (hx : xs.length = n) (hn : n ≤ 1000) (w : World) (h1 : ∀ i x, xs[i]? = some x → w.cell? ⟨b, o + i, none⟩ = some (.int .u64 x)) :
    Calls Tryd.prog 57 #[.slice (some ⟨b, o, none⟩) n c, .func (.func 56) #[] #[]] w fun e w' => e = .returned (.bool (xs.any fun x => decide (x ≠ 0))) ∧ w = w' := by
  have c := indexSet_any xs b o c n hx hn w h1
  rw [← setAt_any xs 0]
  generalize setAt xs 0 = R at *
  have C := Bx.mk c
  clear c hx h1
  by_cases hR : 0 ≤ R
  all_goals
    go_enter Tryd.func57, Tryd.ntmps57
    go_wp2_with (go_at_call 79; ((with_reducible refine (C.out).mono ?_); rintro e w' ⟨rfl, rfl⟩))
    go_ret
    exact ⟨by simp [hR], rfl⟩
end Go.Proofs.YtnlcmdgjoikljaaDoor
