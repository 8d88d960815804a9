/- Contracts of litmus: has, rank, and the library's Compare and Or. -/
import Derived.Test.YteeicedhnojdaaaLitI
namespace Go.Proofs.Yteeicedhnojdaaa
set_option maxRecDepth 100000
open Go.RowKit

def hasM (t : TestM) (a : Int × Int × Int) : Bool := if a.1 = -1 then idx a.2.1 t.locs.length else idx a.1 t.thr.length && idx a.2.1 8
def askV (a : Int × Int × Int) : Value := .agg #[.int .i64 a.1, .int .i64 a.2.1, .int .u64 a.2.2]

set_option maxHeartbeats 1600000 in
theorem has_any (b : Nat) (t : TestM) (a : Int × Int × Int) (w : World) (h : TestAt w b t) :
    Calls Try.prog 44 #[.pointer (some ⟨b, 0, none⟩), askV a] w fun e w' => e = .returned (.bool (hasM t a)) ∧ Below w.heap.size w w' := by
  obtain ⟨lv, tv, av, h0, h1, h2, ⟨hlo, ⟨vs, _, hth, _⟩, _⟩⟩ := h.test
  obtain ⟨lp, lc, rfl⟩ := hlo.slice
  obtain ⟨tp, tc, rfl⟩ := hth.slice
  have hbb : b < w.heap.size := World.block_lt_of_cell? w _ h0
  obtain ⟨th, at', v⟩ := a
  unfold askV hasM
  have c1 : ∀ W, Calls Try.prog 66 #[.int .i64 at', .int .i64 (t.locs.length : Nat)] W fun e w' => e = .returned (.bool (idx at' t.locs.length)) ∧ w' = W := fun W => (isIndex_any at' t.locs.length W).mono fun e w' ⟨h1, h2⟩ => ⟨h1, h2.symm⟩
  have c2 : ∀ W, Calls Try.prog 66 #[.int .i64 th, .int .i64 (t.thr.length : Nat)] W fun e w' => e = .returned (.bool (idx th t.thr.length)) ∧ w' = W := fun W => (isIndex_any th t.thr.length W).mono fun e w' ⟨h1, h2⟩ => ⟨h1, h2.symm⟩
  have c3 : ∀ W, Calls Try.prog 67 #[.int .i64 at'] W fun e w' => e = .returned (.bool (idx at' 8)) ∧ w' = W := fun W => (isRegister_any at' W).mono fun e w' ⟨h1, h2⟩ => ⟨h1, h2.symm⟩
  have C1 := Bx.mk c1; have C2 := Bx.mk c2; have C3 := Bx.mk c3
  clear c1 c2 c3 h hlo hth h2
  simp only
  by_cases hm : th = -1
  · subst hm
    rw [if_pos rfl]
    generalize idx at' t.locs.length = r at *
    go_enter Try.func44, Try.ntmps44
    go_wp2_with fail
    go_quiet ((go_at_call 66; exact Calls.quiet_of_same (C1.out _)))
    go_wp2
    go_ret
    exact ⟨rfl, belDr (aset _ _) _⟩
  · rw [if_neg hm]
    have hq : ((th : Int) == -1) = false := by rw [beq_eq_false_iff_ne]; exact hm
    generalize idx th t.thr.length = r1 at *
    generalize idx at' 8 = r2 at *
    cases r1
    all_goals
      go_enter Try.func44, Try.ntmps44
      go_wp2_with fail
      go_quiet ((first
        | (go_at_call 66; exact Calls.quiet_of_same (C2.out _))
        | (go_at_call 67; exact Calls.quiet_of_same (C3.out _))))
      go_wp2
      go_ret
      exact ⟨by simp, belDr (aset _ _) _⟩

def rankM (th : Int) : Int := if th < 0 then 4 else th
theorem rank_any (a : Int × Int × Int) (w : World) :
    Calls Try.prog 70 #[askV a] w fun e w' => e = .returned (.int .i64 (rankM a.1)) ∧ Below w.heap.size w w' := by
  obtain ⟨th, at', v⟩ := a
  unfold askV rankM
  simp only
  by_cases h : th < 0
  · rw [if_pos h]
    go_enter Try.func70, Try.ntmps70
    go_wp2
    go_ret
    exact ⟨rfl, aset _ _⟩
  · rw [if_neg h]
    go_enter Try.func70, Try.ntmps70
    go_wp2
    go_ret
    exact ⟨rfl, aset _ _⟩
theorem notNaN_any (x : Int) (w : World) :
    Calls Try.prog 87 #[.int .i64 x] w fun e w' => e = .returned (.bool false) ∧ w = w' := by
  go_enter Try.func87, Try.ntmps87
  go_wp2
  go_ret
  exact ⟨by simp, rfl⟩
def cmpI (x y : Int) : Int := if x < y then -1 else if y < x then 1 else 0
theorem compareI_any (x y : Int) (w : World) :
    Calls Try.prog 69 #[.int .i64 x, .int .i64 y] w fun e w' => e = .returned (.int .i64 (cmpI x y)) ∧ w = w' := by
  have h : (x < y ∧ cmpI x y = -1) ∨ (y < x ∧ cmpI x y = 1) ∨ (x = y ∧ cmpI x y = 0) := by
    unfold cmpI
    by_cases h1 : x < y
    · exact .inl ⟨h1, by rw [if_pos h1]⟩
    · by_cases h2 : y < x
      · exact .inr (.inl ⟨h2, by rw [if_neg h1, if_pos h2]⟩)
      · exact .inr (.inr ⟨by omega, by rw [if_neg h1, if_neg h2]⟩)
  have cx := Bx.mk (fun W => notNaN_any x W); have cy := Bx.mk (fun W => notNaN_any y W)
  rcases h with ⟨h, e⟩ | ⟨h, e⟩ | ⟨rfl, e⟩
  all_goals
    rw [e]
    clear e
    go_enter Try.func69, Try.ntmps69
    go_wp2_with (go_at_call 87; first
      | ((with_reducible refine (cx.out _).mono ?_); rintro e w' ⟨rfl, rfl⟩)
      | ((with_reducible refine (cy.out _).mono ?_); rintro e w' ⟨rfl, rfl⟩))
    go_ret
    exact ⟨rfl, rfl⟩
/-- the first that isn't 0 -/
def firstNZ : List Int → Int
  | [] => 0
  | x :: r => if x = 0 then firstNZ r else x
theorem orInt_any (xs : List Int) (g n : Nat) (hn : n = xs.length) (hl : n ≤ 1000) (w : World) (h : ∀ j x, xs[j]? = some x → w.cell? ⟨g, j, none⟩ = some (.int .i64 x)) :
    Calls Try.prog 68 #[.slice (some ⟨g, 0, none⟩) n n] w fun e w' => e = .returned (.int .i64 (firstNZ xs)) ∧ w = w' := by
  have H := Bx.mk h; have HN := Bx.mk hn; clear h hn
  go_enter Try.func68, Try.ntmps68
  go_wp2_with fail
  go_loop [8] (fun i => ∃ k : Nat, i = .int .i64 (k : Int) ∧ k ≤ n ∧ Bx (firstNZ xs = firstNZ (xs.drop k))) (fun i => n - (intOf i).toNat)
  case atStart => exact ⟨0, rfl, by omega, ⟨rfl⟩⟩
  case round =>
    obtain ⟨k, rfl, hk, hf⟩ := hrel
    by_cases hkn : k < n
    · obtain ⟨x, hx⟩ : ∃ x, xs[k]? = some x := ⟨_, List.getElem?_eq_getElem (by rw [← HN.out]; exact hkn)⟩
      have hc := H.out k x hx
      have e := hf.out
      rw [atDrop hx, firstNZ] at e
      by_cases h0 : x = 0
      · subst h0
        rw [if_pos rfl] at e
        have E := Bx.mk e
        clear e hx hf
        go_wp2
        go_round
        case rel => exact ⟨k + 1, by go_num, by omega, E⟩
        case measure => simp [intOf] <;> omega
      · have hq : ((x : Int) == 0) = false := by rw [beq_eq_false_iff_ne]; exact h0
        rw [if_neg h0] at e
        have E := Bx.mk e
        clear e hx hf
        go_wp2
        go_ret
        rw [E.out]
        exact ⟨rfl, rfl⟩
    · obtain rfl : k = n := by omega
      have e : firstNZ xs = 0 := by rw [hf.out, List.drop_eq_nil_of_le (by rw [HN.out]; exact Nat.le_refl _)]; rfl
      have E := Bx.mk e
      clear e hf
      go_wp2
      go_ret
      rw [E.out]
      exact ⟨rfl, rfl⟩
theorem orErr_any (xs : List Int) (g n : Nat) (hn : n = xs.length) (hl : n ≤ 1000) (w : World) (h : ∀ j x, xs[j]? = some x → w.cell? ⟨g, j, none⟩ = some (.int .i64 x)) :
    Calls Try.prog 20 #[.slice (some ⟨g, 0, none⟩) n n] w fun e w' => e = .returned (.int .i64 (firstNZ xs)) ∧ w = w' := by
  have H := Bx.mk h; have HN := Bx.mk hn; clear h hn
  go_enter Try.func20, Try.ntmps20
  go_wp2_with fail
  go_loop [8] (fun i => ∃ k : Nat, i = .int .i64 (k : Int) ∧ k ≤ n ∧ Bx (firstNZ xs = firstNZ (xs.drop k))) (fun i => n - (intOf i).toNat)
  case atStart => exact ⟨0, rfl, by omega, ⟨rfl⟩⟩
  case round =>
    obtain ⟨k, rfl, hk, hf⟩ := hrel
    by_cases hkn : k < n
    · obtain ⟨x, hx⟩ : ∃ x, xs[k]? = some x := ⟨_, List.getElem?_eq_getElem (by rw [← HN.out]; exact hkn)⟩
      have hc := H.out k x hx
      have e := hf.out
      rw [atDrop hx, firstNZ] at e
      by_cases h0 : x = 0
      · subst h0
        rw [if_pos rfl] at e
        have E := Bx.mk e
        clear e hx hf
        go_wp2
        go_round
        case rel => exact ⟨k + 1, by go_num, by omega, E⟩
        case measure => simp [intOf] <;> omega
      · have hq : ((x : Int) == 0) = false := by rw [beq_eq_false_iff_ne]; exact h0
        rw [if_neg h0] at e
        have E := Bx.mk e
        clear e hx hf
        go_wp2
        go_ret
        rw [E.out]
        exact ⟨rfl, rfl⟩
    · obtain rfl : k = n := by omega
      have e : firstNZ xs = 0 := by rw [hf.out, List.drop_eq_nil_of_le (by rw [HN.out]; exact Nat.le_refl _)]; rfl
      have E := Bx.mk e
      clear e hf
      go_wp2
      go_ret
      rw [E.out]
      exact ⟨rfl, rfl⟩
end Go.Proofs.Yteeicedhnojdaaa
