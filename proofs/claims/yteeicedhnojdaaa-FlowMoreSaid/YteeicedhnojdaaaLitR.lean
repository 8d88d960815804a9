/- Contracts of litmus: Check. -/
import Derived.Test.YteeicedhnojdaaaLitP
namespace Go.Proofs.Yteeicedhnojdaaa
set_option maxRecDepth 100000
open Go.RowKit

def chkTest (t : TestM) : Int := firstNZ [((chkSizes t : Nat) : Int), ((chkLocs none t.locs : Nat) : Int), ((chkThr t.locs.length t.thr : Nat) : Int), ((chkAsks t none t.asks : Nat) : Int)]
set_option maxHeartbeats 3200000 in
theorem check_test (b : Nat) (t : TestM) (hk : TestOk t) (hs : ∀ l ∈ t.locs, l.1.length ≤ 1000000000) (w : World) (h : TestAt w b t) :
    Calls Try.prog 9 #[.pointer (some ⟨b, 0, none⟩)] w fun e w' => e = .returned (.int .i64 (chkTest t)) ∧ Below w.heap.size w w' := by
  have c1 := fun W (hW : Below w.heap.size w W) => (checkSizes_any b t hk W (h.below hW)).mono fun e w' ⟨x, y⟩ => (⟨x, bel hW y⟩ : _ ∧ Below w.heap.size w w')
  have c2 := fun W (hW : Below w.heap.size w W) => (checkLocs_any b t hk hs W (h.below hW)).mono fun e w' ⟨x, y⟩ => (⟨x, bel hW y⟩ : _ ∧ Below w.heap.size w w')
  have c3 := fun W (hW : Below w.heap.size w W) => (checkThreads_any b t hk W (h.below hW)).mono fun e w' ⟨x, y⟩ => (⟨x, bel hW y⟩ : _ ∧ Below w.heap.size w w')
  have c4 := fun W (hW : Below w.heap.size w W) => (checkAsks_any b t hk W (h.below hW)).mono fun e w' ⟨x, y⟩ => (⟨x, bel hW y⟩ : _ ∧ Below w.heap.size w w')
  have c5 : ∀ W : World, Calls Try.prog 20 #[.slice (some ⟨W.heap.size, 0, none⟩) 4 4] (W.alloc (.cells #[.int .i64 ((chkSizes t : Nat) : Int), .int .i64 ((chkLocs none t.locs : Nat) : Int), .int .i64 ((chkThr t.locs.length t.thr : Nat) : Int), .int .i64 ((chkAsks t none t.asks : Nat) : Int)] 31)) fun e w' => e = .returned (.int .i64 (chkTest t)) ∧ (W.alloc (.cells #[.int .i64 ((chkSizes t : Nat) : Int), .int .i64 ((chkLocs none t.locs : Nat) : Int), .int .i64 ((chkThr t.locs.length t.thr : Nat) : Int), .int .i64 ((chkAsks t none t.asks : Nat) : Int)] 31)) = w' := fun W =>
    orErr_any [((chkSizes t : Nat) : Int), ((chkLocs none t.locs : Nat) : Int), ((chkThr t.locs.length t.thr : Nat) : Int), ((chkAsks t none t.asks : Nat) : Int)] W.heap.size 4 rfl (by decide) _ (fun j x hx => by
      rw [cOf (heap_alloc_new _ _)]
      match j, hx with
      | 0, hx => simp at hx; subst hx; rfl
      | 1, hx => simp at hx; subst hx; rfl
      | 2, hx => simp at hx; subst hx; rfl
      | 3, hx => simp at hx; subst hx; rfl
      | j + 4, hx => simp at hx)
  generalize chkTest t = R at *
  generalize ((chkSizes t : Nat) : Int) = r1 at *
  generalize ((chkLocs none t.locs : Nat) : Int) = r2 at *
  generalize ((chkThr t.locs.length t.thr : Nat) : Int) = r3 at *
  generalize ((chkAsks t none t.asks : Nat) : Int) = r4 at *
  have C1 := Bx.mk c1; have C2 := Bx.mk c2; have C3 := Bx.mk c3; have C4 := Bx.mk c4; have C5 := Bx.mk c5
  clear c1 c2 c3 c4 c5 hk hs
  go_enter Try.func9, Try.ntmps9
  have hb0 : Below w.heap.size w w := Below.refl _ _
  clear h
  go_wp2_with (first
      | (go_at_call 21; ((with_reducible refine (C1.out _ (by assumption)).mono ?_); rintro e w1 ⟨rfl, hb1⟩))
      | (go_at_call 22; ((with_reducible refine (C2.out _ (by assumption)).mono ?_); rintro e w2 ⟨rfl, hb2⟩))
      | (go_at_call 23; ((with_reducible refine (C3.out _ (by assumption)).mono ?_); rintro e w3 ⟨rfl, hb3⟩))
      | (go_at_call 24; ((with_reducible refine (C4.out _ (by assumption)).mono ?_); rintro e w4 ⟨rfl, hb4⟩))
      | (go_at_call 20; ((with_reducible refine (C5.out _).mono ?_); rintro e w5 ⟨rfl, rfl⟩)))
  go_ret
  exact ⟨rfl, hb4.alloc hb4.size _⟩
end Go.Proofs.Yteeicedhnojdaaa
