/- Contracts of flow: Reckon, numbers, what is read, Args. -/
import Derived.Test.YteeicedhnojdaaaFloA
import Derived.Test.YteeicedhnojdaaaWordC
import Derived.BigQuiet
import Derived.Deep.QuietTactic
import Derived.StillTailTactics
namespace Go.Proofs.Yteeicedhnojdaaa
set_option maxRecDepth 100000
open Go.RowKit

theorem u64sub {a b : Nat} (hb : b < 18446744073709551616) : IntKind.u64.wrap ((a : Int) - (b : Int)) = ((a + (18446744073709551616 - b)) % 18446744073709551616 : Nat) := by
  rw [IntKind.wrap_u64]; omega
theorem u64add {a b : Nat} : IntKind.u64.wrap ((a : Int) + (b : Int)) = ((a + b) % 18446744073709551616 : Nat) := by
  rw [IntKind.wrap_u64]; omega
theorem bitsXor {a b : Nat} (ha : a < 18446744073709551616) (hb : b < 18446744073709551616) : bits .xor .u64 (a : Int) (b : Int) = ((a ^^^ b : Nat) : Int) := by
  show IntKind.u64.wrap ((BitVec.ofInt 64 (a : Int) ^^^ BitVec.ofInt 64 (b : Int)).toNat : Int) = _
  rw [BitVec.toNat_xor, ofInt_u64 a ha, ofInt_u64 b hb, IntKind.wrap_u64]
  have := Nat.xor_lt_two_pow (n := 64) (x := a) (y := b) (by simpa using ha) (by simpa using hb)
  have e : (2 : Nat) ^ 64 = 18446744073709551616 := by decide
  omega
theorem bitsAnd {a b : Nat} (ha : a < 18446744073709551616) (hb : b < 18446744073709551616) : bits .and .u64 (a : Int) (b : Int) = ((a &&& b : Nat) : Int) := by
  show IntKind.u64.wrap ((BitVec.ofInt 64 (a : Int) &&& BitVec.ofInt 64 (b : Int)).toNat : Int) = _
  rw [BitVec.toNat_and, ofInt_u64 a ha, ofInt_u64 b hb, IntKind.wrap_u64]
  have := Nat.and_le_left (n := a) (m := b)
  omega
theorem bitsOr {a b : Nat} (ha : a < 18446744073709551616) (hb : b < 18446744073709551616) : bits .or .u64 (a : Int) (b : Int) = ((a ||| b : Nat) : Int) := by
  show IntKind.u64.wrap ((BitVec.ofInt 64 (a : Int) ||| BitVec.ofInt 64 (b : Int)).toNat : Int) = _
  rw [BitVec.toNat_or, ofInt_u64 a ha, ofInt_u64 b hb, IntKind.wrap_u64]
  have := Nat.or_lt_two_pow (n := 64) (x := a) (y := b) (by simpa using ha) (by simpa using hb)
  have e : (2 : Nat) ^ 64 = 18446744073709551616 := by decide
  omega
set_option maxHeartbeats 3200000 in
theorem reckon_any (op : Int) (a b : Nat) (ha : a < 18446744073709551616) (hb : b < 18446744073709551616) (w : World) :
    Calls Try.prog 17 #[.int .i64 op, .int .u64 (a : Int), .int .u64 (b : Int)] w fun e w' => e = .returned (.int .u64 ((reckM op a b : Nat) : Int)) ∧ w = w' := by
  have h : op = 2 ∨ op = 3 ∨ op = 4 ∨ op = 5 ∨ op = 6 ∨ op = 7 ∨ op = 8 ∨ (op ≠ 2 ∧ op ≠ 3 ∧ op ≠ 4 ∧ op ≠ 5 ∧ op ≠ 6 ∧ op ≠ 7 ∧ op ≠ 8) := by omega
  have e2 := Bx.mk (u64add (a := a) (b := b)); have e3 := Bx.mk (u64sub (a := a) hb); have e4 := Bx.mk (bitsXor ha hb); have e5 := Bx.mk (bitsAnd ha hb); have e6 := Bx.mk (bitsOr ha hb)
  have c7 := Bx.mk (fun W => wordLeft_any a b W); have c8 := Bx.mk (fun W => wordRight_any a b W)
  rcases h with rfl | rfl | rfl | rfl | rfl | rfl | rfl | ⟨h1, h2, h3, h4, h5, h6, h7⟩
  all_goals
    go_enter Try.func17, Try.ntmps17
    go_wp2_with (first
      | (go_at_call 34; ((with_reducible refine (c7.out _).mono ?_); rintro e w1 ⟨rfl, rfl⟩))
      | (go_at_call 35; ((with_reducible refine (c8.out _).mono ?_); rintro e w1 ⟨rfl, rfl⟩)))
    go_ret
  · exact ⟨by rw [e2.out]; rfl, rfl⟩
  · exact ⟨by rw [e3.out]; rfl, rfl⟩
  · exact ⟨by rw [e4.out]; rfl, rfl⟩
  · exact ⟨by rw [e5.out]; rfl, rfl⟩
  · exact ⟨by rw [e6.out]; rfl, rfl⟩
  · exact ⟨rfl, rfl⟩
  · exact ⟨rfl, rfl⟩
  · exact ⟨by unfold reckM; simp [h1, h2, h3, h4, h5, h6, h7], rfl⟩

theorem known_any (v : Nat) (w : World) :
    Calls Try.prog 71 #[.int .u64 (v : Int)] w fun e w' => e = .returned (.agg #[.bool true, .int .u64 (v : Int)]) ∧ Below w.heap.size w w' := by
  go_enter Try.func71, Try.ntmps71
  go_wp2
  exact bodyPost_ret (v := .agg #[.bool true, .int .u64 (v : Int)]) (by simp [results, go_sem]) rfl ⟨rfl, (Below.refl _ _).alloc (Nat.le_refl _) _⟩
theorem number_any (v : Nat) (w : World) :
    Calls Try.prog 47 #[.int .u64 (v : Int)] w fun e w' => e = .returned (.agg #[.bool true, .int .u64 (v : Int), .int .u64 0]) ∧ Below w.heap.size w w' := by
  have c1 := Bx.mk (fun W => known_any v W)
  go_enter Try.func47, Try.ntmps47
  go_wp2_with (go_at_call 71; ((with_reducible refine (c1.out _).mono ?_); rintro e w1 ⟨rfl, b1⟩; have X := nBlock b1; have x0 := cOf X 0; have x1 := cOf X 1; have x2 := cOf X 2; have xf := tOf X 0; have xf1 := tOf X 1; have xf2 := tOf X 2; simp at x0 x1 x2; have B1 := Bx.mk (bel (aset _ _) b1); have HZ : w.heap.size < w1.heap.size := ltOf X; clear b1))
  exact bodyPost_ret (v := .agg #[.bool true, .int .u64 (v : Int), .int .u64 0]) (by simp [results, go_sem, x0, x1, x2]) rfl ⟨rfl, ((B1.out.setCell (p := ⟨w.heap.size, 0, none⟩) (Nat.le_refl _) _).setCell (p := ⟨w.heap.size, 1, none⟩) (Nat.le_refl _) _).setCell (p := ⟨w.heap.size, 2, none⟩) (Nat.le_refl _) _⟩

/-- what a register of a walker has, or a number -/
theorem arg_any (K : WkB) (n m : Nat) (s : WkM) (hr : s.regs.length = 8) (r : Bool) (x : Nat) (hx : r = true → x < 8) (w : World) (hw : WkIn w K n m s) :
    Calls Try.prog 78 #[.pointer (some ⟨K.kb, 0, none⟩), .agg #[.bool r, .int .u64 (x : Int)]] w fun e w' => e = .returned (.agg #[.bool (argM s r x).k, .int .u64 ((argM s r x).v : Int), .int .u64 ((argM s r x).f : Int)]) ∧ Below w.heap.size w w' := by
  have hkl := ltOf hw.kb
  cases r
  · have c1 := Bx.mk (fun W => number_any x W)
    clear hw
    go_enter Try.func78, Try.ntmps78
    go_wp2_with (go_at_call 47; ((with_reducible refine (c1.out _).mono ?_); rintro e w1 ⟨rfl, b1⟩; have X := nBlock b1; have x0 := cOf X 0; have x1 := cOf X 1; have x2 := cOf X 2; have xf := tOf X 0; have xf1 := tOf X 1; have xf2 := tOf X 2; simp at x0 x1 x2 xf xf1 xf2; have B1 := Bx.mk (bel ((aset _ _).alloc (by simp) _) b1); clear b1))
    exact bodyPost_ret (v := .agg #[.bool true, .int .u64 (x : Int), .int .u64 0]) (by simp [results, go_sem, x0, x1, x2]) rfl ⟨rfl, ((B1.out.setCell (p := ⟨w.heap.size + 1, 0, none⟩) (by simp) _).setCell (p := ⟨w.heap.size + 1, 1, none⟩) (by simp) _).setCell (p := ⟨w.heap.size + 1, 2, none⟩) (by simp) _⟩
  · have hx8 := hx rfl
    obtain ⟨c, hc⟩ : ∃ c, s.regs[x]? = some c := ⟨_, List.getElem?_eq_getElem (by omega)⟩
    have q0 := hw.reg hc 0 (by decide)
    have q1 := hw.reg hc 1 (by decide)
    have q2 := hw.reg hc 2 (by decide)
    simp [cnC] at q0 q1 q2
    have e : argM s true x = c := by unfold argM cnAt; simp [List.getD_eq_getElem?_getD, hc]
    rw [e]
    have hxi : (x : Int) < 8 := by omega
    have hx0 : (0 : Int) ≤ x := by omega
    clear hw hc e hr hx
    go_enter Try.func78, Try.ntmps78
    go_wp2
    obtain ⟨W, hW⟩ : ∃ W, W = ((w.alloc (.cells #[.bool true, .int .u64 (x : Int)] 81)).alloc (.cells #[.bool false, .int .u64 0, .int .u64 0] 99)) := ⟨_, rfl⟩
    have b0 : Below w.heap.size w W := by rw [hW]; exact (aset _ _).alloc (by simp) _
    have X : W.heap[w.heap.size + 1]? = some (.cells #[.bool false, .int .u64 0, .int .u64 0] 99 (0, 0)) := by
      have := heap_alloc_new (w.alloc (.cells #[.bool true, .int .u64 (x : Int)] 81)) (.cells #[.bool false, .int .u64 0, .int .u64 0] 99)
      rw [hW]; simpa using this
    have y1 : W.cell? ⟨w.heap.size, 1, none⟩ = some (.int .u64 (x : Int)) := by
      have := cOf (heap_alloc_new w (.cells #[.bool true, .int .u64 (x : Int)] 81)) 1
      rw [hW]; exact cBel this (aset _ _)
    have x0 := cOf X 0; have x1 := cOf X 1; have x2 := cOf X 2; have xf := tOf X 0; have xf1 := tOf X 1; have xf2 := tOf X 2
    simp at x0 x1 x2 xf xf1 xf2
    have q0 := cBel q0 b0; have q1 := cBel q1 b0; have q2 := cBel q2 b0
    rw [← hW]
    have B1 := Bx.mk b0
    clear hW b0 X
    go_still_tail 7, (by kernel_rfl)
    change wpList _ _ _ _ _ W.drew
    go_wp2
    exact bodyPost_ret (v := .agg #[.bool c.k, .int .u64 (c.v : Int), .int .u64 (c.f : Int)]) (by simp [results, go_sem, x0, x1, x2]) rfl ⟨rfl, ((B1.out.drew.setCell (p := ⟨w.heap.size + 1, 0, none⟩) (by simp) _).setCell (p := ⟨w.heap.size + 1, 1, none⟩) (by simp) _).setCell (p := ⟨w.heap.size + 1, 2, none⟩) (by simp) _⟩

end Go.Proofs.Yteeicedhnojdaaa
