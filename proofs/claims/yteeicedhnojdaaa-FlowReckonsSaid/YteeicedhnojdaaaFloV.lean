/- FlowReckons: the walk. -/
import Derived.Test.YteeicedhnojdaaaFloS
import Derived.Test.YteeicedhnojdaaaFloU
namespace Go.Proofs.Yteeicedhnojdaaa
set_option maxRecDepth 100000
open Go.RowKit

theorem refReckon_any (op : Int) (h1 : 2 ≤ op) (h2 : op ≤ 8) (a b : Nat) (ha : a < 18446744073709551616) (hb : b < 18446744073709551616) (w : World) :
    Calls Try.prog 18 #[.int .i64 op, .int .u64 (a : Int), .int .u64 (b : Int)] w fun e w' => e = .returned (.int .u64 ((reckM op a b : Nat) : Int)) ∧ Below w.heap.size w w' := by
  have h : op = 2 ∨ op = 3 ∨ op = 4 ∨ op = 5 ∨ op = 6 ∨ op = 7 ∨ op = 8 := by omega
  rcases h with rfl | rfl | rfl | rfl | rfl | rfl | rfl
  · exact refReckon_add a b ha hb w
  · exact refReckon_sub a b ha hb w
  · exact refReckon_xor a b ha hb w
  · exact refReckon_and a b ha hb w
  · exact refReckon_or a b ha hb w
  · exact refReckon_shl a b ha hb w
  · exact refReckon_shr a b ha hb w
set_option maxHeartbeats 3200000 in
theorem flowReckons_walk (op : Int) (a b : Nat) (ha : a < 18446744073709551616) (hb : b < 18446744073709551616) (w : World) :
    Calls Try.prog 4 #[.int .i64 op, .int .u64 (a : Int), .int .u64 (b : Int)] w fun e w' => e = .returned (.bool true) ∧ Below w.heap.size w w' := by
  have CA := Bx.mk awake13_any
  by_cases h1 : op < 2
  · go_enter Try.func4, Try.ntmps4
    go_wp2_with (go_at_call 8; ((with_reducible refine (CA.out _).mono ?_); rintro e w1 ⟨rfl, b1⟩))
    go_ret
    exact ⟨rfl, b1⟩
  by_cases h2 : 8 < op
  · go_enter Try.func4, Try.ntmps4
    go_wp2_with (go_at_call 8; ((with_reducible refine (CA.out _).mono ?_); rintro e w1 ⟨rfl, b1⟩))
    go_ret
    exact ⟨rfl, b1⟩
  have CR := Bx.mk (fun W => refReckon_any op (by omega) (by omega) a b ha hb W)
  have CF := Bx.mk (fun W => reckon_any op a b ha hb W)
  generalize reckM op a b = r at *
  clear ha hb
  go_enter Try.func4, Try.ntmps4
  go_wp2_with (first
    | (go_at_call 8; ((with_reducible refine (CA.out _).mono ?_); rintro e w1 ⟨rfl, b1⟩; have B1 := Bx.mk b1; clear b1))
    | (go_at_call 17; ((with_reducible refine (CF.out _).mono ?_); rintro e w2 ⟨rfl, rfl⟩))
    | (go_at_call 18; ((with_reducible refine (CR.out _).mono ?_); rintro e w3 ⟨rfl, b3⟩; have B3 := Bx.mk (bel B1.out b3); clear b3)))
  go_ret
  exact ⟨by simp, B3.out⟩
end Go.Proofs.Yteeicedhnojdaaa
