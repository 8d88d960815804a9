/- Contracts of sha: bytes of numbers. -/
import Derived.Test.YtdhbeeeofaheeaaDoorShaM
import Derived.Test.YtdhbeeeofaheeaaDoorPackM
import Derived.Deep.MidRow
namespace Go.Proofs.YtdhbeeeofaheeaaDoor
set_option maxRecDepth 100000
open Go.RowKit M

theorem hf4_any (v : Nat) (w : World) : Calls Tryd.prog 52 #[.int .u64 v, .int .i64 4] w fun e w' => e = .returned (.string (bs (fx 4 v))) ∧ Below w.heap.size w w' := by
  obtain ⟨x, hx⟩ : ∃ x, x = v * 2 ^ (64 - 8 * 4) % 18446744073709551616 := ⟨_, rfl⟩
  have hlt : x < 18446744073709551616 := by omega
  have r1 : IntKind.u64.wrap ((v : Int) * 4294967296) = (x : Int) := by
    rw [hx, show (v : Int) * 4294967296 = ((v * 4294967296 : Nat) : Int) by omega, u64w]
  have e := bytes_swap (n := 4) (v := v) (by omega) (by omega)
  rw [← hx] at e
  have E := Box.mk e; clear e hx
  go_enter Tryd.func52, Tryd.ntmps52
  go_wp2_with (first
    | (go_at_call 60; refine (wordSwap_any x hlt _).mono ?_; rintro e w' ⟨rfl, rfl⟩)
    | (go_at_call 59; refine (wordBytes_any (revN 8 x) 4 _).mono ?_; rintro e w1 ⟨rfl, b1⟩))
  go_ret
  exact ⟨by rw [← E.out]; rfl, b1⟩

theorem hf8_any (v : Nat) (hv : v < 18446744073709551616) (w : World) : Calls Tryd.prog 52 #[.int .u64 v, .int .i64 8] w fun e w' => e = .returned (.string (bs (fx 8 v))) ∧ Below w.heap.size w w' := by
  have e := bytes_swap (n := 8) (v := v) (by omega) (by omega)
  rw [show 64 - 8 * 8 = 0 by rfl, Nat.pow_zero, Nat.mul_one, Nat.mod_eq_of_lt hv] at e
  have E := Box.mk e; clear e
  go_enter Tryd.func52, Tryd.ntmps52
  go_wp2_with (first
    | (go_at_call 60; refine (wordSwap_any v hv _).mono ?_; rintro e w' ⟨rfl, rfl⟩)
    | (go_at_call 59; refine (wordBytes_any (revN 8 v) 8 _).mono ?_; rintro e w1 ⟨rfl, b1⟩))
  go_ret
  exact ⟨by rw [← E.out]; rfl, b1⟩

/-- the value of a digit -/
def dgV (c : Nat) : Nat := if 48 ≤ c ∧ c ≤ 57 then c - 48 else if 97 ≤ c ∧ c ≤ 102 then c - 87 else 0
/-- is it a digit? -/
def dgB (c : Nat) : Bool := decide ((48 ≤ c ∧ c ≤ 57) ∨ (97 ≤ c ∧ c ≤ 102))

theorem digit_any (c : Nat) (hc : c < 256) (w : World) : Calls Tryd.prog 54 #[.int .u8 c] w fun e w' => e = .returned (.tuple #[.int .u8 (dgV c : Nat), .bool (dgB c)]) ∧ w = w' := by
  rcases (by omega : (48 ≤ c ∧ c ≤ 57) ∨ (97 ≤ c ∧ c ≤ 102) ∨ (c < 48) ∨ (57 < c ∧ c < 97) ∨ 102 < c) with h | h | h | h | h
  · have e1 : dgV c = c - 48 := by unfold dgV; rw [if_pos h]
    have e2 : dgB c = true := by unfold dgB; simp; omega
    rw [e2, e1]; clear e1 e2
    go_enter Tryd.func54, Tryd.ntmps54
    go_wp2
    go_ret2
    exact ⟨by rw [show ((c - 48 : Nat) : Int) = (c : Int) - 48 by omega]; rfl, rfl⟩
  · have e1 : dgV c = c - 87 := by unfold dgV; rw [if_neg (by omega), if_pos h]
    have e2 : dgB c = true := by unfold dgB; simp; omega
    rw [e2, e1]; clear e1 e2
    go_enter Tryd.func54, Tryd.ntmps54
    go_wp2
    go_ret2
    exact ⟨by first | (rw [show ((c - 87 : Nat) : Int) = (c : Int) - 97 + 10 by omega]; rfl) | (rw [show ((c - 87 : Nat) : Int) = (c : Int) - 87 by omega]; rfl), rfl⟩
  all_goals
    have e1 : dgV c = 0 := by unfold dgV; rw [if_neg (by omega), if_neg (by omega)]
    have e2 : dgB c = false := by unfold dgB; simp; omega
    rw [e2, e1]; clear e1 e2
    go_enter Tryd.func54, Tryd.ntmps54
    go_wp2
    go_ret2
    exact ⟨rfl, rfl⟩
end Go.Proofs.YtdhbeeeofaheeaaDoor
