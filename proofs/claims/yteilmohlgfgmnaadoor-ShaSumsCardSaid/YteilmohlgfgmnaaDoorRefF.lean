/- The reference of layer 3: turn, not. -/
import Derived.Test.YteilmohlgfgmnaaDoorRefE
namespace Go.Proofs.YteilmohlgfgmnaaDoor
set_option maxRecDepth 100000
open Go.RowKit

theorem rr_zeroR {x : Nat} : M.rr 0 x = x := by unfold M.rr; simp [Nat.mod_one]
set_option maxHeartbeats 3200000 in
theorem turnR_any (x n : Nat) (hx : x < 4294967296) (hn : n ≤ 32) (w : World) :
    Calls Tryd.prog 48 #[.int .u32 (x : Int), .int .i64 (n : Int)] w fun e w' => e = .returned (.int .u32 ((M.rr n x : Nat) : Int)) ∧ w = w' := by
  go_enter Tryd.func48, Tryd.ntmps48
  go_wp2_with fail
  go_loopw [0, 5] (fun xv kx wr => ∃ k : Nat, kx = .int .i64 (k : Int) ∧ k ≤ n ∧ xv = .int .u32 ((M.rr k x : Nat) : Int) ∧ w = wr) (fun _ kx _ => n - (intOf kx).toNat)
  case atStart => exact ⟨0, rfl, by omega, by rw [rr_zeroR], rfl⟩
  case round =>
    obtain ⟨k, rfl, hk, rfl, rfl⟩ := hrel
    have hlt := M.rr_lt (n := k) (by omega) hx
    by_cases hkn : k < n
    · have hki : (k : Int) < (n : Int) := by omega
      have hs := M.rr_succ (k := k) (x := x) (by omega)
      have hlt2 := M.rr_lt (n := k + 1) (by omega) hx
      obtain ⟨y, hy⟩ : ∃ y, y = M.rr k x := ⟨_, rfl⟩
      obtain ⟨z, hz⟩ : ∃ z, z = M.rr (k + 1) x := ⟨_, rfl⟩
      rw [← hy, ← hz] at hs
      rw [← hy] at hlt
      rw [← hz] at hlt2
      rw [← hy]
      have e1 : (y : Int) / 2 + (y : Int) % 2 * 2147483648 = (z : Int) := by omega
      have HZ := Bx.mk hz
      clear hy hz hs
      go_wp2_with fail
      go_roundw
      case rel => exact ⟨k + 1, by go_num, by omega, by rw [← HZ.out], trivial⟩
      case measure => simp [intOf] <;> omega
    · obtain rfl : k = n := by omega
      go_wp2_with fail
      go_ret
      exact ⟨rfl, rfl⟩
theorem not_any (x : Nat) (hx : x < 4294967296) (w : World) :
    Calls Tryd.prog 49 #[.int .u32 (x : Int)] w fun e w' => e = .returned (.int .u32 ((4294967295 - x : Nat) : Int)) ∧ w = w' := by
  have e : (4294967295 : Int) - (x : Int) = ((4294967295 - x : Nat) : Int) := by omega
  have h1 : 4294967295 - x < 4294967296 := by omega
  obtain ⟨y, hy⟩ : ∃ y, y = 4294967295 - x := ⟨_, rfl⟩
  rw [← hy] at e h1 ⊢
  clear hy
  go_enter Tryd.func49, Tryd.ntmps49
  go_wp2_with fail
  go_ret
  exact ⟨rfl, rfl⟩
end Go.Proofs.YteilmohlgfgmnaaDoor
