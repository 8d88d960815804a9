/- Contracts of outcome: at. -/
import Derived.Test.YtnlcmdgjoikljaaDoorOutS
namespace Go.Proofs.YtnlcmdgjoikljaaDoor
set_option maxRecDepth 100000
open Go.RowKit

def atM (xs : List Int) (i : Int) : Int := if 0 ≤ i ∧ i < xs.length then xs.getD i.toNat 0 else 0
set_option maxHeartbeats 1600000 in
theorem at_any (xs : List Int) (b o c n : Nat) (i : Int) (hx : xs.length = n) (w : World) (h1 : ∀ j x, xs[j]? = some x → w.cell? ⟨b, o + j, none⟩ = some (.int .u64 x)) :
    Calls Tryd.prog 27 #[.slice (some ⟨b, o, none⟩) n c, .int .i64 i] w fun e w' => e = .returned (.int .u64 (atM xs i)) ∧ w = w' := by
  unfold atM
  rw [hx]
  by_cases h0 : i < 0
  · rw [if_neg (by omega)]
    clear h1 hx
    go_enter Tryd.func27, Tryd.ntmps27
    go_wp2
    go_ret
    exact ⟨rfl, rfl⟩
  by_cases h2 : (n : Int) ≤ i
  · rw [if_neg (by omega)]
    clear h1 hx
    go_enter Tryd.func27, Tryd.ntmps27
    go_wp2
    go_ret
    exact ⟨rfl, rfl⟩
  obtain ⟨k, rfl⟩ := Int.eq_ofNat_of_zero_le (by omega : 0 ≤ i)
  have hk : k < n := by omega
  obtain ⟨x, hxk⟩ : ∃ x, xs[k]? = some x := ⟨_, List.getElem?_eq_getElem (by rw [hx]; exact hk)⟩
  have hc := h1 k x hxk
  have e : xs.getD (k : Int).toNat 0 = x := by simp [List.getD, hxk]
  rw [if_pos ⟨by omega, by omega⟩, e]
  clear h1 hx hxk e h0 h2
  go_enter Tryd.func27, Tryd.ntmps27
  go_wp2
  go_ret
  exact ⟨rfl, rfl⟩
end Go.Proofs.YtnlcmdgjoikljaaDoor
