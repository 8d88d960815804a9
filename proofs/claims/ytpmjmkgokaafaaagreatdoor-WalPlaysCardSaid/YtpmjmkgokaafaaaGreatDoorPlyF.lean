/- WalPlays: fits. -/
import Derived.Test.YtpmjmkgokaafaaaGreatDoorPlyR
namespace Go.Proofs.YtpmjmkgokaafaaaGreatDoor
set_option maxRecDepth 100000
open Go.ChangeShapes Go.WideShapes Go.RowKit M

theorem same_nil (p q : Option Addr) (c d : Nat) (w : World) :
    Calls Tryz.prog 33 #[.slice p 0 c, .slice q 0 d] w fun e w' => e = .returned (.int .i64 0) ∧ Below w.heap.size w w' := by
  go_enter Tryz.func33, Tryz.ntmps33
  go_wp2_with fail
  go_loopw [5, 13] (fun _ i wr => i = .int .i64 0 ∧ Box (Below w.heap.size w wr)) (fun _ _ _ => 0)
  case atStart => exact ⟨rfl, ⟨Below.refl _ _⟩⟩
  case round =>
    obtain ⟨rfl, hb⟩ := hrel
    go_wp2
    go_ret
    exact ⟨rfl, hb.out⟩
/-- records that are a beginning of others, with all that stay -/
theorem fits_ok (p1 p2 : Option Addr) (n c1 B1 n2 c2 B2 s : Nat) (L M : List Value) (w : World) (o1 : w.ownsRow B1 9 1 (.slice p1 n c1) n L) (o2 : w.ownsRow B2 9 1 (.slice p2 n2 c2) n2 M) (hL : ∀ j, j < n → ∃ s, L[j]? = some (.string s)) (hM : L = M.take n) (hn : n ≤ n2) (hn2 : n2 ≤ 1000) (hs : s ≤ n) :
    Calls Tryz.prog 13 #[.slice p1 n c1, .slice p2 n2 c2, .int .i64 (s : Int)] w fun e w' => e = .returned (.int .i64 0) ∧ Below w.heap.size w w' := by
  have d1 : decide ((n : Int) < (s : Int)) = false := decide_eq_false (by omega)
  have d1p : ((n : Int) < (s : Int)) = False := eq_false (by omega)
  have d1n : (n < s) = False := eq_false (by omega)
  have d2 : decide ((n2 : Int) < (n : Int)) = false := decide_eq_false (by omega)
  have d2p : ((n2 : Int) < (n : Int)) = False := eq_false (by omega)
  have d2n : (n2 < n) = False := eq_false (by omega)
  have h1 : (0 : Int) ≤ (n : Int) := by omega
  rcases o2.2 with ⟨hv, h0⟩ | ⟨g, cap, cur, hv, hr⟩
  · obtain ⟨rfl, e, rfl⟩ := Value.slice.inj hv
    obtain rfl : n2 = 0 := e
    obtain rfl : n = 0 := by omega
    clear o1 o2 hL hM hv
    go_enter Tryz.func13, Tryz.ntmps13
    go_wp2_with (go_at_call 33; ((with_reducible refine (same_nil _ _ _ _ _).mono ?_); rintro e w1 ⟨rfl, b1⟩; have B1 := Box.mk b1; clear b1))
    go_ret
    exact ⟨rfl, B1.out⟩
  · obtain ⟨rfl, _, rfl⟩ := Value.slice.inj hv
    obtain ⟨hcap, hmx⟩ := row_cap o2
    have hcc : n ≤ c2 := by omega
    have hcc2 : (n : Int) ≤ (c2 : Int) := by omega
    have cs := same_off p1 g 0 n n c1 c2 B1 L rfl (by omega) hL w o1 (fun j hj => by
      have c := o2.cellAt j (by omega)
      rw [Nat.zero_add, c, hM, List.getElem?_take, if_pos hj]) (o2.lt g rfl).2
    have CS := Box.mk cs
    clear cs o1 o2 hL hM hv hr
    go_enter Tryz.func13, Tryz.ntmps13
    go_wp2_with (go_at_call 33; ((with_reducible refine CS.out.mono ?_); rintro e w1 ⟨rfl, b1⟩; have B1 := Box.mk b1; clear b1))
    go_ret
    exact ⟨rfl, B1.out⟩
end Go.Proofs.YtpmjmkgokaafaaaGreatDoor
