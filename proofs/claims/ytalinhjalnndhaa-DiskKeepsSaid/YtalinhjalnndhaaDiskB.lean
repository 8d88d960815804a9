/- Contracts of disk: small ones. -/
import Derived.Test.YtalinhjalnndhaaDiskA
import Derived.RegionTactic
import Derived.Deep.QuietTactic
import Derived.BigQuiet
import Derived.IntWalk
namespace Go.Proofs.Ytalinhjalnndhaa
set_option maxRecDepth 100000
open Go.RowKit M

theorem beginS_keeps (S : DS) : (beginS S).names = S.names ∧ (beginS S).safe = S.safe ∧ (beginS S).chg = S.chg ∧ (beginS S).made = S.made ∧ (beginS S).file = S.file := by
  unfold beginS
  split
  · exact ⟨rfl, rfl, rfl, rfl, rfl⟩
  · split
    · exact ⟨rfl, rfl, rfl, rfl, rfl⟩
    · exact ⟨rfl, rfl, rfl, rfl, rfl⟩

set_option maxHeartbeats 400000 in
theorem dbegin_any (L : Lay) (S : DS) (w : World) (h : DiskAt w L S) (hf : Fine S) :
    Calls Try.prog 39 #[.pointer (some ⟨L.b, 0, none⟩)] w (DiskP L (fun t => t = .disk) w (.int .i64 (beginC S)) (beginS S)) := by
  have hb := h.tags.b
  obtain ⟨k1, k2, k3, k4, k5⟩ := beginS_keeps S
  suffices H : Calls Try.prog 39 #[.pointer (some ⟨L.b, 0, none⟩)] w (fun e w' => e = .returned (.int .i64 (beginC S)) ∧ Head w' L.b L.nb L.sb L.ch (beginS S) ∧ Chn (fun t => t = .disk) L.own w w') from
    H.mono fun e w' ⟨h1, h2, h3⟩ => ⟨h1, h.reHead h3 h2 k1 k2 k3 k4 k5, h3⟩
  have HH := h.head
  have c6 := HH.c6; have c7 := HH.c7; have c8 := HH.c8; have c9 := HH.c9
  have f6 := HH.fz 6; have f7 := HH.fz 7; have f8 := HH.fz 8; have f9 := HH.fz 9
  have q1 := hf.fail0; have q2 := hf.fail1; have q3 := hf.crash0; have q4 := hf.crash1; have q5 := hf.calls
  have B1 := Box.mk HH; have B2 := Box.mk hb
  unfold beginC beginS
  clear HH hb k1 k2 k3 k4 k5 h hf
  by_cases hz : S.fail = 0
  · rw [if_pos hz, if_pos hz]
    have e1 : (S.fail == 0) = true := by simp [hz]
    clear hz
    go_enter Try.func39, Try.ntmps39
    go_wp2
    go_ret
    exact ⟨rfl, B1.out.s7 (-1), (Chn.refl _ _ _).setCell (fun _ => B2.out) _⟩
  · rw [if_neg hz, if_neg hz]
    have e1 : (S.fail == 0) = false := by simp [hz]
    clear hz
    by_cases hz : S.crash = 0
    · rw [if_pos hz, if_pos hz]
      have e2 : (S.crash == 0) = true := by simp [hz]
      clear hz
      go_enter Try.func39, Try.ntmps39
      go_wp2
      go_ret
      exact ⟨rfl, B1.out.s8 true, (Chn.refl _ _ _).setCell (fun _ => B2.out) _⟩
    · rw [if_neg hz, if_neg hz]
      have e2 : (S.crash == 0) = false := by simp [hz]
      clear hz
      go_enter Try.func39, Try.ntmps39
      go_wp2
      all_goals
        go_ret
        refine ⟨rfl, ?_, (((Chn.refl _ _ _).setCell (fun _ => B2.out) _).setCell (fun _ => B2.out) _).setCell (fun _ => B2.out) _⟩
        first
        | (have m1 : max (S.fail - 1) (-1) = -1 := by omega
           have m2 : max (S.crash - 1) (-1) = -1 := by omega
           rw [m1, m2]; exact ((B1.out.s7 (-1)).s6 (-1)).s9 (S.calls + 1))
        | (have m1 : max (S.fail - 1) (-1) = -1 := by omega
           have m2 : max (S.crash - 1) (-1) = S.crash - 1 := by omega
           rw [m1, m2]; exact ((B1.out.s7 (-1)).s6 (S.crash - 1)).s9 (S.calls + 1))
        | (have m1 : max (S.fail - 1) (-1) = S.fail - 1 := by omega
           have m2 : max (S.crash - 1) (-1) = -1 := by omega
           rw [m1, m2]; exact ((B1.out.s7 (S.fail - 1)).s6 (-1)).s9 (S.calls + 1))
        | (have m1 : max (S.fail - 1) (-1) = S.fail - 1 := by omega
           have m2 : max (S.crash - 1) (-1) = S.crash - 1 := by omega
           rw [m1, m2]; exact ((B1.out.s7 (S.fail - 1)).s6 (S.crash - 1)).s9 (S.calls + 1))

end Go.Proofs.Ytalinhjalnndhaa
