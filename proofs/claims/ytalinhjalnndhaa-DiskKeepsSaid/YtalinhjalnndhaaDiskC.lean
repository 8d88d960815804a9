/- Contracts of disk: Free, chosen, find, apply. -/
import Derived.Test.YtalinhjalnndhaaDiskB
import Derived.Maps.OwnIn
import Derived.Deep.DeepCutAuto
namespace Go.Proofs.Ytalinhjalnndhaa
set_option maxRecDepth 100000
open Go.RowKit M

/-- nothing of the old has changed, but what is drawn -/
def Same (r : Value) (w : World) (e : Ending) (w' : World) : Prop := e = .returned r ∧ ∃ n, w' = w.drewN n

theorem dfree_any (L : Lay) (S : DS) (w : World) (h : DiskAt w L S) (hf : Fine S) :
    Calls Try.prog 24 #[.pointer (some ⟨L.b, 0, none⟩)] w (Same (.int .i64 S.free) w) := by
  have c4 := h.head.c4; have c5 := h.head.c5
  have q1 := hf.room0; have q2 := hf.room1; have q3 := hf.used0; have q4 := hf.used1
  have e1 : IntKind.i64.wrap (S.room - S.used) = S.room - S.used := IntWalk.i64_in _ (by omega)
  unfold DS.free
  clear h hf
  rcases Int.lt_or_le (S.room - S.used) 0 with hl | hl
  · have e2 : max (S.room - S.used) 0 = 0 := by omega
    rw [e2]
    have e3 : decide (S.room - S.used < 0) = true := by simpa using hl
    clear e2
    go_enter Try.func24, Try.ntmps24
    go_wp2_with fail
    go_quiet (fail)
    go_wp2
    go_ret
    exact ⟨rfl, _, rfl⟩
  · have e2 : max (S.room - S.used) 0 = S.room - S.used := by omega
    rw [e2]
    have e3 : decide (S.room - S.used < 0) = false := by simpa using hl
    clear e2
    go_enter Try.func24, Try.ntmps24
    go_wp2_with fail
    go_quiet (fail)
    go_wp2
    go_ret
    exact ⟨rfl, _, rfl⟩

theorem zero_file (w : World) : (zeroValue 74).run Try.prog w = .ok (.pointer none) w := by kernel_rfl

theorem find_any (L : Lay) (S : DS) (w : World) (h : DiskAt w L S) (name : ByteArray) (hn : name.size ≤ maxLen) :
    Calls Try.prog 41 #[.pointer (some ⟨L.b, 0, none⟩), .string name] w fun e w' =>
      e = .returned (.tuple #[.pointer ((findN S name).map fun n => ⟨L.loc n, 0, none⟩), .int .i64 (findC S name)]) ∧ w = w' := by
  have c8 := h.head.c8; have c0 := h.head.c0
  have lk := h.names.look (P := Try.prog) (k := 9) (t := 53) (e := 74) Try.underlying9 Try.underlying53 (zero_file w) name hn
  unfold findN findC
  clear h
  obtain ⟨dead, hd⟩ : ∃ d, d = S.dead := ⟨_, rfl⟩
  rw [← hd] at c8 ⊢
  clear hd
  cases dead
  · cases hg : kget S.names name with
    | none =>
      rw [hg] at lk
      clear hg
      go_enter Try.func41, Try.ntmps41
      go_wp2
      go_ret2
      exact ⟨rfl, rfl⟩
    | some n =>
      rw [hg] at lk
      clear hg
      go_enter Try.func41, Try.ntmps41
      go_wp2
      go_ret2
      exact ⟨rfl, rfl⟩
  · clear lk
    go_enter Try.func41, Try.ntmps41
    go_wp2
    go_ret2
    exact ⟨rfl, rfl⟩

end Go.Proofs.Ytalinhjalnndhaa
