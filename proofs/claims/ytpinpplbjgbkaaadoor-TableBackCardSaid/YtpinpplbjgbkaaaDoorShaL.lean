/- Contracts of sha: Compare of two digests. -/
import Derived.Test.YtpinpplbjgbkaaaDoorShaK
namespace Go.Proofs.YtpinpplbjgbkaaaDoor
set_option maxRecDepth 100000
open Go.RowKit M

theorem shaCompare_any (l1 l2 : List Nat) (h1 : l1.length = 32) (h2 : l2.length = 32) (t1 : ∀ d ∈ l1, d < 256) (t2 : ∀ d ∈ l2, d < 256) (w : World) :
    Calls Tryd.prog 35 #[.agg (byts l1).toArray, .agg (byts l2).toArray] w fun e w' => e = .returned (.int .i64 (Lib.compareBytes (u8l l1) (u8l l2))) ∧ Below w.heap.size w w' := by
  obtain ⟨wr, hwr⟩ : ∃ wr, wr = (w.alloc (.cells (byts l1).toArray 24)).alloc (.cells (byts l2).toArray 24) := ⟨_, rfl⟩
  have hb : Below w.heap.size w wr := by rw [hwr]; exact ((Below.refl _ _).alloc (Nat.le_refl _) _).alloc (by simp) _
  have r2 : wr.rangeAt (w.heap.size + 1) 0 (byts l2) := by rw [hwr]; exact range_new _ _ _ _ (by simp)
  have r1 : wr.rangeAt w.heap.size 0 (byts l1) := by
    rw [hwr]
    exact range_below ((Below.refl _ _).alloc (Nat.le_refl _) _) (range_new w _ _ _ rfl)
  have q : ∀ k, Calls Tryd.prog 51 #[.slice (some ⟨w.heap.size, 0, none⟩) 32 32, .slice (some ⟨w.heap.size + 1, 0, none⟩) 32 32] (wr.drewN k) fun e w' => e = .returned (.int .i64 (Lib.compareBytes (u8l l1) (u8l l2))) ∧ ∃ m, w' = wr.drewN m := fun k =>
    quiet_l (bytesCompare_any _ _ _ _ l1 l2 h1 h2 t1 t2 (wr.drewN k) (fun j v hv => by simpa using r1 j v hv) (fun j v hv => by simpa using r2 j v hv))
  obtain ⟨A1, hA1⟩ : ∃ A, A = byts l1 := ⟨_, rfl⟩
  obtain ⟨A2, hA2⟩ : ∃ A, A = byts l2 := ⟨_, rfl⟩
  obtain ⟨R, hR⟩ : ∃ R, R = Lib.compareBytes (u8l l1) (u8l l2) := ⟨_, rfl⟩
  rw [← hR] at q ⊢
  rw [← hA1, ← hA2] at hwr ⊢
  clear h1 h2 t1 t2 r1 r2 hR hA1 hA2
  subst hwr
  have HB := Box.mk hb
  have Q := Box.mk q
  clear hb q
  go_enter Tryd.func35, Tryd.ntmps35
  go_wp2
  go_quiet (first
    | (go_at_call 51; exact Q.out _)
    | exact Q.out _)
  go_wp2
  go_ret
  exact ⟨rfl, below_drewN HB.out _⟩
end Go.Proofs.YtpinpplbjgbkaaaDoor
