/- PackOne: the walk. -/
import Derived.Test.YtdhbeeeofaheeaaPackK
import Derived.Test.YtdhbeeeofaheeaaWordN
namespace Go.Proofs.Ytdhbeeeofaheeaa
set_option maxRecDepth 100000
open Go.RowKit M

theorem cut_le (s : ByteArray) (n : Nat) : (s.extract 0 n).size ≤ n := by simp; omega
theorem fixU_err {T : ByteArray} {a x : Nat} (h : x ≠ 0) : fixU T a x 1 = 0 := fixU_none (by unfold rawX; rw [if_neg h]; exact h)
theorem num_err {T : ByteArray} {a x : Nat} (h : x ≠ 0) : numA T a x = a ∧ numX T a x = x ∧ numV T a x = 0 := by
  have e := fixU_err (T := T) (a := a) h
  refine ⟨?_, ?_, ?_⟩
  · unfold numA; rw [e, if_pos (by omega)]; unfold rawA; rw [if_neg (fun hh => h hh.1)]
  · unfold numX; rw [e, if_pos (by omega)]; unfold rawX; rw [if_neg h]
  · unfold numV; rw [e, if_pos (by omega)]

theorem rd_below {w w' : World} {b : Nat} {T : ByteArray} {a x : Nat} (h : Rd w b T a x) (hb : Below w.heap.size w w') : Rd w' b T a x := by
  have hlt : b < w.heap.size := World.block_lt_of_cell? w _ h.c0
  have hc : ∀ o, w'.cell? ⟨b, o, none⟩ = w.cell? ⟨b, o, none⟩ := fun o => hb.cell (p := ⟨b, o, none⟩) hlt
  have hf : ∀ o, w'.frozen? ⟨b, o, none⟩ = w.frozen? ⟨b, o, none⟩ := fun o => hb.frozen (p := ⟨b, o, none⟩) hlt
  exact ⟨by rw [hc]; exact h.c0, by rw [hc]; exact h.c1, by rw [hc]; exact h.c2, by rw [hf]; exact h.f1, by rw [hf]; exact h.f2, h.le, h.sz⟩
theorem done_zero {x a : Nat} {T : ByteArray} (hle : a ≤ T.size) (h : (if x = 0 ∧ a < T.size then 3 else x) = 0) : x = 0 ∧ a = T.size := by
  by_cases hc : x = 0 ∧ a < T.size
  · rw [if_pos hc] at h; omega
  · rw [if_neg hc] at h; exact ⟨h, by omega⟩

end Go.Proofs.Ytdhbeeeofaheeaa
