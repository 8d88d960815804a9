/- The laws of layer 1 (word): numbers and bytes; there and back; fields that are laid. -/
import Derived.Test.YtdhbeeeofaheeaaDoorWordN
namespace Go.Proofs.YtdhbeeeofaheeaaDoor
set_option maxRecDepth 100000
open Go.RowKit M

theorem nb_cases (n : Int) : (n = 1 ∧ nb n = 8) ∨ (n = 2 ∧ nb n = 16) ∨ (n = 4 ∧ nb n = 32) ∨ ((n == 1) = false ∧ (n == 2) = false ∧ (n == 4) = false ∧ nb n = 64) := by
  unfold nb
  by_cases h1 : n = 1
  · subst h1; exact .inl ⟨rfl, by simp⟩
  by_cases h2 : n = 2
  · subst h2; exact .inr (.inl ⟨rfl, by simp⟩)
  by_cases h4 : n = 4
  · subst h4; exact .inr (.inr (.inl ⟨rfl, by simp⟩))
  · exact .inr (.inr (.inr ⟨by simpa using h1, by simpa using h2, by simpa using h4, by rw [if_neg (by omega)]⟩))

end Go.Proofs.YtdhbeeeofaheeaaDoor
