/- Contracts of ordealref01. -/
import Derived.Test.YtbcbhofbikdfiaaDoorBits
namespace Go.Proofs.YtbcbhofbikdfiaaDoor
set_option maxRecDepth 100000
open Go.RowKit M

def cl (n : Int) : Nat := if n < 0 then 0 else if 64 < n then 64 else n.toNat
theorem cl_cases (n : Int) : (n < 0 ∧ cl n = 0) ∨ (64 < n ∧ cl n = 64) ∨ (∃ k : Nat, n = k ∧ k ≤ 64 ∧ cl n = k) := by
  unfold cl
  by_cases h : n < 0
  · exact .inl ⟨h, by simp [h]⟩
  · by_cases h2 : 64 < n
    · exact .inr (.inl ⟨h2, by simp [h, h2]⟩)
    · exact .inr (.inr ⟨n.toNat, by omega, by omega, by simp [h, h2]⟩)

theorem take_le {l : List Nat} (h : ∀ b ∈ l, b ≤ 1) (k : Nat) : ∀ b ∈ l.take k, b ≤ 1 := fun b hb => h b (List.mem_of_mem_take hb)
theorem drop_le {l : List Nat} (h : ∀ b ∈ l, b ≤ 1) (k : Nat) : ∀ b ∈ l.drop k, b ≤ 1 := fun b hb => h b (List.mem_of_mem_drop hb)

/-- the cells of the first k of what is owned, from o on -/
theorem own_cells_take {w : World} {B e : Nat} {g cap n : Nat} {l : List Nat} (h : w.ownsRow B e 1 (.slice (some ⟨g, 0, none⟩) n cap) n (ints l)) (o k : Nat) (hk : k ≤ n - o) : ∀ j, j < k → w.cell? ⟨g, o + j, none⟩ = some (.int .i64 ((((l.drop o).take k).getD j 0 : Nat) : Int)) := by
  intro j hj
  rw [own_cells h o j (by omega)]
  simp [List.getD, hj]

end Go.Proofs.YtbcbhofbikdfiaaDoor
