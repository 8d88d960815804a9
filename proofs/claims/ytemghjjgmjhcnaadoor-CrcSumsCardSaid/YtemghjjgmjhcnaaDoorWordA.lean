/- Contracts of ordealref01. -/
import Derived.Test.YtemghjjgmjhcnaaDoorBits
namespace Go.Proofs.YtemghjjgmjhcnaaDoor
open Go.RowKit M

def cl (n : Int) : Nat := if n < 0 then 0 else if 64 < n then 64 else n.toNat
theorem cl_cases (n : Int) : (n < 0 ∧ cl n = 0) ∨ (64 < n ∧ cl n = 64) ∨ (∃ k : Nat, n = k ∧ k ≤ 64 ∧ cl n = k) := by
  unfold cl
  by_cases h : n < 0
  · exact .inl ⟨h, by simp [h]⟩
  · by_cases h2 : 64 < n
    · exact .inr (.inl ⟨h2, by simp [h, h2]⟩)
    · exact .inr (.inr ⟨n.toNat, by omega, by omega, by simp [h, h2]⟩)

theorem take_le {l : List Nat} (h : ∀ b ∈ l, b ≤ 1) (k : Nat) : ∀ b ∈ l.take k, b ≤ 1 := fun b hb => h b (List.mem_of_mem_take hb)
theorem drop_le {l : List Nat} (h : ∀ b ∈ l, b ≤ 1) (k : Nat) : ∀ b ∈ l.drop k, b ≤ 1 := fun b hb => h b (List.mem_of_mem_drop hb)

/-- the cells of the first k of what is owned, from o on -/
theorem own_cells_take {w : World} {B e : Nat} {g cap n : Nat} {l : List Nat} (h : w.ownsRow B e 1 (.slice (some ⟨g, 0, none⟩) n cap) n (ints l)) (o k : Nat) (hk : k ≤ n - o) : ∀ j, j < k → w.cell? ⟨g, o + j, none⟩ = some (.int .i64 ((((l.drop o).take k).getD j 0 : Nat) : Int)) := by
  intro j hj
  rw [own_cells h o j (by omega)]
  simp [List.getD, hj]

theorem refLow_any (v : Nat) (n : Int) (hv : v < 18446744073709551616) (w : World) :
    Calls Tryd.prog 14 #[.int .u64 v, .int .i64 n] w fun e w' => e = .returned (.int .u64 ((v % 2 ^ cl n : Nat) : Int)) ∧ Below w.heap.size w w' := by
  have main : ∀ k : Nat, k ≤ 64 → ((n < 0 ∧ k = 0) ∨ (64 < n ∧ k = 64) ∨ n = k) →
      Calls Tryd.prog 14 #[.int .u64 v, .int .i64 n] w fun e w' => e = .returned (.int .u64 ((val ((bl 64 v).take k) : Nat) : Int)) ∧ Below w.heap.size w w' := by
    intro k hk hcase
    rcases hcase with ⟨hn, rfl⟩ | ⟨hn, rfl⟩ | rfl
    all_goals
      go_enter Tryd.func14, Tryd.ntmps14
      go_wp2_with fail
      refine (bits_any v hv w).mono ?_
      rintro e w1 ⟨g, cap, rfl, hcap, hg, hown, hb⟩
      have HO := Box.mk hown; clear hown
      go_wp2_with fail
      refine (value_any _ (take_le (bl_le 64 v) _) (by simp [bl_length]; try omega) g 0 _ cap (by simp [bl_length]; try omega) w1 (own_cells_take HO.out 0 _ (by omega))).mono ?_
      rintro e w2 ⟨rfl, rfl⟩
      go_wp2
      go_ret
      exact ⟨rfl, hb⟩
  rcases cl_cases n with ⟨h, e⟩ | ⟨h, e⟩ | ⟨k, h, hk, e⟩
  · rw [e]; have := main 0 (by omega) (.inl ⟨h, rfl⟩); rwa [take_bl 64 0 v (by omega), val_bl] at this
  · rw [e]; have := main 64 (by omega) (.inr (.inl ⟨h, rfl⟩)); rwa [take_bl 64 64 v (by omega), val_bl] at this
  · rw [e]; have := main k (by omega) (.inr (.inr h)); rwa [take_bl 64 k v (by omega), val_bl] at this
end Go.Proofs.YtemghjjgmjhcnaaDoor
