/- Contracts of ordealref04: cursors. -/
import Derived.Test.YtdhbeeeofaheeaaPackQ
namespace Go.Proofs.Ytdhbeeeofaheeaa
set_option maxRecDepth 100000
open Go.RowKit M

/-- a cursor -/
def cu (T : ByteArray) (a x : Nat) : Value := .agg #[.string T, .int .i64 (a : Int), .int .i64 (x : Int)]

set_option maxHeartbeats 400000 in
theorem crawl_bad (T : ByteArray) (a x : Nat) (n : Int) (hx : x ≠ 0) (w : World) :
    Calls Try.prog 17 #[cu T a x, .int .i64 n] w fun e w' => e = .returned (.tuple #[cu T a x, .string ⟨#[]⟩]) ∧ Below w.heap.size w w' := by
  have d1 : ((x : Int) != 0) = true := by simp; omega
  unfold cu
  go_enter Try.func17, Try.ntmps17
  go_wp2
  refine bodyPost_ret (v := .tuple #[.agg #[.string T, .int .i64 (a : Int), .int .i64 (x : Int)], .string ⟨#[]⟩]) (by simp [results, go_sem]) rfl ⟨rfl, ?_⟩
  exact ((Below.refl _ _).alloc (Nat.le_refl _) _).alloc (by simp) _

set_option maxHeartbeats 400000 in
theorem crawl_end (T : ByteArray) (a : Nat) (n : Int) (ha : a ≤ T.size) (hT : T.size ≤ 1000000) (hn : n < 0 ∨ ((T.size - a : Nat) : Int) < n) (w : World) :
    Calls Try.prog 17 #[cu T a 0, .int .i64 n] w fun e w' => e = .returned (.tuple #[cu T a 2, .string ⟨#[]⟩]) ∧ Below w.heap.size w w' := by
  obtain ⟨y, hy⟩ : ∃ y, y = T.size - a := ⟨_, rfl⟩
  have ey : (T.size : Int) - (a : Int) = (y : Int) := by omega
  rw [← hy] at hn
  have hc : decide (n < 0) = true ∨ (decide (n < 0) = false ∧ decide ((y : Int) < n) = true) := by
    by_cases h : n < 0
    · exact .inl (by simpa using h)
    · exact .inr ⟨by simpa using h, by simp; omega⟩
  clear hn hy
  unfold cu
  rcases hc with d1 | ⟨d1, d2⟩
  all_goals
    go_enter Try.func17, Try.ntmps17
    go_wp2
    refine bodyPost_ret (v := .tuple #[.agg #[.string T, .int .i64 (a : Int), .int .i64 2], .string ⟨#[]⟩]) (by simp [results, go_sem]) rfl ⟨rfl, ?_⟩
    exact ((Below.refl _ _).alloc (Nat.le_refl _) _).alloc (by simp) _

set_option maxHeartbeats 400000 in
theorem crawl_ok (T : ByteArray) (a n : Nat) (hT : T.size ≤ 1000000) (hn : a + n ≤ T.size) (w : World) :
    Calls Try.prog 17 #[cu T a 0, .int .i64 (n : Int)] w fun e w' => e = .returned (.tuple #[cu T (a + n) 0, .string (T.extract a (a + n))]) ∧ Below w.heap.size w w' := by
  obtain ⟨y, hy⟩ : ∃ y, y = T.size - a := ⟨_, rfl⟩
  have ey : (T.size : Int) - (a : Int) = (y : Int) := by omega
  have d1 : decide ((n : Int) < 0) = false := by simp
  have d2 : decide ((y : Int) < (n : Int)) = false := by simp; omega
  obtain ⟨m, hm⟩ : ∃ m, m = a + n := ⟨_, rfl⟩
  have em : (a : Int) + (n : Int) = (m : Int) := by omega
  have h1 : a ≤ m := by omega
  have h2 : m ≤ T.size := by omega
  rw [← hm]
  clear hm hy hn
  unfold cu
  go_enter Try.func17, Try.ntmps17
  go_wp2
  refine bodyPost_ret (v := .tuple #[.agg #[.string T, .int .i64 (m : Int), .int .i64 0], .string (T.extract a m)]) (by simp [results, go_sem]) rfl ⟨rfl, ?_⟩
  exact ((Below.refl _ _).alloc (Nat.le_refl _) _).alloc (by simp) _

theorem crawl_any (T : ByteArray) (a x : Nat) (n : Int) (ha : a ≤ T.size) (hT : T.size ≤ 1000000) (w : World) :
    Calls Try.prog 17 #[cu T a x, .int .i64 n] w fun e w' => e = .returned (.tuple #[cu T (rawA T a x n) (rawX T a x n), .string (rawS T a x n)]) ∧ Below w.heap.size w w' := by
  by_cases hx : x = 0
  · subst hx
    by_cases hn : 0 ≤ n ∧ n ≤ ((T.size - a : Nat) : Int)
    · obtain ⟨k, rfl⟩ := Int.eq_ofNat_of_zero_le hn.1
      have h := crawl_ok T a k hT (by omega) w
      unfold rawA rawX rawS
      rw [if_pos ⟨rfl, hn⟩, if_pos rfl, if_pos hn, if_pos ⟨rfl, hn⟩, Int.toNat_natCast]
      exact h
    · have h := crawl_end T a n ha hT (by omega) w
      unfold rawA rawX rawS
      rw [if_neg (fun h => hn h.2), if_pos rfl, if_neg hn, if_neg (fun h => hn h.2)]
      exact h
  · have h := crawl_bad T a x n hx w
    unfold rawA rawX rawS
    rw [if_neg (fun h => hx h.1), if_neg hx, if_neg (fun h => hx h.1)]
    exact h
end Go.Proofs.Ytdhbeeeofaheeaa
