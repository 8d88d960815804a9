/- The laws of layer 1 (word): the walks. -/
import Derived.Test.YtalinhjalnndhaaWordM
namespace Go.Proofs.Ytalinhjalnndhaa
set_option maxRecDepth 100000
open Go.RowKit M

theorem bch {w a b : World} (h : Below w.heap.size w a) (k : Below a.heap.size a b) : Below w.heap.size w b := h.trans (k.mono h.size)

theorem deBruijn_get : ∀ t, t < 64 → (([0, 1, 56, 2, 57, 49, 28, 3, 61, 58, 42, 50, 38, 29, 17, 4, 62, 47, 59, 36, 45, 43, 51, 22, 53, 39, 33, 30, 24, 18, 12, 5, 63, 55, 48, 27, 60, 41, 37, 16, 46, 35, 44, 21, 52, 32, 23, 11, 54, 26, 40, 15, 34, 20, 31, 10, 25, 14, 19, 9, 13, 8, 7, 6] : List Int).getD t 0) = ((deBruijn.getD t 0 : Nat) : Int) := by decide

theorem rot64_same {v : Nat} (hv : v < 18446744073709551616) (s : Nat) : rotA v 64 s = rotN v s := by
  unfold rotA rotN
  rw [p64, Nat.mod_eq_of_lt hv]
theorem rot32_same (v s : Nat) : rotA v 32 s = rotN32 (v % 4294967296) s := by
  unfold rotA rotN32
  rw [show (2 : Nat) ^ 32 = 4294967296 by decide]

theorem rotN32_lt {x s : Nat} (hx : x < 4294967296) : rotN32 x s < 4294967296 := by
  unfold rotN32
  have e : (4294967296 : Nat) = 2 ^ 32 := by decide
  rw [e]
  exact Nat.or_lt_two_pow (Nat.mod_lt _ (by decide)) (Nat.lt_of_le_of_lt (Nat.div_le_self _ _) (by rw [← e]; exact hx))

theorem cut_any (s : ByteArray) (n : Nat) (w : World) :
    Calls Try.prog 12 #[.string s, .int .i64 n] w fun e w' => e = .returned (.string (s.extract 0 n)) ∧ w = w' := by
  by_cases h : n < s.size
  · go_enter Try.func12, Try.ntmps12
    go_wp2
    go_ret
    exact ⟨rfl, rfl⟩
  · have e : s.extract 0 n = s := by
      apply ByteArray.ext
      simp [ByteArray.data_extract]
      have : s.data.size = s.size := rfl
      omega
    rw [e]
    go_enter Try.func12, Try.ntmps12
    go_wp2
    go_ret
    exact ⟨rfl, rfl⟩

end Go.Proofs.Ytalinhjalnndhaa
