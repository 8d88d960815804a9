/- Contracts of word and its reference: bytes and numbers. -/
import Derived.Test.YtalinhjalnndhaaWordE
namespace Go.Proofs.Ytalinhjalnndhaa
set_option maxRecDepth 100000
open Go.RowKit M

theorem bytesN_succ (k v : Nat) : bytesN (k + 1) v = bytesN k v ++ [byt v k] := by simp [bytesN, List.range_succ]
theorem byt_eq (v j : Nat) : byt v j = v / 256 ^ j % 256 := by
  unfold byt
  rw [Nat.pow_mul]
theorem div256 (v j : Nat) : v / 256 ^ j / 256 = v / 256 ^ (j + 1) := by rw [Nat.div_div_eq_div_mul, Nat.pow_succ]

theorem conv_one (w : World) (b : Nat) : (convert 76 9 (.slice (some ⟨w.heap.size, 0, none⟩) 1 1)).run Try.prog (w.alloc (.cells #[.int .u8 (b : Int)] 5)) = .ok (.string (bs [b])) (w.alloc (.cells #[.int .u8 (b : Int)] 5)) := by
  refine run_convert_bytes_arg (P := Try.prog) _ 76 5 Try.underlying76 Try.underlying5 w.heap.size 0 1 1 [(b : Int)] rfl (fun i hi => ?_) 9 Try.underlying9
  obtain rfl : i = 0 := by omega
  have h := cell_one_new w (.int .u8 (b : Int)) 5 0 _ rfl
  exact h

theorem bs_append (l m : List Nat) : bs l ++ bs m = bs (l ++ m) := by
  apply ByteArray.ext
  simp [bs, strOfNums]
theorem bs_size (l : List Nat) : (bs l).size = l.length := by simp [bs, strOfNums_size]

theorem cl8_max {n : Int} {j : Nat} (hj : j ≤ 8) (hjn : (j : Int) ≤ max n 0) (h : ¬ ((j : Int) < n) ∨ ¬ j < 8) : cl8 n = j := by
  rcases cl8_cases n with ⟨h1, e⟩ | ⟨h1, e⟩ | ⟨k, h1, hk, e⟩ <;> omega

end Go.Proofs.Ytalinhjalnndhaa
