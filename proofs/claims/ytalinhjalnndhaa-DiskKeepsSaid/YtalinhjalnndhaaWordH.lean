/- Contracts of word and its reference: the bytes in reverse. -/
import Derived.Test.YtalinhjalnndhaaWordG
import Derived.Lib.ConvBytes
namespace Go.Proofs.Ytalinhjalnndhaa
set_option maxRecDepth 100000
open Go.RowKit M

/-- the number of the first i bytes of v in reverse -/
def revN (i v : Nat) : Nat := num 8 (bytesN i v).reverse

theorem revN_succ (i v : Nat) : revN (i + 1) v = byt v i + 256 * revN i v := by
  unfold revN
  rw [bytesN_succ, List.reverse_append]
  simp [num]
theorem byt_lt (v i : Nat) : byt v i < 256 := by unfold byt; omega
theorem bytesN_lt (k v : Nat) : ∀ d ∈ bytesN k v, d < 2 ^ 8 := by
  intro d hd; simp [bytesN] at hd; obtain ⟨i, _, rfl⟩ := hd; have := byt_lt v i; omega
theorem bytesN_length (k v : Nat) : (bytesN k v).length = k := by simp [bytesN]
theorem revN_lt (i v : Nat) (hi : i ≤ 7) : revN i v < 72057594037927936 := by
  have h1 := num_lt 8 (bytesN i v).reverse (fun b hb => bytesN_lt i v b (by simpa using hb))
  have h2 : 2 ^ (8 * (bytesN i v).reverse.length) ≤ 2 ^ 56 := Nat.pow_le_pow_right (by decide) (by simp [bytesN_length]; omega)
  have h3 : (2 : Nat) ^ 56 = 72057594037927936 := by decide
  unfold revN; omega

theorem field_byt {v i : Nat} (hi : i < 8) : fieldN v (8 * (i : Int)) 8 = byt v i := by
  unfold fieldN byt
  rw [if_pos (by omega)]
  have e : (8 * (i : Int)).toNat = 8 * i := by omega
  have e2 : cl 8 = 8 := by decide
  rw [e, e2]

theorem or_shift {r b : Nat} (hr : r < 72057594037927936) (hb : b < 256) : bits BinOp.or IntKind.u64 ((r : Int) * 256) (b : Int) = ((b + 256 * r : Nat) : Int) := by
  have e : ((r : Int) * 256) = ((r * 256 : Nat) : Int) := by omega
  rw [e, u64_or_nat _ _ (by omega) (by omega), nat_join 8 _ _ (by omega) (by omega)]
  omega

theorem num_bnl (l : List Nat) (h : l.length = 8) (hl : ∀ d ∈ l, d < 2 ^ 8) : numN (bs l) = num 8 l := by
  unfold numN
  rw [bs_size, h]
  congr 1
  apply List.ext_getElem
  · simp [bnl_length, h]
  · intro i h1 h2
    have h3 := hl l[i] (List.getElem_mem h2)
    simp only [bnl, List.getElem_map, List.getElem_range]
    have hs : i < (bs l).size := by rw [bs_size]; exact h2
    rw [← bn_of hs]
    simp [bs, strOfNums, ByteArray.getElem_eq_getElem_data]
    omega

/-- a string turned into bytes: new cells that hold them -/
theorem str_bytes (w : World) (s : ByteArray) : ∃ cap W, (convert 9 76 (.string s)).run Try.prog w = .ok (.slice (some ⟨w.heap.size, 0, none⟩) s.size cap) W ∧
    (∀ j, j < s.size → W.cell? ⟨w.heap.size, j, none⟩ = some (.int .u8 ((bn s j : Nat) : Int))) ∧ Below w.heap.size w W ∧ w.heap.size < W.heap.size := by
  refine ⟨_, _, Lib.run_convert_string_bytes (P := Try.prog) w 9 76 5 s Try.underlying9 Try.underlying76 Try.underlying5, fun j hj => ?_, ⟨rfl, rfl, rfl, ?_, fun k hk => Lib.bytesWorld_at_old w _ s k hk⟩, ?_⟩
  · rw [Lib.bytesWorld_cell w _ s j hj, ← bn_of hj]
    simp [List.getD, hj, ByteArray.getElem_eq_getElem_data]
  · rw [Lib.bytesWorld_size]; omega
  · rw [Lib.bytesWorld_size]; omega

theorem bn_bs (l : List Nat) (hl : ∀ d ∈ l, d < 2 ^ 8) (j : Nat) (hj : j < l.length) : bn (bs l) j = l.getD j 0 := by
  have h3 := hl l[j] (List.getElem_mem hj)
  have hs : j < (bs l).size := by rw [bs_size]; exact hj
  rw [← bn_of hs]
  simp [bs, strOfNums, ByteArray.getElem_eq_getElem_data, List.getD, hj]
  omega

end Go.Proofs.Ytalinhjalnndhaa
