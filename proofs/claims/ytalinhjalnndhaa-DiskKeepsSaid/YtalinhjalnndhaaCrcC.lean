/- The laws of layer 2 (crc): sums, joined sums. -/
import Derived.Test.YtalinhjalnndhaaCrcB
namespace Go.Proofs.Ytalinhjalnndhaa
set_option maxRecDepth 100000
open Go.RowKit M

theorem cut_size (s : ByteArray) (n : Nat) : (s.extract 0 n).size ≤ n := by simp; omega

theorem compl_compl {x : Nat} (h : x < 4294967296) : 4294967295 - (4294967295 - x) = x := by omega
theorem more_append (sum : Nat) (l m : List Nat) (hl : ∀ d ∈ l, d < 2 ^ 8) : more (more sum l) m = more sum (l ++ m) := by
  have h := crcF_lt (show 4294967295 - sum < 4294967296 by omega) l hl
  unfold more
  rw [compl_compl h, crcF_append _ _ _ hl]
theorem join_math (l m : List Nat) (hl : ∀ d ∈ l, d < 2 ^ 8) (hm : ∀ d ∈ m, d < 2 ^ 8) : sti (8 * m.length) (ofN l) ^^^ ofN m = ofN (l ++ m) := by
  have h1 := crcF_lt (show 4294967295 < 4294967296 by omega) l hl
  have h2 := crcF_lt (show 4294967295 < 4294967296 by omega) m hm
  have h3 := crcF_lt (show 4294967295 < 4294967296 by omega) (l ++ m) (fun d hd => by rcases List.mem_append.1 hd with h | h; exact hl d h; exact hm d h)
  unfold ofN more
  simp only [Nat.sub_zero]
  rw [compl32 h3, compl32 h2, compl32 h1, crcF_append _ _ _ hl]
  have e : crcF 4294967295 l = 4294967295 ^^^ (crcF 4294967295 l ^^^ 4294967295) := by
    rw [Nat.xor_comm 4294967295, Nat.xor_assoc, Nat.xor_self, Nat.xor_zero]
  conv => rhs; rw [e]
  rw [crcF_xor, ← Nat.xor_assoc, Nat.xor_comm (sti _ _)]

theorem sb_append (s t : ByteArray) : sb (s ++ t) = sb s ++ sb t := by
  apply List.ext_getElem
  · simp [sb, bnl_length]
  · intro i h1 h2
    simp only [sb, bnl_length] at h1
    have hs : i < (s ++ t).size := h1
    rw [List.getElem_append]
    split
    · rename_i h
      simp only [sb, bnl_length] at h
      simp only [sb, bnl, List.getElem_map, List.getElem_range]
      rw [← bn_of hs, ← bn_of h, ByteArray.getElem_append_left h]
    · rename_i h
      simp only [sb, bnl_length] at h
      simp only [sb, bnl, List.getElem_map, List.getElem_range, List.length_map, List.length_range]
      have ht : i - s.size < t.size := by simp at hs; omega
      rw [← bn_of hs, ← bn_of ht, ByteArray.getElem_append_right (by omega)]

end Go.Proofs.Ytalinhjalnndhaa
