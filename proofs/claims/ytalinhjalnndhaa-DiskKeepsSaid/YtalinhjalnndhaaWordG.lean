/- Contracts of word and its reference: numbers of bytes. -/
import Derived.Test.YtalinhjalnndhaaWordF
namespace Go.Proofs.Ytalinhjalnndhaa
set_option maxRecDepth 100000
open Go.RowKit M

/-- byte i of a string -/
def bn (s : ByteArray) (i : Nat) : Nat := if h : i < s.size then (s[i]'h).toNat else 0
theorem bn_of {s : ByteArray} {i : Nat} (h : i < s.size) : (s[i]'h).toNat = bn s i := by simp [bn, h]
theorem bn_le (s : ByteArray) (i : Nat) : bn s i ≤ 255 := by
  unfold bn
  split
  · have := UInt8.toNat_lt (s[i]'(by assumption)); omega
  · omega
/-- the first m bytes of a string -/
def bnl (s : ByteArray) (m : Nat) : List Nat := (List.range m).map (bn s)
theorem bnl_length (s : ByteArray) (m : Nat) : (bnl s m).length = m := by simp [bnl]
theorem bnl_getD (s : ByteArray) (m i : Nat) (h : i < m) : (bnl s m).getD i 0 = bn s i := by simp [bnl, List.getD, h]
theorem bnl_succ (s : ByteArray) (m : Nat) : bnl s (m + 1) = bnl s m ++ [bn s m] := by simp [bnl, List.range_succ]
theorem bnl_lt (s : ByteArray) (m : Nat) : ∀ d ∈ bnl s m, d < 2 ^ 8 := by
  intro d hd
  simp [bnl] at hd
  obtain ⟨i, _, rfl⟩ := hd
  have := bn_le s i
  omega
theorem num_append (k : Nat) (l m : List Nat) : num k (l ++ m) = num k l + 2 ^ (k * l.length) * num k m := by
  induction l with
  | nil => simp [num]
  | cons d l ih =>
    simp only [List.cons_append, num, ih, List.length_cons]
    rw [Nat.mul_add, Nat.add_assoc, ← Nat.mul_assoc, ← Nat.pow_add]
    rw [show k + k * l.length = k * (l.length + 1) by rw [Nat.mul_add]; omega]
/-- the number of the first 8 bytes -/
def numN (s : ByteArray) : Nat := num 8 (bnl s (min s.size 8))

theorem num_drop_lt (s : ByteArray) (m k : Nat) (hm : m ≤ 8) (hk : 1 ≤ k) : num 8 ((bnl s m).drop k) < 72057594037927936 := by
  have h1 := num_lt 8 ((bnl s m).drop k) (fun b hb => bnl_lt s m b (List.mem_of_mem_drop hb))
  have h2 : 2 ^ (8 * ((bnl s m).drop k).length) ≤ 2 ^ 56 := Nat.pow_le_pow_right (by decide) (by simp [bnl_length]; omega)
  have h3 : (2 : Nat) ^ 56 = 72057594037927936 := by decide
  omega



theorem num_step (s : ByteArray) (k : Nat) (hk : k < 8) (hks : k < s.size) :
    bits BinOp.or IntKind.u64 ((num 8 (bnl s k) : Nat) : Int) (IntKind.u64.wrap (((s[k]'hks).toNat : Int) * 2 ^ (8 * k))) = ((num 8 (bnl s (k + 1)) : Nat) : Int) := by
  have h1 := num_lt 8 (bnl s k) (bnl_lt s k)
  rw [bnl_length] at h1
  have hp : 2 ^ (8 * k) * 2 ^ 8 ≤ 2 ^ 64 := by rw [← Nat.pow_add]; exact Nat.pow_le_pow_right (by decide) (by omega)
  have hb := bn_le s k
  have hpos := pow_pos' (8 * k)
  have h2 : bn s k * 2 ^ (8 * k) + 2 ^ (8 * k) ≤ 2 ^ (8 * k) * 2 ^ 8 := by
    have : (bn s k + 1) * 2 ^ (8 * k) ≤ 2 ^ 8 * 2 ^ (8 * k) := Nat.mul_le_mul_right _ (by omega)
    rw [Nat.add_mul, Nat.one_mul, Nat.mul_comm (2 ^ 8)] at this
    exact this
  rw [bn_of hks, bnl_succ, num_append, bnl_length, ipow, ← Int.natCast_mul, u64small (by rw [p64] at hp; omega), u64_or_nat _ _ (by rw [p64] at hp; omega) (by rw [p64] at hp; omega)]
  rw [Nat.or_comm, nat_join (8 * k) _ _ (Nat.mul_mod_left _ _) h1]
  simp only [num, Nat.mul_zero, Nat.add_zero]
  rw [Nat.mul_comm (bn s k)]; omega

end Go.Proofs.Ytalinhjalnndhaa
