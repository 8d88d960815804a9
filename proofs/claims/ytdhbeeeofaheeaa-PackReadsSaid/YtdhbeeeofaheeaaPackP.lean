/- What is written is read: the mathematics. -/
import Derived.Test.YtdhbeeeofaheeaaPackO
namespace Go.Proofs.Ytdhbeeeofaheeaa
set_option maxRecDepth 100000
open Go.RowKit M

section
variable {T : ByteArray} {A M B : List Nat}
theorem at_mid (hT : sb T = A ++ (M ++ B)) : A.length + M.length ≤ T.size ∧ ((sb T).drop A.length).take M.length = M := by
  constructor
  · have h := congrArg List.length hT
    rw [sb_length, List.length_append, List.length_append] at h; omega
  · rw [hT, List.drop_left, List.take_left]
theorem at_raw (hT : sb T = A ++ (M ++ B)) : rawA T A.length 0 (M.length : Int) = A.length + M.length ∧ rawX T A.length 0 (M.length : Int) = 0 ∧ sb (rawS T A.length 0 (M.length : Int)) = M := by
  obtain ⟨h1, h2⟩ := at_mid hT
  have c : 0 ≤ (M.length : Int) ∧ (M.length : Int) ≤ ((T.size - A.length : Nat) : Int) := by omega
  refine ⟨?_, ?_, ?_⟩
  · unfold rawA; rw [if_pos ⟨rfl, c⟩, Int.toNat_natCast]
  · unfold rawX; rw [if_pos rfl, if_pos c]
  · unfold rawS; rw [if_pos ⟨rfl, c⟩, Int.toNat_natCast, sb_part _ _ _ h1, Nat.add_sub_cancel_left, h2]
theorem at_fix {k : Nat} (hT : sb T = A ++ (M ++ B)) (hk : M.length = k) : fixU T A.length 0 k = un M := by
  unfold fixU
  rw [← hk, (at_raw hT).2.2]
end

theorem fix_back {T : ByteArray} {A B : List Nat} {k v : Nat} (hT : sb T = A ++ (fx k v ++ B)) : rawA T A.length 0 (k : Int) = A.length + k ∧ rawX T A.length 0 (k : Int) = 0 ∧ fixU T A.length 0 k = v % 2 ^ (8 * k) := by
  have h := at_raw hT
  have hl := fx_length k v
  rw [hl] at h
  exact ⟨h.1, h.2.1, by rw [at_fix hT hl, un_fx]⟩
theorem fx_mod (k v : Nat) : fx k (v % 2 ^ (8 * k)) = fx k v := by
  have h := fx_un (fx_lt k v)
  rw [fx_length, un_fx] at h
  exact h
theorem numr_back {T : ByteArray} {A B : List Nat} {v : Nat} (hv : v < 18446744073709551616) (hT : sb T = A ++ (numL v ++ B)) :
    numA T A.length 0 = A.length + (numL v).length ∧ numX T A.length 0 = 0 ∧ numV T A.length 0 = v := by
  by_cases h : v < 248
  · have e : numL v = [v] := by unfold numL; rw [if_pos h]
    rw [e] at hT ⊢
    have f := at_fix (k := 1) hT rfl
    rw [un_one] at f
    obtain ⟨h1, h2, _⟩ := at_raw hT
    refine ⟨?_, ?_, ?_⟩
    · unfold numA; rw [f, if_pos h]; exact h1
    · unfold numX; rw [f, if_pos h]; exact h2
    · unfold numV; rw [f, if_pos h]
  · have hz := szN_bd v
    have e : numL v = (247 + szN v) :: fx (szN v) v := by unfold numL; rw [if_neg h]
    rw [e] at hT ⊢
    have hT1 : sb T = A ++ ([247 + szN v] ++ (fx (szN v) v ++ B)) := by rw [hT]; simp
    have hT2 : sb T = (A ++ [247 + szN v]) ++ (fx (szN v) v ++ B) := by rw [hT]; simp
    have f := at_fix (k := 1) hT1 rfl
    rw [un_one] at f
    obtain ⟨h1, h2, _⟩ := at_raw hT1
    have h1 : rawA T A.length 0 1 = A.length + 1 := h1
    have h2 : rawX T A.length 0 1 = 0 := h2
    obtain ⟨g1, g2, g3⟩ := fix_back hT2
    have hl : (A ++ [247 + szN v]).length = A.length + 1 := by simp
    rw [hl] at g1 g2 g3
    rw [Nat.mod_eq_of_lt (szN_lt hv)] at g3
    have hE : numE T A.length 0 = 0 := by
      unfold numE
      rw [f, Nat.add_sub_cancel_left, h1, h2, g3, g2, if_neg (by omega)]
    have hn : ¬ 247 + szN v < 248 := by omega
    refine ⟨?_, ?_, ?_⟩
    · unfold numA
      rw [f, if_neg hn, hE, if_pos rfl, Nat.add_sub_cancel_left, h1, h2, g1]
      simp [fx_length]; omega
    · unfold numX; rw [f, if_neg hn, hE]
    · unfold numV; rw [f, if_neg hn, hE, if_pos rfl, Nat.add_sub_cancel_left, h1, h2, g3]
theorem txt_back {T : ByteArray} {A B s : List Nat} (hs : s.length ≤ 300) (hT : sb T = A ++ (txtL s ++ B)) :
    txtA T A.length 0 300 = A.length + (txtL s).length ∧ txtX T A.length 0 300 = 0 ∧ sb (txtS T A.length 0 300) = s := by
  have hT1 : sb T = A ++ (numL s.length ++ (s ++ B)) := by rw [hT]; simp [txtL]
  have hT2 : sb T = (A ++ numL s.length) ++ (s ++ B) := by rw [hT]; simp [txtL]
  obtain ⟨h1, h2, h3⟩ := numr_back (v := s.length) (by omega) hT1
  obtain ⟨g1, g2, g3⟩ := at_raw hT2
  rw [List.length_append, ← h1] at g1 g2 g3
  have hE : txtE T A.length 0 300 = 0 := by unfold txtE; rw [h3, h2, if_neg (by omega)]
  have hK : txtK T A.length 0 = (s.length : Int) := by unfold txtK; rw [h3]; exact IntWalk.i64_in _ (by omega)
  have hX : txtX T A.length 0 300 = 0 := by unfold txtX; rw [hE, hK, g2]
  refine ⟨?_, hX, ?_⟩
  · unfold txtA; rw [if_pos hX, hE, hK, g1, h1]; simp [txtL]; omega
  · unfold txtS; rw [hE, hK, g3]

theorem acc_prefix {K N : Nat → Int} {V : Nat → Nat} {S : Nat → ByteArray} {k : Nat} : ∀ m, k < m → ∃ B, accL K N V S m = accL K N V S k ++ (thL (K k) (N k) (V k) (S k) ++ B)
  | 0, h => by omega
  | m + 1, h => by
    rcases Nat.lt_or_ge k m with h1 | h1
    · obtain ⟨B, hB⟩ := acc_prefix m h1 (K := K) (N := N) (V := V) (S := S)
      exact ⟨B ++ thL (K m) (N m) (V m) (S m), by rw [accL, hB]; simp⟩
    · obtain rfl : k = m := by omega
      exact ⟨[], by rw [accL, List.append_nil]⟩
theorem acc_lt (K N : Nat → Int) (V : Nat → Nat) (S : Nat → ByteArray) : ∀ k, ∀ d ∈ accL K N V S k, d < 2 ^ 8
  | 0, d, h => by cases h
  | k + 1, d, h => by
    rcases List.mem_append.1 h with h | h
    · exact acc_lt K N V S k d h
    · exact thL_lt _ _ _ _ d h
end Go.Proofs.Ytdhbeeeofaheeaa
