/- PackOne. -/
import Derived.Test.YtdhbeeeofaheeaaDoorPackJ
namespace Go.Proofs.YtdhbeeeofaheeaaDoor
set_option maxRecDepth 100000
open Go.RowKit M

theorem sb_part (T : ByteArray) (a b : Nat) (_h : b ≤ T.size) : sb (T.extract a b) = ((sb T).drop a).take (b - a) := by
  rw [sb_data, sb_data, ByteArray.data_extract, Array.toList_extract, List.extract_eq_take_drop, List.map_take, List.map_drop]
theorem raw_ok {T : ByteArray} {a x : Nat} {n : Int} (h : rawX T a x n = 0) : x = 0 ∧ 0 ≤ n ∧ n ≤ ((T.size - a : Nat) : Int) ∧ rawA T a x n = a + n.toNat ∧ rawS T a x n = T.extract a (a + n.toNat) := by
  unfold rawX at h
  by_cases hx : x = 0
  · rw [if_pos hx] at h
    by_cases hn : 0 ≤ n ∧ n ≤ ((T.size - a : Nat) : Int)
    · refine ⟨hx, hn.1, hn.2, ?_, ?_⟩
      · unfold rawA; rw [if_pos ⟨hx, hn⟩]
      · unfold rawS; rw [if_pos ⟨hx, hn⟩]
    · rw [if_neg hn] at h; omega
  · rw [if_neg hx] at h; omega

/-- what is read as a number is its bytes -/
theorem num_read {T : ByteArray} (h : numX T 0 0 = 0) : (sb T).take (numA T 0 0) = numL (numV T 0 0) ∧ numA T 0 0 ≤ T.size := by
  have hf1 := fixU_lt T 0 0 1 (by omega)
  by_cases hs : fixU T 0 0 1 < 248
  · have e1 : numX T 0 0 = rawX T 0 0 ((1 : Nat) : Int) := by unfold numX; rw [if_pos hs]; rfl
    rw [e1] at h
    obtain ⟨_, _, hle, hA, hS⟩ := raw_ok h
    have e2 : numA T 0 0 = 1 := by unfold numA; rw [if_pos hs]; exact hA
    have e3 : numV T 0 0 = fixU T 0 0 1 := by unfold numV; rw [if_pos hs]
    have hu : fixU T 0 0 1 = un ((sb T).take 1) := by
      unfold fixU; rw [hS]
      have := sb_part T 0 1 (by omega)
      rw [List.drop_zero] at this
      exact congrArg un this
    rw [e2, e3]
    refine ⟨?_, by omega⟩
    unfold numL
    rw [if_pos hs, hu]
    have hl : ((sb T).take 1).length = 1 := by rw [List.length_take, sb_length]; omega
    match hm : (sb T).take 1, hl with
    | [c], _ => rw [un_one]
  · have hb := fun (hE : numE T 0 0 = 0) => hE
    have e1 : numX T 0 0 = numE T 0 0 := by unfold numX; rw [if_neg hs]
    rw [e1] at h
    obtain ⟨k, hk⟩ : ∃ k, k = fixU T 0 0 1 - 247 := ⟨_, rfl⟩
    have hk8 : 1 ≤ k ∧ k ≤ 8 := by omega
    have h' := h
    unfold numE at h'
    rw [← hk] at h'
    by_cases hc : fixU T (rawA T 0 0 1) (rawX T 0 0 1) k < 248 ∨ szN (fixU T (rawA T 0 0 1) (rawX T 0 0 1) k) ≠ k
    · rw [if_pos hc] at h'
      split at h'
      · omega
      · rename_i hh; exact absurd h' hh
    · rw [if_neg hc] at h'
      obtain ⟨hx1, _, hle2, hA2, hS2⟩ := raw_ok h'
      obtain ⟨_, _, hle1, hA1, hS1⟩ := raw_ok hx1
      have ha1 : rawA T 0 0 1 = 1 := hA1
      rw [ha1] at hc hle2 hA2 hS2
      rw [hx1] at hc hA2 hS2
      have hT : 1 + k ≤ T.size := by omega
      have e2 : numA T 0 0 = 1 + k := by
        unfold numA; rw [if_neg hs, if_pos h, ← hk, ha1, hx1, hA2, Int.toNat_natCast]
      have e3 : numV T 0 0 = fixU T 1 0 k := by unfold numV; rw [if_neg hs, if_pos h, ← hk, ha1, hx1]
      have hu : fixU T 1 0 k = un (((sb T).drop 1).take k) := by
        unfold fixU; rw [hS2, Int.toNat_natCast, sb_part T 1 (1 + k) hT, show 1 + k - 1 = k by omega]
      have hf : fixU T 0 0 1 = un ((sb T).take 1) := by
        unfold fixU
        have hS1' : rawS T 0 0 ((1 : Nat) : Int) = T.extract 0 (0 + 1) := hS1
        rw [hS1']
        have := sb_part T 0 1 (by omega)
        rw [List.drop_zero] at this
        exact congrArg un this
      rw [e2, e3]
      refine ⟨?_, hT⟩
      have hne : ¬ fixU T 1 0 k < 248 := fun hh => hc (.inl hh)
      have hsz : szN (fixU T 1 0 k) = k := by
        by_cases he : szN (fixU T 1 0 k) = k
        · exact he
        · exact absurd (.inr he) hc
      unfold numL
      rw [if_neg hne, hsz, hu]
      have hlk : (((sb T).drop 1).take k).length = k := by rw [List.length_take, List.length_drop, sb_length]; omega
      have hfx := fx_un (l := ((sb T).drop 1).take k) (fun d hd => sb_lt T d (List.mem_of_mem_drop (List.mem_of_mem_take hd)))
      rw [hlk] at hfx
      rw [hfx]
      have hl1 : ((sb T).take 1).length = 1 := by rw [List.length_take, sb_length]; omega
      rw [List.take_add]
      match hm : (sb T).take 1, hl1 with
      | [c], _ =>
        rw [hm, un_one] at hf
        rw [show 247 + k = c by omega]
        rfl

theorem txt_read {T : ByteArray} (_hT : T.size ≤ 1000000) {most : Int} (h : txtX T 0 0 most = 0) (ha : txtA T 0 0 most = T.size) : sb T = txtL (sb (txtS T 0 0 most)) := by
  have hX := h
  unfold txtX at hX
  obtain ⟨hE, hk0, hk1, hA, hS⟩ := raw_ok hX
  have hE' := hE
  unfold txtE at hE'
  by_cases hc : max most 0 < (numV T 0 0 : Int)
  · rw [if_pos hc] at hE'
    split at hE'
    · omega
    · rename_i hh; exact absurd hE' hh
  · rw [if_neg hc] at hE'
    obtain ⟨hn, hnle⟩ := num_read hE'
    have ha2 := ha
    unfold txtA at ha2
    rw [if_pos h, hA] at ha2
    have hvl := numV_lt T 0 0
    have hK : txtK T 0 0 = (numV T 0 0 : Int) := by
      unfold txtK at hk0 hk1 ⊢
      rw [IntKind.wrap_i64] at hk0 hk1 ⊢
      omega
    rw [hK, Int.toNat_natCast] at ha2
    have hS' : txtS T 0 0 most = T.extract (numA T 0 0) (numA T 0 0 + numV T 0 0) := by
      unfold txtS; rw [hS, hK, Int.toNat_natCast]
    have hsb : sb (txtS T 0 0 most) = (sb T).drop (numA T 0 0) := by
      rw [hS', sb_part _ _ _ (by omega), List.take_of_length_le (by rw [List.length_drop, sb_length]; omega)]
    have hlen : (sb (txtS T 0 0 most)).length = numV T 0 0 := by rw [hsb, List.length_drop, sb_length]; omega
    unfold txtL
    rw [hlen, ← hn, hsb, List.take_append_drop]
end Go.Proofs.YtdhbeeeofaheeaaDoor
