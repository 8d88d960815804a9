/- Reading on from a place: the mathematics of a reader. -/
import Derived.Test.YtpinpplbjgbkaaaDoorTabI
namespace Go.Proofs.YtpinpplbjgbkaaaDoor
set_option maxRecDepth 100000
open Go.RowKit M

theorem sh_sb {T : ByteArray} {a : Nat} (_ha : a ≤ T.size) : sb (T.extract a T.size) = (sb T).drop a := by
  rw [sb_part _ _ _ (Nat.le_refl _), List.take_of_length_le (by rw [List.length_drop, sb_length]; omega)]
section
variable {T : ByteArray} {a : Nat} (ha : a ≤ T.size)
include ha
theorem sh_size : (T.extract a T.size).size = T.size - a := by
  have h := congrArg List.length (sh_sb ha)
  rwa [sb_length, List.length_drop, sb_length] at h
theorem rawX_sh (p x : Nat) (n : Int) : rawX T (a + p) x n = rawX (T.extract a T.size) p x n := by
  unfold rawX; rw [sh_size ha, Nat.sub_add_eq]
theorem rawA_sh (p x : Nat) (n : Int) : rawA T (a + p) x n = a + rawA (T.extract a T.size) p x n := by
  unfold rawA; rw [sh_size ha, Nat.sub_add_eq]; split <;> omega
theorem rawS_sh (p x : Nat) (n : Int) : rawS T (a + p) x n = rawS (T.extract a T.size) p x n := by
  unfold rawS
  rw [sh_size ha, Nat.sub_add_eq]
  split
  · rename_i h
    obtain ⟨_, h0, h1⟩ := h
    have e : sb (T.extract (a + p) (a + p + n.toNat)) = sb ((T.extract a T.size).extract p (p + n.toNat)) := by
      by_cases hp : p + n.toNat ≤ T.size - a
      · rw [sb_part _ _ _ (by omega), sb_part _ _ _ (by rw [sh_size ha]; exact hp), sh_sb ha, List.drop_drop]
        congr 1; omega
      · have hn : n.toNat = 0 := by omega
        have l1 : (sb (T.extract (a + p) (a + p + n.toNat))).length = 0 := by rw [sb_length]; simp; omega
        have l2 : (sb ((T.extract a T.size).extract p (p + n.toNat))).length = 0 := by rw [sb_length]; simp; omega
        rw [List.eq_nil_of_length_eq_zero l1, List.eq_nil_of_length_eq_zero l2]
    have := congrArg bs e
    rwa [bs_list, bs_list] at this
  · rfl
theorem fixU_sh (p x k : Nat) : fixU T (a + p) x k = fixU (T.extract a T.size) p x k := by unfold fixU; rw [rawS_sh ha]
theorem numE_sh (p x : Nat) : numE T (a + p) x = numE (T.extract a T.size) p x := by
  unfold numE; simp only [fixU_sh ha, rawA_sh ha, rawX_sh ha]
theorem numA_sh (p x : Nat) : numA T (a + p) x = a + numA (T.extract a T.size) p x := by
  unfold numA; simp only [fixU_sh ha, rawA_sh ha, rawX_sh ha, numE_sh ha]
  split
  · rfl
  · split <;> rfl
theorem numX_sh (p x : Nat) : numX T (a + p) x = numX (T.extract a T.size) p x := by
  unfold numX; simp only [fixU_sh ha, rawX_sh ha, numE_sh ha]
theorem numV_sh (p x : Nat) : numV T (a + p) x = numV (T.extract a T.size) p x := by
  unfold numV; simp only [fixU_sh ha, rawA_sh ha, rawX_sh ha, numE_sh ha]
theorem txtE_sh (p x : Nat) (m : Int) : txtE T (a + p) x m = txtE (T.extract a T.size) p x m := by
  unfold txtE; simp only [numV_sh ha, numX_sh ha]
theorem txtK_sh (p x : Nat) : txtK T (a + p) x = txtK (T.extract a T.size) p x := by
  unfold txtK; simp only [numV_sh ha]
theorem txtX_sh (p x : Nat) (m : Int) : txtX T (a + p) x m = txtX (T.extract a T.size) p x m := by
  unfold txtX; simp only [numA_sh ha, txtE_sh ha, txtK_sh ha, rawX_sh ha]
theorem txtA_sh (p x : Nat) (m : Int) : txtA T (a + p) x m = a + txtA (T.extract a T.size) p x m := by
  unfold txtA; simp only [numA_sh ha, txtE_sh ha, txtK_sh ha, rawA_sh ha, txtX_sh ha]
  split <;> rfl
theorem txtS_sh (p x : Nat) (m : Int) : txtS T (a + p) x m = txtS (T.extract a T.size) p x m := by
  unfold txtS; simp only [numA_sh ha, txtE_sh ha, txtK_sh ha, rawS_sh ha]
end

theorem txt_take {T : ByteArray} (_hT : T.size ≤ 1000000) {most : Int} (h : txtX T 0 0 most = 0) : (sb T).take (txtA T 0 0 most) = txtL (sb (txtS T 0 0 most)) ∧ txtA T 0 0 most ≤ T.size := by
  have hX := h
  unfold txtX at hX
  obtain ⟨hE, hk0, hk1, hA, hS⟩ := raw_ok hX
  have hE' := hE
  unfold txtE at hE'
  by_cases hc : max most 0 < (numV T 0 0 : Int)
  · rw [if_pos hc] at hE'
    split at hE'
    · omega
    · rename_i hh; exact absurd hE' hh
  · rw [if_neg hc] at hE'
    obtain ⟨hn, hnle⟩ := num_read hE'
    have hvl := numV_lt T 0 0
    have hK : txtK T 0 0 = (numV T 0 0 : Int) := by
      unfold txtK at hk0 hk1 ⊢
      rw [IntKind.wrap_i64] at hk0 hk1 ⊢
      omega
    have hA2 : txtA T 0 0 most = numA T 0 0 + numV T 0 0 := by
      unfold txtA; rw [if_pos h, hA, hK, Int.toNat_natCast]
    rw [hK] at hk1
    have hS' : txtS T 0 0 most = T.extract (numA T 0 0) (numA T 0 0 + numV T 0 0) := by
      unfold txtS; rw [hS, hK, Int.toNat_natCast]
    have hle : numA T 0 0 + numV T 0 0 ≤ T.size := by omega
    have hsb : sb (txtS T 0 0 most) = ((sb T).drop (numA T 0 0)).take (numV T 0 0) := by
      rw [hS', sb_part _ _ _ hle, Nat.add_sub_cancel_left]
    have hlen : (sb (txtS T 0 0 most)).length = numV T 0 0 := by rw [hsb, List.length_take, List.length_drop, sb_length]; omega
    refine ⟨?_, by omega⟩
    unfold txtL
    rw [hlen, ← hn, hsb, hA2, List.take_add]

/-- what has been read -/
def Pre (T : ByteArray) (a : Nat) (A : List Nat) : Prop := (sb T).take a = A ∧ a ≤ T.size
theorem Pre.nil (T : ByteArray) : Pre T 0 [] := ⟨rfl, Nat.zero_le _⟩
theorem Pre.len {T : ByteArray} {a : Nat} {A : List Nat} (h : Pre T a A) : A.length = a := by
  rw [← h.1, List.length_take, sb_length]; have := h.2; omega
theorem Pre.raw {T : ByteArray} {a k : Nat} {A : List Nat} (h : Pre T a A) (hx : rawX T a 0 (k : Int) = 0) : Pre T (rawA T a 0 (k : Int)) (A ++ sb (rawS T a 0 (k : Int))) ∧ (rawS T a 0 (k : Int)).size = k := by
  obtain ⟨_, _, hle, hA, hS⟩ := raw_ok hx
  have h2 := h.2
  have hle : a + k ≤ T.size := by omega
  rw [hA, hS, Int.toNat_natCast]
  refine ⟨⟨?_, hle⟩, ?_⟩
  · rw [List.take_add, h.1, sb_part _ _ _ hle, Nat.add_sub_cancel_left]
  · rw [← sb_length, sb_part _ _ _ hle, List.length_take, List.length_drop, sb_length]; omega
theorem Pre.num {T : ByteArray} {a : Nat} {A : List Nat} (h : Pre T a A) (hx : numX T a 0 = 0) : Pre T (numA T a 0) (A ++ numL (numV T a 0)) := by
  have h2 := h.2
  have e0 : a = a + 0 := rfl
  rw [e0, numX_sh h2] at hx
  rw [e0, numA_sh h2, numV_sh h2]
  obtain ⟨r1, r2⟩ := num_read hx
  rw [sh_size h2] at r2
  refine ⟨?_, by omega⟩
  rw [List.take_add, h.1, ← sh_sb h2, r1]
theorem Pre.txt {T : ByteArray} {a : Nat} {A : List Nat} {m : Int} (hT : T.size ≤ 1000000) (h : Pre T a A) (hx : txtX T a 0 m = 0) : Pre T (txtA T a 0 m) (A ++ txtL (sb (txtS T a 0 m))) := by
  have h2 := h.2
  have e0 : a = a + 0 := rfl
  rw [e0, txtX_sh h2] at hx
  rw [e0, txtA_sh h2, txtS_sh h2]
  obtain ⟨r1, r2⟩ := txt_take (by rw [sh_size h2]; omega) hx
  rw [sh_size h2] at r2
  refine ⟨?_, by omega⟩
  rw [List.take_add, h.1, ← sh_sb h2, r1]
theorem rawX_err {T : ByteArray} {a x : Nat} {n : Int} (h : x ≠ 0) : rawX T a x n = x := by unfold rawX; rw [if_neg h]
theorem numV_err {T : ByteArray} {a x : Nat} (h : x ≠ 0) : numV T a x = 0 ∧ numX T a x = x := by
  have hf : fixU T a x 1 = 0 := fixU_none (by rw [rawX_err h]; exact h)
  constructor
  · unfold numV; rw [if_pos (by omega), hf]
  · unfold numX; rw [if_pos (by omega), rawX_err h]
/-- a number that is refused is 0 -/
theorem numV_bad {T : ByteArray} {a : Nat} (h : numX T a 0 ≠ 0) : numV T a 0 = 0 := by
  unfold numX at h
  unfold numV
  split
  · rename_i h1
    rw [if_pos h1] at h
    exact fixU_none h
  · rename_i h1
    rw [if_neg h1] at h
    rw [if_neg h]
theorem txtX_err {T : ByteArray} {a x : Nat} {m : Int} (h : x ≠ 0) : txtX T a x m = x := by
  have hE : txtE T a x m = x := by
    unfold txtE
    rw [(numV_err h).1, (numV_err h).2]
    rw [if_neg (by omega)]
  unfold txtX
  rw [hE, rawX_err h]
end Go.Proofs.YtpinpplbjgbkaaaDoor
