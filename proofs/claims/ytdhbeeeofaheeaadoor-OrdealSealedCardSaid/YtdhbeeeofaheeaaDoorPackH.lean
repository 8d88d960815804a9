/- The laws of layer 4 (pack): awake; PackOrder. -/
import Derived.Test.YtdhbeeeofaheeaaDoorPackG
namespace Go.Proofs.YtdhbeeeofaheeaaDoor
set_option maxRecDepth 100000
open Go.RowKit M

theorem wr_ge {w : World} {b : Nat} {L : List Nat} {v : Value} (h : Wr w b L v) : ∀ k, v.ownBlock = some k → b + 1 ≤ k := fun k hk => (h.own.lt k hk).1
theorem wakeA : numA ⟨#[248, 5]⟩ 0 0 = 0 := by decide +kernel
theorem wakeX : numX ⟨#[248, 5]⟩ 0 0 = 3 := by decide +kernel
theorem wakeL : ([] : List Nat) ++ numL 300 ++ txtL (sb ⟨#[97, 98]⟩) = [249, 1, 44, 2, 97, 98] := by decide +kernel
theorem wakeB : bs [249, 1, 44, 2, 97, 98] = ⟨#[249, 1, 44, 2, 97, 98]⟩ := by decide

theorem numL_len (v : Nat) : (numL v).length = if v < 248 then 1 else 1 + szN v := by
  unfold numL; split <;> simp [fx_length]; omega
theorem numL_mono {a b : Nat} (h : a ≤ b) : (numL a).length ≤ (numL b).length := by
  rw [numL_len, numL_len]
  have := szN_mono h
  have := szN_bd b
  split <;> split <;> omega
/-- no number's bytes are the beginning of another's -/
theorem numL_prefix {a b : Nat} (ha : a < 18446744073709551616) (hb : b < 18446744073709551616) (h : (numL b).take (numL a).length = numL a) : a = b := by
  have hsa := szN_bd a
  have hsb := szN_bd b
  unfold numL at h
  by_cases h1 : a < 248
  · rw [if_pos h1] at h
    by_cases h2 : b < 248
    · rw [if_pos h2] at h; simpa using h.symm
    · rw [if_neg h2] at h; simp at h; omega
  · rw [if_neg h1] at h
    by_cases h2 : b < 248
    · rw [if_pos h2] at h; simp at h; omega
    · rw [if_neg h2] at h
      simp only [List.length_cons, List.take_succ_cons, List.cons.injEq] at h
      have hs : szN b = szN a := by omega
      have h3 := h.2
      rw [hs, List.take_of_length_le (by simp [fx_length])] at h3
      have e := congrArg un h3
      rw [un_fx, un_fx, Nat.mod_eq_of_lt (szN_lt ha), ← hs, Nat.mod_eq_of_lt (szN_lt hb)] at e
      exact e.symm
theorem bs_take (l : List Nat) (n : Nat) : (bs l).extract 0 n = bs (l.take n) := by
  apply ByteArray.ext
  apply Array.ext'
  rw [ByteArray.data_extract, Array.toList_extract, List.extract_eq_take_drop]
  simp [bs, strOfNums]
theorem bs_inj {l m : List Nat} (hl : ∀ d ∈ l, d < 2 ^ 8) (hm : ∀ d ∈ m, d < 2 ^ 8) (h : bs l = bs m) : l = m := by
  have := congrArg sb h
  rwa [sb_bs l hl, sb_bs m hm] at this
theorem str_beq (x y : ByteArray) : (x.toList == y.toList) = decide (x = y) := by
  rw [ByteArray.toList_eq, ByteArray.toList_eq]
  by_cases h : x = y
  · subst h
    rw [decide_eq_true rfl]
    exact beq_self_eq_true _
  · have h2 : ¬ x.data.toList = y.data.toList := fun hh => h (by apply ByteArray.ext; exact Array.ext' hh)
    rw [decide_eq_false h]
    exact beq_eq_false_iff_ne.2 h2

theorem own_new {b n : Nat} {v' : Value} {w w' : World} (h : Ext b (.slice none 0 0) v' w w') (hs : w.heap.size = n + 2) : v'.ownBlock ≠ some (n + 1) := fun e => by
  rcases h.lies with e2 | e2
  · rw [e] at e2; cases e2
  · have := e2 _ e; omega
end Go.Proofs.YtdhbeeeofaheeaaDoor
