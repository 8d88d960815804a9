/- Two texts have the lines of both, as mathematics. -/
import Derived.Test.YtmgipjkdeoelgaaDoorLexM
namespace Go.Proofs.YtmgipjkdeoelgaaDoor
set_option maxRecDepth 100000

def shiftL (k : Nat) (L : List Ln) : List Ln := L.map fun l => (l.1 + k, l.2)
theorem shiftL_append (k : Nat) (A B : List Ln) : shiftL k (A ++ B) = shiftL k A ++ shiftL k B := by simp [shiftL]
theorem pre_ok {D : List Ln} {r : Nat × List Ln} : (pre D r).1 = r.1 := by
  unfold pre
  split
  · rename_i h; exact h.symm
  · rfl
theorem linL_app : ∀ (P Q : List (List UInt8)) (n : Nat), 1 ≤ n → ((linL n (P ++ Q)).1 = 0 ↔ (linL n P).1 = 0 ∧ (linL (n + P.length) Q).1 = 0) ∧ ((linL n P).1 = 0 → linL n (P ++ Q) = pre (linL n P).2 (linL (n + P.length) Q))
  | [], Q, n, _ => ⟨by simp [linL], fun _ => by
      show linL n Q = pre [] (linL n Q)
      rw [pre_nil fun h => (linL_err Q n h).1]⟩
  | p :: P, Q, n, hn => by
    have ih := linL_app P Q (n + 1) (by omega)
    have e : n + 1 + P.length = n + (p :: P).length := by simp; omega
    rw [e] at ih
    rw [List.cons_append]
    cases ht : toks (bareL p) with
    | none =>
      rw [linL_bad ht, linL_bad ht]
      exact ⟨by constructor <;> intro h <;> (simp at h; omega), fun h => by simp at h; omega⟩
    | some ts =>
      rw [linL_good ht, linL_good ht]
      refine ⟨by rw [pre_ok, pre_ok]; exact ih.1, fun h => ?_⟩
      rw [pre_ok] at h
      rw [ih.2 h, pre_pre]
      congr 1
      unfold pre; rw [if_pos h]
theorem linL_shift : ∀ (Q : List (List UInt8)) (n k : Nat), 1 ≤ n → ((linL (n + k) Q).1 = 0 ↔ (linL n Q).1 = 0) ∧ (linL (n + k) Q).2 = shiftL k (linL n Q).2
  | [], n, k, _ => ⟨by simp [linL], rfl⟩
  | p :: Q, n, k, hn => by
    have ih := linL_shift Q (n + 1) k (by omega)
    rw [show n + 1 + k = n + k + 1 by omega] at ih
    cases ht : toks (bareL p) with
    | none =>
      rw [linL_bad ht, linL_bad ht]
      exact ⟨by simp; omega, rfl⟩
    | some ts =>
      rw [linL_good ht, linL_good ht]
      refine ⟨by rw [pre_ok, pre_ok]; exact ih.1, ?_⟩
      unfold pre
      by_cases h : (linL (n + 1) Q).1 = 0
      · rw [if_pos h, if_pos (ih.1.2 h)]
        show _ ++ (linL (n + k + 1) Q).2 = shiftL k (_ ++ _)
        rw [ih.2, shiftL_append]
        by_cases h0 : ts = []
        · simp [h0, shiftL]
        · simp [h0, shiftL]
      · rw [if_neg h, if_neg (fun h2 => h (ih.1.1 h2))]
        rfl
theorem linesL_join (a b : List UInt8) : ((linesL (a ++ 10 :: b)).1 = 0 ↔ (linesL a).1 = 0 ∧ (linesL b).1 = 0) ∧
    ((linesL a).1 = 0 → (linesL b).1 = 0 → (linesL (a ++ 10 :: b)).2 = (linesL a).2 ++ shiftL (1 + a.count 10) (linesL b).2) := by
  unfold linesL
  rw [pcs_append]
  have h := linL_app (pcs a) (pcs b) 1 (Nat.le_refl _)
  have hs := linL_shift (pcs b) 1 (pcs a).length (Nat.le_refl _)
  refine ⟨by rw [h.1, hs.1], fun ha hb => ?_⟩
  rw [h.2 ha, pre, if_pos (hs.1.2 hb), hs.2, pcs_length]
end Go.Proofs.YtmgipjkdeoelgaaDoor
