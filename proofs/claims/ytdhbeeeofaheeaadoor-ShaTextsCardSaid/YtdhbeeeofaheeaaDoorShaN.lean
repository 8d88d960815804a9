/- Digests as texts and back; their order. -/
import Derived.Test.YtdhbeeeofaheeaaDoorShaL
namespace Go.Proofs.YtdhbeeeofaheeaaDoor
set_option maxRecDepth 100000
open Go.RowKit M

theorem hexd_back : ∀ q, q < 16 → dgV (hexd q) = q ∧ dgB (hexd q) = true := by decide
theorem hexd_less : ∀ p, p < 16 → ∀ q, q < 16 → (decide (UInt8.ofNat (hexd p) < UInt8.ofNat (hexd q)) = decide (p < q)) ∧ ((UInt8.ofNat (hexd p) == UInt8.ofNat (hexd q)) = decide (p = q)) := by decide +kernel
theorem prsL_hexL : ∀ (l : List Nat), (∀ d ∈ l, d < 256) → prsL (hexL l) = l ∧ (hexL l).all dgB = true
  | [], _ => ⟨rfl, rfl⟩
  | v :: l, h => by
    have hv := h v (by simp)
    obtain ⟨i1, i2⟩ := prsL_hexL l (fun d hd => h d (by simp [hd]))
    obtain ⟨e1, e2⟩ := hexd_back (v / 16) (by omega)
    obtain ⟨e3, e4⟩ := hexd_back (v % 16) (by omega)
    refine ⟨?_, by simp only [hexL, List.all_cons, e2, e4, i2, Bool.and_self]⟩
    simp only [hexL, prsL, e1, e3, i1]
    congr 1
    omega
theorem prs_text {l : List Nat} (h1 : l.length = 32) (h2 : ∀ d ∈ l, d < 256) : prsD (hexL l) = l ∧ digsB (hexL l) = true := by
  obtain ⟨i1, i2⟩ := prsL_hexL l h2
  have hB : digsB (hexL l) = true := by unfold digsB; rw [i2, hexL_length, h1]; rfl
  exact ⟨by rw [prsD, if_pos hB, i1], hB⟩
theorem u8_lt {u v : Nat} (hu : u < 256) (hv : v < 256) : (UInt8.ofNat u < UInt8.ofNat v) ↔ u < v := by
  rw [UInt8.lt_iff_toNat_lt]; simp [Nat.mod_eq_of_lt hu, Nat.mod_eq_of_lt hv]
theorem hex_less : ∀ (a b : List Nat), a.length = b.length → (∀ d ∈ a, d < 256) → (∀ d ∈ b, d < 256) →
    Op.bytesLess ((hexL a).map UInt8.ofNat) ((hexL b).map UInt8.ofNat) = decide (Lib.compareBytes (u8l a) (u8l b) < 0)
  | [], [], _, _, _ => rfl
  | [], _ :: _, h, _, _ => by simp at h
  | _ :: _, [], h, _, _ => by simp at h
  | u :: a, v :: b, h, ha, hb => by
    have hu := ha u (by simp)
    have hv := hb v (by simp)
    have ih := hex_less a b (by simpa using h) (fun d hd => ha d (by simp [hd])) (fun d hd => hb d (by simp [hd]))
    obtain ⟨e1, e2⟩ := hexd_less (u / 16) (by omega) (v / 16) (by omega)
    obtain ⟨e3, e4⟩ := hexd_less (u % 16) (by omega) (v % 16) (by omega)
    simp only [hexL, List.map_cons, Op.bytesLess, u8l, Lib.compareBytes, e1, e2, e3, e4, u8_lt hu hv, u8_lt hv hu]
    rw [ih]
    rcases Nat.lt_trichotomy u v with hc | hc | hc
    · rw [if_pos hc]
      by_cases hd : u / 16 < v / 16
      · simp [hd]
      · have h1 : u / 16 = v / 16 := by omega
        have h2 : u % 16 < v % 16 := by omega
        simp [h1, h2]
    · subst hc
      simp [u8l]
      first | rfl | exact decide_eq_decide.2 Iff.rfl
    · rw [if_neg (by omega), if_pos hc]
      by_cases hd : v / 16 < u / 16
      · have h1 : ¬ u / 16 < v / 16 := by omega
        have h2 : ¬ u / 16 = v / 16 := by omega
        simp [h1, h2]
      · have h1 : u / 16 = v / 16 := by omega
        have h2 : ¬ u % 16 < v % 16 := by omega
        have h3 : ¬ u % 16 = v % 16 := by omega
        simp [h1, h2, h3]
theorem cmp_anti : ∀ (a b : List UInt8), Lib.compareBytes a b = - Lib.compareBytes b a
  | [], [] => rfl
  | [], _ :: _ => rfl
  | _ :: _, [] => rfl
  | x :: a, y :: b => by
    have ih := cmp_anti a b
    simp only [Lib.compareBytes]
    by_cases h1 : x < y
    · have h2 : ¬ y < x := by rw [UInt8.lt_iff_toNat_lt] at *; omega
      simp [h1, h2]
    · by_cases h2 : y < x
      · simp [h1, h2]
      · simp [h1, h2, ih]
theorem cmp_range : ∀ (a b : List UInt8), -1 ≤ Lib.compareBytes a b ∧ Lib.compareBytes a b ≤ 1
  | [], [] => by simp [Lib.compareBytes]
  | [], _ :: _ => by simp [Lib.compareBytes]
  | _ :: _, [] => by simp [Lib.compareBytes]
  | x :: a, y :: b => by
    have ih := cmp_range a b
    simp only [Lib.compareBytes]
    split
    · omega
    · split <;> omega
end Go.Proofs.YtdhbeeeofaheeaaDoor
