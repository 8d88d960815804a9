/- The Ops of a test, as mathematics. -/
import Derived.Test.YteeicedhnojdaaaFloJ
namespace Go.Proofs.Yteeicedhnojdaaa
set_option maxRecDepth 100000
open Go.RowKit

def opsL (i : Nat) : Nat → List Ins → List (Nat × Nat)
  | _, [] => []
  | a, x :: l => (if isMem x.op then [(i, a)] else []) ++ opsL i (a + 1) l
def opsM : Nat → List (List Ins) → List (Nat × Nat)
  | _, [] => []
  | i, l :: t => opsL i 0 l ++ opsM (i + 1) t
theorem opsL_app (i : Nat) : ∀ (l m : List Ins) (a : Nat), opsL i a (l ++ m) = opsL i a l ++ opsL i (a + l.length) m
  | [], m, a => by simp [opsL]
  | x :: l, m, a => by
    rw [List.cons_append, opsL, opsL, opsL_app i l m (a + 1), List.append_assoc, List.length_cons, show a + 1 + l.length = a + (l.length + 1) by omega]
theorem opsM_app : ∀ (t u : List (List Ins)) (i : Nat), opsM i (t ++ u) = opsM i t ++ opsM (i + t.length) u
  | [], u, i => by simp [opsM]
  | l :: t, u, i => by
    rw [List.cons_append, opsM, opsM, opsM_app t u (i + 1), List.append_assoc, List.length_cons, show i + 1 + t.length = i + (t.length + 1) by omega]
theorem opsL_len (i : Nat) : ∀ (l : List Ins) (a : Nat), (opsL i a l).length = memL l
  | [], a => rfl
  | x :: l, a => by
    rw [opsL, List.length_append, opsL_len i l (a + 1)]
    unfold memL
    rw [List.filter_cons]
    split <;> simp <;> omega
theorem opsM_len : ∀ (t : List (List Ins)) (i : Nat), (opsM i t).length = memT t
  | [], i => rfl
  | l :: t, i => by
    rw [opsM, List.length_append, opsL_len, opsM_len t (i + 1)]
    simp [memT]
theorem memL_le (l : List Ins) : memL l ≤ l.length := List.length_filter_le _ _
theorem memT_le (M : Nat) : ∀ t : List (List Ins), (∀ l ∈ t, l.length ≤ M) → memT t ≤ M * t.length
  | [], _ => by simp [memT]
  | l :: t, h => by
    have h1 := memL_le l
    have h2 := memT_le M t (fun x hx => h x (by simp [hx]))
    have h3 := h l (by simp)
    unfold memT at *
    simp only [List.map_cons, List.sum_cons, List.length_cons, Nat.mul_add, Nat.mul_one]
    omega
theorem opsM_take {t : List (List Ins)} {k : Nat} {l : List Ins} (h : t[k]? = some l) : opsM 0 (t.take (k + 1)) = opsM 0 (t.take k) ++ opsL k 0 l := by
  have hl := (List.getElem?_eq_some_iff.1 h).1
  rw [List.take_add_one, h, show (some l).toList = [l] from rfl, opsM_app, Nat.zero_add]
  have : (t.take k).length = k := by simp; omega
  rw [this]; simp [opsM]
theorem opsL_take (i : Nat) {l : List Ins} {j : Nat} {x : Ins} (h : l[j]? = some x) : opsL i 0 (l.take (j + 1)) = opsL i 0 (l.take j) ++ (if isMem x.op then [(i, j)] else []) := by
  have hl := (List.getElem?_eq_some_iff.1 h).1
  rw [List.take_add_one, h, show (some x).toList = [x] from rfl, opsL_app, Nat.zero_add]
  have : (l.take j).length = j := by simp; omega
  rw [this]; simp [opsL]
theorem opsL_mem (i : Nat) : ∀ (l : List Ins) (a : Nat) (p : Nat × Nat), p ∈ opsL i a l → p.1 = i ∧ a ≤ p.2 ∧ p.2 < a + l.length
  | [], a, p, h => by simp [opsL] at h
  | x :: l, a, p, h => by
    rw [opsL, List.mem_append] at h
    rcases h with h | h
    · split at h
      · simp at h; subst h; simp
      · simp at h
    · obtain ⟨h1, h2, h3⟩ := opsL_mem i l (a + 1) p h
      simp only [List.length_cons]
      exact ⟨h1, by omega, by omega⟩
theorem opsM_mem : ∀ (t : List (List Ins)) (i : Nat) (p : Nat × Nat), p ∈ opsM i t → i ≤ p.1 ∧ p.1 < i + t.length
  | [], i, p, h => by simp [opsM] at h
  | l :: t, i, p, h => by
    rw [opsM, List.mem_append] at h
    simp only [List.length_cons]
    rcases h with h | h
    · have := opsL_mem i l 0 p h; omega
    · have := opsM_mem t (i + 1) p h; omega
theorem memT_take {t : List (List Ins)} {k : Nat} {l : List Ins} (h : t[k]? = some l) : memT (t.take (k + 1)) = memT (t.take k) + memL l := by
  have e : t.take (k + 1) = t.take k ++ [l] := by rw [List.take_add_one, h]; rfl
  rw [e]; simp [memT]
theorem memT_take_le {t : List (List Ins)} {k : Nat} {l : List Ins} (h : t[k]? = some l) : memT (t.take k) + memL l ≤ memT t := by
  rw [← memT_take h]
  conv => rhs; rw [← List.take_append_drop (k + 1) t]
  unfold memT
  rw [List.map_append, List.sum_append]
  omega
/-- an Op of a thread, and its number -/
theorem opIs_of {t : List (List Ins)} {i : Nat} {l : List Ins} (hi : t[i]? = some l) {j : Nat} {x : Ins} (hj : l[j]? = some x) (hm : isMem x.op = true) : OpIs (opsM 0 t) i j (memT (t.take i) + memL (l.take j)) := by
  have hil := (List.getElem?_eq_some_iff.1 hi).1
  have hjl := (List.getElem?_eq_some_iff.1 hj).1
  have e1 : opsM 0 t = opsM 0 (t.take (i + 1)) ++ opsM (i + 1) (t.drop (i + 1)) := by
    conv => lhs; rw [← List.take_append_drop (i + 1) t]
    rw [opsM_app, Nat.zero_add]
    congr 2
    simp; omega
  have e2 : opsL i 0 l = opsL i 0 (l.take (j + 1)) ++ opsL i (j + 1) (l.drop (j + 1)) := by
    conv => lhs; rw [← List.take_append_drop (j + 1) l]
    rw [opsL_app, Nat.zero_add]
    congr 2
    simp; omega
  obtain ⟨P, hP⟩ : ∃ P, P = opsM 0 (t.take i) ++ opsL i 0 (l.take j) := ⟨_, rfl⟩
  obtain ⟨R, e⟩ : ∃ R, opsM 0 t = P ++ (i, j) :: R := by
    rw [e1, opsM_take hi, e2, opsL_take i hj, if_pos hm, hP]
    simp only [List.append_assoc, List.cons_append, List.nil_append]
    exact ⟨_, rfl⟩
  have hl : P.length = memT (t.take i) + memL (l.take j) := by rw [hP, List.length_append, opsM_len, opsL_len]
  have hn : (i, j) ∉ P := fun h => by
    rw [hP, List.mem_append] at h
    rcases h with h | h
    · have := opsM_mem _ _ _ h
      have h2 : (t.take i).length ≤ i := by simp; omega
      simp at this; omega
    · have := opsL_mem _ _ _ _ h
      have h2 : (l.take j).length ≤ j := by simp; omega
      simp at this; omega
  rw [← hl, e]
  refine ⟨by simp, fun m hm2 hc => hn ?_⟩
  rw [List.getElem?_append_left hm2] at hc
  exact List.mem_of_getElem? hc
end Go.Proofs.Yteeicedhnojdaaa
