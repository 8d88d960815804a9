/- The names of a log's files, read; what files say: as mathematics. -/
import Derived.Test.YtdffpbfllekcgaaGreatDoorHo
namespace Go.Proofs.YtdffpbfllekcgaaGreatDoor
set_option maxRecDepth 100000
open M

def wval (c : Nat) : Nat := if 48 ≤ c ∧ c ≤ 57 then c - 48 else if 97 ≤ c ∧ c ≤ 102 then c - 87 else 16
theorem wval_wdig {d : Nat} (h : d < 16) : wval (wdig d) = d := by unfold wval wdig; (repeat' split) <;> omega
theorem wdig_wval {c : Nat} (h : wval c < 16) : wdig (wval c) = c := by
  unfold wval at h ⊢
  by_cases h1 : 48 ≤ c ∧ c ≤ 57
  · rw [if_pos h1] at h ⊢; unfold wdig; split <;> omega
  · rw [if_neg h1] at h ⊢
    by_cases h2 : 97 ≤ c ∧ c ≤ 102
    · rw [if_pos h2] at h ⊢; unfold wdig; split <;> omega
    · rw [if_neg h2] at h; omega
theorem wval_le (c : Nat) : wval c ≤ 16 := by unfold wval; (repeat' split) <;> omega
theorem whex_snoc (s v : Nat) (hv : v < 16) : ∀ k, whex (16 * s + v) (k + 1) = whex s k ++ [wdig v]
  | 0 => by
    show [wdig ((16 * s + v) / 16 ^ 0 % 16)] = [wdig v]
    rw [Nat.pow_zero, Nat.div_one, show (16 * s + v) % 16 = v by omega]
  | k + 1 => by
    show wdig ((16 * s + v) / 16 ^ (k + 1) % 16) :: whex (16 * s + v) (k + 1) = (wdig (s / 16 ^ k % 16) :: whex s k) ++ [wdig v]
    rw [whex_snoc s v hv k, Nat.pow_succ, Nat.mul_comm (16 ^ k) 16, ← Nat.div_div_eq_div_mul, show (16 * s + v) / 16 = s by omega]
    rfl
theorem whex_val (q : Nat) : ∀ k, ∀ d ∈ whex q k, wval d < 16
  | 0, d, h => nomatch h
  | k + 1, d, h => by
    unfold whex at h
    rcases List.mem_cons.1 h with rfl | h
    · rw [wval_wdig (Nat.mod_lt _ (by decide))]; exact Nat.mod_lt _ (by decide)
    · exact whex_val q k d h

/-- x is the name of the file whose first record has the number q -/
def IsLog (x : ByteArray) (q : Nat) : Prop := q < 18446744073709551616 ∧ x = nameM q
theorem IsLog.one {x : ByteArray} {q p : Nat} (h : IsLog x q) (k : IsLog x p) : q = p := nameM_inj h.1 k.1 (h.2.symm.trans k.2)
open Classical in
noncomputable def logN (x : ByteArray) : Option Nat := if h : ∃ q, IsLog x q then some h.choose else none
theorem logN_some {x : ByteArray} {q : Nat} (h : IsLog x q) : logN x = some q := by
  have e : ∃ q, IsLog x q := ⟨q, h⟩
  unfold logN
  rw [dif_pos e]
  exact congrArg some (e.choose_spec.one h)
theorem logN_none {x : ByteArray} (h : ∀ q, ¬ IsLog x q) : logN x = none := by
  unfold logN
  rw [dif_neg (fun ⟨q, e⟩ => h q e)]
theorem logN_is {x : ByteArray} {q : Nat} (h : logN x = some q) : IsLog x q := by
  by_cases e : ∃ q, IsLog x q
  · obtain ⟨p, hp⟩ := e
    rw [logN_some hp] at h
    obtain rfl := Option.some.inj h
    exact hp
  · rw [logN_none (fun q hq => e ⟨q, hq⟩)] at h; cases h
theorem logN_not {x : ByteArray} (h : logN x = none) : ∀ q, ¬ IsLog x q := fun q hq => by rw [logN_some hq] at h; cases h

/-- what files say: a list of first numbers and bytes, in order -/
def sayL : Bool → Nat → List (Nat × List Nat) → List (List Nat) × Nat
  | _, n, [] => ([], n)
  | b, n, p :: r => if b = true ∧ p.1 ≠ n then ([], n) else
    ((scanN p.2 p.1).1 ++ (sayL true ((p.1 + (scanN p.2 p.1).1.length) % 18446744073709551616) r).1, (sayL true ((p.1 + (scanN p.2 p.1).1.length) % 18446744073709551616) r).2)
theorem sayL_nil (b : Bool) (n : Nat) : sayL b n [] = ([], n) := by unfold sayL; rfl
theorem sayL_stop {n : Nat} {p : Nat × List Nat} (r : List (Nat × List Nat)) (h : p.1 ≠ n) : sayL true n (p :: r) = ([], n) := by
  rw [sayL, if_pos ⟨rfl, h⟩]
theorem sayL_go {b : Bool} {n : Nat} {p : Nat × List Nat} (r : List (Nat × List Nat)) (h : b = true → p.1 = n) : sayL b n (p :: r) =
    ((scanN p.2 p.1).1 ++ (sayL true ((p.1 + (scanN p.2 p.1).1.length) % 18446744073709551616) r).1, (sayL true ((p.1 + (scanN p.2 p.1).1.length) % 18446744073709551616) r).2) := by
  rw [sayL, if_neg (fun e => e.2 (h e.1))]
/-- the files of a log among files -/
noncomputable def logs (rd : ByteArray → List Nat) (X : List ByteArray) : List (Nat × List Nat) := X.filterMap fun x => (logN x).map fun q => (q, rd x)
noncomputable def logsX (X : List ByteArray) : List ByteArray := X.filter fun x => (logN x).isSome
theorem logs_map (rd : ByteArray → List Nat) : ∀ X, logs rd X = (logsX X).map fun x => ((logN x).getD 0, rd x)
  | [] => rfl
  | x :: X => by
    have ih := logs_map rd X
    unfold logs logsX at ih ⊢
    rw [List.filterMap_cons, List.filter_cons]
    cases h : logN x with
    | none => simpa [h] using ih
    | some q => simp only [Option.map_some, Option.isSome_some, if_true, List.map_cons, h, Option.getD_some]; rw [ih]
theorem logs_skip (rd : ByteArray → List Nat) {x : ByteArray} (X : List ByteArray) (h : logN x = none) : logs rd (x :: X) = logs rd X := by
  unfold logs; rw [List.filterMap_cons]; simp [h]
theorem logs_take (rd : ByteArray → List Nat) {x : ByteArray} {q : Nat} (X : List ByteArray) (h : logN x = some q) : logs rd (x :: X) = (q, rd x) :: logs rd X := by
  unfold logs; rw [List.filterMap_cons]; simp [h]
theorem scan_len (d : List Nat) (q : Nat) : (scanN d q).1.length ≤ d.length := (scan_le _ _ _).2
theorem sayL_len (m : Nat) : ∀ (l : List (Nat × List Nat)) (b : Bool) (n : Nat), (∀ p ∈ l, p.2.length ≤ m) → (sayL b n l).1.length ≤ m * l.length
  | [], b, n, _ => by rw [sayL_nil]; simp
  | p :: r, b, n, h => by
    rw [sayL]
    split
    · simp
    · have h1 := h p List.mem_cons_self
      have h2 := scan_len p.2 p.1
      have ih := sayL_len m r true ((p.1 + (scanN p.2 p.1).1.length) % 18446744073709551616) (fun q hq => h q (List.mem_cons_of_mem _ hq))
      rw [List.length_append, List.length_cons, Nat.mul_succ]
      omega
theorem logs_mem {rd : ByteArray → List Nat} {X : List ByteArray} {p : Nat × List Nat} (h : p ∈ logs rd X) : ∃ x, p.2 = rd x := by
  unfold logs at h
  obtain ⟨x, _, e⟩ := List.mem_filterMap.1 h
  cases hq : logN x with
  | none => simp [hq] at e
  | some q => simp [hq] at e; exact ⟨x, by rw [← e]⟩
theorem logs_len (rd : ByteArray → List Nat) (X : List ByteArray) : (logs rd X).length ≤ X.length := List.length_filterMap_le _ _
theorem drop_at {α : Type} {l : List α} {j : Nat} {x : α} (h : l[j]? = some x) : l.drop j = x :: l.drop (j + 1) := by
  obtain ⟨hj, e⟩ := List.getElem?_eq_some_iff.1 h
  rw [List.drop_eq_getElem_cons hj, e]
end Go.Proofs.YtdffpbfllekcgaaGreatDoor
