/- OutcomeGood, mathematics: what the law wants of a list of states is what Good says. -/
import Derived.Test.YtnlcmdgjoikljaaDoorOutC
namespace Go.Proofs.YtnlcmdgjoikljaaDoor
set_option maxRecDepth 100000
open Go.RowKit

/-- how many numbers at most, from 0 to 40 -/
def clamp40 (n : Int) : Nat := (max (min n 40) 0).toNat
/-- the law's tests of one state, the one before it, numbers beyond n up to m -/
def headM (n : Int) (pv : Option StM) (x : StM) : Bool := decide (x.n = n) && decide (0 ≤ n) && decide (n ≤ 40) && (match pv with | none => true | some p => decide (cmpSt p x < 0))
def tailM (n : Int) (x : StM) (m : Nat) : Bool := ((x.v.drop (clamp40 n)).take (m - clamp40 n)).all fun y => decide (y = 0)
theorem tail_start (n : Int) (x : StM) : tailM n x (clamp40 n) = true := by simp [tailM]
theorem tail_succ (n : Int) (x : StM) (m : Nat) (y : Int) (h : x.v[m]? = some y) (hm : clamp40 n ≤ m) : tailM n x (m + 1) = (tailM n x m && decide (y = 0)) := by
  unfold tailM
  rw [show m + 1 - clamp40 n = (m - clamp40 n) + 1 by omega, List.take_add_one, List.getElem?_drop, show clamp40 n + (m - clamp40 n) = m by omega, h]
  simp
theorem clamp_le (n : Int) : clamp40 n ≤ 40 := by unfold clamp40; omega
theorem tail_isSt (n : Int) (x : StM) (h0 : 0 ≤ n) (h1 : n ≤ 40) (hn : x.n = n) : tailM n x 40 = isSt x := by
  have hc : clamp40 n = n.toNat := by unfold clamp40; omega
  unfold tailM isSt
  rw [hn, hc, decide_eq_true h0, decide_eq_true h1, Bool.true_and, Bool.true_and, List.take_of_length_le (by rw [List.length_drop, x.len]; omega)]
  rw [Bool.eq_iff_iff]
  simp
theorem step_good (n : Int) (pv : Option StM) (x : StM) (r : List StM) : goodM n pv (x :: r) = (headM n pv x && tailM n x 40 && goodM n (some x) r) := by
  rw [goodM_cons]
  by_cases hn : x.n = n
  · by_cases h0 : 0 ≤ n
    · by_cases h1 : n ≤ 40
      · rw [tail_isSt n x h0 h1 hn]
        unfold headM
        rw [decide_eq_true hn, decide_eq_true h0, decide_eq_true h1]
        cases isSt x <;> cases pv <;> simp
      · have : isSt x = false := by unfold isSt; rw [hn, decide_eq_false h1]; simp
        rw [this]; unfold headM; rw [decide_eq_false h1]; simp
    · have : isSt x = false := by unfold isSt; rw [hn, decide_eq_false h0]; simp
      rw [this]; unfold headM; rw [decide_eq_false h0]; simp
  · unfold headM; rw [decide_eq_false hn]; simp
/-- what is wanted after some states -/
def wantM (n : Int) : Option StM → List StM → Bool
  | _, [] => true
  | pv, x :: r => headM n pv x && tailM n x 40 && wantM n (some x) r
theorem want_good (n : Int) : ∀ (X : List StM) (pv : Option StM), wantM n pv X = goodM n pv X
  | [], _ => by simp [wantM, goodM]
  | x :: r, pv => by rw [wantM, step_good, want_good n r (some x)]
/-- the state before the k-th -/
def prevM (X : List StM) : Nat → Option StM
  | 0 => none
  | k + 1 => X[k]?
theorem want_snoc (n : Int) : ∀ (X : List StM) (pv : Option StM) (x : StM), wantM n pv (X ++ [x]) = (wantM n pv X && (headM n (match X.getLast? with | some l => some l | none => pv) x && tailM n x 40))
  | [], pv, x => by simp [wantM]
  | y :: r, pv, x => by
    rw [List.cons_append, wantM, wantM, want_snoc n r (some y) x]
    have e : (match (y :: r).getLast? with | some l => some l | none => pv) = (match r.getLast? with | some l => some l | none => some y) := by
      cases r with
      | nil => rfl
      | cons z r => simp [List.getLast?_cons]
    rw [e]
    simp only [Bool.and_assoc]
theorem want_take (n : Int) (X : List StM) (k : Nat) (x : StM) (hx : X[k]? = some x) : wantM n none (X.take (k + 1)) = (wantM n none (X.take k) && (headM n (prevM X k) x && tailM n x 40)) := by
  have e : X.take (k + 1) = X.take k ++ [x] := by rw [List.take_add_one, hx]; rfl
  rw [e, want_snoc]
  have hk : k < X.length := (List.getElem?_eq_some_iff.1 hx).1
  have e2 : (match (X.take k).getLast? with | some l => some l | none => none) = prevM X k := by
    cases k with
    | zero => rfl
    | succ k =>
      show _ = X[k]?
      rw [List.getLast?_eq_getElem?, List.length_take, List.getElem?_take_of_lt (by omega), show min (k + 1) X.length - 1 = k by omega]
      cases X[k]? <;> rfl
  rw [e2]
end Go.Proofs.YtnlcmdgjoikljaaDoor
