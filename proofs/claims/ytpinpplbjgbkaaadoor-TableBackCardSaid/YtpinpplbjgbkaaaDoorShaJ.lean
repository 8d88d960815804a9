/- Contracts of sha: Parse. -/
import Derived.Test.YtpinpplbjgbkaaaDoorJd
import Derived.Test.YtpinpplbjgbkaaaDoorTopA
import Derived.Laws.ResultCell
namespace Go.Proofs.YtpinpplbjgbkaaaDoor
set_option maxRecDepth 100000
open Go.RowKit M

/-- the bytes of digits -/
def prsL : List Nat → List Nat
  | a :: b :: l => (16 * dgV a + dgV b) :: prsL l
  | _ => []
theorem prsL_length : ∀ (l : List Nat), (prsL l).length = l.length / 2
  | [] => rfl
  | [_] => by simp [prsL]
  | a :: b :: l => by simp [prsL, prsL_length l]; omega
theorem prsL_snoc : ∀ (l : List Nat) (a b : Nat), l.length % 2 = 0 → prsL (l ++ [a, b]) = prsL l ++ [16 * dgV a + dgV b]
  | [], a, b, _ => rfl
  | [_], _, _, h => by simp at h
  | x :: y :: l, a, b, h => by
    have := prsL_snoc l a b (by simp at h; omega)
    simp [prsL, this]
theorem dgV_lt (c : Nat) : dgV c < 16 := by unfold dgV; split; omega; split <;> omega
theorem prsL_lt : ∀ (l : List Nat), ∀ d ∈ prsL l, d < 256
  | [] => by simp [prsL]
  | [_] => by simp [prsL]
  | a :: b :: l => by
    intro d hd
    simp only [prsL, List.mem_cons] at hd
    rcases hd with rfl | hd
    · have := dgV_lt a; have := dgV_lt b; omega
    · exact prsL_lt l d hd
/-- are they digits, 64 of them? -/
def digsB (l : List Nat) : Bool := decide (l.length = 64) && l.all dgB
def prsD (l : List Nat) : List Nat := if digsB l = true then prsL l else List.replicate 32 0
def prsP (l : List Nat) (k : Nat) : List Nat := prsL (l.take (2 * k)) ++ List.replicate (32 - k) 0
theorem prsP_length {l : List Nat} (hl : l.length = 64) {k : Nat} (hk : k ≤ 32) : (prsP l k).length = 32 := by
  unfold prsP; rw [List.length_append, prsL_length, List.length_take, List.length_replicate, hl]; omega
theorem prsP_zero (l : List Nat) : prsP l 0 = List.replicate 32 0 := by simp [prsP, prsL]
theorem prsP_full {l : List Nat} (hl : l.length = 64) : prsP l 32 = prsL l := by
  unfold prsP; rw [List.take_of_length_le (by omega)]; simp
theorem prsP_set {l : List Nat} (hl : l.length = 64) {k : Nat} (hk : k < 32) : (prsP l k).set k (16 * dgV (l.getD (2 * k) 0) + dgV (l.getD (2 * k + 1) 0)) = prsP l (k + 1) := by
  have e1 : l.take (2 * (k + 1)) = l.take (2 * k) ++ [l.getD (2 * k) 0, l.getD (2 * k + 1) 0] := by
    rw [show 2 * (k + 1) = 2 * k + 1 + 1 by omega, List.take_succ_eq_append_getElem (i := 2 * k + 1) (by omega), List.take_succ_eq_append_getElem (i := 2 * k) (by omega), List.append_assoc]
    simp [List.getD, hl, show 2 * k < 64 by omega, show 2 * k + 1 < 64 by omega]
  have e2 : (prsL (l.take (2 * k))).length = k := by rw [prsL_length, List.length_take, hl]; omega
  unfold prsP
  rw [e1, prsL_snoc _ _ _ (by rw [List.length_take, hl]; omega), List.set_append, if_neg (by omega), e2, Nat.sub_self, show 32 - k = (32 - (k + 1)) + 1 by omega, List.replicate_succ, List.set_cons_zero, List.append_assoc]
  rfl

theorem byts_get {l : List Nat} {k : Nat} (h : k < l.length) : (byts l)[k]? = some (.int .u8 ((l.getD k 0 : Nat) : Int)) := by
  simp [byts, h, List.getD]
theorem range_setB {w : World} {b : Nat} {l : List Nat} (h : w.rangeAt b 0 (byts l)) (k x : Nat) (hk : k < l.length) : (w.setCell ⟨b, k, none⟩ (.int .u8 (x : Int))).rangeAt b 0 (byts (l.set k x)) := fun j v hv => by
  rw [Nat.zero_add]
  have hj : j < l.length := by
    have := (List.getElem?_eq_some_iff.1 hv).1
    simpa [byts] using this
  rw [byts_get (by simpa using hj)] at hv
  by_cases e : j = k
  · subst e
    have h1 := h j _ (byts_get hk)
    rw [Nat.zero_add] at h1
    rw [World.cell?_setCell_same _ _ _ h1]
    simpa [List.getD, hj] using hv
  · rw [World.cell?_setCell_other _ _ _ _ (by intro e2; cases e2; exact e rfl)]
    have h1 := h j _ (byts_get hj)
    rw [Nat.zero_add] at h1
    rw [h1, ← hv]
    simp [List.getD, show ¬ k = j by omega]

theorem or8 {a b : Nat} (ha : a < 16) (hb : b < 16) : bits BinOp.or IntKind.u8 ((a : Int) * 16) (b : Int) = ((16 * a + b : Nat) : Int) := by
  rw [show (a : Int) * 16 = ((a * 2 ^ 4 : Nat) : Int) by omega, u8_or_nat (a * 2 ^ 4) b (by omega) (by omega), or_add (by omega)]
  congr 1
  omega

theorem results_two {P : Program} {fn : Func} {p u : Tmp} {ty : TypeId} (h : fn.results = #[.cell p ty, .tmp u]) {tmps : Array Value} {w : World} {a : Addr} {v x : Value} (ht : tmps.getD p undef = .pointer (some a)) (hu : tmps.getD u undef = x) (hl : (loadVar ty a).run P w = .ok v w) :
    (results fn tmps).run P w = .ok (.tuple #[v, x]) w := by
  rw [results_cell_tmp h, ht, hu]
  simp [asAddr, hl, Result.andThen]

/-- what Parse leaves -/
def PrsP (l : List Nat) (w : World) (e : Ending) (w' : World) : Prop := e = .returned (.tuple #[.agg (byts (prsD l)).toArray, .bool (digsB l)]) ∧ Below w.heap.size w w'

end Go.Proofs.YtpinpplbjgbkaaaDoor
