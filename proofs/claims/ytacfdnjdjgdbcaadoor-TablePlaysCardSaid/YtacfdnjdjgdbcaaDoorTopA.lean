/- The theorems through the layers: live; OrdealDigits. -/
import Derived.Test.YtacfdnjdjgdbcaaDoorJd
import Derived.Deep.QuietTactic
import Derived.BigQuiet
namespace Go.Proofs.YtacfdnjdjgdbcaaDoor
set_option maxRecDepth 100000
open Go.RowKit M

theorem hex_index64 {q : Nat} (h : q < 16) (w : World) : (Instr.index 9 (.string ⟨#[48, 49, 50, 51, 52, 53, 54, 55, 56, 57, 97, 98, 99, 100, 101, 102]⟩) (.int .u64 (q : Int))).run Tryd.prog w = .ok (.int .u8 (hexd q : Nat)) w := by
  have e := hex_str ⟨q, h⟩
  simp only at e
  cases hc : (⟨#[48, 49, 50, 51, 52, 53, 54, 55, 56, 57, 97, 98, 99, 100, 101, 102]⟩ : ByteArray)[q]? with
  | none => rw [hc] at e; simp at e
  | some c =>
    rw [hc] at e
    simp at e
    simp [Instr.index, run_underlying Tryd.underlying9, asIntOf, go_sem, hc, e]
theorem str_index {T : ByteArray} {i : Nat} (h : i < T.size) (w : World) : (Instr.index 9 (.string T) (.int .i64 (i : Int))).run Tryd.prog w = .ok (.int .u8 (((sb T).getD i 0 : Nat) : Int)) w := by
  have e : (sb T).getD i 0 = (T[i]'h).toNat := by
    unfold sb; rw [bnl_getD _ _ _ h, bn_of h]
  rw [e]
  simp [Instr.index, run_underlying Tryd.underlying9, asIntOf, go_sem, h]
theorem hexL_get : ∀ (l : List Nat) (i : Nat), i < 2 * l.length → (hexL l).getD i 0 = hexd (if i % 2 = 0 then l.getD (i / 2) 0 / 16 else l.getD (i / 2) 0 % 16)
  | [], i, h => by simp at h
  | v :: l, 0, _ => by simp [hexL]
  | v :: l, 1, _ => by simp [hexL]
  | v :: l, i + 2, h => by
    have ih := hexL_get l i (by simp at h; omega)
    have e1 : (i + 2) % 2 = i % 2 := by omega
    have e2 : (i + 2) / 2 = i / 2 + 1 := by omega
    rw [e1, e2]
    simpa [hexL] using ih
end Go.Proofs.YtacfdnjdjgdbcaaDoor
