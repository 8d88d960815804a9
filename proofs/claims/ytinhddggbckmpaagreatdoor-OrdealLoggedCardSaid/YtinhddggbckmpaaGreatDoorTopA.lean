/- The theorems through the layers: live; OrdealDigits. -/
import Derived.Test.YtinhddggbckmpaaGreatDoorJd
import Derived.Deep.QuietTactic
import Derived.BigQuiet
namespace Go.Proofs.YtinhddggbckmpaaGreatDoor
set_option maxRecDepth 100000
open Go.RowKit M

theorem live_any (w : World) (hK : KTab w) (hH : Halves w) (hT : Tab64 w) : Calls Tryz.prog 30 #[] w fun e w' => e = .returned (.bool true) ∧ Below w.heap.size w w' := by
  have c0 : ∀ W, Below w.heap.size w W → Calls Tryz.prog 57 #[.string ⟨#[49, 50, 51, 52, 53, 54, 55, 56, 57]⟩] W fun e w' => e = .returned (.int .u32 3808858755) ∧ W = w' := fun W hb => by
    have h := crcOf_any ⟨#[49, 50, 51, 52, 53, 54, 55, 56, 57]⟩ (by decide) W (halves_below hH hb)
    rw [text_sb, text_of] at h; exact h
  have c1 : ∀ W, Below w.heap.size w W → Calls Tryz.prog 59 #[.string ⟨#[97, 98, 99]⟩] W fun e w' => e = .returned (.agg (byts [186, 120, 22, 191, 143, 1, 207, 234, 65, 65, 64, 222, 93, 174, 34, 35, 176, 3, 97, 163, 150, 23, 122, 156, 180, 16, 255, 97, 242, 0, 21, 173]).toArray) ∧ Below W.heap.size W w' := fun W hb => by
    have h := shaOf_any ⟨#[97, 98, 99]⟩ (by decide) W (ktab_below hK hb)
    rw [abc_sb, sha_abc] at h; exact h
  have c2 := fun w => text_any [186, 120, 22, 191, 143, 1, 207, 234, 65, 65, 64, 222, 93, 174, 34, 35, 176, 3, 97, 163, 150, 23, 122, 156, 180, 16, 255, 97, 242, 0, 21, 173] (by decide) (by decide) w
  rw [abc_hex] at c2
  obtain ⟨D, hD⟩ : ∃ D, D = byts [186, 120, 22, 191, 143, 1, 207, 234, 65, 65, 64, 222, 93, 174, 34, 35, 176, 3, 97, 163, 150, 23, 122, 156, 180, 16, 255, 97, 242, 0, 21, 173] := ⟨_, rfl⟩
  rw [← hD] at c1 c2
  obtain ⟨X, hX⟩ : ∃ X : ByteArray, X = ⟨#[98, 97, 55, 56, 49, 54, 98, 102, 56, 102, 48, 49, 99, 102, 101, 97, 52, 49, 52, 49, 52, 48, 100, 101, 53, 100, 97, 101, 50, 50, 50, 51, 98, 48, 48, 51, 54, 49, 97, 51, 57, 54, 49, 55, 55, 97, 57, 99, 98, 52, 49, 48, 102, 102, 54, 49, 102, 50, 48, 48, 49, 53, 97, 100]⟩ := ⟨_, rfl⟩
  have x1 : 8 ≤ X.size := by rw [hX]; decide
  have x2 : X.extract 0 8 = ⟨#[98, 97, 55, 56, 49, 54, 98, 102]⟩ := by rw [hX]; decide
  rw [← hX] at c2
  have c3 : ∀ W, Below w.heap.size w W → Calls Tryz.prog 60 #[.int .u64 8] W fun e w' => e = .returned (.int .i64 3) ∧ W = w' := fun W hb => aFirst W (tab_below hT hb)
  clear hD hX
  have C0 := Box.mk c0; have C1 := Box.mk c1; have C2 := Box.mk c2; have C3 := Box.mk c3
  clear c0 c1 c2 c3 hK hH hT
  go_enter Tryz.func30, Tryz.ntmps30
  go_wp2_with (first
    | (go_at_call 57; ((with_reducible refine (C0.out _ (Below.refl _ _)).mono ?_); rintro e w' ⟨rfl, rfl⟩))
    | (go_at_call 59; ((with_reducible refine (C1.out _ (Below.refl _ _)).mono ?_); rintro e w1 ⟨rfl, b1⟩; have B1 := Box.mk b1; clear b1))
    | (go_at_call 58; ((with_reducible refine (C2.out _).mono ?_); rintro e w2 ⟨rfl, b2⟩; have B2 := Box.mk (bch B1.out b2); clear b2))
    | (go_at_call 60; ((with_reducible refine (C3.out _ B2.out).mono ?_); rintro e w' ⟨rfl, rfl⟩)))
  go_ret
  exact ⟨rfl, B2.out⟩

theorem hex_index64 {q : Nat} (h : q < 16) (w : World) : (Instr.index 9 (.string ⟨#[48, 49, 50, 51, 52, 53, 54, 55, 56, 57, 97, 98, 99, 100, 101, 102]⟩) (.int .u64 (q : Int))).run Tryz.prog w = .ok (.int .u8 (hexd q : Nat)) w := by
  have e := hex_str ⟨q, h⟩
  simp only at e
  cases hc : (⟨#[48, 49, 50, 51, 52, 53, 54, 55, 56, 57, 97, 98, 99, 100, 101, 102]⟩ : ByteArray)[q]? with
  | none => rw [hc] at e; simp at e
  | some c =>
    rw [hc] at e
    simp at e
    simp [Instr.index, run_underlying Tryz.underlying9, asIntOf, go_sem, hc, e]
theorem str_index {T : ByteArray} {i : Nat} (h : i < T.size) (w : World) : (Instr.index 9 (.string T) (.int .i64 (i : Int))).run Tryz.prog w = .ok (.int .u8 (((sb T).getD i 0 : Nat) : Int)) w := by
  have e : (sb T).getD i 0 = (T[i]'h).toNat := by
    unfold sb; rw [bnl_getD _ _ _ h, bn_of h]
  rw [e]
  simp [Instr.index, run_underlying Tryz.underlying9, asIntOf, go_sem, h]
theorem hexL_get : ∀ (l : List Nat) (i : Nat), i < 2 * l.length → (hexL l).getD i 0 = hexd (if i % 2 = 0 then l.getD (i / 2) 0 / 16 else l.getD (i / 2) 0 % 16)
  | [], i, h => by simp at h
  | v :: l, 0, _ => by simp [hexL]
  | v :: l, 1, _ => by simp [hexL]
  | v :: l, i + 2, h => by
    have ih := hexL_get l i (by simp at h; omega)
    have e1 : (i + 2) % 2 = i % 2 := by omega
    have e2 : (i + 2) / 2 = i / 2 + 1 := by omega
    rw [e1, e2]
    simpa [hexL] using ih
end Go.Proofs.YtinhddggbckmpaaGreatDoor
