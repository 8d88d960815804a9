/- Contracts of lex: number, size, first, bare. -/
import Derived.Test.YtdffpbfllekcgaaGreatDoorLexA
import Derived.PlainAid
namespace Go.Proofs.YtdffpbfllekcgaaGreatDoor
set_option maxRecDepth 100000
open Go.RowKit

theorem belDrewN {B : Nat} {w0 w : World} (h : Below B w0 w) (n : Nat) : Below B w0 (w.drewN n) := ⟨h.os, h.tape, h.output, h.size, h.block⟩

/-- what the library's variables hold -/
structure LibW (w : World) : Prop where
  syn : ∃ ev, w.cell? ⟨1, 0, none⟩ = some ev ∧ (ev = .nilIface ∨ ∃ te pe, ev = .iface te pe)
  rng : ∃ ev, w.cell? ⟨2, 0, none⟩ = some ev ∧ (ev = .nilIface ∨ ∃ te pe, ev = .iface te pe)
theorem cell_lt {w : World} {b o : Nat} {v : Value} (h : w.cell? ⟨b, o, none⟩ = some v) : b < w.heap.size := by
  rcases Nat.lt_or_ge b w.heap.size with hl | hl
  · exact hl
  · simp only [World.cell?, Array.getElem?_eq_none hl] at h
    cases h
theorem cellBel {w w' : World} {b o : Nat} {v : Value} (h : w.cell? ⟨b, o, none⟩ = some v) (hb : Below w.heap.size w w') : w'.cell? ⟨b, o, none⟩ = some v := by
  rw [hb.cell (cell_lt h)]; exact h
theorem LibW.below {w w' : World} (h : LibW w) (hb : Below w.heap.size w w') : LibW w' := by
  obtain ⟨⟨e, h2, h2'⟩, ⟨f, h3, h3'⟩⟩ := h
  exact ⟨⟨e, cellBel h2 hb, h2'⟩, ⟨f, cellBel h3 hb, h3'⟩⟩
theorem LibW.heap {w w' : World} (h : LibW w) (hb : w'.heap = w.heap) : LibW w' := by
  have e : ∀ a, w'.cell? a = w.cell? a := fun a => by simp only [World.cell?, hb]
  obtain ⟨⟨x, h2, h2'⟩, ⟨f, h3, h3'⟩⟩ := h
  exact ⟨⟨x, (e _).trans h2, h2'⟩, ⟨f, (e _).trans h3, h3'⟩⟩

/-- the error of a number -/
def ErrV (r : Nat × Nat) (x : Value) : Prop := if r.1 = 0 then x = .nilIface else ∃ N, x = .iface 146 (.pointer (some ⟨N, 0, none⟩))

theorem pu_code (b : Nat) : ∀ (s : List UInt8) (acc : Nat), (pu b acc s).1 = 0 ∨ pu b acc s = (2, 0) ∨ pu b acc s = (1, 18446744073709551615)
  | [], acc => .inl rfl
  | c :: t, acc => by
    unfold pu
    split
    · exact .inr (.inl rfl)
    · split
      · exact .inr (.inr rfl)
      · exact pu_code b t _
theorem puX_code (b : Nat) (s : List UInt8) : (puX b s).1 = 0 ∨ puX b s = (2, 0) ∨ puX b s = (1, 18446744073709551615) := by
  unfold puX
  split
  · exact .inr (.inl rfl)
  · exact pu_code b s 0

set_option maxHeartbeats 800000 in
theorem parse_any (b : Nat) (hb : b = 10 ∨ b = 16) (t : ByteArray) (ht : t.size ≤ 1000000) (w : World) (hL : LibW w) :
    Calls Tryz.prog 43 #[.string t, .int .i64 (b : Nat), .int .i64 64] w fun e w' => (∃ x, e = .returned (.tuple #[.int .u64 ((puX b (by' t)).2 : Nat), x]) ∧ ErrV (puX b (by' t)) x) ∧ Below w.heap.size w w' := by
  have ci := fun W => iparse_any b hb t ht W
  have hL' := Bx.mk hL
  obtain ⟨sv, hsv, hsv'⟩ := hL.syn
  obtain ⟨rv, hrv, hrv'⟩ := hL.rng
  have SV := Bx.mk hsv; have SV' := Bx.mk hsv'; have RV := Bx.mk hrv; have RV' := Bx.mk hrv'
  clear hL hsv hsv' hrv hrv'
  rcases puX_code b (by' t) with h | h | h
  · obtain ⟨v, hv⟩ : ∃ v, puX b (by' t) = (0, v) := ⟨_, Prod.ext h rfl⟩
    rw [hv] at ci ⊢
    rw [puV_ok] at ci
    have CI := Bx.mk ci; clear ci h hv
    go_enter Tryz.func43, Tryz.ntmps43
    go_wp2_with (go_at_call 65; ((with_reducible refine (CI.out _).mono ?_); rintro e w1 ⟨rfl, b1⟩; have B1 := Bx.mk b1; clear b1))
    go_ret2
    exact ⟨⟨.nilIface, rfl, by unfold ErrV; rw [if_pos rfl]⟩, B1.out⟩
  · rw [h] at ci ⊢
    rw [puV_syn] at ci
    have CI := Bx.mk ci; clear ci h
    go_enter Tryz.func43, Tryz.ntmps43
    go_wp2_with (first
      | (go_at_call 65; ((with_reducible refine (CI.out _).mono ?_); rintro e w1 ⟨rfl, b1⟩; have B1 := Bx.mk b1; clear b1))
      | (go_at_call 66; ((refine (Tryz.strconv_toError_syntax _ _ _ _ _ _ (by omega) (cellBel SV.out B1.out) SV'.out).mono ?_); rintro e w2 ⟨N, rfl, _, _, b2⟩; have B2 := Bx.mk (bel B1.out b2); clear b2)))
    go_ret2
    exact ⟨⟨.iface 146 (.pointer (some ⟨N, 0, none⟩)), rfl, by unfold ErrV; rw [if_neg (by decide)]; exact ⟨_, rfl⟩⟩, B2.out⟩
  · rw [h] at ci ⊢
    rw [puV_rng] at ci
    have CI := Bx.mk ci; clear ci h
    go_enter Tryz.func43, Tryz.ntmps43
    go_wp2_with (first
      | (go_at_call 65; ((with_reducible refine (CI.out _).mono ?_); rintro e w1 ⟨rfl, b1⟩; have B1 := Bx.mk b1; clear b1))
      | (go_at_call 66; ((refine (Tryz.strconv_toError_range _ _ _ _ _ _ (by omega) (cellBel RV.out B1.out) RV'.out).mono ?_); rintro e w2 ⟨N, rfl, _, _, b2⟩; have B2 := Bx.mk (bel B1.out b2); clear b2)))
    go_ret2
    exact ⟨⟨.iface 146 (.pointer (some ⟨N, 0, none⟩)), rfl, by unfold ErrV; rw [if_neg (by decide)]; exact ⟨_, rfl⟩⟩, B2.out⟩

theorem numR_ten {s : List UInt8} (h : Lib.hasPrefix s [48, 120] = false) : numR s = puX 10 s := by
  unfold numR
  rw [if_neg]
  unfold Lib.hasPrefix at h
  rw [h]; decide
theorem numR_hex {s : List UInt8} (h : Lib.hasPrefix s [48, 120] = true) : numR s = puX 16 (s.drop 2) := by
  unfold numR
  unfold Lib.hasPrefix at h
  rw [if_pos h]

theorem str_at {T : ByteArray} {i : Nat} (h : i < T.size) (w : World) : (Instr.index 9 (.string T) (.int .i64 (i : Int))).run Tryz.prog w = .ok (.int .u8 (((by' T).getD i 0).toNat : Nat)) w := by
  have e : (by' T).getD i 0 = T[i]'h := by
    have h' : i < T.data.size := h
    simp [by', List.getD, ByteArray.getElem_eq_getElem_data, Array.getElem?_eq_getElem h']
  rw [e]
  simp [Instr.index, run_underlying Tryz.underlying9, asIntOf, go_sem, h]
theorem takeWhile_all {p : UInt8 → Bool} : ∀ (l : List UInt8) (i : Nat), (∀ j, j < i → p (l.getD j 0) = true) → i ≤ l.length → (i < l.length → p (l.getD i 0) = false) → (l.takeWhile p).length = i
  | [], i, _, h, _ => by simp at h; simp [h]
  | c :: l, 0, _, _, h => by
    have := h (by simp)
    rw [List.takeWhile_cons, if_neg (by simpa using this)]; rfl
  | c :: l, i + 1, h1, h2, h3 => by
    have h0 := h1 0 (by omega)
    rw [List.takeWhile_cons, if_pos (by simpa using h0), List.length_cons, takeWhile_all l i (fun j hj => by have := h1 (j + 1) (by omega); simpa using this) (by simpa using h2) (fun h => by have := h3 (by simpa using h); simpa using this)]

end Go.Proofs.YtdffpbfllekcgaaGreatDoor
