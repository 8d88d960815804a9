/- Contracts of lex: number, size, first, bare. -/
import Derived.Test.YtmgipjkdeoelgaaDoorLexA
import Derived.PlainAid
namespace Go.Proofs.YtmgipjkdeoelgaaDoor
set_option maxRecDepth 100000
open Go.RowKit

theorem belDrewN {B : Nat} {w0 w : World} (h : Below B w0 w) (n : Nat) : Below B w0 (w.drewN n) := ⟨h.os, h.tape, h.output, h.size, h.block⟩

/-- what the library's variables hold -/
structure LibW (w : World) : Prop where
  max : ∃ m, w.cell? ⟨0, 0, none⟩ = some (.int .i64 m)
  syn : ∃ ev, w.cell? ⟨3, 0, none⟩ = some ev ∧ (ev = .nilIface ∨ ∃ te pe, ev = .iface te pe)
  rng : ∃ ev, w.cell? ⟨4, 0, none⟩ = some ev ∧ (ev = .nilIface ∨ ∃ te pe, ev = .iface te pe)
theorem cell_lt {w : World} {b o : Nat} {v : Value} (h : w.cell? ⟨b, o, none⟩ = some v) : b < w.heap.size := by
  rcases Nat.lt_or_ge b w.heap.size with hl | hl
  · exact hl
  · simp only [World.cell?, Array.getElem?_eq_none hl] at h
    cases h
theorem cellBel {w w' : World} {b o : Nat} {v : Value} (h : w.cell? ⟨b, o, none⟩ = some v) (hb : Below w.heap.size w w') : w'.cell? ⟨b, o, none⟩ = some v := by
  rw [hb.cell (cell_lt h)]; exact h
theorem LibW.below {w w' : World} (h : LibW w) (hb : Below w.heap.size w w') : LibW w' := by
  obtain ⟨⟨m, h1⟩, ⟨e, h2, h2'⟩, ⟨f, h3, h3'⟩⟩ := h
  exact ⟨⟨m, cellBel h1 hb⟩, ⟨e, cellBel h2 hb, h2'⟩, ⟨f, cellBel h3 hb, h3'⟩⟩
theorem LibW.heap {w w' : World} (h : LibW w) (hb : w'.heap = w.heap) : LibW w' := by
  have e : ∀ a, w'.cell? a = w.cell? a := fun a => by simp only [World.cell?, hb]
  obtain ⟨⟨m, h1⟩, ⟨x, h2, h2'⟩, ⟨f, h3, h3'⟩⟩ := h
  exact ⟨⟨m, (e _).trans h1⟩, ⟨x, (e _).trans h2, h2'⟩, ⟨f, (e _).trans h3, h3'⟩⟩

/-- the error of a number -/
def ErrV (r : Nat × Nat) (x : Value) : Prop := if r.1 = 0 then x = .nilIface else ∃ N, x = .iface 96 (.pointer (some ⟨N, 0, none⟩))

theorem pu_code (b : Nat) : ∀ (s : List UInt8) (acc : Nat), (pu b acc s).1 = 0 ∨ pu b acc s = (2, 0) ∨ pu b acc s = (1, 18446744073709551615)
  | [], acc => .inl rfl
  | c :: t, acc => by
    unfold pu
    split
    · exact .inr (.inl rfl)
    · split
      · exact .inr (.inr rfl)
      · exact pu_code b t _
theorem puX_code (b : Nat) (s : List UInt8) : (puX b s).1 = 0 ∨ puX b s = (2, 0) ∨ puX b s = (1, 18446744073709551615) := by
  unfold puX
  split
  · exact .inr (.inl rfl)
  · exact pu_code b s 0

set_option maxHeartbeats 800000 in
theorem parse_any (b : Nat) (hb : b = 10 ∨ b = 16) (t : ByteArray) (ht : t.size ≤ 1000000) (w : World) (hL : LibW w) :
    Calls Tryd.prog 43 #[.string t, .int .i64 (b : Nat), .int .i64 64] w fun e w' => (∃ x, e = .returned (.tuple #[.int .u64 ((puX b (by' t)).2 : Nat), x]) ∧ ErrV (puX b (by' t)) x) ∧ Below w.heap.size w w' := by
  have ci := fun W => iparse_any b hb t ht W
  have hL' := Bx.mk hL
  obtain ⟨sv, hsv, hsv'⟩ := hL.syn
  obtain ⟨rv, hrv, hrv'⟩ := hL.rng
  have SV := Bx.mk hsv; have SV' := Bx.mk hsv'; have RV := Bx.mk hrv; have RV' := Bx.mk hrv'
  clear hL hsv hsv' hrv hrv'
  rcases puX_code b (by' t) with h | h | h
  · obtain ⟨v, hv⟩ : ∃ v, puX b (by' t) = (0, v) := ⟨_, Prod.ext h rfl⟩
    rw [hv] at ci ⊢
    rw [puV_ok] at ci
    have CI := Bx.mk ci; clear ci h hv
    go_enter Tryd.func43, Tryd.ntmps43
    go_wp2_with (go_at_call 52; ((with_reducible refine (CI.out _).mono ?_); rintro e w1 ⟨rfl, b1⟩; have B1 := Bx.mk b1; clear b1))
    go_ret2
    exact ⟨⟨.nilIface, rfl, by unfold ErrV; rw [if_pos rfl]⟩, B1.out⟩
  · rw [h] at ci ⊢
    rw [puV_syn] at ci
    have CI := Bx.mk ci; clear ci h
    go_enter Tryd.func43, Tryd.ntmps43
    go_wp2_with (first
      | (go_at_call 52; ((with_reducible refine (CI.out _).mono ?_); rintro e w1 ⟨rfl, b1⟩; have B1 := Bx.mk b1; clear b1))
      | (go_at_call 53; ((refine (Tryd.strconv_toError_syntax _ _ _ _ _ _ (by omega) (cellBel SV.out B1.out) SV'.out).mono ?_); rintro e w2 ⟨N, rfl, _, _, b2⟩; have B2 := Bx.mk (bel B1.out b2); clear b2)))
    go_ret2
    exact ⟨⟨.iface 96 (.pointer (some ⟨N, 0, none⟩)), rfl, by unfold ErrV; rw [if_neg (by decide)]; exact ⟨_, rfl⟩⟩, B2.out⟩
  · rw [h] at ci ⊢
    rw [puV_rng] at ci
    have CI := Bx.mk ci; clear ci h
    go_enter Tryd.func43, Tryd.ntmps43
    go_wp2_with (first
      | (go_at_call 52; ((with_reducible refine (CI.out _).mono ?_); rintro e w1 ⟨rfl, b1⟩; have B1 := Bx.mk b1; clear b1))
      | (go_at_call 53; ((refine (Tryd.strconv_toError_range _ _ _ _ _ _ (by omega) (cellBel RV.out B1.out) RV'.out).mono ?_); rintro e w2 ⟨N, rfl, _, _, b2⟩; have B2 := Bx.mk (bel B1.out b2); clear b2)))
    go_ret2
    exact ⟨⟨.iface 96 (.pointer (some ⟨N, 0, none⟩)), rfl, by unfold ErrV; rw [if_neg (by decide)]; exact ⟨_, rfl⟩⟩, B2.out⟩

theorem numR_ten {s : List UInt8} (h : Lib.hasPrefix s [48, 120] = false) : numR s = puX 10 s := by
  unfold numR
  rw [if_neg]
  unfold Lib.hasPrefix at h
  rw [h]; decide
theorem numR_hex {s : List UInt8} (h : Lib.hasPrefix s [48, 120] = true) : numR s = puX 16 (s.drop 2) := by
  unfold numR
  unfold Lib.hasPrefix at h
  rw [if_pos h]

set_option maxHeartbeats 800000 in
theorem number_any (t : ByteArray) (ht : t.size ≤ 1000000) (w : World) (hL : LibW w) :
    Calls Tryd.prog 32 #[.string t] w fun e w' => e = .returned (.tuple #[.int .u64 ((numR (by' t)).2 : Nat), .bool (decide ((numR (by' t)).1 = 0))]) ∧ Below w.heap.size w w' := by
  have cp := fun W => Tryd.strings_CutPrefix t ⟨#[48, 120]⟩ W
  have HL := Bx.mk hL; clear hL
  have e2 : Lib.trimPrefix (by' t) [48, 120] = if Lib.hasPrefix (by' t) [48, 120] then (by' t).drop 2 else by' t := rfl
  have cp : ∀ W, Calls Tryd.prog 42 #[.string t, .string ⟨#[48, 120]⟩] W fun e w' => e = .returned (.tuple #[.string (st (Lib.trimPrefix (by' t) [48, 120])), .bool (Lib.hasPrefix (by' t) [48, 120])]) ∧ w' = W := cp
  have fin : ∀ (b : Nat) (T : ByteArray) (r : Nat × Nat) (f : Bool) (hb : (f = true ∧ b = 16) ∨ (f = false ∧ b = 10)),
      (∀ W, Calls Tryd.prog 42 #[.string t, .string ⟨#[48, 120]⟩] W fun e w' => e = .returned (.tuple #[.string T, .bool f]) ∧ w' = W) →
      (∀ W, LibW W → Calls Tryd.prog 43 #[.string T, .int .i64 (b : Nat), .int .i64 64] W fun e w' => (∃ x, e = .returned (.tuple #[.int .u64 (r.2 : Nat), x]) ∧ ErrV r x) ∧ Below W.heap.size W w') →
      Calls Tryd.prog 32 #[.string t] w fun e w' => e = .returned (.tuple #[.int .u64 (r.2 : Nat), .bool (decide (r.1 = 0))]) ∧ Below w.heap.size w w' := by
    intro b T r f hb cp cu
    have CP := Bx.mk cp; have CU := Bx.mk cu; clear cp cu e2
    rcases hb with ⟨rfl, rfl⟩ | ⟨rfl, rfl⟩
    all_goals
      by_cases h0 : r.1 = 0
      · have H0 := Bx.mk h0
        rw [decide_eq_true h0]
        clear h0
        go_enter Tryd.func32, Tryd.ntmps32
        go_wp2_with (first
          | (go_at_call 42; ((with_reducible refine (CP.out _).mono ?_); rintro e w1 ⟨rfl, rfl⟩))
          | (go_at_call 43; ((refine (CU.out _ HL.out).mono ?_); rintro e w2 ⟨⟨x, rfl, hx⟩, b2⟩; unfold ErrV at hx; rw [if_pos H0.out] at hx; subst hx; have B2 := Bx.mk b2; clear b2)))
        go_quiet (fail)
        go_wp2
        go_ret2
        exact ⟨rfl, belDrewN B2.out _⟩
      · have H0 := Bx.mk h0
        rw [decide_eq_false h0]
        clear h0
        go_enter Tryd.func32, Tryd.ntmps32
        go_wp2_with (first
          | (go_at_call 42; ((with_reducible refine (CP.out _).mono ?_); rintro e w1 ⟨rfl, rfl⟩))
          | (go_at_call 43; ((refine (CU.out _ HL.out).mono ?_); rintro e w2 ⟨⟨x, rfl, hx⟩, b2⟩; unfold ErrV at hx; rw [if_neg H0.out] at hx; obtain ⟨N, rfl⟩ := hx; have B2 := Bx.mk b2; clear b2)))
        go_quiet (fail)
        go_wp2
        go_ret2
        exact ⟨rfl, belDrewN B2.out _⟩
  by_cases hp : Lib.hasPrefix (by' t) [48, 120] = true
  · have cu := fun W h => parse_any 16 (.inr rfl) (st ((by' t).drop 2)) (by rw [st_size, List.length_drop, by_size]; omega) W h
    rw [numR_hex hp]
    rw [e2, if_pos hp, hp] at cp
    rw [by_st] at cu
    exact fin 16 _ _ true (.inl ⟨rfl, rfl⟩) cp cu
  · have hp' : Lib.hasPrefix (by' t) [48, 120] = false := by simpa using hp
    have cu := fun W h => parse_any 10 (.inl rfl) t ht W h
    rw [numR_ten hp']
    rw [e2, if_neg hp, hp', st_by] at cp
    exact fin 10 _ _ false (.inr ⟨rfl, rfl⟩) cp cu

theorem str_at {T : ByteArray} {i : Nat} (h : i < T.size) (w : World) : (Instr.index 9 (.string T) (.int .i64 (i : Int))).run Tryd.prog w = .ok (.int .u8 (((by' T).getD i 0).toNat : Nat)) w := by
  have e : (by' T).getD i 0 = T[i]'h := by
    have h' : i < T.data.size := h
    simp [by', List.getD, ByteArray.getElem_eq_getElem_data, Array.getElem?_eq_getElem h']
  rw [e]
  simp [Instr.index, run_underlying Tryd.underlying9, asIntOf, go_sem, h]
theorem takeWhile_all {p : UInt8 → Bool} : ∀ (l : List UInt8) (i : Nat), (∀ j, j < i → p (l.getD j 0) = true) → i ≤ l.length → (i < l.length → p (l.getD i 0) = false) → (l.takeWhile p).length = i
  | [], i, _, h, _ => by simp at h; simp [h]
  | c :: l, 0, _, _, h => by
    have := h (by simp)
    rw [List.takeWhile_cons, if_neg (by simpa using this)]; rfl
  | c :: l, i + 1, h1, h2, h3 => by
    have h0 := h1 0 (by omega)
    rw [List.takeWhile_cons, if_pos (by simpa using h0), List.length_cons, takeWhile_all l i (fun j hj => by have := h1 (j + 1) (by omega); simpa using this) (by simpa using h2) (fun h => by have := h3 (by simpa using h); simpa using this)]

set_option maxHeartbeats 800000 in
theorem size_any (t : ByteArray) (ht : t.size ≤ 1000000) (w : World) :
    Calls Tryd.prog 30 #[.string t] w fun e w' => e = .returned (.int .i64 (((by' t).takeWhile isA).length : Nat)) ∧ w = w' := by
  go_enter Tryd.func30, Tryd.ntmps30
  go_wp2_with fail
  go_loop [6] (fun i => ∃ k : Nat, i = .int .i64 (k : Int) ∧ k ≤ t.size ∧ Bx (∀ j, j < k → isA ((by' t).getD j 0) = true)) (fun i => t.size - (intOf i).toNat)
  case atStart => exact ⟨0, rfl, by omega, ⟨fun j h => by omega⟩⟩
  case round =>
    obtain ⟨k, rfl, hk, hA⟩ := hrel
    by_cases hkn : k < t.size
    · have hix := fun W => str_at hkn W
      have done := fun hA2 : isA ((by' t).getD k 0) = false => takeWhile_all (by' t) k hA.out (by rw [by_size]; exact hk) (fun _ => hA2)
      have next := fun hA2 : isA ((by' t).getD k 0) = true => show ∀ j, j < k + 1 → isA ((by' t).getD j 0) = true from fun j hj => by
        by_cases e : j = k
        · rw [e]; exact hA2
        · exact hA.out j (by omega)
      have DN := Bx.mk done; have NX := Bx.mk next
      clear done next hA
      generalize hc : (by' t).getD k 0 = c at *
      have cl := fun W => isLetter_any c W
      have cd := fun W => isDigit_any c W
      have CL := Bx.mk cl; have CD := Bx.mk cd; have HC := Bx.mk hc
      clear cl cd hc
      have hor : isA c = (isL c || isD c) := rfl
      cases h1 : isL c <;> cases h2 : isD c
      all_goals
        rw [h1, h2] at hor
        rw [h1] at CL
        rw [h2] at CD
        simp at hor
        have HOR := Bx.mk hor
        clear hor h1 h2
        go_wp2_with (first
          | (go_at_call 29; ((with_reducible refine (CL.out _).mono ?_); rintro e w1 ⟨rfl, rfl⟩))
          | (go_at_call 31; ((with_reducible refine (CD.out _).mono ?_); rintro e w1 ⟨rfl, rfl⟩)))
      · go_ret
        rw [DN.out HOR.out]
        exact ⟨rfl, rfl⟩
      all_goals
        go_round
        case rel => exact ⟨k + 1, by go_num, by omega, ⟨NX.out HOR.out⟩⟩
        case measure => simp [intOf]; omega
    · have e := takeWhile_all (by' t) k hA.out (by rw [by_size]; exact hk) (fun h => by rw [by_size] at h; omega)
      obtain rfl : k = t.size := by omega
      have E := Bx.mk e; clear e hA
      go_wp2
      go_ret
      rw [E.out]
      exact ⟨rfl, rfl⟩
end Go.Proofs.YtmgipjkdeoelgaaDoor
