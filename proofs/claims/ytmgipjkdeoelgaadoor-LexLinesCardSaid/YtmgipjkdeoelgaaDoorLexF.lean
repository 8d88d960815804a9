/- The laws of layer 9 (lex): what a row of lines reads, awake. -/
import Derived.Test.YtmgipjkdeoelgaaDoorLexE
namespace Go.Proofs.YtmgipjkdeoelgaaDoor
set_option maxRecDepth 100000
open Go.RowKit

theorem flat_at {α β : Type} (f : α → List β) (z : Nat) (hf : ∀ x, (f x).length = z) : ∀ (X : List α) (i j : Nat) (x : α), X[i]? = some x → j < z → (X.flatMap f)[i * z + j]? = (f x)[j]?
  | [], i, j, x, h, _ => by simp at h
  | y :: X, 0, j, x, h, hj => by
    simp at h; subst h
    rw [List.flatMap_cons, Nat.zero_mul, Nat.zero_add, List.getElem?_append_left (by rw [hf]; exact hj)]
  | y :: X, i + 1, j, x, h, hj => by
    rw [List.flatMap_cons, List.getElem?_append_right (by rw [hf, Nat.succ_mul]; omega), hf, show (i + 1) * z + j - z = i * z + j by rw [Nat.succ_mul]; omega]
    exact flat_at f z hf X i j x (by simpa using h) hj
/-- what a row's places hold -/
theorem rowAt {w : World} {B e z g n cap : Nat} {xs : List Value} (h : w.ownsRow B e z (.slice (some ⟨g, 0, none⟩) n cap) n xs) {i : Nat} {u : Value} (hu : xs[i]? = some u) : w.cell? ⟨g, i, none⟩ = some u := by
  obtain ⟨hi, rfl⟩ := List.getElem?_eq_some_iff.1 hu
  rcases h.2 with ⟨h1, _⟩ | ⟨g', cap', cur, hv, hg, hh, hn, hc, hs, ht⟩
  · cases h1
  · cases hv
    rw [cellOf hh]
    have e : cur.toList[i]? = some xs[i] := by
      have e2 : (cur.toList.take (n * z))[i]? = some xs[i] := by rw [ht]; simp
      rw [List.getElem?_take] at e2
      split at e2
      · exact e2
      · cases e2
    simpa using e
/-- what a row of lines reads -/
theorem LnRow.at {w : World} {B : Nat} {v : Value} {L : List Ln} (h : LnRow w B v L) (hL : 0 < L.length) : ∃ g cap, v = .slice (some ⟨g, 0, none⟩) L.length cap ∧ g < w.heap.size ∧ B ≤ g ∧ ∀ i l, L[i]? = some l →
    ∃ u, w.cell? ⟨g, i * 2, none⟩ = some (.int .i64 (l.1 : Nat)) ∧ w.cell? ⟨g, i * 2 + 1, none⟩ = some u ∧ TokRow w B u l.2 ∧ ∃ p c, u = .slice p l.2.length c := by
  obtain ⟨X, rfl, h1, h2⟩ := h
  rw [List.length_map] at hL
  obtain ⟨g, cap, rfl⟩ := rowSome h1 hL
  have hlt := rowLt h1 g rfl
  refine ⟨g, cap, by rw [List.length_map], hlt.2, hlt.1, fun i l hl => ?_⟩
  rw [List.getElem?_map] at hl
  cases hx : X[i]? with
  | none => rw [hx] at hl; cases hl
  | some x =>
    rw [hx] at hl
    cases hl
    have c0 := flat_at lnC 2 (fun _ => rfl) X i 0 x hx (by decide)
    have c1 := flat_at lnC 2 (fun _ => rfl) X i 1 x hx (by decide)
    have ht := h2 x (List.mem_of_getElem? hx)
    exact ⟨x.2.1, rowAt h1 (show (X.flatMap lnC)[i * 2 + 0]? = _ from c0), rowAt h1 c1, ht, rowSlice ht.raw⟩
theorem LnRow.slice {w : World} {B : Nat} {v : Value} {L : List Ln} (h : LnRow w B v L) : ∃ p c, v = .slice p L.length c := by
  obtain ⟨X, rfl, h1, h2⟩ := h
  rw [List.length_map]; exact rowSlice h1
theorem TokRow.at {w : World} {B : Nat} {v : Value} {ts : List Tok} (h : TokRow w B v ts) (hL : 0 < ts.length) : ∃ g cap, v = .slice (some ⟨g, 0, none⟩) ts.length cap ∧ g < w.heap.size ∧ B ≤ g ∧ ∀ i t, ts[i]? = some t →
    w.cell? ⟨g, i * 3, none⟩ = some (.int .i64 (t.1 : Nat)) ∧ w.cell? ⟨g, i * 3 + 1, none⟩ = some (.string (st t.2.1)) ∧ w.cell? ⟨g, i * 3 + 2, none⟩ = some (.int .u64 (t.2.2 : Nat)) := by
  obtain ⟨g, cap, rfl⟩ := rowSome h.raw hL
  have hlt := rowLt h.raw g rfl
  refine ⟨g, cap, rfl, hlt.2, hlt.1, fun i t ht => ⟨rowAt h.raw ?_, rowAt h.raw ?_, rowAt h.raw ?_⟩⟩
  · exact flat_at tokC 3 (fun _ => rfl) ts i 0 t ht (by decide)
  · exact flat_at tokC 3 (fun _ => rfl) ts i 1 t ht (by decide)
  · exact flat_at tokC 3 (fun _ => rfl) ts i 2 t ht (by decide)

theorem ev1 : linesL [10, 115, 116, 111, 114, 101, 32, 120, 32, 48, 120, 49, 48, 32, 35, 32, 97, 32, 110, 111, 116, 101] = (0, [(2, [(1, [115, 116, 111, 114, 101], 0), (1, [120], 0), (2, [48, 120, 49, 48], 16)])]) := by kernel_rfl
theorem ev2 : linesL [120, 10, 49, 120] = (2, []) := by kernel_rfl

theorem cut9_any (s : ByteArray) (n : Nat) (w : World) :
    Calls Tryd.prog 5 #[.string s, .int .i64 (n : Nat)] w fun e w' => e = .returned (.string (s.extract 0 n)) ∧ w = w' := by
  by_cases h : s.size ≤ n
  · have e : s.extract 0 n = s := by
      rw [← st_by s, st_part]
      congr 1
      rw [List.drop_zero]
      exact List.take_of_length_le (by rw [by_size]; omega)
    rw [e]
    go_enter Tryd.func5, Tryd.ntmps5
    go_wp2
    go_ret
    exact ⟨rfl, rfl⟩
  · go_enter Tryd.func5, Tryd.ntmps5
    go_wp2
    go_ret
    exact ⟨rfl, rfl⟩

/-- Lines of no more than 2000 bytes: the lines -/
theorem lines_ok (T : ByteArray) (hT : T.size ≤ 2000) {L : List Ln} (h : linesL (by' T) = (0, L)) (w : World) (hL : LibW w) :
    Calls Tryd.prog 6 #[.string T] w fun e w' => (∃ v, e = .returned (.tuple #[v, .int .i64 0, .int .i64 0]) ∧ LnRow w' w.heap.size v L) ∧ Below w.heap.size w w' := by
  refine (lines_any T (by omega) w hL).mono fun e w' ⟨h1, h2⟩ => ⟨?_, h2⟩
  rw [by_size, if_neg (by omega), h, if_pos rfl] at h1
  exact h1
theorem lines_bad (T : ByteArray) (hT : T.size ≤ 2000) (h : (linesL (by' T)).1 ≠ 0) (w : World) (hL : LibW w) :
    Calls Tryd.prog 6 #[.string T] w fun e w' => e = .returned (.tuple #[.slice none 0 0, .int .i64 ((linesL (by' T)).1 : Nat), .int .i64 10]) ∧ Below w.heap.size w w' := by
  refine (lines_any T (by omega) w hL).mono fun e w' ⟨h1, h2⟩ => ⟨?_, h2⟩
  rw [by_size, if_neg (by omega), if_neg h] at h1
  exact h1

set_option maxHeartbeats 1600000 in
theorem awake9_any (w : World) (hL : LibW w) :
    Calls Tryd.prog 8 #[] w fun e w' => e = .returned (.bool true) ∧ Below w.heap.size w w' := by
  obtain ⟨S1, hS1⟩ : ∃ S1 : ByteArray, S1 = ⟨#[10, 115, 116, 111, 114, 101, 32, 120, 32, 48, 120, 49, 48, 32, 35, 32, 97, 32, 110, 111, 116, 101]⟩ := ⟨_, rfl⟩
  obtain ⟨S2, hS2⟩ : ∃ S2 : ByteArray, S2 = ⟨#[120, 10, 49, 120]⟩ := ⟨_, rfl⟩
  have z1 : S1.size ≤ 2000 := by rw [hS1]; decide
  have z2 : S2.size ≤ 2000 := by rw [hS2]; decide
  have v1 : linesL (by' S1) = (0, [(2, [(1, [115, 116, 111, 114, 101], 0), (1, [120], 0), (2, [48, 120, 49, 48], 16)])]) := by rw [hS1]; exact ev1
  have v2 : linesL (by' S2) = (2, []) := by rw [hS2]; exact ev2
  have c1 := fun W h => lines_ok S1 z1 v1 W h
  have c2 := fun W h => lines_bad S2 z2 (by rw [v2]; decide) W h
  rw [v2] at c2
  rw [hS1] at c1
  rw [hS2] at c2
  have C1 := Bx.mk c1; have C2 := Bx.mk c2; have HL := Bx.mk hL
  clear c1 c2 hL v1 v2 z1 z2 hS1 hS2 S1 S2
  go_enter Tryd.func8, Tryd.ntmps8
  go_wp2_with (go_at_call 6; first
    | ((with_reducible refine (C1.out _ HL.out).mono ?_); rintro e w1 ⟨⟨v, rfl, hr⟩, b1⟩; obtain ⟨g, cap, rfl, hg, _, hat⟩ := hr.at (by decide); obtain ⟨u, d0, d1, hu, _⟩ := hat 0 _ rfl; obtain ⟨k, cap2, rfl, hk, _, hta⟩ := hu.at (by decide); obtain ⟨d2, d3, d4⟩ := hta 2 _ rfl; have d3 : w1.cell? ⟨k, 7, none⟩ = some (.string ⟨#[48, 120, 49, 48]⟩) := d3; have B1 := Bx.mk b1; clear b1 hat hta hr hu)
    | ((with_reducible refine (C2.out _ (HL.out.below B1.out)).mono ?_); rintro e w2 ⟨rfl, b2⟩; have d0 := cellBel d0 b2; have d1 := cellBel d1 b2; have d2 := cellBel d2 b2; have d3 := cellBel d3 b2; have d4 := cellBel d4 b2; have B2 := Bx.mk (bel B1.out b2); clear b2))
  go_ret
  exact ⟨rfl, B2.out⟩
end Go.Proofs.YtmgipjkdeoelgaaDoor
