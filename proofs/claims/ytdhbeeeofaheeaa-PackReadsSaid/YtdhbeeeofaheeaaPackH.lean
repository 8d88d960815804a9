/- The laws of layer 4 (pack): awake; PackOrder. -/
import Derived.Test.YtdhbeeeofaheeaaPackG
namespace Go.Proofs.Ytdhbeeeofaheeaa
set_option maxRecDepth 100000
open Go.RowKit M

theorem wr_ge {w : World} {b : Nat} {L : List Nat} {v : Value} (h : Wr w b L v) : ∀ k, v.ownBlock = some k → b + 1 ≤ k := fun k hk => (h.own.lt k hk).1
theorem wakeA : numA ⟨#[248, 5]⟩ 0 0 = 0 := by decide +kernel
theorem wakeX : numX ⟨#[248, 5]⟩ 0 0 = 3 := by decide +kernel
theorem wakeL : ([] : List Nat) ++ numL 300 ++ txtL (sb ⟨#[97, 98]⟩) = [249, 1, 44, 2, 97, 98] := by decide +kernel
theorem wakeB : bs [249, 1, 44, 2, 97, 98] = ⟨#[249, 1, 44, 2, 97, 98]⟩ := by decide

set_option maxHeartbeats 400000 in
theorem awake4_any (w : World) : Calls Try.prog 7 #[] w fun e w' => e = .returned (.bool true) ∧ Below w.heap.size w w' := by
  have h0 := wr_new w w.heap.size rfl
  have c1 := num_any w.heap.size [] _ 300 (by omega) _ h0 (by simp)
  have c2 : ∀ (W : World) (v1 : Value), Wr W w.heap.size ([] ++ numL 300) v1 → Calls Try.prog 27 #[.pointer (some ⟨w.heap.size, 0, none⟩), .string ⟨#[97, 98]⟩] W (WrP w.heap.size [249, 1, 44, 2, 97, 98] v1 W) := fun W v1 hW => by
    have c := wtext_any w.heap.size _ v1 ⟨#[97, 98]⟩ W hW (by decide)
    rw [wakeL] at c; exact c
  have c3 := fun W => read_any ⟨#[248, 5]⟩ (by decide) W
  have c4 : ∀ (W : World) (r : Nat), Rd W r ⟨#[248, 5]⟩ 0 0 → Calls Try.prog 14 #[.pointer (some ⟨r, 0, none⟩)] W (RdQ r ⟨#[248, 5]⟩ 0 3 (.int .u64 ((numV ⟨#[248, 5]⟩ 0 0 : Nat) : Int)) W) := fun W r hW => by
    have c := rnum_any r _ 0 0 W hW
    rw [wakeA, wakeX] at c; exact c
  have c5 : ∀ (W : World) (v : Value), Wr W w.heap.size [249, 1, 44, 2, 97, 98] v → Calls Try.prog 8 #[.pointer (some ⟨w.heap.size, 0, none⟩)] W fun e w' => e = .returned (.string ⟨#[249, 1, 44, 2, 97, 98]⟩) ∧ W = w' := fun W v hW => by
    have c := bytes_any w.heap.size _ v W hW
    rw [wakeB] at c; exact c
  have H0 := Box.mk h0; have C1 := Box.mk c1; have C2 := Box.mk c2; have C3 := Box.mk c3; have C4 := Box.mk c4; have C5 := Box.mk c5
  clear h0 c1 c2 c3 c4 c5
  go_enter Try.func7, Try.ntmps7
  go_wp2_with (first
    | (go_at_call 25; refine C1.out.mono ?_; rintro e w1 ⟨rfl, v1, q1, x1⟩; have Q1 := Box.mk q1; have X1 := Box.mk (bch' ((Below.refl w.heap.size w).alloc (Nat.le_refl _) (.cells #[.slice none 0 0] 25)) (x1.below (B := w.heap.size) (Nat.le_refl _) (by simp) (wr_ge H0.out))); clear q1 x1)
    | (go_at_call 27; refine (C2.out _ _ Q1.out).mono ?_; rintro e w2 ⟨rfl, v2, q2, x2⟩; have Q2 := Box.mk q2; have X2 := Box.mk (bch' X1.out (x2.below (B := w.heap.size) (Nat.le_refl _) X1.out.size (wr_ge Q1.out))); clear q2 x2)
    | (go_at_call 10; refine (C3.out _).mono ?_; rintro e w3 ⟨rfl, r3, b3⟩; have R3 := Box.mk r3; have B3 := Box.mk b3; clear r3 b3)
    | (go_at_call 14; refine (C4.out _ _ R3.out).mono ?_; rintro e w4 ⟨rfl, r4, o4⟩; have R4 := Box.mk r4; have B4 := Box.mk (bch' B3.out (o4.below (B := w2.heap.size) (Nat.le_refl _) B3.out.size)); clear r4 o4)
    | (go_at_call 8; refine (C5.out _ _ (Q2.out.below B4.out)).mono ?_; rintro e w' ⟨rfl, rfl⟩)
    | (go_at_call 20; refine (err_any _ _ _ _ _ R4.out).mono ?_; rintro e w5 ⟨rfl, r5, o5⟩; have R5 := Box.mk r5; have B5 := Box.mk (bch' B4.out (o5.below (B := w2.heap.size) (Nat.le_refl _) B4.out.size)); clear r5 o5)
    | (go_at_call 19; refine (at_any _ _ _ _ _ R5.out).mono ?_; rintro e w6 ⟨rfl, r6, o6⟩; have B6 := Box.mk (bch' B5.out (o6.below (B := w2.heap.size) (Nat.le_refl _) B5.out.size)); clear r6 o6))
  go_ret
  exact ⟨rfl, X2.out.trans (B6.out.mono X2.out.size)⟩

theorem numL_len (v : Nat) : (numL v).length = if v < 248 then 1 else 1 + szN v := by
  unfold numL; split <;> simp [fx_length]; omega
theorem numL_mono {a b : Nat} (h : a ≤ b) : (numL a).length ≤ (numL b).length := by
  rw [numL_len, numL_len]
  have := szN_mono h
  have := szN_bd b
  split <;> split <;> omega
/-- no number's bytes are the beginning of another's -/
theorem numL_prefix {a b : Nat} (ha : a < 18446744073709551616) (hb : b < 18446744073709551616) (h : (numL b).take (numL a).length = numL a) : a = b := by
  have hsa := szN_bd a
  have hsb := szN_bd b
  unfold numL at h
  by_cases h1 : a < 248
  · rw [if_pos h1] at h
    by_cases h2 : b < 248
    · rw [if_pos h2] at h; simpa using h.symm
    · rw [if_neg h2] at h; simp at h; omega
  · rw [if_neg h1] at h
    by_cases h2 : b < 248
    · rw [if_pos h2] at h; simp at h; omega
    · rw [if_neg h2] at h
      simp only [List.length_cons, List.take_succ_cons, List.cons.injEq] at h
      have hs : szN b = szN a := by omega
      have h3 := h.2
      rw [hs, List.take_of_length_le (by simp [fx_length])] at h3
      have e := congrArg un h3
      rw [un_fx, un_fx, Nat.mod_eq_of_lt (szN_lt ha), ← hs, Nat.mod_eq_of_lt (szN_lt hb)] at e
      exact e.symm
theorem bs_take (l : List Nat) (n : Nat) : (bs l).extract 0 n = bs (l.take n) := by
  apply ByteArray.ext
  apply Array.ext'
  rw [ByteArray.data_extract, Array.toList_extract, List.extract_eq_take_drop]
  simp [bs, strOfNums]
theorem bs_inj {l m : List Nat} (hl : ∀ d ∈ l, d < 2 ^ 8) (hm : ∀ d ∈ m, d < 2 ^ 8) (h : bs l = bs m) : l = m := by
  have := congrArg sb h
  rwa [sb_bs l hl, sb_bs m hm] at this
theorem str_beq (x y : ByteArray) : (x.toList == y.toList) = decide (x = y) := by
  rw [ByteArray.toList_eq, ByteArray.toList_eq]
  by_cases h : x = y
  · subst h
    rw [decide_eq_true rfl]
    exact beq_self_eq_true _
  · have h2 : ¬ x.data.toList = y.data.toList := fun hh => h (by apply ByteArray.ext; exact Array.ext' hh)
    rw [decide_eq_false h]
    exact beq_eq_false_iff_ne.2 h2

theorem own_new {b n : Nat} {v' : Value} {w w' : World} (h : Ext b (.slice none 0 0) v' w w') (hs : w.heap.size = n + 2) : v'.ownBlock ≠ some (n + 1) := fun e => by
  rcases h.lies with e2 | e2
  · rw [e] at e2; cases e2
  · have := e2 _ e; omega
end Go.Proofs.Ytdhbeeeofaheeaa
