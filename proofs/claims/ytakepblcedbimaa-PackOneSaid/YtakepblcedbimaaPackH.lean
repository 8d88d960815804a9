/- The laws of layer 4 (pack): awake; PackOrder. -/
import Derived.Test.YtakepblcedbimaaPackG
namespace Go.Proofs.Ytakepblcedbimaa
open Go.RowKit M

theorem wr_ge {w : World} {b : Nat} {L : List Nat} {v : Value} (h : Wr w b L v) : ∀ k, v.ownBlock = some k → b + 1 ≤ k := fun k hk => (h.own.lt k hk).1
theorem wakeA : numA ⟨#[248, 5]⟩ 0 0 = 0 := by decide +kernel
theorem wakeX : numX ⟨#[248, 5]⟩ 0 0 = 3 := by decide +kernel
theorem wakeL : ([] : List Nat) ++ numL 300 ++ txtL (sb ⟨#[97, 98]⟩) = [249, 1, 44, 2, 97, 98] := by decide +kernel
theorem wakeB : bs [249, 1, 44, 2, 97, 98] = ⟨#[249, 1, 44, 2, 97, 98]⟩ := by decide

set_option maxHeartbeats 400000 in
theorem awake4_any (w : World) : Calls Try.prog 9 #[] w fun e w' => e = .returned (.bool true) ∧ Below w.heap.size w w' := by
  have h0 := wr_new w w.heap.size rfl
  have c1 := num_any w.heap.size [] _ 300 (by omega) _ h0 (by simp)
  have c2 : ∀ (W : World) (v1 : Value), Wr W w.heap.size ([] ++ numL 300) v1 → Calls Try.prog 31 #[.pointer (some ⟨w.heap.size, 0, none⟩), .string ⟨#[97, 98]⟩] W (WrP w.heap.size [249, 1, 44, 2, 97, 98] v1 W) := fun W v1 hW => by
    have c := wtext_any w.heap.size _ v1 ⟨#[97, 98]⟩ W hW (by decide)
    rw [wakeL] at c; exact c
  have c3 := fun W => read_any ⟨#[248, 5]⟩ (by decide) W
  have c4 : ∀ (W : World) (r : Nat), Rd W r ⟨#[248, 5]⟩ 0 0 → Calls Try.prog 16 #[.pointer (some ⟨r, 0, none⟩)] W (RdQ r ⟨#[248, 5]⟩ 0 3 (.int .u64 ((numV ⟨#[248, 5]⟩ 0 0 : Nat) : Int)) W) := fun W r hW => by
    have c := rnum_any r _ 0 0 W hW
    rw [wakeA, wakeX] at c; exact c
  have c5 : ∀ (W : World) (v : Value), Wr W w.heap.size [249, 1, 44, 2, 97, 98] v → Calls Try.prog 10 #[.pointer (some ⟨w.heap.size, 0, none⟩)] W fun e w' => e = .returned (.string ⟨#[249, 1, 44, 2, 97, 98]⟩) ∧ W = w' := fun W v hW => by
    have c := bytes_any w.heap.size _ v W hW
    rw [wakeB] at c; exact c
  have H0 := Box.mk h0; have C1 := Box.mk c1; have C2 := Box.mk c2; have C3 := Box.mk c3; have C4 := Box.mk c4; have C5 := Box.mk c5
  clear h0 c1 c2 c3 c4 c5
  go_enter Try.func9, Try.ntmps9
  go_wp2_with (first
    | (go_at_call 29; refine C1.out.mono ?_; rintro e w1 ⟨rfl, v1, q1, x1⟩; have Q1 := Box.mk q1; have X1 := Box.mk (bch' ((Below.refl w.heap.size w).alloc (Nat.le_refl _) (.cells #[.slice none 0 0] 25)) (x1.below (B := w.heap.size) (Nat.le_refl _) (by simp) (wr_ge H0.out))); clear q1 x1)
    | (go_at_call 31; refine (C2.out _ _ Q1.out).mono ?_; rintro e w2 ⟨rfl, v2, q2, x2⟩; have Q2 := Box.mk q2; have X2 := Box.mk (bch' X1.out (x2.below (B := w.heap.size) (Nat.le_refl _) X1.out.size (wr_ge Q1.out))); clear q2 x2)
    | (go_at_call 12; refine (C3.out _).mono ?_; rintro e w3 ⟨rfl, r3, b3⟩; have R3 := Box.mk r3; have B3 := Box.mk b3; clear r3 b3)
    | (go_at_call 16; refine (C4.out _ _ R3.out).mono ?_; rintro e w4 ⟨rfl, r4, o4⟩; have R4 := Box.mk r4; have B4 := Box.mk (bch' B3.out (o4.below (B := w2.heap.size) (Nat.le_refl _) B3.out.size)); clear r4 o4)
    | (go_at_call 10; refine (C5.out _ _ (Q2.out.below B4.out)).mono ?_; rintro e w' ⟨rfl, rfl⟩)
    | (go_at_call 22; refine (err_any _ _ _ _ _ R4.out).mono ?_; rintro e w5 ⟨rfl, r5, o5⟩; have R5 := Box.mk r5; have B5 := Box.mk (bch' B4.out (o5.below (B := w2.heap.size) (Nat.le_refl _) B4.out.size)); clear r5 o5)
    | (go_at_call 21; refine (at_any _ _ _ _ _ R5.out).mono ?_; rintro e w6 ⟨rfl, r6, o6⟩; have B6 := Box.mk (bch' B5.out (o6.below (B := w2.heap.size) (Nat.le_refl _) B5.out.size)); clear r6 o6))
  go_ret
  exact ⟨rfl, X2.out.trans (B6.out.mono X2.out.size)⟩

theorem numL_len (v : Nat) : (numL v).length = if v < 248 then 1 else 1 + szN v := by
  unfold numL; split <;> simp [fx_length]; omega
theorem numL_mono {a b : Nat} (h : a ≤ b) : (numL a).length ≤ (numL b).length := by
  rw [numL_len, numL_len]
  have := szN_mono h
  have := szN_bd b
  split <;> split <;> omega
/-- no number's bytes are the beginning of another's -/
theorem numL_prefix {a b : Nat} (ha : a < 18446744073709551616) (hb : b < 18446744073709551616) (h : (numL b).take (numL a).length = numL a) : a = b := by
  have hsa := szN_bd a
  have hsb := szN_bd b
  unfold numL at h
  by_cases h1 : a < 248
  · rw [if_pos h1] at h
    by_cases h2 : b < 248
    · rw [if_pos h2] at h; simpa using h.symm
    · rw [if_neg h2] at h; simp at h; omega
  · rw [if_neg h1] at h
    by_cases h2 : b < 248
    · rw [if_pos h2] at h; simp at h; omega
    · rw [if_neg h2] at h
      simp only [List.length_cons, List.take_succ_cons, List.cons.injEq] at h
      have hs : szN b = szN a := by omega
      have h3 := h.2
      rw [hs, List.take_of_length_le (by simp [fx_length])] at h3
      have e := congrArg un h3
      rw [un_fx, un_fx, Nat.mod_eq_of_lt (szN_lt ha), ← hs, Nat.mod_eq_of_lt (szN_lt hb)] at e
      exact e.symm
theorem bs_take (l : List Nat) (n : Nat) : (bs l).extract 0 n = bs (l.take n) := by
  apply ByteArray.ext
  apply Array.ext'
  rw [ByteArray.data_extract, Array.toList_extract, List.extract_eq_take_drop]
  simp [bs, strOfNums]
theorem bs_inj {l m : List Nat} (hl : ∀ d ∈ l, d < 2 ^ 8) (hm : ∀ d ∈ m, d < 2 ^ 8) (h : bs l = bs m) : l = m := by
  have := congrArg sb h
  rwa [sb_bs l hl, sb_bs m hm] at this
theorem str_beq (x y : ByteArray) : (x.toList == y.toList) = decide (x = y) := by
  rw [ByteArray.toList_eq, ByteArray.toList_eq]
  by_cases h : x = y
  · subst h
    rw [decide_eq_true rfl]
    exact beq_self_eq_true _
  · have h2 : ¬ x.data.toList = y.data.toList := fun hh => h (by apply ByteArray.ext; exact Array.ext' hh)
    rw [decide_eq_false h]
    exact beq_eq_false_iff_ne.2 h2

theorem own_new {b n : Nat} {v' : Value} {w w' : World} (h : Ext b (.slice none 0 0) v' w w') (hs : w.heap.size = n + 2) : v'.ownBlock ≠ some (n + 1) := fun e => by
  rcases h.lies with e2 | e2
  · rw [e] at e2; cases e2
  · have := e2 _ e; omega
set_option maxRecDepth 100000 in
set_option maxHeartbeats 600000 in
theorem packOrder_walk (a b : Nat) (ha : a < 18446744073709551616) (hb : b < 18446744073709551616) (w : World) :
    Calls Try.prog 7 #[.int .u64 a, .int .u64 b] w fun e w' => e = .returned (.bool true) ∧ Below w.heap.size w w' := by
  have h1 : Wr ((w.alloc (.cells #[.slice none 0 0] 25)).alloc (.cells #[.slice none 0 0] 25)) w.heap.size [] (.slice none 0 0) := (wr_new w _ rfl).below ((Below.refl _ _).alloc (Nat.le_refl _) _)
  have h2 : Wr ((w.alloc (.cells #[.slice none 0 0] 25)).alloc (.cells #[.slice none 0 0] 25)) (w.heap.size + 1) [] (.slice none 0 0) := wr_new _ _ (by simp)
  have hA : Below w.heap.size w ((w.alloc (.cells #[.slice none 0 0] 25)).alloc (.cells #[.slice none 0 0] 25)) := ((Below.refl _ _).alloc (Nat.le_refl _) _).alloc (by simp) _
  have hsz : ((w.alloc (.cells #[.slice none 0 0] 25)).alloc (.cells #[.slice none 0 0] 25)).heap.size = w.heap.size + 2 := by simp
  have c1 := num_any w.heap.size [] _ a ha _ h1 (by simp)
  have c2 : ∀ (W : World), Wr W (w.heap.size + 1) [] (.slice none 0 0) → Calls Try.prog 29 #[.pointer (some ⟨w.heap.size + 1, 0, none⟩), .int .u64 b] W (WrP (w.heap.size + 1) ([] ++ numL b) (.slice none 0 0) W) := fun W hW => num_any _ [] _ b hb W hW (by simp)
  have cb : ∀ (W : World) (r : Nat) (L : List Nat) (v : Value), Wr W r L v → Calls Try.prog 10 #[.pointer (some ⟨r, 0, none⟩)] W fun e w' => e = .returned (.string (bs L)) ∧ W = w' := fun W r L v hW => bytes_any r L v W hW
  have hla := numL_length a
  have hlb := numL_length b
  have hsa : (bs (numL a)).size = (numL a).length := bs_size _
  have hsb : (bs (numL b)).size = (numL b).length := bs_size _
  have hpre : a ≤ b → (((bs (numL b)).extract 0 (bs (numL a)).size).toList == (bs (numL a)).toList) = decide (a = b) := fun hab => by
    rw [str_beq, hsa, bs_take]
    by_cases e : a = b
    · subst e; simp
    · have : ¬ bs ((numL b).take (numL a).length) = bs (numL a) := fun hh => e (numL_prefix ha hb (bs_inj (fun d hd => numL_lt b d (List.mem_of_mem_take hd)) (numL_lt a) hh))
      simp [e, this]
  have hge : b < a → (bs (numL b)).size ≤ (bs (numL a)).size := fun hab => by rw [hsa, hsb]; exact numL_mono (by omega)
  have hle : a ≤ b → (bs (numL a)).size ≤ (bs (numL b)).size := fun hab => by rw [hsa, hsb]; exact numL_mono hab
  obtain ⟨S, hS⟩ : ∃ S, S = bs (numL a) := ⟨_, rfl⟩
  obtain ⟨T, hT⟩ : ∃ T, T = bs (numL b) := ⟨_, rfl⟩
  have s9 : S.size ≤ 9 := by rw [hS, hsa]; omega
  have t9 : T.size ≤ 9 := by rw [hT, hsb]; omega
  rw [← hS, ← hT] at hpre hge hle
  have cb1 : ∀ (W : World) (v : Value), Wr W w.heap.size ([] ++ numL a) v → Calls Try.prog 10 #[.pointer (some ⟨w.heap.size, 0, none⟩)] W fun e w' => e = .returned (.string S) ∧ W = w' := fun W v hW => by rw [hS]; exact cb W _ (numL a) v hW
  have cb2 : ∀ (W : World) (v : Value), Wr W (w.heap.size + 1) ([] ++ numL b) v → Calls Try.prog 10 #[.pointer (some ⟨w.heap.size + 1, 0, none⟩)] W fun e w' => e = .returned (.string T) ∧ W = w' := fun W v hW => by rw [hT]; exact cb W _ (numL b) v hW
  have H1 := Box.mk h1; have H2 := Box.mk h2; have HA := Box.mk hA; have HS := Box.mk hsz; have C1 := Box.mk c1; have C2 := Box.mk c2; have CB1 := Box.mk cb1; have CB2 := Box.mk cb2
  have HP := Box.mk hpre; have HG := Box.mk hge; have HLE := Box.mk hle
  clear h1 h2 hA hsz c1 c2 cb cb1 cb2 hpre hge hle hla hlb hsa hsb hS hT
  rcases (by omega : b < a ∨ a < b ∨ a = b) with hc | hc | hc
  · have hg := HG.out hc
    go_enter Try.func7, Try.ntmps7
    go_wp2_with (first
      | (go_at_call 29; ((with_reducible refine C1.out.mono ?_); rintro e w1 ⟨rfl, v1, q1, x1⟩; have Q1 := Box.mk q1; have X1 := Box.mk x1; have B1 := Box.mk (bch' HA.out (x1.below (B := w.heap.size) (Nat.le_refl _) HA.out.size (wr_ge H1.out))); have Z1 := Box.mk (H2.out.ext x1 (by omega) (by simp [Value.ownBlock]) (by simp [Value.ownBlock]) (by simp [Value.ownBlock])); clear q1 x1))
      | (go_at_call 29; ((with_reducible refine (C2.out _ Z1.out).mono ?_); rintro e w2 ⟨rfl, v2, q2, x2⟩; have Q2 := Box.mk q2; have B2 := Box.mk (bch' B1.out (x2.below (B := w.heap.size) (by omega) B1.out.size (wr_ge Z1.out))); have Z2 := Box.mk (Q1.out.ext x2 (by omega) (by simp [Value.ownBlock]) (own_new X1.out HS.out) (by simp [Value.ownBlock])); clear q2 x2))
      | (go_at_call 10; ((with_reducible refine (CB1.out _ _ Z2.out).mono ?_); rintro e w' ⟨rfl, rfl⟩))
      | (go_at_call 10; ((with_reducible refine (CB2.out _ _ Q2.out).mono ?_); rintro e w' ⟨rfl, rfl⟩))
      | (go_at_call 9; refine (awake4_any _).mono ?_; rintro e w3 ⟨rfl, b3⟩; have B3 := Box.mk (bch B2.out b3); clear b3))
    go_ret
    exact ⟨rfl, B3.out⟩
  · have hg := HLE.out (by omega)
    have hp := HP.out (by omega)
    rw [decide_eq_false (by omega)] at hp
    have e1 : ((a : Int) == (b : Int)) = false := by rw [beq_eq_false_iff_ne]; omega
    have e2 : (a == b) = false := by rw [beq_eq_false_iff_ne]; omega
    go_enter Try.func7, Try.ntmps7
    go_wp2_with (first
      | (go_at_call 29; ((with_reducible refine C1.out.mono ?_); rintro e w1 ⟨rfl, v1, q1, x1⟩; have Q1 := Box.mk q1; have X1 := Box.mk x1; have B1 := Box.mk (bch' HA.out (x1.below (B := w.heap.size) (Nat.le_refl _) HA.out.size (wr_ge H1.out))); have Z1 := Box.mk (H2.out.ext x1 (by omega) (by simp [Value.ownBlock]) (by simp [Value.ownBlock]) (by simp [Value.ownBlock])); clear q1 x1))
      | (go_at_call 29; ((with_reducible refine (C2.out _ Z1.out).mono ?_); rintro e w2 ⟨rfl, v2, q2, x2⟩; have Q2 := Box.mk q2; have B2 := Box.mk (bch' B1.out (x2.below (B := w.heap.size) (by omega) B1.out.size (wr_ge Z1.out))); have Z2 := Box.mk (Q1.out.ext x2 (by omega) (by simp [Value.ownBlock]) (own_new X1.out HS.out) (by simp [Value.ownBlock])); clear q2 x2))
      | (go_at_call 10; ((with_reducible refine (CB1.out _ _ Z2.out).mono ?_); rintro e w' ⟨rfl, rfl⟩))
      | (go_at_call 10; ((with_reducible refine (CB2.out _ _ Q2.out).mono ?_); rintro e w' ⟨rfl, rfl⟩))
      | (go_at_call 9; refine (awake4_any _).mono ?_; rintro e w3 ⟨rfl, b3⟩; have B3 := Box.mk (bch B2.out b3); clear b3))
    go_ret
    exact ⟨rfl, B3.out⟩
  · have hg := HLE.out (by omega)
    have hp := HP.out (by omega)
    rw [decide_eq_true hc] at hp
    have e1 : ((a : Int) == (b : Int)) = true := by rw [beq_iff_eq]; omega
    have e2 : (a == b) = true := by rw [beq_iff_eq]; exact hc
    have hc1 : ¬ b < a := by omega
    have hc2 : a ≤ b := by omega
    clear hc
    go_enter Try.func7, Try.ntmps7
    go_wp2_with (first
      | (go_at_call 29; ((with_reducible refine C1.out.mono ?_); rintro e w1 ⟨rfl, v1, q1, x1⟩; have Q1 := Box.mk q1; have X1 := Box.mk x1; have B1 := Box.mk (bch' HA.out (x1.below (B := w.heap.size) (Nat.le_refl _) HA.out.size (wr_ge H1.out))); have Z1 := Box.mk (H2.out.ext x1 (by omega) (by simp [Value.ownBlock]) (by simp [Value.ownBlock]) (by simp [Value.ownBlock])); clear q1 x1))
      | (go_at_call 29; ((with_reducible refine (C2.out _ Z1.out).mono ?_); rintro e w2 ⟨rfl, v2, q2, x2⟩; have Q2 := Box.mk q2; have B2 := Box.mk (bch' B1.out (x2.below (B := w.heap.size) (by omega) B1.out.size (wr_ge Z1.out))); have Z2 := Box.mk (Q1.out.ext x2 (by omega) (by simp [Value.ownBlock]) (own_new X1.out HS.out) (by simp [Value.ownBlock])); clear q2 x2))
      | (go_at_call 10; ((with_reducible refine (CB1.out _ _ Z2.out).mono ?_); rintro e w' ⟨rfl, rfl⟩))
      | (go_at_call 10; ((with_reducible refine (CB2.out _ _ Q2.out).mono ?_); rintro e w' ⟨rfl, rfl⟩))
      | (go_at_call 9; refine (awake4_any _).mono ?_; rintro e w3 ⟨rfl, b3⟩; have B3 := Box.mk (bch B2.out b3); clear b3))
    go_ret
    exact ⟨rfl, B3.out⟩
end Go.Proofs.Ytakepblcedbimaa
