/- Contracts of frame: Write. -/
import Derived.Test.YtdhbeeeofaheeaaDoorFrameM
namespace Go.Proofs.YtdhbeeeofaheeaaDoor
set_option maxRecDepth 100000
open Go.RowKit M

theorem results_tmp4 {fn : Func} {t u v x : Tmp} (h : fn.results = #[.tmp t, .tmp u, .tmp v, .tmp x]) (tmps : Array Value) (P : Program) (w : World) :
    (results fn tmps).run P w = .ok (.tuple #[tmps.getD t undef, tmps.getD u undef, tmps.getD v undef, tmps.getD x undef]) w := by
  simp [results, h]
theorem numbers_any (q n : Nat) (hq : q < 18446744073709551616) (hn : n ≤ 9223372036854775807) (w : World) :
    Calls Tryd.prog 68 #[.int .u64 q, .int .i64 n] w fun e w' => e = .returned (.string (bs (hdN q n))) ∧ Below w.heap.size w w' := by
  have h0 := wr_new w w.heap.size rfl
  have hA : Below w.heap.size w (w.alloc (.cells #[.slice none 0 0] 53)) := (Below.refl _ _).alloc (Nat.le_refl _) _
  have c1 := wfixed_any w.heap.size [] _ n (by omega) 4 _ h0 (by simp)
  rw [show cl18 4 = 4 by decide] at c1
  have c2 : ∀ (W : World) (v1 : Value), Wr W w.heap.size ([] ++ fx 4 n) v1 → Calls Tryd.prog 29 #[.pointer (some ⟨w.heap.size, 0, none⟩), .int .u64 q, .int .i64 8] W (WrP w.heap.size (hdN q n) v1 W) := fun W v1 hW => by
    have c := wfixed_any w.heap.size _ v1 q hq 8 W hW (by simp [fx_length])
    rw [show cl18 8 = 8 by decide] at c; exact c
  have c3 : ∀ (W : World) (v : Value), Wr W w.heap.size (hdN q n) v → Calls Tryd.prog 28 #[.pointer (some ⟨w.heap.size, 0, none⟩)] W fun e w' => e = .returned (.string (bs (hdN q n))) ∧ W = w' := fun W v hW => bytes_any w.heap.size _ v W hW
  have nw : IntKind.u64.wrap (n : Int) = (n : Int) := u64small (by omega)
  obtain ⟨S, hS⟩ : ∃ S, S = bs (hdN q n) := ⟨_, rfl⟩
  rw [← hS] at c3 ⊢
  have H0 := Box.mk h0; have HA := Box.mk hA; have C1 := Box.mk c1; have C2 := Box.mk c2; have C3 := Box.mk c3
  clear h0 hA c1 c2 c3 hS
  go_enter Tryd.func68, Tryd.ntmps68
  go_wp2_with (first
    | (go_at_call 29; ((with_reducible refine C1.out.mono ?_); rintro e w1 ⟨rfl, v1, q1, x1⟩; have Q1 := Box.mk q1; have B1 := Box.mk (bch' HA.out (x1.below (B := w.heap.size) (Nat.le_refl _) HA.out.size (wr_ge H0.out))); clear q1 x1))
    | (go_at_call 29; ((with_reducible refine (C2.out _ _ Q1.out).mono ?_); rintro e w2 ⟨rfl, v2, q2, x2⟩; have Q2 := Box.mk q2; have B2 := Box.mk (bch' B1.out (x2.below (B := w.heap.size) (Nat.le_refl _) B1.out.size (wr_ge Q1.out))); clear q2 x2))
    | (go_at_call 28; ((with_reducible refine (C3.out _ _ Q2.out).mono ?_); rintro e w' ⟨rfl, rfl⟩)))
  go_ret
  exact ⟨rfl, B2.out⟩

theorem fsum_any (q : Nat) (s : ByteArray) (hq : q < 18446744073709551616) (hs : s.size ≤ 10000000) (w : World) (hH : Halves w) :
    Calls Tryd.prog 65 #[.int .u64 q, .string s] w fun e w' => e = .returned (.int .u32 ((smN q (sb s) : Nat) : Int)) ∧ Below w.heap.size w w' := by
  have c1 := numbers_any q s.size hq (by omega) w
  have hlen : (hdN q s.size).length = 12 := hdN_length q s.size
  have c2 : ∀ W, Halves W → Calls Tryd.prog 30 #[.string (bs (hdN q s.size))] W fun e w' => e = .returned (.int .u32 ((ofN (hdN q s.size) : Nat) : Int)) ∧ W = w' := fun W hW => by
    have c := crcOf_any (bs (hdN q s.size)) (by rw [bs_size]; omega) W hW
    rw [sb_bs _ (hdN_lt q s.size)] at c; exact c
  have c3 : ∀ W, Halves W → Calls Tryd.prog 38 #[.int .u32 ((ofN (hdN q s.size) : Nat) : Int), .string s] W fun e w' => e = .returned (.int .u32 ((smN q (sb s) : Nat) : Int)) ∧ W = w' := fun W hW => by
    have c := crcMore_any (ofN (hdN q s.size)) s (more_lt _ _) (by omega) W hW
    rw [show ofN (hdN q s.size) = more 0 (hdN q s.size) from rfl, more_append _ _ _ (hdN_lt q s.size)] at c
    unfold smN
    rw [sb_length]
    exact c
  have hX : ofN (hdN q s.size) < 4294967296 := more_lt _ _
  have hZ := smN_lt q (sb s)
  generalize ofN (hdN q s.size) = X at *
  generalize smN q (sb s) = Z at *
  have s1 : (bs (hdN q s.size)).size ≤ 12 := by rw [bs_size, hlen]; omega
  generalize bs (hdN q s.size) = S at *
  have HH := Box.mk hH; have C1 := Box.mk c1; have C2 := Box.mk c2; have C3 := Box.mk c3
  clear c1 c2 c3 hH hlen
  go_enter Tryd.func65, Tryd.ntmps65
  go_wp2_with (first
    | (go_at_call 68; ((with_reducible refine C1.out.mono ?_); rintro e w1 ⟨rfl, b1⟩; have B1 := Box.mk b1; have H1 := Box.mk (halves_below HH.out b1); clear b1))
    | (go_at_call 30; ((with_reducible refine (C2.out _ H1.out).mono ?_); rintro e w' ⟨rfl, rfl⟩))
    | (go_at_call 38; ((with_reducible refine (C3.out _ H1.out).mono ?_); rintro e w' ⟨rfl, rfl⟩)))
  go_ret
  exact ⟨rfl, B1.out⟩

theorem write_long (q : Nat) (s : ByteArray) (hs : 4194304 < s.size) (hs2 : s.size ≤ 9223372036854775807) (w : World) :
    Calls Tryd.prog 43 #[.int .u64 q, .string s] w fun e w' => e = .returned (.tuple #[.string ⟨#[]⟩, .int .i64 12]) ∧ w = w' := by
  have d1 : decide (4194304 < (s.size : Int)) = true := by simp; omega
  go_enter Tryd.func43, Tryd.ntmps43
  go_wp2
  go_ret2
  exact ⟨rfl, rfl⟩

set_option maxHeartbeats 400000 in
theorem write_any (q : Nat) (s : ByteArray) (hq : q < 18446744073709551616) (hs : s.size ≤ 4194304) (w : World) (hH : Halves w) :
    Calls Tryd.prog 43 #[.int .u64 q, .string s] w fun e w' => e = .returned (.tuple #[.string (bs (frN q (sb s))), .int .i64 0]) ∧ Below w.heap.size w w' := by
  have h0 := wr_new w w.heap.size rfl
  have hA : Below w.heap.size w (w.alloc (.cells #[.slice none 0 0] 53)) := (Below.refl _ _).alloc (Nat.le_refl _) _
  have e1 : sb ⟨#[79, 74]⟩ = [79, 74] := by decide
  have hlen := hdN_length q s.size
  have hsl : (sb s).length = s.size := sb_length s
  have c1 : Calls Tryd.prog 31 #[.pointer (some ⟨w.heap.size, 0, none⟩), .string ⟨#[79, 74]⟩] (w.alloc (.cells #[.slice none 0 0] 53)) (WrP w.heap.size [79, 74] (.slice none 0 0) (w.alloc (.cells #[.slice none 0 0] 53))) := by
    have c := raw_any w.heap.size [] _ ⟨#[79, 74]⟩ _ h0 (by decide)
    rw [e1] at c; exact c
  have c2 := fun w => numbers_any q s.size hq (by omega) w
  have c3 : ∀ (W : World) (v : Value), Wr W w.heap.size [79, 74] v → Calls Tryd.prog 31 #[.pointer (some ⟨w.heap.size, 0, none⟩), .string (bs (hdN q s.size))] W (WrP w.heap.size ([79, 74] ++ hdN q s.size) v W) := fun W v hW => by
    have c := raw_any w.heap.size _ v (bs (hdN q s.size)) W hW (by rw [bs_size, hlen]; simp)
    rw [sb_bs _ (hdN_lt _ _)] at c; exact c
  have c4 := fun w h => fsum_any q s hq (by omega) w h
  have hZ := smN_lt q (sb s)
  have hfr : [79, 74] ++ hdN q s.size ++ fx 4 (smN q (sb s)) ++ sb s = frN q (sb s) := by simp [frN, hsl, List.append_assoc]
  obtain ⟨Z, hZe⟩ : ∃ Z, Z = smN q (sb s) := ⟨_, rfl⟩
  rw [← hZe] at c4 hZ hfr
  have c5 : ∀ (W : World) (v : Value), Wr W w.heap.size ([79, 74] ++ hdN q s.size) v → Calls Tryd.prog 29 #[.pointer (some ⟨w.heap.size, 0, none⟩), .int .u64 Z, .int .i64 4] W (WrP w.heap.size ([79, 74] ++ hdN q s.size ++ fx 4 Z) v W) := fun W v hW => by
    have c := wfixed_any w.heap.size _ v Z (by omega) 4 W hW (by simp [hlen])
    rw [show cl18 4 = 4 by decide] at c; exact c
  have c6 : ∀ (W : World) (v : Value), Wr W w.heap.size ([79, 74] ++ hdN q s.size ++ fx 4 Z) v → Calls Tryd.prog 31 #[.pointer (some ⟨w.heap.size, 0, none⟩), .string s] W (WrP w.heap.size (frN q (sb s)) v W) := fun W v hW => by
    have c := raw_any w.heap.size _ v s W hW (by simp [hlen, fx_length]; omega)
    rw [hfr] at c; exact c
  have c7 : ∀ (W : World) (v : Value), Wr W w.heap.size (frN q (sb s)) v → Calls Tryd.prog 28 #[.pointer (some ⟨w.heap.size, 0, none⟩)] W fun e w' => e = .returned (.string (bs (frN q (sb s)))) ∧ W = w' := fun W v hW => bytes_any w.heap.size _ v W hW
  have nw : IntKind.u64.wrap (Z : Int) = (Z : Int) := u64small (by omega)
  have d1 : decide (4194304 < (s.size : Int)) = false := by simp; omega
  have s1 : (bs (hdN q s.size)).size ≤ 12 := by rw [bs_size, hlen]; omega
  generalize bs (frN q (sb s)) = S at *
  generalize bs (hdN q s.size) = S1 at *
  have HH := Box.mk hH; have H0 := Box.mk h0; have HA := Box.mk hA; have C1 := Box.mk c1; have C2 := Box.mk c2; have C3 := Box.mk c3; have C4 := Box.mk c4; have C5 := Box.mk c5; have C6 := Box.mk c6; have C7 := Box.mk c7
  clear h0 hA c1 c2 c3 c4 c5 c6 c7 hH hlen hsl e1 hfr hZe
  go_enter Tryd.func43, Tryd.ntmps43
  go_wp2_with (first
    | (go_at_call 31; ((with_reducible refine C1.out.mono ?_); rintro e w1 ⟨rfl, v1, q1, x1⟩; have Q1 := Box.mk q1; have B1 := Box.mk (bch' HA.out (x1.below (B := w.heap.size) (Nat.le_refl _) HA.out.size (wr_ge H0.out))); clear q1 x1))
    | (go_at_call 68; ((with_reducible refine (C2.out _).mono ?_); rintro e w2 ⟨rfl, b2⟩; have Q2 := Box.mk (Q1.out.below b2); have B2 := Box.mk (bch B1.out b2); clear b2))
    | (go_at_call 31; ((with_reducible refine (C3.out _ _ Q2.out).mono ?_); rintro e w3 ⟨rfl, v3, q3, x3⟩; have Q3 := Box.mk q3; have B3 := Box.mk (bch' B2.out (x3.below (B := w.heap.size) (Nat.le_refl _) B2.out.size (wr_ge Q2.out))); clear q3 x3))
    | (go_at_call 65; ((with_reducible refine (C4.out _ (halves_below HH.out B3.out)).mono ?_); rintro e w4 ⟨rfl, b4⟩; have Q4 := Box.mk (Q3.out.below b4); have B4 := Box.mk (bch B3.out b4); clear b4))
    | (go_at_call 29; ((with_reducible refine (C5.out _ _ Q4.out).mono ?_); rintro e w5 ⟨rfl, v5, q5, x5⟩; have Q5 := Box.mk q5; have B5 := Box.mk (bch' B4.out (x5.below (B := w.heap.size) (Nat.le_refl _) B4.out.size (wr_ge Q4.out))); clear q5 x5))
    | (go_at_call 31; ((with_reducible refine (C6.out _ _ Q5.out).mono ?_); rintro e w6 ⟨rfl, v6, q6, x6⟩; have Q6 := Box.mk q6; have B6 := Box.mk (bch' B5.out (x6.below (B := w.heap.size) (Nat.le_refl _) B5.out.size (wr_ge Q5.out))); clear q6 x6))
    | (go_at_call 28; ((with_reducible refine (C7.out _ _ Q6.out).mono ?_); rintro e w' ⟨rfl, rfl⟩)))
  go_ret2
  exact ⟨rfl, B6.out⟩
end Go.Proofs.YtdhbeeeofaheeaaDoor
