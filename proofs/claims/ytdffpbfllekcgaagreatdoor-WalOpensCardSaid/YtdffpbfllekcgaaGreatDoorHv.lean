/- FrameA, FrameB, in one text. -/
import Derived.Test.YtdffpbfllekcgaaGreatDoorHo
namespace Go.Proofs.YtdffpbfllekcgaaGreatDoor
set_option maxRecDepth 100000
open Go.RowKit M

theorem results_tmp4 {fn : Func} {t u v x : Tmp} (h : fn.results = #[.tmp t, .tmp u, .tmp v, .tmp x]) (tmps : Array Value) (P : Program) (w : World) :
    (results fn tmps).run P w = .ok (.tuple #[tmps.getD t undef, tmps.getD u undef, tmps.getD v undef, tmps.getD x undef]) w := by
  simp [results, h]
theorem numbers_any (q n : Nat) (hq : q < 18446744073709551616) (hn : n ≤ 9223372036854775807) (w : World) :
    Calls Tryz.prog 48 #[.int .u64 q, .int .i64 n] w fun e w' => e = .returned (.string (bs (hdN q n))) ∧ Below w.heap.size w w' := by
  have h0 := wr_new w w.heap.size rfl
  have hA : Below w.heap.size w (w.alloc (.cells #[.slice none 0 0] 95)) := (Below.refl _ _).alloc (Nat.le_refl _) _
  have c1 := wfixed_any w.heap.size [] _ n (by omega) 4 _ h0 (by simp)
  rw [show cl18 4 = 4 by decide] at c1
  have c2 : ∀ (W : World) (v1 : Value), Wr W w.heap.size ([] ++ fx 4 n) v1 → Calls Tryz.prog 49 #[.pointer (some ⟨w.heap.size, 0, none⟩), .int .u64 q, .int .i64 8] W (WrP w.heap.size (hdN q n) v1 W) := fun W v1 hW => by
    have c := wfixed_any w.heap.size _ v1 q hq 8 W hW (by simp [fx_length])
    rw [show cl18 8 = 8 by decide] at c; exact c
  have c3 : ∀ (W : World) (v : Value), Wr W w.heap.size (hdN q n) v → Calls Tryz.prog 51 #[.pointer (some ⟨w.heap.size, 0, none⟩)] W fun e w' => e = .returned (.string (bs (hdN q n))) ∧ W = w' := fun W v hW => bytes_any w.heap.size _ v W hW
  have nw : IntKind.u64.wrap (n : Int) = (n : Int) := u64small (by omega)
  obtain ⟨S, hS⟩ : ∃ S, S = bs (hdN q n) := ⟨_, rfl⟩
  rw [← hS] at c3 ⊢
  have H0 := Box.mk h0; have HA := Box.mk hA; have C1 := Box.mk c1; have C2 := Box.mk c2; have C3 := Box.mk c3
  clear h0 hA c1 c2 c3 hS
  go_enter Tryz.func48, Tryz.ntmps48
  go_wp2_with (first
    | (go_at_call 49; ((with_reducible refine C1.out.mono ?_); rintro e w1 ⟨rfl, v1, q1, x1⟩; have Q1 := Box.mk q1; have B1 := Box.mk (bch' HA.out (x1.below (B := w.heap.size) (Nat.le_refl _) HA.out.size (wr_ge H0.out))); clear q1 x1))
    | (go_at_call 49; ((with_reducible refine (C2.out _ _ Q1.out).mono ?_); rintro e w2 ⟨rfl, v2, q2, x2⟩; have Q2 := Box.mk q2; have B2 := Box.mk (bch' B1.out (x2.below (B := w.heap.size) (Nat.le_refl _) B1.out.size (wr_ge Q1.out))); clear q2 x2))
    | (go_at_call 51; ((with_reducible refine (C3.out _ _ Q2.out).mono ?_); rintro e w' ⟨rfl, rfl⟩)))
  go_ret
  exact ⟨rfl, B2.out⟩

theorem fsum_any (q : Nat) (s : ByteArray) (hq : q < 18446744073709551616) (hs : s.size ≤ 10000000) (w : World) (hH : Halves w) :
    Calls Tryz.prog 50 #[.int .u64 q, .string s] w fun e w' => e = .returned (.int .u32 ((smN q (sb s) : Nat) : Int)) ∧ Below w.heap.size w w' := by
  have c1 := numbers_any q s.size hq (by omega) w
  have hlen : (hdN q s.size).length = 12 := hdN_length q s.size
  have c2 : ∀ W, Halves W → Calls Tryz.prog 79 #[.string (bs (hdN q s.size))] W fun e w' => e = .returned (.int .u32 ((ofN (hdN q s.size) : Nat) : Int)) ∧ W = w' := fun W hW => by
    have c := crcOf_any (bs (hdN q s.size)) (by rw [bs_size]; omega) W hW
    rw [sb_bs _ (hdN_lt q s.size)] at c; exact c
  have c3 : ∀ W, Halves W → Calls Tryz.prog 78 #[.int .u32 ((ofN (hdN q s.size) : Nat) : Int), .string s] W fun e w' => e = .returned (.int .u32 ((smN q (sb s) : Nat) : Int)) ∧ W = w' := fun W hW => by
    have c := crcMore_any (ofN (hdN q s.size)) s (more_lt _ _) (by omega) W hW
    rw [show ofN (hdN q s.size) = more 0 (hdN q s.size) from rfl, more_append _ _ _ (hdN_lt q s.size)] at c
    unfold smN
    rw [sb_length]
    exact c
  have hX : ofN (hdN q s.size) < 4294967296 := more_lt _ _
  have hZ := smN_lt q (sb s)
  generalize ofN (hdN q s.size) = X at *
  generalize smN q (sb s) = Z at *
  have s1 : (bs (hdN q s.size)).size ≤ 12 := by rw [bs_size, hlen]; omega
  generalize bs (hdN q s.size) = S at *
  have HH := Box.mk hH; have C1 := Box.mk c1; have C2 := Box.mk c2; have C3 := Box.mk c3
  clear c1 c2 c3 hH hlen
  go_enter Tryz.func50, Tryz.ntmps50
  go_wp2_with (first
    | (go_at_call 48; ((with_reducible refine C1.out.mono ?_); rintro e w1 ⟨rfl, b1⟩; have B1 := Box.mk b1; have H1 := Box.mk (halves_below HH.out b1); clear b1))
    | (go_at_call 79; ((with_reducible refine (C2.out _ H1.out).mono ?_); rintro e w' ⟨rfl, rfl⟩))
    | (go_at_call 78; ((with_reducible refine (C3.out _ H1.out).mono ?_); rintro e w' ⟨rfl, rfl⟩)))
  go_ret
  exact ⟨rfl, B1.out⟩

theorem write_long (q : Nat) (s : ByteArray) (hs : 4194304 < s.size) (hs2 : s.size ≤ 9223372036854775807) (w : World) :
    Calls Tryz.prog 30 #[.int .u64 q, .string s] w fun e w' => e = .returned (.tuple #[.string ⟨#[]⟩, .int .i64 12]) ∧ w = w' := by
  have d1 : decide (4194304 < (s.size : Int)) = true := by simp; omega
  go_enter Tryz.func30, Tryz.ntmps30
  go_wp2
  go_ret2
  exact ⟨rfl, rfl⟩

set_option maxHeartbeats 400000 in
theorem write_any (q : Nat) (s : ByteArray) (hq : q < 18446744073709551616) (hs : s.size ≤ 4194304) (w : World) (hH : Halves w) :
    Calls Tryz.prog 30 #[.int .u64 q, .string s] w fun e w' => e = .returned (.tuple #[.string (bs (frN q (sb s))), .int .i64 0]) ∧ Below w.heap.size w w' := by
  have h0 := wr_new w w.heap.size rfl
  have hA : Below w.heap.size w (w.alloc (.cells #[.slice none 0 0] 95)) := (Below.refl _ _).alloc (Nat.le_refl _) _
  have e1 : sb ⟨#[79, 74]⟩ = [79, 74] := by decide
  have hlen := hdN_length q s.size
  have hsl : (sb s).length = s.size := sb_length s
  have c1 : Calls Tryz.prog 47 #[.pointer (some ⟨w.heap.size, 0, none⟩), .string ⟨#[79, 74]⟩] (w.alloc (.cells #[.slice none 0 0] 95)) (WrP w.heap.size [79, 74] (.slice none 0 0) (w.alloc (.cells #[.slice none 0 0] 95))) := by
    have c := raw_any w.heap.size [] _ ⟨#[79, 74]⟩ _ h0 (by decide)
    rw [e1] at c; exact c
  have c2 := fun w => numbers_any q s.size hq (by omega) w
  have c3 : ∀ (W : World) (v : Value), Wr W w.heap.size [79, 74] v → Calls Tryz.prog 47 #[.pointer (some ⟨w.heap.size, 0, none⟩), .string (bs (hdN q s.size))] W (WrP w.heap.size ([79, 74] ++ hdN q s.size) v W) := fun W v hW => by
    have c := raw_any w.heap.size _ v (bs (hdN q s.size)) W hW (by rw [bs_size, hlen]; simp)
    rw [sb_bs _ (hdN_lt _ _)] at c; exact c
  have c4 := fun w h => fsum_any q s hq (by omega) w h
  have hZ := smN_lt q (sb s)
  have hfr : [79, 74] ++ hdN q s.size ++ fx 4 (smN q (sb s)) ++ sb s = frN q (sb s) := by simp [frN, hsl, List.append_assoc]
  obtain ⟨Z, hZe⟩ : ∃ Z, Z = smN q (sb s) := ⟨_, rfl⟩
  rw [← hZe] at c4 hZ hfr
  have c5 : ∀ (W : World) (v : Value), Wr W w.heap.size ([79, 74] ++ hdN q s.size) v → Calls Tryz.prog 49 #[.pointer (some ⟨w.heap.size, 0, none⟩), .int .u64 Z, .int .i64 4] W (WrP w.heap.size ([79, 74] ++ hdN q s.size ++ fx 4 Z) v W) := fun W v hW => by
    have c := wfixed_any w.heap.size _ v Z (by omega) 4 W hW (by simp [hlen])
    rw [show cl18 4 = 4 by decide] at c; exact c
  have c6 : ∀ (W : World) (v : Value), Wr W w.heap.size ([79, 74] ++ hdN q s.size ++ fx 4 Z) v → Calls Tryz.prog 47 #[.pointer (some ⟨w.heap.size, 0, none⟩), .string s] W (WrP w.heap.size (frN q (sb s)) v W) := fun W v hW => by
    have c := raw_any w.heap.size _ v s W hW (by simp [hlen, fx_length]; omega)
    rw [hfr] at c; exact c
  have c7 : ∀ (W : World) (v : Value), Wr W w.heap.size (frN q (sb s)) v → Calls Tryz.prog 51 #[.pointer (some ⟨w.heap.size, 0, none⟩)] W fun e w' => e = .returned (.string (bs (frN q (sb s)))) ∧ W = w' := fun W v hW => bytes_any w.heap.size _ v W hW
  have nw : IntKind.u64.wrap (Z : Int) = (Z : Int) := u64small (by omega)
  have d1 : decide (4194304 < (s.size : Int)) = false := by simp; omega
  have s1 : (bs (hdN q s.size)).size ≤ 12 := by rw [bs_size, hlen]; omega
  generalize bs (frN q (sb s)) = S at *
  generalize bs (hdN q s.size) = S1 at *
  have HH := Box.mk hH; have H0 := Box.mk h0; have HA := Box.mk hA; have C1 := Box.mk c1; have C2 := Box.mk c2; have C3 := Box.mk c3; have C4 := Box.mk c4; have C5 := Box.mk c5; have C6 := Box.mk c6; have C7 := Box.mk c7
  clear h0 hA c1 c2 c3 c4 c5 c6 c7 hH hlen hsl e1 hfr hZe
  go_enter Tryz.func30, Tryz.ntmps30
  go_wp2_with (first
    | (go_at_call 47; ((with_reducible refine C1.out.mono ?_); rintro e w1 ⟨rfl, v1, q1, x1⟩; have Q1 := Box.mk q1; have B1 := Box.mk (bch' HA.out (x1.below (B := w.heap.size) (Nat.le_refl _) HA.out.size (wr_ge H0.out))); clear q1 x1))
    | (go_at_call 48; ((with_reducible refine (C2.out _).mono ?_); rintro e w2 ⟨rfl, b2⟩; have Q2 := Box.mk (Q1.out.below b2); have B2 := Box.mk (bch B1.out b2); clear b2))
    | (go_at_call 47; ((with_reducible refine (C3.out _ _ Q2.out).mono ?_); rintro e w3 ⟨rfl, v3, q3, x3⟩; have Q3 := Box.mk q3; have B3 := Box.mk (bch' B2.out (x3.below (B := w.heap.size) (Nat.le_refl _) B2.out.size (wr_ge Q2.out))); clear q3 x3))
    | (go_at_call 50; ((with_reducible refine (C4.out _ (halves_below HH.out B3.out)).mono ?_); rintro e w4 ⟨rfl, b4⟩; have Q4 := Box.mk (Q3.out.below b4); have B4 := Box.mk (bch B3.out b4); clear b4))
    | (go_at_call 49; ((with_reducible refine (C5.out _ _ Q4.out).mono ?_); rintro e w5 ⟨rfl, v5, q5, x5⟩; have Q5 := Box.mk q5; have B5 := Box.mk (bch' B4.out (x5.below (B := w.heap.size) (Nat.le_refl _) B4.out.size (wr_ge Q4.out))); clear q5 x5))
    | (go_at_call 47; ((with_reducible refine (C6.out _ _ Q5.out).mono ?_); rintro e w6 ⟨rfl, v6, q6, x6⟩; have Q6 := Box.mk q6; have B6 := Box.mk (bch' B5.out (x6.below (B := w.heap.size) (Nat.le_refl _) B5.out.size (wr_ge Q5.out))); clear q6 x6))
    | (go_at_call 51; ((with_reducible refine (C7.out _ _ Q6.out).mono ?_); rintro e w' ⟨rfl, rfl⟩)))
  go_ret2
  exact ⟨rfl, B6.out⟩
end Go.Proofs.YtdffpbfllekcgaaGreatDoor
namespace Go.Proofs.YtdffpbfllekcgaaGreatDoor
set_option maxRecDepth 100000
open Go.RowKit M

section
variable (T : ByteArray)
def gX2 : Nat := if rawS T 0 0 2 = ⟨#[79, 74]⟩ then rawX T 0 0 2 else if rawX T 0 0 2 = 0 then 3 else rawX T 0 0 2
def gN : Nat := fixU T (rawA T 0 0 2) (gX2 T) 4
def gA3 : Nat := rawA T (rawA T 0 0 2) (gX2 T) 4
def gX3 : Nat := rawX T (rawA T 0 0 2) (gX2 T) 4
def gQ : Nat := fixU T (gA3 T) (gX3 T) 8
def gA4 : Nat := rawA T (gA3 T) (gX3 T) 8
def gX4 : Nat := rawX T (gA3 T) (gX3 T) 8
def gW : Nat := fixU T (gA4 T) (gX4 T) 4
def gA5 : Nat := rawA T (gA4 T) (gX4 T) 4
def gX5 : Nat := rawX T (gA4 T) (gX4 T) 4
def gX6 : Nat := if 4194304 < gN T then (if gX5 T = 0 then 12 else gX5 T) else gX5 T
def gR : ByteArray := rawS T (gA5 T) (gX6 T) (gN T : Nat)
def gA7 : Nat := rawA T (gA5 T) (gX6 T) (gN T : Nat)
def gX7 : Nat := rawX T (gA5 T) (gX6 T) (gN T : Nat)
def gX8 : Nat := if gX7 T = 0 ∧ smN (gQ T) (sb (gR T)) ≠ gW T then 4 else gX7 T
end

theorem raw_go {T : ByteArray} {a n : Nat} (h : a + n ≤ T.size) : rawA T a 0 (n : Int) = a + n ∧ rawX T a 0 (n : Int) = 0 ∧ rawS T a 0 (n : Int) = T.extract a (a + n) := by
  have c : 0 ≤ (n : Int) ∧ (n : Int) ≤ ((T.size - a : Nat) : Int) := by omega
  refine ⟨?_, ?_, ?_⟩
  · unfold rawA; rw [if_pos ⟨rfl, c⟩, Int.toNat_natCast]
  · unfold rawX; rw [if_pos rfl, if_pos c]
  · unfold rawS; rw [if_pos ⟨rfl, c⟩, Int.toNat_natCast]
theorem raw_end {T : ByteArray} {a n : Nat} (ha : a ≤ T.size) (h : T.size < a + n) : rawA T a 0 (n : Int) = a ∧ rawX T a 0 (n : Int) = 2 ∧ rawS T a 0 (n : Int) = ⟨#[]⟩ := by
  have c : ¬ (0 ≤ (n : Int) ∧ (n : Int) ≤ ((T.size - a : Nat) : Int)) := by omega
  refine ⟨?_, ?_, ?_⟩
  · unfold rawA; rw [if_neg (fun h => c h.2)]
  · unfold rawX; rw [if_pos rfl, if_neg c]
  · unfold rawS; rw [if_neg (fun h => c h.2)]
theorem raw_bad {T : ByteArray} {a x n : Nat} (h : x ≠ 0) : rawA T a x (n : Int) = a ∧ rawX T a x (n : Int) = x ∧ rawS T a x (n : Int) = ⟨#[]⟩ := by
  refine ⟨?_, ?_, ?_⟩
  · unfold rawA; rw [if_neg (fun hh => h hh.1)]
  · unfold rawX; rw [if_neg h]
  · unfold rawS; rw [if_neg (fun hh => h hh.1)]
theorem fix_go {T : ByteArray} {a k : Nat} (h : a + k ≤ T.size) : fixU T a 0 k = un (((sb T).drop a).take k) := by
  unfold fixU
  rw [(raw_go h).2.2, sb_part _ _ _ h, Nat.add_sub_cancel_left]
theorem fix_bad {T : ByteArray} {a x k : Nat} (h : x ≠ 0) : fixU T a x k = 0 := by
  unfold fixU
  rw [(raw_bad h).2.2]; decide
theorem fix_end {T : ByteArray} {a k : Nat} (ha : a ≤ T.size) (h : T.size < a + k) : fixU T a 0 k = 0 := by
  unfold fixU
  rw [(raw_end ha h).2.2]; decide

/-- behind an error nothing is read -/
theorem g_bad {T : ByteArray} {x : Nat} (h2 : gX2 T = x) (hx : x ≠ 0) : gN T = 0 ∧ gX7 T = x := by
  have n0 : gN T = 0 := by unfold gN; rw [h2]; exact fix_bad hx
  have x3 : gX3 T = x := by unfold gX3; rw [h2]; exact (raw_bad (n := 4) hx).2.1
  have x4 : gX4 T = x := by unfold gX4; rw [x3]; exact (raw_bad (n := 8) hx).2.1
  have x5 : gX5 T = x := by unfold gX5; rw [x4]; exact (raw_bad (n := 4) hx).2.1
  have x6 : gX6 T = x := by unfold gX6; rw [n0, if_neg (by omega), x5]
  exact ⟨n0, by unfold gX7; rw [x6]; exact (raw_bad hx).2.1⟩
theorem g_many {T : ByteArray} (h : 4194304 < gN T) : gX7 T ≠ 0 := by
  have : gX6 T ≠ 0 := by unfold gX6; rw [if_pos h]; split; decide; assumption
  unfold gX7; rw [(raw_bad this).2.1]; exact this

theorem un_zero_of_short {l : List Nat} : l = [] → un l = 0 := fun h => by rw [h]; rfl

/-- the reader's chain is the model's -/
theorem g_model (T : ByteArray) : gX8 T = rdX (sb T) ∧ (rdX (sb T) = 0 → gQ T = pQ (sb T) ∧ gR T = bs (pR (sb T)) ∧ gA7 T = 18 + pN (sb T)) := by
  have hlen := sb_length T
  by_cases h2 : T.size < 2
  · have r1 := raw_end (T := T) (a := 0) (n := 2) (by omega) (by omega)
    have hx2 : gX2 T = 2 := by
      unfold gX2
      rw [show rawS T 0 0 2 = ⟨#[]⟩ from r1.2.2, if_neg (by decide), show rawX T 0 0 2 = 2 from r1.2.1]; rfl
    have hb := g_bad hx2 (by decide)
    have e : rdX (sb T) = 2 := by unfold rdX; rw [hlen, if_pos h2]
    exact ⟨by rw [e]; unfold gX8; rw [hb.2, if_neg (fun h => by cases h.1)], fun h => by rw [e] at h; cases h⟩
  have r1 := raw_go (T := T) (a := 0) (n := 2) (by omega)
  have rS : rawS T 0 0 2 = T.extract 0 2 := r1.2.2
  have rX : rawX T 0 0 2 = 0 := r1.2.1
  have rA : rawA T 0 0 2 = 2 := r1.1
  have hiff : (rawS T 0 0 2 = ⟨#[79, 74]⟩) ↔ (sb T).take 2 = [79, 74] := by
    rw [rS]
    have e := sb_part T 0 2 (by omega)
    rw [List.drop_zero] at e
    constructor
    · intro h; rw [← show (sb T).take (2 - 0) = (sb T).take 2 by rfl, ← e, h]; decide
    · intro h
      have e2 : sb (T.extract 0 2) = [79, 74] := by rw [e]; exact h
      rw [← bs_list (T.extract 0 2), e2]; decide
  by_cases hm : (sb T).take 2 = [79, 74]
  · have hx2 : gX2 T = 0 := by unfold gX2; rw [if_pos (hiff.2 hm), rX]
    by_cases h18 : T.size < 18
    · have e : rdX (sb T) = 2 := by unfold rdX; rw [hlen, if_neg h2, if_neg (fun h => h hm), if_pos h18]
      refine ⟨?_, fun h => by rw [e] at h; cases h⟩
      rw [e]
      -- each of the three numbers may be cut off
      have key : gX5 T = 2 ∧ (gX3 T ≠ 0 → gN T = 0) := by
        by_cases h6 : T.size < 6
        · have r3 := raw_end (T := T) (a := 2) (n := 4) (by omega) (by omega)
          have x3 : gX3 T = 2 := by unfold gX3; rw [rA, hx2]; exact r3.2.1
          have n0 : gN T = 0 := by unfold gN; rw [rA, hx2]; exact fix_end (by omega) (by omega)
          have x4 : gX4 T = 2 := by unfold gX4; rw [x3]; exact (raw_bad (n := 8) (by decide)).2.1
          exact ⟨by unfold gX5; rw [x4]; exact (raw_bad (n := 4) (by decide)).2.1, fun _ => n0⟩
        · have r3 := raw_go (T := T) (a := 2) (n := 4) (by omega)
          have x3 : gX3 T = 0 := by unfold gX3; rw [rA, hx2]; exact r3.2.1
          have a3 : gA3 T = 6 := by unfold gA3; rw [rA, hx2]; exact r3.1
          refine ⟨?_, fun h => absurd x3 h⟩
          by_cases h14 : T.size < 14
          · have r4 := raw_end (T := T) (a := 6) (n := 8) (by omega) (by omega)
            have x4 : gX4 T = 2 := by unfold gX4; rw [x3, a3]; exact r4.2.1
            unfold gX5; rw [x4]; exact (raw_bad (n := 4) (by decide)).2.1
          · have r4 := raw_go (T := T) (a := 6) (n := 8) (by omega)
            have x4 : gX4 T = 0 := by unfold gX4; rw [x3, a3]; exact r4.2.1
            have a4 : gA4 T = 14 := by unfold gA4; rw [x3, a3]; exact r4.1
            unfold gX5; rw [x4, a4]; exact (raw_end (T := T) (a := 14) (n := 4) (by omega) (by omega)).2.1
      have x6 : gX6 T = 2 := by unfold gX6; rw [key.1]; split <;> rfl
      have x7 : gX7 T = 2 := by unfold gX7; rw [x6]; exact (raw_bad (by decide)).2.1
      unfold gX8; rw [x7, if_neg (fun h => by cases h.1)]
    · have r3 := raw_go (T := T) (a := 2) (n := 4) (by omega)
      have x3 : gX3 T = 0 := by unfold gX3; rw [rA, hx2]; exact r3.2.1
      have a3 : gA3 T = 6 := by unfold gA3; rw [rA, hx2]; exact r3.1
      have n3 : gN T = pN (sb T) := by unfold gN; rw [rA, hx2]; exact fix_go (by omega)
      have r4 := raw_go (T := T) (a := 6) (n := 8) (by omega)
      have x4 : gX4 T = 0 := by unfold gX4; rw [x3, a3]; exact r4.2.1
      have a4 : gA4 T = 14 := by unfold gA4; rw [x3, a3]; exact r4.1
      have q4 : gQ T = pQ (sb T) := by unfold gQ; rw [x3, a3]; exact fix_go (by omega)
      have r5 := raw_go (T := T) (a := 14) (n := 4) (by omega)
      have x5 : gX5 T = 0 := by unfold gX5; rw [x4, a4]; exact r5.2.1
      have a5 : gA5 T = 18 := by unfold gA5; rw [x4, a4]; exact r5.1
      have w5 : gW T = pW (sb T) := by unfold gW; rw [x4, a4]; exact fix_go (by omega)
      unfold rdX
      rw [hlen, if_neg h2, if_neg (fun h => h hm), if_neg h18]
      by_cases hmany : 4194304 < pN (sb T)
      · rw [if_pos hmany]
        have x6 : gX6 T = 12 := by unfold gX6; rw [n3, if_pos hmany, x5]; rfl
        have x7 : gX7 T = 12 := by unfold gX7; rw [x6]; exact (raw_bad (by decide)).2.1
        exact ⟨by unfold gX8; rw [x7, if_neg (fun h => by cases h.1)], fun h => by cases h⟩
      rw [if_neg hmany]
      have x6 : gX6 T = 0 := by unfold gX6; rw [n3, if_neg hmany, x5]
      by_cases hend : T.size < 18 + pN (sb T)
      · rw [if_pos hend]
        have x7 : gX7 T = 2 := by unfold gX7; rw [x6, a5, n3]; exact (raw_end (by omega) hend).2.1
        exact ⟨by unfold gX8; rw [x7, if_neg (fun h => by cases h.1)], fun h => by cases h⟩
      rw [if_neg hend]
      have r7 := raw_go (T := T) (a := 18) (n := pN (sb T)) (by omega)
      have x7 : gX7 T = 0 := by unfold gX7; rw [x6, a5, n3]; exact r7.2.1
      have a7 : gA7 T = 18 + pN (sb T) := by unfold gA7; rw [x6, a5, n3]; exact r7.1
      have s7 : gR T = T.extract 18 (18 + pN (sb T)) := by unfold gR; rw [x6, a5, n3]; exact r7.2.2
      have s8 : sb (gR T) = pR (sb T) := by rw [s7, sb_part _ _ _ (by omega), Nat.add_sub_cancel_left]; rfl
      refine ⟨?_, fun _ => ⟨q4, by rw [← s8, bs_list], a7⟩⟩
      unfold gX8
      rw [x7, q4, s8, w5]
      by_cases hs : smN (pQ (sb T)) (pR (sb T)) = pW (sb T)
      · rw [if_neg (fun h => h.2 hs), if_neg (fun h => h hs)]
      · rw [if_pos ⟨rfl, hs⟩, if_pos hs]
  · have hx2 : gX2 T = 3 := by unfold gX2; rw [if_neg (fun h => hm (hiff.1 h)), rX]; rfl
    have hb := g_bad hx2 (by decide)
    have e : rdX (sb T) = 3 := by unfold rdX; rw [hlen, if_neg h2, if_pos hm]
    exact ⟨by rw [e]; unfold gX8; rw [hb.2, if_neg (fun h => by cases h.1)], fun h => by rw [e] at h; cases h⟩

/-- what Read answers -/
def rdV (T : ByteArray) : Value := if gX8 T = 0 then .tuple #[.int .u64 (gQ T : Nat), .string (gR T), .int .i64 (gA7 T : Nat), .int .i64 0] else .tuple #[.int .u64 0, .string ⟨#[]⟩, .int .i64 0, .int .i64 (gX8 T : Nat)]


set_option maxRecDepth 100000 in
set_option maxHeartbeats 600000 in
theorem fread_bad (T : ByteArray) (hT : T.size ≤ 1000000) (w : World) (hH : Halves w) (hm : ¬ rawS T 0 0 2 = ⟨#[79, 74]⟩) :
    Calls Tryz.prog 44 #[.string T] w fun e w' => e = .returned (rdV T) ∧ Below w.heap.size w w' := by
  have c0 := read_any T hT w
  obtain ⟨hn0, hx7⟩ := g_bad (T := T) rfl (by unfold gX2; rw [if_neg hm]; split; decide; assumption)
  have hn : ¬ 4194304 < gN T := by omega
  have hz : gX7 T ≠ 0 := by rw [hx7]; unfold gX2; rw [if_neg hm]; split; decide; assumption
  clear hn0 hx7
  have hnl : gN T < 4294967296 := fixU_lt T _ _ 4 (by omega)
  have hwl : gW T < 4294967296 := fixU_lt T _ _ 4 (by omega)
  have hql : gQ T < 18446744073709551616 := fixU_lt64 T _ _ 8 (by omega)
  have hV : rdV T = .tuple #[.int .u64 0, .string ⟨#[]⟩, .int .i64 0, .int .i64 (gX7 T : Nat)] := by
    have e : gX8 T = gX7 T := by unfold gX8; rw [if_neg (fun h => hz h.1)]
    unfold rdV; rw [e, if_neg hz]
  rw [hV]
  clear hV
  have c1 : ∀ (b : Nat) W, Rd W b T 0 0 → Calls Tryz.prog 68 #[.pointer (some ⟨b, 0, none⟩), .int .i64 2] W (RdQ b T (rawA T 0 0 2) (rawX T 0 0 2) (.string (rawS T 0 0 2)) W) := fun b W hW => rraw_any b T 0 0 2 W hW
  have c2 : ∀ (b : Nat) W, Rd W b T (rawA T 0 0 2) (rawX T 0 0 2) → Calls Tryz.prog 69 #[.pointer (some ⟨b, 0, none⟩), .int .i64 3] W (RdQ b T (rawA T 0 0 2) (gX2 T) (.tuple #[]) W) := fun b W hW => by
    have c := fail_any b T _ _ 3 W hW
    unfold gX2; rw [if_neg hm]; exact c
  have c3 : ∀ (b : Nat) W, Rd W b T (rawA T 0 0 2) (gX2 T) → Calls Tryz.prog 70 #[.pointer (some ⟨b, 0, none⟩), .int .i64 4] W (RdQ b T (gA3 T) (gX3 T) (.int .u64 (gN T : Nat)) W) := fun b W hW => rfixed_any b T _ _ 4 W hW
  have c4 : ∀ (b : Nat) W, Rd W b T (gA3 T) (gX3 T) → Calls Tryz.prog 70 #[.pointer (some ⟨b, 0, none⟩), .int .i64 8] W (RdQ b T (gA4 T) (gX4 T) (.int .u64 (gQ T : Nat)) W) := fun b W hW => rfixed_any b T _ _ 8 W hW
  have c5 : ∀ (b : Nat) W, Rd W b T (gA4 T) (gX4 T) → Calls Tryz.prog 70 #[.pointer (some ⟨b, 0, none⟩), .int .i64 4] W (RdQ b T (gA5 T) (gX5 T) (.int .u64 (gW T : Nat)) W) := fun b W hW => rfixed_any b T _ _ 4 W hW
  have hx5 : gX5 T = gX6 T := by unfold gX6; rw [if_neg hn]
  have c7 : ∀ (b : Nat) W, Rd W b T (gA5 T) (gX6 T) → Calls Tryz.prog 68 #[.pointer (some ⟨b, 0, none⟩), .int .i64 (gN T : Nat)] W (RdQ b T (gA7 T) (gX7 T) (.string (gR T)) W) := fun b W hW => rraw_any b T _ _ _ W hW
  have c8 : ∀ (b : Nat) W, Rd W b T (gA7 T) (gX7 T) → Calls Tryz.prog 71 #[.pointer (some ⟨b, 0, none⟩)] W (RdQ b T (gA7 T) (gX7 T) (.int .i64 (gX7 T : Nat)) W) := fun b W hW => err_any b T _ _ W hW
  have hS1 : (rawS T 0 0 2).size ≤ 2 := by unfold rawS; split; (simp; omega); (show (⟨#[]⟩ : ByteArray).size ≤ _; decide)
  generalize rawA T 0 0 2 = A1 at *
  have hmb : (!(rawS T 0 0 2).toList == [79, 74]) = true := by
    have e : ((rawS T 0 0 2).toList == (⟨#[79, 74]⟩ : ByteArray).toList) = false := by rw [str_beq]; exact decide_eq_false hm
    rw [show [79, 74] = (⟨#[79, 74]⟩ : ByteArray).toList from by decide +kernel, e]; rfl
  generalize rawS T 0 0 2 = S1 at *
  generalize rawX T 0 0 2 = X1 at *
  generalize gX2 T = YX2 at *
  generalize gA3 T = YA3 at *
  generalize gX3 T = YX3 at *
  generalize gQ T = YQ at *
  generalize gA4 T = YA4 at *
  generalize gX4 T = YX4 at *
  generalize gW T = YW at *
  generalize gA5 T = YA5 at *
  rw [hx5] at c5
  clear hx5
  generalize gX6 T = YX6 at *
  generalize gR T = YR at *
  generalize gA7 T = YA7 at *
  generalize gX7 T = YX7 at *
  have z1 : ((YX7 : Int) == 0) = false := by rw [beq_eq_false_iff_ne]; omega
  have z2 : ((YX7 : Int) != 0) = true := by simp; omega
  generalize gN T = N0 at *
  have nn : IntKind.i64.wrap (N0 : Int) = (N0 : Int) := IntWalk.i64_in _ (by omega)
  have dn : decide (4194304 < (N0 : Int)) = false := by simp; omega
  have HH := Box.mk hH; have C0 := Box.mk c0; have C1 := Box.mk c1; have C3 := Box.mk c3; have C4 := Box.mk c4; have C5 := Box.mk c5; have C7 := Box.mk c7; have C8 := Box.mk c8
  have C2 := Box.mk c2; clear c2
  clear c0 c1 c3 c4 c5 c7 c8 hH
  go_enter Tryz.func44, Tryz.ntmps44
  go_wp2_with (first
    | (go_at_call 67; ((with_reducible refine C0.out.mono ?_); rintro e w0 ⟨rfl, r0, b0⟩; have R0 := Box.mk r0; have B0 := Box.mk b0; clear r0 b0))
    | (go_at_call 68; ((with_reducible refine (C1.out _ _ R0.out).mono ?_); rintro e w1 ⟨rfl, r1, o1⟩; have R1 := Box.mk r1; have B1 := Box.mk (bch' B0.out (o1.below (B := w.heap.size) (Nat.le_refl _) B0.out.size)); clear r1 o1))
    | (go_at_call 69; ((with_reducible refine (C2.out _ _ R1.out).mono ?_); rintro e w2 ⟨rfl, r2, o2⟩; have R2 := Box.mk r2; have B2 := Box.mk (bch' B1.out (o2.below (B := w.heap.size) (Nat.le_refl _) B1.out.size)); clear r2 o2))
    | (go_at_call 70; ((with_reducible refine (C3.out _ _ R2.out).mono ?_); rintro e w3 ⟨rfl, r3, o3⟩; have R3 := Box.mk r3; have B3 := Box.mk (bch' B2.out (o3.below (B := w.heap.size) (Nat.le_refl _) B2.out.size)); clear r3 o3))
    | (go_at_call 70; ((with_reducible refine (C4.out _ _ R3.out).mono ?_); rintro e w4 ⟨rfl, r4, o4⟩; have R4 := Box.mk r4; have B4 := Box.mk (bch' B3.out (o4.below (B := w.heap.size) (Nat.le_refl _) B3.out.size)); clear r4 o4))
    | (go_at_call 70; ((with_reducible refine (C5.out _ _ R4.out).mono ?_); rintro e w5 ⟨rfl, r5, o5⟩; have R5 := Box.mk r5; have B5 := Box.mk (bch' B4.out (o5.below (B := w.heap.size) (Nat.le_refl _) B4.out.size)); clear r5 o5))
    | (go_at_call 68; ((with_reducible refine (C7.out _ _ R5.out).mono ?_); rintro e w6 ⟨rfl, r6, o6⟩; have R6 := Box.mk r6; have B6 := Box.mk (bch' B5.out (o6.below (B := w.heap.size) (Nat.le_refl _) B5.out.size)); clear r6 o6))
    | (go_at_call 71; ((with_reducible refine (C8.out _ _ R6.out).mono ?_); rintro e w7 ⟨rfl, r7, o7⟩; have R7 := Box.mk r7; have B7 := Box.mk (bch' B6.out (o7.below (B := w.heap.size) (Nat.le_refl _) B6.out.size)); clear r7 o7))
    | (go_at_call 71; ((with_reducible refine (C8.out _ _ R7.out).mono ?_); rintro e w8 ⟨rfl, r8, o8⟩; have R8 := Box.mk r8; have B8 := Box.mk (bch' B7.out (o8.below (B := w.heap.size) (Nat.le_refl _) B7.out.size)); clear r8 o8))
    | (go_at_call 71; ((with_reducible refine (C8.out _ _ R8.out).mono ?_); rintro e w9 ⟨rfl, r9, o9⟩; have R9 := Box.mk r9; have B9 := Box.mk (bch' B8.out (o9.below (B := w.heap.size) (Nat.le_refl _) B8.out.size)); clear r9 o9)))
  (try simp only [Exit.inBlock, Exit.then]); refine bodyPost_ret (results_tmp4 rfl _ _ _) rfl ?_
  exact ⟨rfl, B9.out⟩

set_option maxRecDepth 100000 in
set_option maxHeartbeats 600000 in
theorem fread_many (T : ByteArray) (hT : T.size ≤ 1000000) (w : World) (hH : Halves w) (hm : rawS T 0 0 2 = ⟨#[79, 74]⟩) (hn : 4194304 < gN T) :
    Calls Tryz.prog 44 #[.string T] w fun e w' => e = .returned (rdV T) ∧ Below w.heap.size w w' := by
  have c0 := read_any T hT w
  have hz := g_many hn
  have hnl : gN T < 4294967296 := fixU_lt T _ _ 4 (by omega)
  have hwl : gW T < 4294967296 := fixU_lt T _ _ 4 (by omega)
  have hql : gQ T < 18446744073709551616 := fixU_lt64 T _ _ 8 (by omega)
  have hV : rdV T = .tuple #[.int .u64 0, .string ⟨#[]⟩, .int .i64 0, .int .i64 (gX7 T : Nat)] := by
    have e : gX8 T = gX7 T := by unfold gX8; rw [if_neg (fun h => hz h.1)]
    unfold rdV; rw [e, if_neg hz]
  rw [hV]
  clear hV
  have c1 : ∀ (b : Nat) W, Rd W b T 0 0 → Calls Tryz.prog 68 #[.pointer (some ⟨b, 0, none⟩), .int .i64 2] W (RdQ b T (rawA T 0 0 2) (rawX T 0 0 2) (.string (rawS T 0 0 2)) W) := fun b W hW => rraw_any b T 0 0 2 W hW
  have hx1 : rawX T 0 0 2 = gX2 T := by unfold gX2; rw [if_pos hm]
  have c3 : ∀ (b : Nat) W, Rd W b T (rawA T 0 0 2) (gX2 T) → Calls Tryz.prog 70 #[.pointer (some ⟨b, 0, none⟩), .int .i64 4] W (RdQ b T (gA3 T) (gX3 T) (.int .u64 (gN T : Nat)) W) := fun b W hW => rfixed_any b T _ _ 4 W hW
  have c4 : ∀ (b : Nat) W, Rd W b T (gA3 T) (gX3 T) → Calls Tryz.prog 70 #[.pointer (some ⟨b, 0, none⟩), .int .i64 8] W (RdQ b T (gA4 T) (gX4 T) (.int .u64 (gQ T : Nat)) W) := fun b W hW => rfixed_any b T _ _ 8 W hW
  have c5 : ∀ (b : Nat) W, Rd W b T (gA4 T) (gX4 T) → Calls Tryz.prog 70 #[.pointer (some ⟨b, 0, none⟩), .int .i64 4] W (RdQ b T (gA5 T) (gX5 T) (.int .u64 (gW T : Nat)) W) := fun b W hW => rfixed_any b T _ _ 4 W hW
  have c6 : ∀ (b : Nat) W, Rd W b T (gA5 T) (gX5 T) → Calls Tryz.prog 69 #[.pointer (some ⟨b, 0, none⟩), .int .i64 12] W (RdQ b T (gA5 T) (gX6 T) (.tuple #[]) W) := fun b W hW => by
    have c := fail_any b T _ _ 12 W hW
    unfold gX6; rw [if_pos hn]; exact c
  have c7 : ∀ (b : Nat) W, Rd W b T (gA5 T) (gX6 T) → Calls Tryz.prog 68 #[.pointer (some ⟨b, 0, none⟩), .int .i64 (gN T : Nat)] W (RdQ b T (gA7 T) (gX7 T) (.string (gR T)) W) := fun b W hW => rraw_any b T _ _ _ W hW
  have c8 : ∀ (b : Nat) W, Rd W b T (gA7 T) (gX7 T) → Calls Tryz.prog 71 #[.pointer (some ⟨b, 0, none⟩)] W (RdQ b T (gA7 T) (gX7 T) (.int .i64 (gX7 T : Nat)) W) := fun b W hW => err_any b T _ _ W hW
  have hS1 : (rawS T 0 0 2).size ≤ 2 := by unfold rawS; split; (simp; omega); (show (⟨#[]⟩ : ByteArray).size ≤ _; decide)
  generalize rawA T 0 0 2 = A1 at *
  rw [hm, hx1] at c1
  clear hS1 hx1 hm
  generalize gX2 T = YX2 at *
  generalize gA3 T = YA3 at *
  generalize gX3 T = YX3 at *
  generalize gQ T = YQ at *
  generalize gA4 T = YA4 at *
  generalize gX4 T = YX4 at *
  generalize gW T = YW at *
  generalize gA5 T = YA5 at *
  generalize gX5 T = YX5 at *
  generalize gX6 T = YX6 at *
  generalize gR T = YR at *
  generalize gA7 T = YA7 at *
  generalize gX7 T = YX7 at *
  have z1 : ((YX7 : Int) == 0) = false := by rw [beq_eq_false_iff_ne]; omega
  have z2 : ((YX7 : Int) != 0) = true := by simp; omega
  generalize gN T = N0 at *
  have nn : IntKind.i64.wrap (N0 : Int) = (N0 : Int) := IntWalk.i64_in _ (by omega)
  have dn : decide (4194304 < (N0 : Int)) = true := by simp; omega
  have HH := Box.mk hH; have C0 := Box.mk c0; have C1 := Box.mk c1; have C3 := Box.mk c3; have C4 := Box.mk c4; have C5 := Box.mk c5; have C7 := Box.mk c7; have C8 := Box.mk c8
  have C6 := Box.mk c6; clear c6
  clear c0 c1 c3 c4 c5 c7 c8 hH
  go_enter Tryz.func44, Tryz.ntmps44
  go_wp2_with (first
    | (go_at_call 67; ((with_reducible refine C0.out.mono ?_); rintro e w0 ⟨rfl, r0, b0⟩; have R0 := Box.mk r0; have B0 := Box.mk b0; clear r0 b0))
    | (go_at_call 68; ((with_reducible refine (C1.out _ _ R0.out).mono ?_); rintro e w1 ⟨rfl, r1, o1⟩; have R1 := Box.mk r1; have B1 := Box.mk (bch' B0.out (o1.below (B := w.heap.size) (Nat.le_refl _) B0.out.size)); clear r1 o1))
    | (go_at_call 70; ((with_reducible refine (C3.out _ _ R1.out).mono ?_); rintro e w2 ⟨rfl, r2, o2⟩; have R2 := Box.mk r2; have B2 := Box.mk (bch' B1.out (o2.below (B := w.heap.size) (Nat.le_refl _) B1.out.size)); clear r2 o2))
    | (go_at_call 70; ((with_reducible refine (C4.out _ _ R2.out).mono ?_); rintro e w3 ⟨rfl, r3, o3⟩; have R3 := Box.mk r3; have B3 := Box.mk (bch' B2.out (o3.below (B := w.heap.size) (Nat.le_refl _) B2.out.size)); clear r3 o3))
    | (go_at_call 70; ((with_reducible refine (C5.out _ _ R3.out).mono ?_); rintro e w4 ⟨rfl, r4, o4⟩; have R4 := Box.mk r4; have B4 := Box.mk (bch' B3.out (o4.below (B := w.heap.size) (Nat.le_refl _) B3.out.size)); clear r4 o4))
    | (go_at_call 69; ((with_reducible refine (C6.out _ _ R4.out).mono ?_); rintro e w5 ⟨rfl, r5, o5⟩; have R5 := Box.mk r5; have B5 := Box.mk (bch' B4.out (o5.below (B := w.heap.size) (Nat.le_refl _) B4.out.size)); clear r5 o5))
    | (go_at_call 68; ((with_reducible refine (C7.out _ _ R5.out).mono ?_); rintro e w6 ⟨rfl, r6, o6⟩; have R6 := Box.mk r6; have B6 := Box.mk (bch' B5.out (o6.below (B := w.heap.size) (Nat.le_refl _) B5.out.size)); clear r6 o6))
    | (go_at_call 71; ((with_reducible refine (C8.out _ _ R6.out).mono ?_); rintro e w7 ⟨rfl, r7, o7⟩; have R7 := Box.mk r7; have B7 := Box.mk (bch' B6.out (o7.below (B := w.heap.size) (Nat.le_refl _) B6.out.size)); clear r7 o7))
    | (go_at_call 71; ((with_reducible refine (C8.out _ _ R7.out).mono ?_); rintro e w8 ⟨rfl, r8, o8⟩; have R8 := Box.mk r8; have B8 := Box.mk (bch' B7.out (o8.below (B := w.heap.size) (Nat.le_refl _) B7.out.size)); clear r8 o8))
    | (go_at_call 71; ((with_reducible refine (C8.out _ _ R8.out).mono ?_); rintro e w9 ⟨rfl, r9, o9⟩; have R9 := Box.mk r9; have B9 := Box.mk (bch' B8.out (o9.below (B := w.heap.size) (Nat.le_refl _) B8.out.size)); clear r9 o9)))
  (try simp only [Exit.inBlock, Exit.then]); refine bodyPost_ret (results_tmp4 rfl _ _ _) rfl ?_
  exact ⟨rfl, B9.out⟩

set_option maxRecDepth 100000 in
set_option maxHeartbeats 600000 in
theorem fread_end (T : ByteArray) (hT : T.size ≤ 1000000) (w : World) (hH : Halves w) (hm : rawS T 0 0 2 = ⟨#[79, 74]⟩) (hn : ¬ 4194304 < gN T) (hz : gX7 T ≠ 0) :
    Calls Tryz.prog 44 #[.string T] w fun e w' => e = .returned (rdV T) ∧ Below w.heap.size w w' := by
  have c0 := read_any T hT w
  have hnl : gN T < 4294967296 := fixU_lt T _ _ 4 (by omega)
  have hwl : gW T < 4294967296 := fixU_lt T _ _ 4 (by omega)
  have hql : gQ T < 18446744073709551616 := fixU_lt64 T _ _ 8 (by omega)
  have hV : rdV T = .tuple #[.int .u64 0, .string ⟨#[]⟩, .int .i64 0, .int .i64 (gX7 T : Nat)] := by
    have e : gX8 T = gX7 T := by unfold gX8; rw [if_neg (fun h => hz h.1)]
    unfold rdV; rw [e, if_neg hz]
  rw [hV]
  clear hV
  have c1 : ∀ (b : Nat) W, Rd W b T 0 0 → Calls Tryz.prog 68 #[.pointer (some ⟨b, 0, none⟩), .int .i64 2] W (RdQ b T (rawA T 0 0 2) (rawX T 0 0 2) (.string (rawS T 0 0 2)) W) := fun b W hW => rraw_any b T 0 0 2 W hW
  have hx1 : rawX T 0 0 2 = gX2 T := by unfold gX2; rw [if_pos hm]
  have c3 : ∀ (b : Nat) W, Rd W b T (rawA T 0 0 2) (gX2 T) → Calls Tryz.prog 70 #[.pointer (some ⟨b, 0, none⟩), .int .i64 4] W (RdQ b T (gA3 T) (gX3 T) (.int .u64 (gN T : Nat)) W) := fun b W hW => rfixed_any b T _ _ 4 W hW
  have c4 : ∀ (b : Nat) W, Rd W b T (gA3 T) (gX3 T) → Calls Tryz.prog 70 #[.pointer (some ⟨b, 0, none⟩), .int .i64 8] W (RdQ b T (gA4 T) (gX4 T) (.int .u64 (gQ T : Nat)) W) := fun b W hW => rfixed_any b T _ _ 8 W hW
  have c5 : ∀ (b : Nat) W, Rd W b T (gA4 T) (gX4 T) → Calls Tryz.prog 70 #[.pointer (some ⟨b, 0, none⟩), .int .i64 4] W (RdQ b T (gA5 T) (gX5 T) (.int .u64 (gW T : Nat)) W) := fun b W hW => rfixed_any b T _ _ 4 W hW
  have hx5 : gX5 T = gX6 T := by unfold gX6; rw [if_neg hn]
  have c7 : ∀ (b : Nat) W, Rd W b T (gA5 T) (gX6 T) → Calls Tryz.prog 68 #[.pointer (some ⟨b, 0, none⟩), .int .i64 (gN T : Nat)] W (RdQ b T (gA7 T) (gX7 T) (.string (gR T)) W) := fun b W hW => rraw_any b T _ _ _ W hW
  have c8 : ∀ (b : Nat) W, Rd W b T (gA7 T) (gX7 T) → Calls Tryz.prog 71 #[.pointer (some ⟨b, 0, none⟩)] W (RdQ b T (gA7 T) (gX7 T) (.int .i64 (gX7 T : Nat)) W) := fun b W hW => err_any b T _ _ W hW
  have hS1 : (rawS T 0 0 2).size ≤ 2 := by unfold rawS; split; (simp; omega); (show (⟨#[]⟩ : ByteArray).size ≤ _; decide)
  generalize rawA T 0 0 2 = A1 at *
  rw [hm, hx1] at c1
  clear hS1 hx1 hm
  generalize gX2 T = YX2 at *
  generalize gA3 T = YA3 at *
  generalize gX3 T = YX3 at *
  generalize gQ T = YQ at *
  generalize gA4 T = YA4 at *
  generalize gX4 T = YX4 at *
  generalize gW T = YW at *
  generalize gA5 T = YA5 at *
  rw [hx5] at c5
  clear hx5
  generalize gX6 T = YX6 at *
  generalize gR T = YR at *
  generalize gA7 T = YA7 at *
  generalize gX7 T = YX7 at *
  have z1 : ((YX7 : Int) == 0) = false := by rw [beq_eq_false_iff_ne]; omega
  have z2 : ((YX7 : Int) != 0) = true := by simp; omega
  generalize gN T = N0 at *
  have nn : IntKind.i64.wrap (N0 : Int) = (N0 : Int) := IntWalk.i64_in _ (by omega)
  have dn : decide (4194304 < (N0 : Int)) = false := by simp; omega
  have HH := Box.mk hH; have C0 := Box.mk c0; have C1 := Box.mk c1; have C3 := Box.mk c3; have C4 := Box.mk c4; have C5 := Box.mk c5; have C7 := Box.mk c7; have C8 := Box.mk c8
  clear c0 c1 c3 c4 c5 c7 c8 hH
  go_enter Tryz.func44, Tryz.ntmps44
  go_wp2_with (first
    | (go_at_call 67; ((with_reducible refine C0.out.mono ?_); rintro e w0 ⟨rfl, r0, b0⟩; have R0 := Box.mk r0; have B0 := Box.mk b0; clear r0 b0))
    | (go_at_call 68; ((with_reducible refine (C1.out _ _ R0.out).mono ?_); rintro e w1 ⟨rfl, r1, o1⟩; have R1 := Box.mk r1; have B1 := Box.mk (bch' B0.out (o1.below (B := w.heap.size) (Nat.le_refl _) B0.out.size)); clear r1 o1))
    | (go_at_call 70; ((with_reducible refine (C3.out _ _ R1.out).mono ?_); rintro e w2 ⟨rfl, r2, o2⟩; have R2 := Box.mk r2; have B2 := Box.mk (bch' B1.out (o2.below (B := w.heap.size) (Nat.le_refl _) B1.out.size)); clear r2 o2))
    | (go_at_call 70; ((with_reducible refine (C4.out _ _ R2.out).mono ?_); rintro e w3 ⟨rfl, r3, o3⟩; have R3 := Box.mk r3; have B3 := Box.mk (bch' B2.out (o3.below (B := w.heap.size) (Nat.le_refl _) B2.out.size)); clear r3 o3))
    | (go_at_call 70; ((with_reducible refine (C5.out _ _ R3.out).mono ?_); rintro e w4 ⟨rfl, r4, o4⟩; have R4 := Box.mk r4; have B4 := Box.mk (bch' B3.out (o4.below (B := w.heap.size) (Nat.le_refl _) B3.out.size)); clear r4 o4))
    | (go_at_call 68; ((with_reducible refine (C7.out _ _ R4.out).mono ?_); rintro e w5 ⟨rfl, r5, o5⟩; have R5 := Box.mk r5; have B5 := Box.mk (bch' B4.out (o5.below (B := w.heap.size) (Nat.le_refl _) B4.out.size)); clear r5 o5))
    | (go_at_call 71; ((with_reducible refine (C8.out _ _ R5.out).mono ?_); rintro e w6 ⟨rfl, r6, o6⟩; have R6 := Box.mk r6; have B6 := Box.mk (bch' B5.out (o6.below (B := w.heap.size) (Nat.le_refl _) B5.out.size)); clear r6 o6))
    | (go_at_call 71; ((with_reducible refine (C8.out _ _ R6.out).mono ?_); rintro e w7 ⟨rfl, r7, o7⟩; have R7 := Box.mk r7; have B7 := Box.mk (bch' B6.out (o7.below (B := w.heap.size) (Nat.le_refl _) B6.out.size)); clear r7 o7))
    | (go_at_call 71; ((with_reducible refine (C8.out _ _ R7.out).mono ?_); rintro e w8 ⟨rfl, r8, o8⟩; have R8 := Box.mk r8; have B8 := Box.mk (bch' B7.out (o8.below (B := w.heap.size) (Nat.le_refl _) B7.out.size)); clear r8 o8)))
  (try simp only [Exit.inBlock, Exit.then]); refine bodyPost_ret (results_tmp4 rfl _ _ _) rfl ?_
  exact ⟨rfl, B8.out⟩

set_option maxRecDepth 100000 in
set_option maxHeartbeats 600000 in
theorem fread_sum (T : ByteArray) (hT : T.size ≤ 1000000) (w : World) (hH : Halves w) (hm : rawS T 0 0 2 = ⟨#[79, 74]⟩) (hn : ¬ 4194304 < gN T) (hz : gX7 T = 0) (hs : smN (gQ T) (sb (gR T)) ≠ gW T) :
    Calls Tryz.prog 44 #[.string T] w fun e w' => e = .returned (rdV T) ∧ Below w.heap.size w w' := by
  have c0 := read_any T hT w
  have hnl : gN T < 4294967296 := fixU_lt T _ _ 4 (by omega)
  have hwl : gW T < 4294967296 := fixU_lt T _ _ 4 (by omega)
  have hql : gQ T < 18446744073709551616 := fixU_lt64 T _ _ 8 (by omega)
  have hV : rdV T = .tuple #[.int .u64 0, .string ⟨#[]⟩, .int .i64 0, .int .i64 4] := by
    have e : gX8 T = 4 := by unfold gX8; rw [if_pos ⟨hz, hs⟩]
    unfold rdV; rw [e]; rfl
  rw [hV]
  clear hV
  have c1 : ∀ (b : Nat) W, Rd W b T 0 0 → Calls Tryz.prog 68 #[.pointer (some ⟨b, 0, none⟩), .int .i64 2] W (RdQ b T (rawA T 0 0 2) (rawX T 0 0 2) (.string (rawS T 0 0 2)) W) := fun b W hW => rraw_any b T 0 0 2 W hW
  have hx1 : rawX T 0 0 2 = gX2 T := by unfold gX2; rw [if_pos hm]
  have c3 : ∀ (b : Nat) W, Rd W b T (rawA T 0 0 2) (gX2 T) → Calls Tryz.prog 70 #[.pointer (some ⟨b, 0, none⟩), .int .i64 4] W (RdQ b T (gA3 T) (gX3 T) (.int .u64 (gN T : Nat)) W) := fun b W hW => rfixed_any b T _ _ 4 W hW
  have c4 : ∀ (b : Nat) W, Rd W b T (gA3 T) (gX3 T) → Calls Tryz.prog 70 #[.pointer (some ⟨b, 0, none⟩), .int .i64 8] W (RdQ b T (gA4 T) (gX4 T) (.int .u64 (gQ T : Nat)) W) := fun b W hW => rfixed_any b T _ _ 8 W hW
  have c5 : ∀ (b : Nat) W, Rd W b T (gA4 T) (gX4 T) → Calls Tryz.prog 70 #[.pointer (some ⟨b, 0, none⟩), .int .i64 4] W (RdQ b T (gA5 T) (gX5 T) (.int .u64 (gW T : Nat)) W) := fun b W hW => rfixed_any b T _ _ 4 W hW
  have hx5 : gX5 T = gX6 T := by unfold gX6; rw [if_neg hn]
  have c7 : ∀ (b : Nat) W, Rd W b T (gA5 T) (gX6 T) → Calls Tryz.prog 68 #[.pointer (some ⟨b, 0, none⟩), .int .i64 (gN T : Nat)] W (RdQ b T (gA7 T) (gX7 T) (.string (gR T)) W) := fun b W hW => rraw_any b T _ _ _ W hW
  have c8 : ∀ (b : Nat) W, Rd W b T (gA7 T) (gX7 T) → Calls Tryz.prog 71 #[.pointer (some ⟨b, 0, none⟩)] W (RdQ b T (gA7 T) (gX7 T) (.int .i64 (gX7 T : Nat)) W) := fun b W hW => err_any b T _ _ W hW
  have hRs : (gR T).size ≤ 1000000 := by unfold gR rawS; split; (simp; omega); (show (⟨#[]⟩ : ByteArray).size ≤ _; decide)
  have cs := fun W h => fsum_any (gQ T) (gR T) hql (by omega) W h
  have hZ := smN_lt (gQ T) (sb (gR T))
  have cf : ∀ (b : Nat) W, Rd W b T (gA7 T) 0 → Calls Tryz.prog 69 #[.pointer (some ⟨b, 0, none⟩), .int .i64 4] W (RdQ b T (gA7 T) 4 (.tuple #[]) W) := fun b W hW => fail_any b T _ 0 4 W hW
  have ce : ∀ (b : Nat) W, Rd W b T (gA7 T) 4 → Calls Tryz.prog 71 #[.pointer (some ⟨b, 0, none⟩)] W (RdQ b T (gA7 T) 4 (.int .i64 4) W) := fun b W hW => err_any b T _ 4 W hW
  have CF := Box.mk cf; have CE := Box.mk ce
  clear cf ce
  generalize smN (gQ T) (sb (gR T)) = Z at *
  have nz : IntKind.u64.wrap (Z : Int) = (Z : Int) := u64small (by omega)
  have hS1 : (rawS T 0 0 2).size ≤ 2 := by unfold rawS; split; (simp; omega); (show (⟨#[]⟩ : ByteArray).size ≤ _; decide)
  generalize rawA T 0 0 2 = A1 at *
  rw [hm, hx1] at c1
  clear hS1 hx1 hm
  generalize gX2 T = YX2 at *
  generalize gA3 T = YA3 at *
  generalize gX3 T = YX3 at *
  generalize gQ T = YQ at *
  generalize gA4 T = YA4 at *
  generalize gX4 T = YX4 at *
  generalize gW T = YW at *
  generalize gA5 T = YA5 at *
  rw [hx5] at c5
  clear hx5
  generalize gX6 T = YX6 at *
  generalize gR T = YR at *
  generalize gA7 T = YA7 at *
  rw [hz] at *
  clear hz
  generalize gN T = N0 at *
  have nn : IntKind.i64.wrap (N0 : Int) = (N0 : Int) := IntWalk.i64_in _ (by omega)
  have dn : decide (4194304 < (N0 : Int)) = false := by simp; omega
  have dz : ((Z : Int) == (YW : Int)) = false := by rw [beq_eq_false_iff_ne]; omega
  have dz2 : ((Z : Int) != (YW : Int)) = true := by simp; omega
  have CS := Box.mk cs
  clear cs hs
  have HH := Box.mk hH; have C0 := Box.mk c0; have C1 := Box.mk c1; have C3 := Box.mk c3; have C4 := Box.mk c4; have C5 := Box.mk c5; have C7 := Box.mk c7; have C8 := Box.mk c8
  clear c0 c1 c3 c4 c5 c7 c8 hH
  go_enter Tryz.func44, Tryz.ntmps44
  go_wp2_with (first
    | (go_at_call 67; ((with_reducible refine C0.out.mono ?_); rintro e w0 ⟨rfl, r0, b0⟩; have R0 := Box.mk r0; have B0 := Box.mk b0; clear r0 b0))
    | (go_at_call 68; ((with_reducible refine (C1.out _ _ R0.out).mono ?_); rintro e w1 ⟨rfl, r1, o1⟩; have R1 := Box.mk r1; have B1 := Box.mk (bch' B0.out (o1.below (B := w.heap.size) (Nat.le_refl _) B0.out.size)); clear r1 o1))
    | (go_at_call 70; ((with_reducible refine (C3.out _ _ R1.out).mono ?_); rintro e w2 ⟨rfl, r2, o2⟩; have R2 := Box.mk r2; have B2 := Box.mk (bch' B1.out (o2.below (B := w.heap.size) (Nat.le_refl _) B1.out.size)); clear r2 o2))
    | (go_at_call 70; ((with_reducible refine (C4.out _ _ R2.out).mono ?_); rintro e w3 ⟨rfl, r3, o3⟩; have R3 := Box.mk r3; have B3 := Box.mk (bch' B2.out (o3.below (B := w.heap.size) (Nat.le_refl _) B2.out.size)); clear r3 o3))
    | (go_at_call 70; ((with_reducible refine (C5.out _ _ R3.out).mono ?_); rintro e w4 ⟨rfl, r4, o4⟩; have R4 := Box.mk r4; have B4 := Box.mk (bch' B3.out (o4.below (B := w.heap.size) (Nat.le_refl _) B3.out.size)); clear r4 o4))
    | (go_at_call 68; ((with_reducible refine (C7.out _ _ R4.out).mono ?_); rintro e w5 ⟨rfl, r5, o5⟩; have R5 := Box.mk r5; have B5 := Box.mk (bch' B4.out (o5.below (B := w.heap.size) (Nat.le_refl _) B4.out.size)); clear r5 o5))
    | (go_at_call 71; ((with_reducible refine (C8.out _ _ R5.out).mono ?_); rintro e w6 ⟨rfl, r6, o6⟩; have R6 := Box.mk r6; have B6 := Box.mk (bch' B5.out (o6.below (B := w.heap.size) (Nat.le_refl _) B5.out.size)); clear r6 o6))
    | (go_at_call 50; ((with_reducible refine (CS.out _ (halves_below HH.out B6.out)).mono ?_); rintro e w7 ⟨rfl, b7⟩; have R7 := Box.mk (rd_below R6.out b7); have B7 := Box.mk (bch B6.out b7); clear b7))
    | (go_at_call 69; ((with_reducible refine (CF.out _ _ R7.out).mono ?_); rintro e w8 ⟨rfl, r8, o8⟩; have R8 := Box.mk r8; have B8 := Box.mk (bch' B7.out (o8.below (B := w.heap.size) (Nat.le_refl _) B7.out.size)); clear r8 o8))
    | (go_at_call 71; ((with_reducible refine (CE.out _ _ R8.out).mono ?_); rintro e w9 ⟨rfl, r9, o9⟩; have R9 := Box.mk r9; have B9 := Box.mk (bch' B8.out (o9.below (B := w.heap.size) (Nat.le_refl _) B8.out.size)); clear r9 o9))
    | (go_at_call 71; ((with_reducible refine (CE.out _ _ R9.out).mono ?_); rintro e w10 ⟨rfl, r10, o10⟩; have R10 := Box.mk r10; have B10 := Box.mk (bch' B9.out (o10.below (B := w.heap.size) (Nat.le_refl _) B9.out.size)); clear r10 o10)))
  (try simp only [Exit.inBlock, Exit.then]); refine bodyPost_ret (results_tmp4 rfl _ _ _) rfl ?_
  exact ⟨rfl, B10.out⟩

set_option maxRecDepth 100000 in
set_option maxHeartbeats 600000 in
theorem fread_ok (T : ByteArray) (hT : T.size ≤ 1000000) (w : World) (hH : Halves w) (hm : rawS T 0 0 2 = ⟨#[79, 74]⟩) (hn : ¬ 4194304 < gN T) (hz : gX7 T = 0) (hs : smN (gQ T) (sb (gR T)) = gW T) :
    Calls Tryz.prog 44 #[.string T] w fun e w' => e = .returned (rdV T) ∧ Below w.heap.size w w' := by
  have c0 := read_any T hT w
  have hnl : gN T < 4294967296 := fixU_lt T _ _ 4 (by omega)
  have hwl : gW T < 4294967296 := fixU_lt T _ _ 4 (by omega)
  have hql : gQ T < 18446744073709551616 := fixU_lt64 T _ _ 8 (by omega)
  have hV : rdV T = .tuple #[.int .u64 (gQ T : Nat), .string (gR T), .int .i64 (gA7 T : Nat), .int .i64 0] := by
    have e : gX8 T = 0 := by unfold gX8; rw [if_neg (fun h => h.2 hs)]; exact hz
    unfold rdV; rw [if_pos e]
  rw [hV]
  clear hV
  have c1 : ∀ (b : Nat) W, Rd W b T 0 0 → Calls Tryz.prog 68 #[.pointer (some ⟨b, 0, none⟩), .int .i64 2] W (RdQ b T (rawA T 0 0 2) (rawX T 0 0 2) (.string (rawS T 0 0 2)) W) := fun b W hW => rraw_any b T 0 0 2 W hW
  have hx1 : rawX T 0 0 2 = gX2 T := by unfold gX2; rw [if_pos hm]
  have c3 : ∀ (b : Nat) W, Rd W b T (rawA T 0 0 2) (gX2 T) → Calls Tryz.prog 70 #[.pointer (some ⟨b, 0, none⟩), .int .i64 4] W (RdQ b T (gA3 T) (gX3 T) (.int .u64 (gN T : Nat)) W) := fun b W hW => rfixed_any b T _ _ 4 W hW
  have c4 : ∀ (b : Nat) W, Rd W b T (gA3 T) (gX3 T) → Calls Tryz.prog 70 #[.pointer (some ⟨b, 0, none⟩), .int .i64 8] W (RdQ b T (gA4 T) (gX4 T) (.int .u64 (gQ T : Nat)) W) := fun b W hW => rfixed_any b T _ _ 8 W hW
  have c5 : ∀ (b : Nat) W, Rd W b T (gA4 T) (gX4 T) → Calls Tryz.prog 70 #[.pointer (some ⟨b, 0, none⟩), .int .i64 4] W (RdQ b T (gA5 T) (gX5 T) (.int .u64 (gW T : Nat)) W) := fun b W hW => rfixed_any b T _ _ 4 W hW
  have hx5 : gX5 T = gX6 T := by unfold gX6; rw [if_neg hn]
  have c7 : ∀ (b : Nat) W, Rd W b T (gA5 T) (gX6 T) → Calls Tryz.prog 68 #[.pointer (some ⟨b, 0, none⟩), .int .i64 (gN T : Nat)] W (RdQ b T (gA7 T) (gX7 T) (.string (gR T)) W) := fun b W hW => rraw_any b T _ _ _ W hW
  have c8 : ∀ (b : Nat) W, Rd W b T (gA7 T) (gX7 T) → Calls Tryz.prog 71 #[.pointer (some ⟨b, 0, none⟩)] W (RdQ b T (gA7 T) (gX7 T) (.int .i64 (gX7 T : Nat)) W) := fun b W hW => err_any b T _ _ W hW
  have hRs : (gR T).size ≤ 1000000 := by unfold gR rawS; split; (simp; omega); (show (⟨#[]⟩ : ByteArray).size ≤ _; decide)
  have cs := fun W h => fsum_any (gQ T) (gR T) hql (by omega) W h
  have hZ := smN_lt (gQ T) (sb (gR T))
  have ca : ∀ (b : Nat) W, Rd W b T (gA7 T) (gX7 T) → Calls Tryz.prog 72 #[.pointer (some ⟨b, 0, none⟩)] W (RdQ b T (gA7 T) (gX7 T) (.int .i64 (gA7 T : Nat)) W) := fun b W hW => at_any b T _ _ W hW
  have CA := Box.mk ca
  clear ca
  generalize smN (gQ T) (sb (gR T)) = Z at *
  have nz : IntKind.u64.wrap (Z : Int) = (Z : Int) := u64small (by omega)
  have hS1 : (rawS T 0 0 2).size ≤ 2 := by unfold rawS; split; (simp; omega); (show (⟨#[]⟩ : ByteArray).size ≤ _; decide)
  generalize rawA T 0 0 2 = A1 at *
  rw [hm, hx1] at c1
  clear hS1 hx1 hm
  generalize gX2 T = YX2 at *
  generalize gA3 T = YA3 at *
  generalize gX3 T = YX3 at *
  generalize gQ T = YQ at *
  generalize gA4 T = YA4 at *
  generalize gX4 T = YX4 at *
  generalize gW T = YW at *
  generalize gA5 T = YA5 at *
  rw [hx5] at c5
  clear hx5
  generalize gX6 T = YX6 at *
  generalize gR T = YR at *
  generalize gA7 T = YA7 at *
  rw [hz] at *
  clear hz
  generalize gN T = N0 at *
  have nn : IntKind.i64.wrap (N0 : Int) = (N0 : Int) := IntWalk.i64_in _ (by omega)
  have dn : decide (4194304 < (N0 : Int)) = false := by simp; omega
  have dz : ((Z : Int) == (YW : Int)) = true := by rw [beq_iff_eq]; omega
  have dz2 : ((Z : Int) != (YW : Int)) = false := by simp; omega
  have CS := Box.mk cs
  clear cs hs
  have HH := Box.mk hH; have C0 := Box.mk c0; have C1 := Box.mk c1; have C3 := Box.mk c3; have C4 := Box.mk c4; have C5 := Box.mk c5; have C7 := Box.mk c7; have C8 := Box.mk c8
  clear c0 c1 c3 c4 c5 c7 c8 hH
  go_enter Tryz.func44, Tryz.ntmps44
  go_wp2_with (first
    | (go_at_call 67; ((with_reducible refine C0.out.mono ?_); rintro e w0 ⟨rfl, r0, b0⟩; have R0 := Box.mk r0; have B0 := Box.mk b0; clear r0 b0))
    | (go_at_call 68; ((with_reducible refine (C1.out _ _ R0.out).mono ?_); rintro e w1 ⟨rfl, r1, o1⟩; have R1 := Box.mk r1; have B1 := Box.mk (bch' B0.out (o1.below (B := w.heap.size) (Nat.le_refl _) B0.out.size)); clear r1 o1))
    | (go_at_call 70; ((with_reducible refine (C3.out _ _ R1.out).mono ?_); rintro e w2 ⟨rfl, r2, o2⟩; have R2 := Box.mk r2; have B2 := Box.mk (bch' B1.out (o2.below (B := w.heap.size) (Nat.le_refl _) B1.out.size)); clear r2 o2))
    | (go_at_call 70; ((with_reducible refine (C4.out _ _ R2.out).mono ?_); rintro e w3 ⟨rfl, r3, o3⟩; have R3 := Box.mk r3; have B3 := Box.mk (bch' B2.out (o3.below (B := w.heap.size) (Nat.le_refl _) B2.out.size)); clear r3 o3))
    | (go_at_call 70; ((with_reducible refine (C5.out _ _ R3.out).mono ?_); rintro e w4 ⟨rfl, r4, o4⟩; have R4 := Box.mk r4; have B4 := Box.mk (bch' B3.out (o4.below (B := w.heap.size) (Nat.le_refl _) B3.out.size)); clear r4 o4))
    | (go_at_call 68; ((with_reducible refine (C7.out _ _ R4.out).mono ?_); rintro e w5 ⟨rfl, r5, o5⟩; have R5 := Box.mk r5; have B5 := Box.mk (bch' B4.out (o5.below (B := w.heap.size) (Nat.le_refl _) B4.out.size)); clear r5 o5))
    | (go_at_call 71; ((with_reducible refine (C8.out _ _ R5.out).mono ?_); rintro e w6 ⟨rfl, r6, o6⟩; have R6 := Box.mk r6; have B6 := Box.mk (bch' B5.out (o6.below (B := w.heap.size) (Nat.le_refl _) B5.out.size)); clear r6 o6))
    | (go_at_call 50; ((with_reducible refine (CS.out _ (halves_below HH.out B6.out)).mono ?_); rintro e w7 ⟨rfl, b7⟩; have R7 := Box.mk (rd_below R6.out b7); have B7 := Box.mk (bch B6.out b7); clear b7))
    | (go_at_call 71; ((with_reducible refine (C8.out _ _ R7.out).mono ?_); rintro e w8 ⟨rfl, r8, o8⟩; have R8 := Box.mk r8; have B8 := Box.mk (bch' B7.out (o8.below (B := w.heap.size) (Nat.le_refl _) B7.out.size)); clear r8 o8))
    | (go_at_call 72; ((with_reducible refine (CA.out _ _ R8.out).mono ?_); rintro e w9 ⟨rfl, r9, o9⟩; have R9 := Box.mk r9; have B9 := Box.mk (bch' B8.out (o9.below (B := w.heap.size) (Nat.le_refl _) B8.out.size)); clear r9 o9)))
  (try simp only [Exit.inBlock, Exit.then]); refine bodyPost_ret (results_tmp4 rfl _ _ _) rfl ?_
  exact ⟨rfl, B9.out⟩

theorem fread_any (T : ByteArray) (hT : T.size ≤ 1000000) (w : World) (hH : Halves w) :
    Calls Tryz.prog 44 #[.string T] w fun e w' => e = .returned (rdV T) ∧ Below w.heap.size w w' := by
  by_cases hm : rawS T 0 0 2 = ⟨#[79, 74]⟩
  · by_cases hn : 4194304 < gN T
    · exact fread_many T hT w hH hm hn
    · by_cases hz : gX7 T = 0
      · by_cases hs : smN (gQ T) (sb (gR T)) = gW T
        · exact fread_ok T hT w hH hm hn hz hs
        · exact fread_sum T hT w hH hm hn hz hs
      · exact fread_end T hT w hH hm hn hz
  · exact fread_bad T hT w hH hm
end Go.Proofs.YtdffpbfllekcgaaGreatDoor
