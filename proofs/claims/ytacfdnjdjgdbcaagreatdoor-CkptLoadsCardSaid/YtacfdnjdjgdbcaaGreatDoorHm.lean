/- PackF, PackG, PackH, PackI, PackJ, PackK, PackL, in one text. -/
import Derived.Test.YtacfdnjdjgdbcaaGreatDoorHl
import Derived.Deep.RegionWith
import Derived.Deep.RegionHeld3
import Derived.Test.YtacfdnjdjgdbcaaGreatDoorHc
namespace Go.Proofs.YtacfdnjdjgdbcaaGreatDoor
set_option maxRecDepth 100000
open Go.RowKit M

theorem fixU_none {T : ByteArray} {a x k : Nat} (h : rawX T a x (k : Int) ≠ 0) : fixU T a x k = 0 := by
  unfold fixU
  have : rawS T a x (k : Int) = ⟨#[]⟩ := by
    unfold rawX at h
    unfold rawS
    by_cases hx : x = 0
    · rw [if_pos hx] at h
      split at h
      · omega
      · rw [if_neg (by omega)]
    · rw [if_neg (by omega)]
  rw [this]; rfl
theorem fixU_lt (T : ByteArray) (a x k : Nat) (h8 : k ≤ 8) : fixU T a x k < 2 ^ (8 * k) := by
  unfold fixU
  have h := un_lt (l := sb (rawS T a x k)) (sb_lt _)
  rw [sb_length] at h
  have hs := rawS_size T a x k
  have : 2 ^ (8 * (rawS T a x k).size) ≤ 2 ^ (8 * k) := Nat.pow_le_pow_right (by decide) (by omega)
  omega
theorem fixU_lt64 (T : ByteArray) (a x k : Nat) (h8 : k ≤ 8) : fixU T a x k < 18446744073709551616 := by
  have h := fixU_lt T a x k h8
  have h2 : 2 ^ (8 * k) ≤ 2 ^ 64 := Nat.pow_le_pow_right (by decide) (by omega)
  have h3 : (2 : Nat) ^ 64 = 18446744073709551616 := by decide
  omega

/-- the error behind the second part of a number -/
def numE (T : ByteArray) (a x : Nat) : Nat :=
  if fixU T (rawA T a x 1) (rawX T a x 1) (fixU T a x 1 - 247) < 248 ∨ szN (fixU T (rawA T a x 1) (rawX T a x 1) (fixU T a x 1 - 247)) ≠ fixU T a x 1 - 247 then
    (if rawX T (rawA T a x 1) (rawX T a x 1) (fixU T a x 1 - 247 : Nat) = 0 then 3 else rawX T (rawA T a x 1) (rawX T a x 1) (fixU T a x 1 - 247 : Nat))
  else rawX T (rawA T a x 1) (rawX T a x 1) (fixU T a x 1 - 247 : Nat)
/-- a number is read: the place, the error, the number -/
def numA (T : ByteArray) (a x : Nat) : Nat := if fixU T a x 1 < 248 then rawA T a x 1 else if numE T a x = 0 then rawA T (rawA T a x 1) (rawX T a x 1) (fixU T a x 1 - 247 : Nat) else a
def numX (T : ByteArray) (a x : Nat) : Nat := if fixU T a x 1 < 248 then rawX T a x 1 else numE T a x
def numV (T : ByteArray) (a x : Nat) : Nat := if fixU T a x 1 < 248 then fixU T a x 1 else if numE T a x = 0 then fixU T (rawA T a x 1) (rawX T a x 1) (fixU T a x 1 - 247) else 0

set_option maxRecDepth 100000 in
set_option maxHeartbeats 600000 in
theorem rnum_any (b : Nat) (T : ByteArray) (a x : Nat) (w : World) (h : Rd w b T a x) :
    Calls Tryz.prog 48 #[.pointer (some ⟨b, 0, none⟩)] w (RdQ b T (numA T a x) (numX T a x) (.int .u64 (numV T a x : Nat)) w) := by
  have c1w := h.c1
  have hle := h.le
  have cf := rfixed_any b T a x 1 w h
  rw [show cl18 1 = 1 by decide] at cf
  have hf1 := fixU_lt T a x 1 (by omega)
  by_cases hs : fixU T a x 1 < 248
  · have e1 : numA T a x = rawA T a x (1 : Nat) := by unfold numA; rw [if_pos hs]; rfl
    have e2 : numX T a x = rawX T a x (1 : Nat) := by unfold numX; rw [if_pos hs]; rfl
    have e3 : numV T a x = fixU T a x 1 := by unfold numV; rw [if_pos hs]
    rw [e1, e2, e3]
    clear e1 e2 e3
    have CF := Box.mk cf
    clear cf h
    generalize fixU T a x 1 = f at *
    go_enter Tryz.func48, Tryz.ntmps48
    go_wp2_with (go_at_call 84; refine CF.out.mono ?_; rintro e w1 ⟨rfl, r1, o1⟩; have R1 := Box.mk r1; have O1 := Box.mk o1; clear r1 o1)
    go_ret
    exact ⟨rfl, R1.out, O1.out⟩
  · obtain ⟨f, hf⟩ : ∃ f, f = fixU T a x 1 := ⟨_, rfl⟩
    obtain ⟨k, hk⟩ : ∃ k, k = fixU T a x 1 - 247 := ⟨_, rfl⟩
    obtain ⟨a1, ha1⟩ : ∃ q, q = rawA T a x (1 : Nat) := ⟨_, rfl⟩
    obtain ⟨x1, hx1⟩ : ∃ q, q = rawX T a x (1 : Nat) := ⟨_, rfl⟩
    have hk8 : 1 ≤ k ∧ k ≤ 8 := by omega
    obtain ⟨u, hu⟩ : ∃ q, q = fixU T a1 x1 k := ⟨_, rfl⟩
    obtain ⟨a2, ha2⟩ : ∃ q, q = rawA T a1 x1 (k : Int) := ⟨_, rfl⟩
    obtain ⟨x2, hx2⟩ : ∃ q, q = rawX T a1 x1 (k : Int) := ⟨_, rfl⟩
    have hu64 : u < 18446744073709551616 := by rw [hu]; exact fixU_lt64 _ _ _ _ hk8.2
    have hE : numE T a x = if u < 248 ∨ szN u ≠ k then (if x2 = 0 then 3 else x2) else x2 := by
      rw [hu, hx2, ha1, hx1, hk]; rfl
    have e1 : numA T a x = if numE T a x = 0 then a2 else a := by unfold numA; rw [if_neg hs, ha2, ha1, hx1, hk]; rfl
    have e2 : numX T a x = numE T a x := by unfold numX; rw [if_neg hs]
    have e3 : numV T a x = if numE T a x = 0 then u else 0 := by unfold numV; rw [if_neg hs, hu, ha1, hx1, hk]; rfl
    have hun : x2 ≠ 0 → u = 0 := fun hh => by rw [hu]; exact fixU_none (by rw [← hx2]; exact hh)
    rw [← ha1, ← hx1, ← hf] at cf
    have cg : ∀ W, Rd W b T a1 x1 → Calls Tryz.prog 84 #[.pointer (some ⟨b, 0, none⟩), .int .i64 (k : Int)] W (RdQ b T a2 x2 (.int .u64 (u : Int)) W) := fun W hW => by
      have c := rfixed_any b T a1 x1 k W hW
      rw [cl18_nat hk8.1 hk8.2, ← hu, ← ha2, ← hx2] at c
      exact c
    have q1 : (f : Int) - 248 + 1 = (k : Int) := by omega
    have f248 : ¬ f < 248 := by omega
    have f255 : f < 256 := by omega
    have CF := Box.mk cf; have CG := Box.mk cg
    rw [e1, e2, e3]
    clear cf cg e1 e2 e3 hs hf1 hf hk ha1 hx1 hu ha2 hx2 h
    by_cases hb : u < 248
    · have hE2 : numE T a x = if x2 = 0 then 3 else x2 := by rw [hE, if_pos (.inl hb)]
      obtain ⟨x3, hx3⟩ : ∃ q, q = if x2 = 0 then 3 else x2 := ⟨_, rfl⟩
      have hx3p : 0 < x3 := by rw [hx3]; split <;> omega
      rw [hE2, ← hx3, if_neg (by omega), if_neg (by omega)]
      have z1 : ((x3 : Int) != 0) = true := by simp; omega
      have cl : ∀ W, Rd W b T a2 x2 → Calls Tryz.prog 47 #[.pointer (some ⟨b, 0, none⟩), .int .i64 3] W (RdQ b T a2 x3 (.tuple #[]) W) := fun W hW => by rw [hx3]; exact fail_any b T a2 x2 3 W hW
      have CL := Box.mk cl
      clear cl hE hE2 hx3 hun
      go_enter Tryz.func48, Tryz.ntmps48
      go_wp2_with (first
        | (go_at_call 84; ((with_reducible refine CF.out.mono ?_); rintro e w1 ⟨rfl, r1, o1⟩; have R1 := Box.mk r1; have O1 := Box.mk o1; clear r1 o1))
        | (go_at_call 84; ((with_reducible refine (CG.out _ R1.out).mono ?_); rintro e w2 ⟨rfl, r2, o2⟩; have R2 := Box.mk r2; have O2 := Box.mk o2; clear r2 o2))
        | (go_at_call 47; ((with_reducible refine (CL.out _ R2.out).mono ?_); rintro e w3 ⟨rfl, r3, o3⟩; have d2 := r3.c2; have d1 := r3.c1; have g1 := r3.f1; have R3 := Box.mk r3; have O3 := Box.mk o3; clear r3 o3)))
      go_ret
      exact ⟨rfl, R3.out.move a hle, ((O1.out.trans O2.out).trans O3.out).setCell 1 _⟩
    · have cs := fun w => numSize_any u (by omega) hu64 w
      obtain ⟨j, hj⟩ : ∃ j, j = szN u := ⟨_, rfl⟩
      rw [← hj] at cs hE
      have CS := Box.mk cs
      have hj8 := szN_bd u
      rw [← hj] at hj8
      clear cs
      have hx20 : x2 = 0 := by
        rcases Nat.eq_zero_or_pos x2 with h0 | h0
        · exact h0
        · have := hun (by omega); omega
      subst hx20
      by_cases hjk : j = k
      · have hE2 : numE T a x = 0 := by rw [hE, if_neg (by omega)]
        rw [hE2, if_pos rfl, if_pos rfl]
        clear hE hE2 hun hj
        subst hjk
        go_enter Tryz.func48, Tryz.ntmps48
        go_wp2_with (first
          | (go_at_call 84; ((with_reducible refine CF.out.mono ?_); rintro e w1 ⟨rfl, r1, o1⟩; have R1 := Box.mk r1; have O1 := Box.mk o1; clear r1 o1))
          | (go_at_call 84; ((with_reducible refine (CG.out _ R1.out).mono ?_); rintro e w2 ⟨rfl, r2, o2⟩; have d2 := r2.c2; have R2 := Box.mk r2; have O2 := Box.mk o2; clear r2 o2))
          | (go_at_call 85; ((with_reducible refine (CS.out _).mono ?_); rintro e w' ⟨rfl, rfl⟩)))
        go_ret
        exact ⟨rfl, R2.out, O1.out.trans O2.out⟩
      · have hE2 : numE T a x = 3 := by rw [hE, if_pos (.inr hjk)]; rfl
        rw [hE2, if_neg (by omega), if_neg (by omega)]
        have cl : ∀ W, Rd W b T a2 0 → Calls Tryz.prog 47 #[.pointer (some ⟨b, 0, none⟩), .int .i64 3] W (RdQ b T a2 3 (.tuple #[]) W) := fun W hW => fail_any b T a2 0 3 W hW
        have CL := Box.mk cl
        have z2 : ((j : Int) != (k : Int)) = true := by simp; omega
        clear cl hE hE2 hun hj
        go_enter Tryz.func48, Tryz.ntmps48
        go_wp2_with (first
          | (go_at_call 84; ((with_reducible refine CF.out.mono ?_); rintro e w1 ⟨rfl, r1, o1⟩; have R1 := Box.mk r1; have O1 := Box.mk o1; clear r1 o1))
          | (go_at_call 84; ((with_reducible refine (CG.out _ R1.out).mono ?_); rintro e w2 ⟨rfl, r2, o2⟩; have R2 := Box.mk r2; have O2 := Box.mk o2; clear r2 o2))
          | (go_at_call 85; ((with_reducible refine (CS.out _).mono ?_); rintro e w' ⟨rfl, rfl⟩))
          | (go_at_call 47; ((with_reducible refine (CL.out _ R2.out).mono ?_); rintro e w3 ⟨rfl, r3, o3⟩; have d2 := r3.c2; have d1 := r3.c1; have g1 := r3.f1; have R3 := Box.mk r3; have O3 := Box.mk o3; clear r3 o3)))
        go_ret
        exact ⟨rfl, R3.out.move a hle, ((O1.out.trans O2.out).trans O3.out).setCell 1 _⟩
end Go.Proofs.YtacfdnjdjgdbcaaGreatDoor
namespace Go.Proofs.YtacfdnjdjgdbcaaGreatDoor
set_option maxRecDepth 100000
open Go.RowKit M

theorem Wr.ext {w w1 : World} {b b' : Nat} {L : List Nat} {v v1 v' : Value} (h : Wr w b' L v') (x : Ext b v v1 w w1) (h1 : b' ≠ b) (h2 : v.ownBlock ≠ some b') (h3 : v'.ownBlock ≠ some b) (h4 : ∀ k, v'.ownBlock = some k → v.ownBlock ≠ some k) : Wr w1 b' L v' := by
  have hlt := World.block_lt_of_cell? w _ h.cell
  have e := x.block b' hlt h1 h2
  refine ⟨by rw [World.cell?_of_block (w := w) (a := ⟨b', 0, none⟩) e]; exact h.cell, ?_, by rw [World.frozen?_of_block (w := w) (a := ⟨b', 0, none⟩) e]; exact h.fr⟩
  obtain ⟨o1, o2⟩ := h.own
  refine ⟨o1, ?_⟩
  rcases o2 with o2 | ⟨g, cap, cur, hv, hg, hh, r⟩
  · exact .inl o2
  · refine .inr ⟨g, cap, cur, hv, hg, ?_, r⟩
    have hgl : g < w.heap.size := by
      rcases Nat.lt_or_ge g w.heap.size with hl | hl
      · exact hl
      · rw [Array.getElem?_eq_none hl] at hh; cases hh
    have ho : v'.ownBlock = some g := by rw [hv]; rfl
    rw [x.block g hgl (fun e2 => h3 (by rw [ho, e2])) (h4 g ho)]
    exact hh

theorem wr_new (w : World) (b : Nat) (hb : b = w.heap.size) : Wr (w.alloc (.cells #[.slice none 0 0] 157)) b [] (.slice none 0 0) := by
  subst hb
  refine ⟨?_, World.ownsRow_nil _ _ _ _, by simp⟩
  have e := heap_alloc_new w (.cells #[.slice none 0 0] 157)
  rw [cell_of_row _ _ _ _ _ _ e]; rfl

set_option maxHeartbeats 400000 in
theorem wtext_any (b : Nat) (L : List Nat) (v0 : Value) (s : ByteArray) (w : World) (h : Wr w b L v0) (hl : L.length + s.size ≤ 700000) :
    Calls Tryz.prog 96 #[.pointer (some ⟨b, 0, none⟩), .string s] w (WrP b (L ++ txtL (sb s)) v0 w) := by
  have hlen : (sb s).length = s.size := sb_length s
  have c1 := num_any b L v0 s.size (by omega) w h (by omega)
  have hn9 := numL_length s.size
  have c2 : ∀ (W : World) (v1 : Value), Wr W b (L ++ numL s.size) v1 → Calls Tryz.prog 94 #[.pointer (some ⟨b, 0, none⟩), .string s] W (WrP b (L ++ txtL (sb s)) v1 W) := fun W v1 hW => by
    have c := raw_any b (L ++ numL s.size) v1 s W hW (by rw [List.length_append]; omega)
    rw [List.append_assoc, show numL s.size ++ sb s = txtL (sb s) by unfold txtL; rw [hlen]] at c
    exact c
  have hs63 : (s.size : Int) ≤ 700000 := by omega
  have C1 := Box.mk c1; have C2 := Box.mk c2
  clear c1 c2 h hlen
  go_enter Tryz.func96, Tryz.ntmps96
  go_wp2_with (first
    | (go_at_call 95; ((with_reducible refine C1.out.mono ?_); rintro e w1 ⟨rfl, v1, q1, b1⟩; have Q1 := Box.mk q1; have B1 := Box.mk b1; clear q1 b1))
    | (go_at_call 94; ((with_reducible refine (C2.out _ _ Q1.out).mono ?_); rintro e w2 ⟨rfl, v2, q2, b2⟩; have Q2 := Box.mk q2; have B2 := Box.mk b2; clear q2 b2)))
  go_end0
  exact ⟨rfl, v2, Q2.out, B1.out.trans B2.out⟩

/-- what Read leaves -/
def ReadP (T : ByteArray) (w : World) (e : Ending) (w' : World) : Prop :=
  e = .returned (.pointer (some ⟨w.heap.size, 0, none⟩)) ∧ Rd w' w.heap.size T 0 0 ∧ Below w.heap.size w w'

theorem read_any (T : ByteArray) (hT : T.size ≤ 1000000) (w : World) : Calls Tryz.prog 21 #[.string T] w (ReadP T w) := by
  go_enter Tryz.func21, Tryz.ntmps21
  go_wp2
  go_ret
  have e := heap_alloc_new w (.cells #[.string T, .int .i64 0, .int .i64 0] 110)
  refine ⟨rfl, ⟨?_, ?_, ?_, by simp, by simp, by omega, hT⟩, (Below.refl _ _).alloc (Nat.le_refl _) _⟩
  all_goals (try (rw [cell_of_row _ _ _ _ _ _ (heap_alloc_new w _)]; rfl))
theorem err_any (b : Nat) (T : ByteArray) (a x : Nat) (w : World) (h : Rd w b T a x) :
    Calls Tryz.prog 51 #[.pointer (some ⟨b, 0, none⟩)] w (RdQ b T a x (.int .i64 (x : Int)) w) := by
  have c2 := h.c2
  have HR := Box.mk h; clear h
  go_enter Tryz.func51, Tryz.ntmps51
  go_wp2
  go_ret
  exact ⟨rfl, HR.out, Onl.refl _ _⟩
end Go.Proofs.YtacfdnjdjgdbcaaGreatDoor
namespace Go.Proofs.YtacfdnjdjgdbcaaGreatDoor
set_option maxRecDepth 100000
open Go.RowKit M

theorem wr_ge {w : World} {b : Nat} {L : List Nat} {v : Value} (h : Wr w b L v) : ∀ k, v.ownBlock = some k → b + 1 ≤ k := fun k hk => (h.own.lt k hk).1
theorem wakeA : numA ⟨#[248, 5]⟩ 0 0 = 0 := by decide +kernel
theorem wakeX : numX ⟨#[248, 5]⟩ 0 0 = 3 := by decide +kernel
theorem wakeL : ([] : List Nat) ++ numL 300 ++ txtL (sb ⟨#[97, 98]⟩) = [249, 1, 44, 2, 97, 98] := by decide +kernel
theorem wakeB : bs [249, 1, 44, 2, 97, 98] = ⟨#[249, 1, 44, 2, 97, 98]⟩ := by decide

theorem numL_len (v : Nat) : (numL v).length = if v < 248 then 1 else 1 + szN v := by
  unfold numL; split <;> simp [fx_length]; omega
theorem numL_mono {a b : Nat} (h : a ≤ b) : (numL a).length ≤ (numL b).length := by
  rw [numL_len, numL_len]
  have := szN_mono h
  have := szN_bd b
  split <;> split <;> omega
/-- no number's bytes are the beginning of another's -/
theorem numL_prefix {a b : Nat} (ha : a < 18446744073709551616) (hb : b < 18446744073709551616) (h : (numL b).take (numL a).length = numL a) : a = b := by
  have hsa := szN_bd a
  have hsb := szN_bd b
  unfold numL at h
  by_cases h1 : a < 248
  · rw [if_pos h1] at h
    by_cases h2 : b < 248
    · rw [if_pos h2] at h; simpa using h.symm
    · rw [if_neg h2] at h; simp at h; omega
  · rw [if_neg h1] at h
    by_cases h2 : b < 248
    · rw [if_pos h2] at h; simp at h; omega
    · rw [if_neg h2] at h
      simp only [List.length_cons, List.take_succ_cons, List.cons.injEq] at h
      have hs : szN b = szN a := by omega
      have h3 := h.2
      rw [hs, List.take_of_length_le (by simp [fx_length])] at h3
      have e := congrArg un h3
      rw [un_fx, un_fx, Nat.mod_eq_of_lt (szN_lt ha), ← hs, Nat.mod_eq_of_lt (szN_lt hb)] at e
      exact e.symm
theorem bs_take (l : List Nat) (n : Nat) : (bs l).extract 0 n = bs (l.take n) := by
  apply ByteArray.ext
  apply Array.ext'
  rw [ByteArray.data_extract, Array.toList_extract, List.extract_eq_take_drop]
  simp [bs, strOfNums]
theorem bs_inj {l m : List Nat} (hl : ∀ d ∈ l, d < 2 ^ 8) (hm : ∀ d ∈ m, d < 2 ^ 8) (h : bs l = bs m) : l = m := by
  have := congrArg sb h
  rwa [sb_bs l hl, sb_bs m hm] at this
theorem str_beq (x y : ByteArray) : (x.toList == y.toList) = decide (x = y) := by
  rw [ByteArray.toList_eq, ByteArray.toList_eq]
  by_cases h : x = y
  · subst h
    rw [decide_eq_true rfl]
    exact beq_self_eq_true _
  · have h2 : ¬ x.data.toList = y.data.toList := fun hh => h (by apply ByteArray.ext; exact Array.ext' hh)
    rw [decide_eq_false h]
    exact beq_eq_false_iff_ne.2 h2

theorem own_new {b n : Nat} {v' : Value} {w w' : World} (h : Ext b (.slice none 0 0) v' w w') (hs : w.heap.size = n + 2) : v'.ownBlock ≠ some (n + 1) := fun e => by
  rcases h.lies with e2 | e2
  · rw [e] at e2; cases e2
  · have := e2 _ e; omega
end Go.Proofs.YtacfdnjdjgdbcaaGreatDoor
namespace Go.Proofs.YtacfdnjdjgdbcaaGreatDoor
set_option maxRecDepth 100000
open Go.RowKit M

set_option maxRecDepth 100000 in
set_option maxHeartbeats 600000 in
theorem refFixed_any (v n : Nat) (hv : v < 18446744073709551616) (h1 : 1 ≤ n) (h8 : n ≤ 8) (w : World) :
    Calls Tryz.prog 88 #[.int .u64 v, .int .i64 n] w fun e w' => e = .returned (.string (bs (fx n v))) ∧ Below w.heap.size w w' := by
  obtain ⟨l, hl⟩ : ∃ l, l = bytesN n v := ⟨_, rfl⟩
  have hll : l.length = n := by rw [hl, bytesN_length]
  have hlt : ∀ d ∈ l, d < 2 ^ 8 := by rw [hl]; exact bytesN_lt n v
  have cb := refBytes_any v (n : Int) hv w
  rw [show cl8 (n : Int) = n by unfold cl8; rw [if_neg (by omega), if_neg (by omega), Int.toNat_natCast], ← hl] at cb
  obtain ⟨S, hS⟩ : ∃ S, S = bs l := ⟨_, rfl⟩
  have hSs : S.size = n := by rw [hS, bs_size, hll]
  have hbn : ∀ j, j < n → bn S j = l.getD j 0 := fun j hj => by rw [hS]; exact bn_bs l hlt j (by omega)
  have hfin : bs (fx n v) = bs l.reverse := by rw [hl]; rfl
  rw [← hS] at cb
  rw [hfin]
  have CB := Box.mk cb; have HL := Box.mk hll; have HLT := Box.mk hlt; have HBN := Box.mk hbn; have HSS := Box.mk hSs
  clear cb hl hll hlt hS hSs hbn hfin
  go_enter Tryz.func88, Tryz.ntmps88
  go_wp2_with (go_at_call 118; refine CB.out.mono ?_; rintro e w1 ⟨rfl, b1⟩; obtain ⟨cap, W, hcv, hcell, hbW, hltW⟩ := str_bytes w1 S; rw [HSS.out] at hcv hcell; have HCL := Box.mk hcell; have HB := Box.mk (bch b1 hbW); have HLW := Box.mk hltW; clear hcell b1 hbW hltW)
  clear hcv
  obtain ⟨g, hg⟩ : ∃ g, g = w1.heap.size := ⟨_, rfl⟩
  rw [← hg]
  have hc2 := HCL.out
  have hlw := HLW.out
  rw [← hg] at hc2 hlw
  have HC2 := Box.mk hc2; have HLW2 := Box.mk hlw
  clear hc2 hlw HCL HLW hg
  go_loopw [5, 7, 13] (fun x _ i wr => ∃ k : Nat, k ≤ n ∧ i = .int .i64 k ∧ x = .string (bs (l.take k).reverse) ∧ Box (∀ j, j < n → wr.cell? ⟨g, j, none⟩ = some (.int .u8 ((bn S j : Nat) : Int))) ∧ Box (Below w.heap.size w wr)) (fun _ _ i _ => n - (intOf i).toNat)
  case atStart => exact ⟨0, by omega, rfl, rfl, HC2, HB⟩
  case round =>
    obtain ⟨k, hk, rfl, rfl, hc, hb⟩ := hrel
    clear HC2 HB HLW2
    by_cases hlt2 : k < n
    · have hcell := hc.out k hlt2
      rw [HBN.out k hlt2] at hcell
      have hsn : (l.take (k + 1)).reverse = l.getD k 0 :: (l.take k).reverse := by
        rw [List.take_succ_eq_append_getElem (by rw [HL.out]; exact hlt2)]
        simp [List.getD, HL.out, hlt2]
      have hd : l.getD k 0 < 256 := HLT.out _ (getD_mem (by rw [HL.out]; exact hlt2))
      generalize l.getD k 0 = d at *
      have hconv := conv_one wr d
      have s1 : (bs (l.take k).reverse).size ≤ 8 := by rw [bs_size]; simp; omega
      have s2 : (bs [d]).size ≤ 1 := by rw [bs_size]; simp
      have HSN := Box.mk hsn; clear hsn
      go_wp2
      go_roundw
      case rel =>
        refine ⟨k + 1, by omega, by go_num, by rw [bs_append, HSN.out]; rfl, ⟨fun j hj => ?_⟩, ⟨hb.out.alloc hb.out.size _⟩⟩
        have h := hc.out j hj
        rw [World.cell?_alloc_lt _ _ _ (World.block_lt_of_cell? wr _ h)]
        exact h
      case measure => simp [intOf]; omega
    · obtain rfl : n = k := by omega
      have e : l.take n = l := List.take_of_length_le (by rw [HL.out]; omega)
      go_wp2
      go_ret
      exact ⟨by rw [e]; rfl, hb.out⟩

theorem conv_cell (w : World) (g b : Nat) (h : w.cell? ⟨g, 0, none⟩ = some (.int .u8 (b : Int))) : (convert 26 9 (.slice (some ⟨g, 0, none⟩) 1 1)).run Tryz.prog w = .ok (.string (bs [b])) w := by
  refine run_convert_bytes_arg (P := Tryz.prog) _ 26 5 Tryz.underlying26 Tryz.underlying5 g 0 1 1 [(b : Int)] rfl (fun i hi => ?_) 9 Tryz.underlying9
  obtain rfl : i = 0 := by omega
  exact h
theorem field_some {v k : Nat} (hv : v < 18446744073709551616) (h1 : 1 ≤ k) (h7 : k ≤ 7) : (0 < fieldN v (8 * (k : Int)) 64) ↔ k < szN v := by
  have e : fieldN v (8 * (k : Int)) 64 = v / 2 ^ (8 * k) := by
    unfold fieldN
    rw [if_pos (by omega), show cl 64 = 64 by decide, show (8 * (k : Int)).toNat = 8 * k by omega]
    refine Nat.mod_eq_of_lt (Nat.lt_of_le_of_lt (Nat.div_le_self _ _) ?_)
    have h3 : (2 : Nat) ^ 64 = 18446744073709551616 := by decide
    omega
  rw [e]
  rcases (by omega : k = 1 ∨ k = 2 ∨ k = 3 ∨ k = 4 ∨ k = 5 ∨ k = 6 ∨ k = 7) with rfl | rfl | rfl | rfl | rfl | rfl | rfl
  all_goals
    unfold szN
    constructor
    · intro h
      have := Nat.pos_of_ne_zero (fun e => by rw [e] at h; omega : v / _ ≠ 0)
      simp at h
      (repeat' split) <;> omega
    · intro h
      simp
      (repeat' split at h) <;> omega

set_option maxRecDepth 100000 in
set_option maxHeartbeats 600000 in
theorem refNum_any (v : Nat) (hv : v < 18446744073709551616) (w : World) :
    Calls Tryz.prog 54 #[.int .u64 v] w fun e w' => e = .returned (.string (bs (numL v))) ∧ Below w.heap.size w w' := by
  by_cases hs : v < 248
  · have e : numL v = [v] := by unfold numL; rw [if_pos hs]
    rw [e]
    clear e
    have hw : IntKind.u8.wrap (v : Int) = (v : Int) := by rw [u8w]; omega
    have hconv := conv_one w v
    go_enter Tryz.func54, Tryz.ntmps54
    go_wp2
    go_ret
    exact ⟨rfl, (Below.refl _ _).alloc (Nat.le_refl _) _⟩
  · have hsz := szN_bd v
    have hnum : bs (numL v) = bs [247 + szN v] ++ bs (fx (szN v) v) := by unfold numL; rw [if_neg hs, bs_append]; rfl
    have hfs : ∀ k : Nat, 1 ≤ k → k ≤ 7 → ((0 < fieldN v (8 * (k : Int)) 64) ↔ k < szN v) := fun k a b => field_some hv a b
    obtain ⟨z, hz⟩ : ∃ z, z = szN v := ⟨_, rfl⟩
    rw [← hz] at hsz hnum hfs
    have HN := Box.mk hnum; have HF := Box.mk hfs; have HZ := Box.mk hz
    have hz1 := hsz.1
    have hz8 := hsz.2
    clear hnum hfs hz hsz
    go_enter Tryz.func54, Tryz.ntmps54
    go_wp2_with fail
    go_loopw [3, 4] (fun x i wr => ∃ k : Nat, 1 ≤ k ∧ k ≤ 8 ∧ i = .int .i64 k ∧ x = .int .i64 ((min z k : Nat) : Int) ∧ Box (Below w.heap.size w wr)) (fun _ i _ => 8 - (intOf i).toNat)
    case atStart => exact ⟨1, by omega, by omega, rfl, by rw [Nat.min_eq_right hz1]; rfl, ⟨Below.refl _ _⟩⟩
    case round =>
      obtain ⟨k, hk1, hk, rfl, rfl, hb⟩ := hrel
      by_cases hlt : k < 8
      · have hf := HF.out k hk1 (by omega)
        have cf := fun w => refField_any v (8 * (k : Int)) 64 hv w
        obtain ⟨f, hfe⟩ : ∃ f, f = fieldN v (8 * (k : Int)) 64 := ⟨_, rfl⟩
        rw [← hfe] at hf cf
        have CF := Box.mk cf; have HFE := Box.mk hfe
        obtain ⟨m, hm⟩ : ∃ m, m = min z k := ⟨_, rfl⟩
        rw [← hm]
        have HM := Box.mk hm
        clear cf hfe hm
        rcases Nat.lt_or_ge k z with hkz | hkz
        · have f0 : 0 < f := hf.2 hkz
          clear hf
          go_wp2_with (go_at_call 87; ((with_reducible refine (CF.out _).mono ?_); rintro e w1 ⟨rfl, b1⟩))
          go_roundw
          case rel => exact ⟨k + 1, by omega, by omega, by go_num, by rw [Nat.min_eq_right (by omega)]; go_num, ⟨bch hb.out b1⟩⟩
          case measure => simp [intOf]; omega
        · have f0 : ¬ 0 < f := fun h => by have := hf.1 h; omega
          clear hf
          go_wp2_with (go_at_call 87; ((with_reducible refine (CF.out _).mono ?_); rintro e w1 ⟨rfl, b1⟩))
          go_roundw
          case rel => exact ⟨k + 1, by omega, by omega, by go_num, by rw [HM.out, Nat.min_eq_left hkz, Nat.min_eq_left (by omega)], ⟨bch hb.out b1⟩⟩
          case measure => simp [intOf]; omega
      · obtain rfl : k = 8 := by omega
        rw [Nat.min_eq_left hz8]
        have cx := fun w => refFixed_any v z hv hz1 hz8 w
        have CX := Box.mk cx
        clear cx
        have nw : IntKind.u8.wrap (247 + (z : Int)) = ((247 + z : Nat) : Int) := by rw [show (247 : Int) + (z : Int) = ((247 + z : Nat) : Int) by omega, u8w]; omega
        have nw0 : IntKind.i64.wrap (247 + (z : Int)) = 247 + (z : Int) := IntWalk.i64_in _ (by omega)
        have s1 : (bs [247 + z]).size ≤ 1 := by rw [bs_size]; simp
        have s2 : (bs (fx z v)).size ≤ 8 := by rw [bs_size, fx_length]; exact hz8
        obtain ⟨y, hy⟩ : ∃ y, y = 247 + z := ⟨_, rfl⟩
        rw [← hy] at nw s1
        have hn := HN.out
        rw [← hy] at hn
        have HN2 := Box.mk hn
        have hcw : ∀ (W : World) (g : Nat), W.cell? ⟨g, 0, none⟩ = some (.int .u8 (y : Int)) → (convert 26 9 (.slice (some ⟨g, 0, none⟩) 1 1)).run Tryz.prog W = .ok (.string (bs [y])) W := fun W g hg => conv_cell W g y hg
        clear hn hy HN
        go_wp2_with fail
        go_region_with (go_at_call 88; ((with_reducible refine (CX.out _).mono ?_); rintro e w5 ⟨rfl, b5⟩; (try have hcl : w5.cell? ⟨wr.heap.size, 0, none⟩ = some (.int .u8 (y : Int)) := (by rw [b5.cell (p := ⟨wr.heap.size, 0, none⟩) (by simp)]; exact cell_one_new wr (.int .u8 (y : Int)) 5 0 _ rfl))))
        all_goals
          go_wp2
          go_ret
          refine ⟨by rw [HN2.out]; rfl, ?_⟩
          first
            | exact bch ((hb.out.alloc hb.out.size _).drew) b5
            | exact (bch hb.out.drew b5).alloc (bch hb.out.drew b5).size _
            | exact bch hb.out.drew b5

end Go.Proofs.YtacfdnjdjgdbcaaGreatDoor
namespace Go.Proofs.YtacfdnjdjgdbcaaGreatDoor
set_option maxRecDepth 100000
open Go.RowKit M

theorem numV_lt (T : ByteArray) (a x : Nat) : numV T a x < 18446744073709551616 := by
  unfold numV
  have h1 := fixU_lt T a x 1 (by omega)
  split
  · omega
  · split
    · exact fixU_lt64 _ _ _ _ (by omega)
    · omega
theorem numA_le {T : ByteArray} {a x : Nat} (h : a ≤ T.size) : numA T a x ≤ T.size := by
  have hr : ∀ (a' x' : Nat) (n : Int), a' ≤ T.size → rawA T a' x' n ≤ T.size := fun a' x' n h' => by
    unfold rawA; split <;> omega
  unfold numA
  split
  · exact hr _ _ _ h
  · split
    · exact hr _ _ _ (hr _ _ _ h)
    · exact h

def txtE (T : ByteArray) (a x : Nat) (most : Int) : Nat := if max most 0 < (numV T a x : Int) then (if numX T a x = 0 then 12 else numX T a x) else numX T a x
def txtK (T : ByteArray) (a x : Nat) : Int := IntKind.i64.wrap (numV T a x : Int)
def txtX (T : ByteArray) (a x : Nat) (most : Int) : Nat := rawX T (numA T a x) (txtE T a x most) (txtK T a x)
def txtA (T : ByteArray) (a x : Nat) (most : Int) : Nat := if txtX T a x most = 0 then rawA T (numA T a x) (txtE T a x most) (txtK T a x) else a
def txtS (T : ByteArray) (a x : Nat) (most : Int) : ByteArray := rawS T (numA T a x) (txtE T a x most) (txtK T a x)

theorem done_any (b : Nat) (T : ByteArray) (a x : Nat) (w : World) (h : Rd w b T a x) :
    Calls Tryz.prog 23 #[.pointer (some ⟨b, 0, none⟩)] w (RdQ b T a (if x = 0 ∧ a < T.size then 3 else x) (.int .i64 ((if x = 0 ∧ a < T.size then 3 else x : Nat) : Int)) w) := by
  have hle := h.le
  have cl := left_any b T a x w h
  obtain ⟨y, hy⟩ : ∃ y, y = T.size - a := ⟨_, rfl⟩
  rw [← hy] at cl
  have CL := Box.mk cl
  clear cl h
  by_cases hs : a < T.size
  · have e : (if x = 0 ∧ a < T.size then 3 else x) = if x = 0 then 3 else x := by
      by_cases hx : x = 0
      · rw [if_pos ⟨hx, hs⟩, if_pos hx]
      · rw [if_neg (fun hh => hx hh.1), if_neg hx]
    rw [e]
    have hy0 : 0 < y := by omega
    have cf : ∀ W, Rd W b T a x → Calls Tryz.prog 47 #[.pointer (some ⟨b, 0, none⟩), .int .i64 3] W (RdQ b T a (if x = 0 then 3 else x) (.tuple #[]) W) := fun W hW => fail_any b T a x 3 W hW
    obtain ⟨z, hz⟩ : ∃ z, z = if x = 0 then 3 else x := ⟨_, rfl⟩
    rw [← hz]
    have cf : ∀ W, Rd W b T a x → Calls Tryz.prog 47 #[.pointer (some ⟨b, 0, none⟩), .int .i64 3] W (RdQ b T a z (.tuple #[]) W) := fun W hW => by rw [hz]; exact cf W hW
    have CF := Box.mk cf
    clear cf e hz hy
    go_enter Tryz.func23, Tryz.ntmps23
    go_wp2_with (first
      | (go_at_call 52; refine CL.out.mono ?_; rintro e w1 ⟨rfl, r1, o1⟩; have R1 := Box.mk r1; have O1 := Box.mk o1; clear r1 o1)
      | (go_at_call 47; refine (CF.out _ R1.out).mono ?_; rintro e w2 ⟨rfl, r2, o2⟩; have c2 := r2.c2; have R2 := Box.mk r2; have O2 := Box.mk o2; clear r2 o2))
    go_ret
    exact ⟨rfl, R2.out, O1.out.trans O2.out⟩
  · rw [if_neg (fun hh => hs hh.2)]
    have hy0 : y = 0 := by omega
    subst hy0
    clear hy
    go_enter Tryz.func23, Tryz.ntmps23
    go_wp2_with (go_at_call 52; refine CL.out.mono ?_; rintro e w1 ⟨rfl, r1, o1⟩; have c2 := r1.c2; have R1 := Box.mk r1; have O1 := Box.mk o1; clear r1 o1)
    go_ret
    exact ⟨rfl, R1.out, O1.out⟩

set_option maxRecDepth 100000 in
set_option maxHeartbeats 600000 in
theorem rtext_any (b : Nat) (T : ByteArray) (a x : Nat) (most : Int) (hm1 : -9223372036854775808 ≤ most) (hm2 : most ≤ 9223372036854775807) (w : World) (h : Rd w b T a x) :
    Calls Tryz.prog 49 #[.pointer (some ⟨b, 0, none⟩), .int .i64 most] w (RdQ b T (txtA T a x most) (txtX T a x most) (.string (txtS T a x most)) w) := by
  have c1w := h.c1
  have hle := h.le
  have cn := rnum_any b T a x w h
  have hvl := numV_lt T a x
  obtain ⟨K, hK⟩ : ∃ K, K = txtK T a x := ⟨_, rfl⟩
  obtain ⟨x1, hx1⟩ : ∃ q, q = txtE T a x most := ⟨_, rfl⟩
  have hA : txtA T a x most = if rawX T (numA T a x) x1 K = 0 then rawA T (numA T a x) x1 K else a := by rw [hK, hx1]; rfl
  have hX : txtX T a x most = rawX T (numA T a x) x1 K := by rw [hK, hx1]; rfl
  have hS : txtS T a x most = rawS T (numA T a x) x1 K := by rw [hK, hx1]; rfl
  unfold txtE at hx1
  unfold txtK at hK
  obtain ⟨na, hna⟩ : ∃ q, q = numA T a x := ⟨_, rfl⟩
  obtain ⟨nx, hnx⟩ : ∃ q, q = numX T a x := ⟨_, rfl⟩
  obtain ⟨nv, hnv⟩ : ∃ q, q = numV T a x := ⟨_, rfl⟩
  rw [← hna] at hA hX hS cn
  rw [← hnx] at hx1 cn
  rw [← hnv] at hx1 hK cn hvl
  have cr : ∀ W, Rd W b T na x1 → Calls Tryz.prog 46 #[.pointer (some ⟨b, 0, none⟩), .int .i64 K] W (RdQ b T (rawA T na x1 K) (rawX T na x1 K) (.string (rawS T na x1 K)) W) := fun W hW => rraw_any b T na x1 K W hW
  obtain ⟨S, hS2⟩ : ∃ q, q = rawS T na x1 K := ⟨_, rfl⟩
  obtain ⟨a2, ha2⟩ : ∃ q, q = rawA T na x1 K := ⟨_, rfl⟩
  obtain ⟨x2, hx2⟩ : ∃ q, q = rawX T na x1 K := ⟨_, rfl⟩
  rw [← ha2, ← hx2] at hA
  rw [← hx2] at hX
  rw [← hS2] at hS
  have cr : ∀ W, Rd W b T na x1 → Calls Tryz.prog 46 #[.pointer (some ⟨b, 0, none⟩), .int .i64 K] W (RdQ b T a2 x2 (.string S) W) := fun W hW => by rw [ha2, hx2, hS2]; exact rraw_any b T na x1 K W hW
  rw [hA, hX, hS]
  have nK : IntKind.i64.wrap (nv : Int) = K := hK.symm
  have nM : IntKind.u64.wrap (max most 0) = max most 0 := by
    obtain ⟨m, hm⟩ : ∃ m : Nat, max most 0 = m := ⟨(max most 0).toNat, by omega⟩
    rw [hm]; exact u64small (by omega)
  have CN := Box.mk cn; have CR := Box.mk cr
  clear cn cr hA hX hS hK hS2 ha2 hx2 hna hnx hnv h
  by_cases hb : max most 0 < (nv : Int)
  · rw [if_pos hb] at hx1
    have cf : ∀ W, Rd W b T na nx → Calls Tryz.prog 47 #[.pointer (some ⟨b, 0, none⟩), .int .i64 12] W (RdQ b T na x1 (.tuple #[]) W) := fun W hW => by rw [hx1]; exact fail_any b T na nx 12 W hW
    have CF := Box.mk cf
    clear cf hx1
    rcases Nat.eq_zero_or_pos x2 with hz | hz
    · subst hz
      rw [if_pos rfl]
      go_enter Tryz.func49, Tryz.ntmps49
      go_wp2_with (first
        | (go_at_call 48; refine CN.out.mono ?_; rintro e w1 ⟨rfl, r1, o1⟩; have R1 := Box.mk r1; have O1 := Box.mk o1; clear r1 o1)
        | (go_at_call 47; ((with_reducible refine (CF.out _ R1.out).mono ?_); rintro e w2 ⟨rfl, r2, o2⟩; have R2 := Box.mk r2; have O2 := Box.mk (O1.out.trans o2); clear r2 o2))
        | (go_at_call 46; ((with_reducible refine (CR.out _ R2.out).mono ?_); rintro e w3 ⟨rfl, r3, o3⟩; have d2 := r3.c2; have d1 := r3.c1; have g1 := r3.f1; have R3 := Box.mk r3; have O3 := Box.mk (O2.out.trans o3); clear r3 o3)))
      go_ret
      exact ⟨rfl, R3.out, O3.out⟩
    · have z1 : ((x2 : Int) != 0) = true := by simp; omega
      rw [if_neg (by omega)]
      go_enter Tryz.func49, Tryz.ntmps49
      go_wp2_with (first
        | (go_at_call 48; refine CN.out.mono ?_; rintro e w1 ⟨rfl, r1, o1⟩; have R1 := Box.mk r1; have O1 := Box.mk o1; clear r1 o1)
        | (go_at_call 47; ((with_reducible refine (CF.out _ R1.out).mono ?_); rintro e w2 ⟨rfl, r2, o2⟩; have R2 := Box.mk r2; have O2 := Box.mk (O1.out.trans o2); clear r2 o2))
        | (go_at_call 46; ((with_reducible refine (CR.out _ R2.out).mono ?_); rintro e w3 ⟨rfl, r3, o3⟩; have d2 := r3.c2; have d1 := r3.c1; have g1 := r3.f1; have R3 := Box.mk r3; have O3 := Box.mk (O2.out.trans o3); clear r3 o3)))
      go_ret
      exact ⟨rfl, R3.out.move a hle, O3.out.setCell 1 _⟩
  · rw [if_neg hb] at hx1
    subst hx1
    rcases Nat.eq_zero_or_pos x2 with hz | hz
    · subst hz
      rw [if_pos rfl]
      go_enter Tryz.func49, Tryz.ntmps49
      go_wp2_with (first
        | (go_at_call 48; refine CN.out.mono ?_; rintro e w1 ⟨rfl, r1, o1⟩; have R1 := Box.mk r1; have O1 := Box.mk o1; clear r1 o1)
        | (go_at_call 46; ((with_reducible refine (CR.out _ R1.out).mono ?_); rintro e w3 ⟨rfl, r3, o3⟩; have d2 := r3.c2; have d1 := r3.c1; have g1 := r3.f1; have R3 := Box.mk r3; have O3 := Box.mk (O1.out.trans o3); clear r3 o3)))
      go_ret
      exact ⟨rfl, R3.out, O3.out⟩
    · have z1 : ((x2 : Int) != 0) = true := by simp; omega
      rw [if_neg (by omega)]
      go_enter Tryz.func49, Tryz.ntmps49
      go_wp2_with (first
        | (go_at_call 48; refine CN.out.mono ?_; rintro e w1 ⟨rfl, r1, o1⟩; have R1 := Box.mk r1; have O1 := Box.mk o1; clear r1 o1)
        | (go_at_call 46; ((with_reducible refine (CR.out _ R1.out).mono ?_); rintro e w3 ⟨rfl, r3, o3⟩; have d2 := r3.c2; have d1 := r3.c1; have g1 := r3.f1; have R3 := Box.mk r3; have O3 := Box.mk (O1.out.trans o3); clear r3 o3)))
      go_ret
      exact ⟨rfl, R3.out.move a hle, O3.out.setCell 1 _⟩
end Go.Proofs.YtacfdnjdjgdbcaaGreatDoor
namespace Go.Proofs.YtacfdnjdjgdbcaaGreatDoor
set_option maxRecDepth 100000
open Go.RowKit M

theorem sb_part (T : ByteArray) (a b : Nat) (_h : b ≤ T.size) : sb (T.extract a b) = ((sb T).drop a).take (b - a) := by
  rw [sb_data, sb_data, ByteArray.data_extract, Array.toList_extract, List.extract_eq_take_drop, List.map_take, List.map_drop]
theorem raw_ok {T : ByteArray} {a x : Nat} {n : Int} (h : rawX T a x n = 0) : x = 0 ∧ 0 ≤ n ∧ n ≤ ((T.size - a : Nat) : Int) ∧ rawA T a x n = a + n.toNat ∧ rawS T a x n = T.extract a (a + n.toNat) := by
  unfold rawX at h
  by_cases hx : x = 0
  · rw [if_pos hx] at h
    by_cases hn : 0 ≤ n ∧ n ≤ ((T.size - a : Nat) : Int)
    · refine ⟨hx, hn.1, hn.2, ?_, ?_⟩
      · unfold rawA; rw [if_pos ⟨hx, hn⟩]
      · unfold rawS; rw [if_pos ⟨hx, hn⟩]
    · rw [if_neg hn] at h; omega
  · rw [if_neg hx] at h; omega

/-- what is read as a number is its bytes -/
theorem num_read {T : ByteArray} (h : numX T 0 0 = 0) : (sb T).take (numA T 0 0) = numL (numV T 0 0) ∧ numA T 0 0 ≤ T.size := by
  have hf1 := fixU_lt T 0 0 1 (by omega)
  by_cases hs : fixU T 0 0 1 < 248
  · have e1 : numX T 0 0 = rawX T 0 0 ((1 : Nat) : Int) := by unfold numX; rw [if_pos hs]; rfl
    rw [e1] at h
    obtain ⟨_, _, hle, hA, hS⟩ := raw_ok h
    have e2 : numA T 0 0 = 1 := by unfold numA; rw [if_pos hs]; exact hA
    have e3 : numV T 0 0 = fixU T 0 0 1 := by unfold numV; rw [if_pos hs]
    have hu : fixU T 0 0 1 = un ((sb T).take 1) := by
      unfold fixU; rw [hS]
      have := sb_part T 0 1 (by omega)
      rw [List.drop_zero] at this
      exact congrArg un this
    rw [e2, e3]
    refine ⟨?_, by omega⟩
    unfold numL
    rw [if_pos hs, hu]
    have hl : ((sb T).take 1).length = 1 := by rw [List.length_take, sb_length]; omega
    match hm : (sb T).take 1, hl with
    | [c], _ => rw [un_one]
  · have hb := fun (hE : numE T 0 0 = 0) => hE
    have e1 : numX T 0 0 = numE T 0 0 := by unfold numX; rw [if_neg hs]
    rw [e1] at h
    obtain ⟨k, hk⟩ : ∃ k, k = fixU T 0 0 1 - 247 := ⟨_, rfl⟩
    have hk8 : 1 ≤ k ∧ k ≤ 8 := by omega
    have h' := h
    unfold numE at h'
    rw [← hk] at h'
    by_cases hc : fixU T (rawA T 0 0 1) (rawX T 0 0 1) k < 248 ∨ szN (fixU T (rawA T 0 0 1) (rawX T 0 0 1) k) ≠ k
    · rw [if_pos hc] at h'
      split at h'
      · omega
      · rename_i hh; exact absurd h' hh
    · rw [if_neg hc] at h'
      obtain ⟨hx1, _, hle2, hA2, hS2⟩ := raw_ok h'
      obtain ⟨_, _, hle1, hA1, hS1⟩ := raw_ok hx1
      have ha1 : rawA T 0 0 1 = 1 := hA1
      rw [ha1] at hc hle2 hA2 hS2
      rw [hx1] at hc hA2 hS2
      have hT : 1 + k ≤ T.size := by omega
      have e2 : numA T 0 0 = 1 + k := by
        unfold numA; rw [if_neg hs, if_pos h, ← hk, ha1, hx1, hA2, Int.toNat_natCast]
      have e3 : numV T 0 0 = fixU T 1 0 k := by unfold numV; rw [if_neg hs, if_pos h, ← hk, ha1, hx1]
      have hu : fixU T 1 0 k = un (((sb T).drop 1).take k) := by
        unfold fixU; rw [hS2, Int.toNat_natCast, sb_part T 1 (1 + k) hT, show 1 + k - 1 = k by omega]
      have hf : fixU T 0 0 1 = un ((sb T).take 1) := by
        unfold fixU
        have hS1' : rawS T 0 0 ((1 : Nat) : Int) = T.extract 0 (0 + 1) := hS1
        rw [hS1']
        have := sb_part T 0 1 (by omega)
        rw [List.drop_zero] at this
        exact congrArg un this
      rw [e2, e3]
      refine ⟨?_, hT⟩
      have hne : ¬ fixU T 1 0 k < 248 := fun hh => hc (.inl hh)
      have hsz : szN (fixU T 1 0 k) = k := by
        by_cases he : szN (fixU T 1 0 k) = k
        · exact he
        · exact absurd (.inr he) hc
      unfold numL
      rw [if_neg hne, hsz, hu]
      have hlk : (((sb T).drop 1).take k).length = k := by rw [List.length_take, List.length_drop, sb_length]; omega
      have hfx := fx_un (l := ((sb T).drop 1).take k) (fun d hd => sb_lt T d (List.mem_of_mem_drop (List.mem_of_mem_take hd)))
      rw [hlk] at hfx
      rw [hfx]
      have hl1 : ((sb T).take 1).length = 1 := by rw [List.length_take, sb_length]; omega
      rw [List.take_add]
      match hm : (sb T).take 1, hl1 with
      | [c], _ =>
        rw [hm, un_one] at hf
        rw [show 247 + k = c by omega]
        rfl

theorem txt_read {T : ByteArray} (_hT : T.size ≤ 1000000) {most : Int} (h : txtX T 0 0 most = 0) (ha : txtA T 0 0 most = T.size) : sb T = txtL (sb (txtS T 0 0 most)) := by
  have hX := h
  unfold txtX at hX
  obtain ⟨hE, hk0, hk1, hA, hS⟩ := raw_ok hX
  have hE' := hE
  unfold txtE at hE'
  by_cases hc : max most 0 < (numV T 0 0 : Int)
  · rw [if_pos hc] at hE'
    split at hE'
    · omega
    · rename_i hh; exact absurd hE' hh
  · rw [if_neg hc] at hE'
    obtain ⟨hn, hnle⟩ := num_read hE'
    have ha2 := ha
    unfold txtA at ha2
    rw [if_pos h, hA] at ha2
    have hvl := numV_lt T 0 0
    have hK : txtK T 0 0 = (numV T 0 0 : Int) := by
      unfold txtK at hk0 hk1 ⊢
      rw [IntKind.wrap_i64] at hk0 hk1 ⊢
      omega
    rw [hK, Int.toNat_natCast] at ha2
    have hS' : txtS T 0 0 most = T.extract (numA T 0 0) (numA T 0 0 + numV T 0 0) := by
      unfold txtS; rw [hS, hK, Int.toNat_natCast]
    have hsb : sb (txtS T 0 0 most) = (sb T).drop (numA T 0 0) := by
      rw [hS', sb_part _ _ _ (by omega), List.take_of_length_le (by rw [List.length_drop, sb_length]; omega)]
    have hlen : (sb (txtS T 0 0 most)).length = numV T 0 0 := by rw [hsb, List.length_drop, sb_length]; omega
    unfold txtL
    rw [hlen, ← hn, hsb, List.take_append_drop]
end Go.Proofs.YtacfdnjdjgdbcaaGreatDoor
namespace Go.Proofs.YtacfdnjdjgdbcaaGreatDoor
set_option maxRecDepth 100000
open Go.RowKit M

theorem cut_le (s : ByteArray) (n : Nat) : (s.extract 0 n).size ≤ n := by simp; omega
theorem fixU_err {T : ByteArray} {a x : Nat} (h : x ≠ 0) : fixU T a x 1 = 0 := fixU_none (by unfold rawX; rw [if_neg h]; exact h)
theorem num_err {T : ByteArray} {a x : Nat} (h : x ≠ 0) : numA T a x = a ∧ numX T a x = x ∧ numV T a x = 0 := by
  have e := fixU_err (T := T) (a := a) h
  refine ⟨?_, ?_, ?_⟩
  · unfold numA; rw [e, if_pos (by omega)]; unfold rawA; rw [if_neg (fun hh => h hh.1)]
  · unfold numX; rw [e, if_pos (by omega)]; unfold rawX; rw [if_neg h]
  · unfold numV; rw [e, if_pos (by omega)]

theorem rd_below {w w' : World} {b : Nat} {T : ByteArray} {a x : Nat} (h : Rd w b T a x) (hb : Below w.heap.size w w') : Rd w' b T a x := by
  have hlt : b < w.heap.size := World.block_lt_of_cell? w _ h.c0
  have hc : ∀ o, w'.cell? ⟨b, o, none⟩ = w.cell? ⟨b, o, none⟩ := fun o => hb.cell (p := ⟨b, o, none⟩) hlt
  have hf : ∀ o, w'.frozen? ⟨b, o, none⟩ = w.frozen? ⟨b, o, none⟩ := fun o => hb.frozen (p := ⟨b, o, none⟩) hlt
  exact ⟨by rw [hc]; exact h.c0, by rw [hc]; exact h.c1, by rw [hc]; exact h.c2, by rw [hf]; exact h.f1, by rw [hf]; exact h.f2, h.le, h.sz⟩
theorem done_zero {x a : Nat} {T : ByteArray} (hle : a ≤ T.size) (h : (if x = 0 ∧ a < T.size then 3 else x) = 0) : x = 0 ∧ a = T.size := by
  by_cases hc : x = 0 ∧ a < T.size
  · rw [if_pos hc] at h; omega
  · rw [if_neg hc] at h; exact ⟨h, by omega⟩

end Go.Proofs.YtacfdnjdjgdbcaaGreatDoor
