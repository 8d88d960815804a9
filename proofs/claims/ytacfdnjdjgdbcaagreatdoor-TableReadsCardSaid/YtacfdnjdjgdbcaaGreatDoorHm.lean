/- PackF, PackG, PackH, in one text. -/
import Derived.Test.YtacfdnjdjgdbcaaGreatDoorHl
namespace Go.Proofs.YtacfdnjdjgdbcaaGreatDoor
set_option maxRecDepth 100000
open Go.RowKit M

theorem fixU_none {T : ByteArray} {a x k : Nat} (h : rawX T a x (k : Int) ≠ 0) : fixU T a x k = 0 := by
  unfold fixU
  have : rawS T a x (k : Int) = ⟨#[]⟩ := by
    unfold rawX at h
    unfold rawS
    by_cases hx : x = 0
    · rw [if_pos hx] at h
      split at h
      · omega
      · rw [if_neg (by omega)]
    · rw [if_neg (by omega)]
  rw [this]; rfl
theorem fixU_lt (T : ByteArray) (a x k : Nat) (h8 : k ≤ 8) : fixU T a x k < 2 ^ (8 * k) := by
  unfold fixU
  have h := un_lt (l := sb (rawS T a x k)) (sb_lt _)
  rw [sb_length] at h
  have hs := rawS_size T a x k
  have : 2 ^ (8 * (rawS T a x k).size) ≤ 2 ^ (8 * k) := Nat.pow_le_pow_right (by decide) (by omega)
  omega
theorem fixU_lt64 (T : ByteArray) (a x k : Nat) (h8 : k ≤ 8) : fixU T a x k < 18446744073709551616 := by
  have h := fixU_lt T a x k h8
  have h2 : 2 ^ (8 * k) ≤ 2 ^ 64 := Nat.pow_le_pow_right (by decide) (by omega)
  have h3 : (2 : Nat) ^ 64 = 18446744073709551616 := by decide
  omega

/-- the error behind the second part of a number -/
def numE (T : ByteArray) (a x : Nat) : Nat :=
  if fixU T (rawA T a x 1) (rawX T a x 1) (fixU T a x 1 - 247) < 248 ∨ szN (fixU T (rawA T a x 1) (rawX T a x 1) (fixU T a x 1 - 247)) ≠ fixU T a x 1 - 247 then
    (if rawX T (rawA T a x 1) (rawX T a x 1) (fixU T a x 1 - 247 : Nat) = 0 then 3 else rawX T (rawA T a x 1) (rawX T a x 1) (fixU T a x 1 - 247 : Nat))
  else rawX T (rawA T a x 1) (rawX T a x 1) (fixU T a x 1 - 247 : Nat)
/-- a number is read: the place, the error, the number -/
def numA (T : ByteArray) (a x : Nat) : Nat := if fixU T a x 1 < 248 then rawA T a x 1 else if numE T a x = 0 then rawA T (rawA T a x 1) (rawX T a x 1) (fixU T a x 1 - 247 : Nat) else a
def numX (T : ByteArray) (a x : Nat) : Nat := if fixU T a x 1 < 248 then rawX T a x 1 else numE T a x
def numV (T : ByteArray) (a x : Nat) : Nat := if fixU T a x 1 < 248 then fixU T a x 1 else if numE T a x = 0 then fixU T (rawA T a x 1) (rawX T a x 1) (fixU T a x 1 - 247) else 0

set_option maxRecDepth 100000 in
set_option maxHeartbeats 600000 in
theorem rnum_any (b : Nat) (T : ByteArray) (a x : Nat) (w : World) (h : Rd w b T a x) :
    Calls Tryz.prog 48 #[.pointer (some ⟨b, 0, none⟩)] w (RdQ b T (numA T a x) (numX T a x) (.int .u64 (numV T a x : Nat)) w) := by
  have c1w := h.c1
  have hle := h.le
  have cf := rfixed_any b T a x 1 w h
  rw [show cl18 1 = 1 by decide] at cf
  have hf1 := fixU_lt T a x 1 (by omega)
  by_cases hs : fixU T a x 1 < 248
  · have e1 : numA T a x = rawA T a x (1 : Nat) := by unfold numA; rw [if_pos hs]; rfl
    have e2 : numX T a x = rawX T a x (1 : Nat) := by unfold numX; rw [if_pos hs]; rfl
    have e3 : numV T a x = fixU T a x 1 := by unfold numV; rw [if_pos hs]
    rw [e1, e2, e3]
    clear e1 e2 e3
    have CF := Box.mk cf
    clear cf h
    generalize fixU T a x 1 = f at *
    go_enter Tryz.func48, Tryz.ntmps48
    go_wp2_with (go_at_call 84; refine CF.out.mono ?_; rintro e w1 ⟨rfl, r1, o1⟩; have R1 := Box.mk r1; have O1 := Box.mk o1; clear r1 o1)
    go_ret
    exact ⟨rfl, R1.out, O1.out⟩
  · obtain ⟨f, hf⟩ : ∃ f, f = fixU T a x 1 := ⟨_, rfl⟩
    obtain ⟨k, hk⟩ : ∃ k, k = fixU T a x 1 - 247 := ⟨_, rfl⟩
    obtain ⟨a1, ha1⟩ : ∃ q, q = rawA T a x (1 : Nat) := ⟨_, rfl⟩
    obtain ⟨x1, hx1⟩ : ∃ q, q = rawX T a x (1 : Nat) := ⟨_, rfl⟩
    have hk8 : 1 ≤ k ∧ k ≤ 8 := by omega
    obtain ⟨u, hu⟩ : ∃ q, q = fixU T a1 x1 k := ⟨_, rfl⟩
    obtain ⟨a2, ha2⟩ : ∃ q, q = rawA T a1 x1 (k : Int) := ⟨_, rfl⟩
    obtain ⟨x2, hx2⟩ : ∃ q, q = rawX T a1 x1 (k : Int) := ⟨_, rfl⟩
    have hu64 : u < 18446744073709551616 := by rw [hu]; exact fixU_lt64 _ _ _ _ hk8.2
    have hE : numE T a x = if u < 248 ∨ szN u ≠ k then (if x2 = 0 then 3 else x2) else x2 := by
      rw [hu, hx2, ha1, hx1, hk]; rfl
    have e1 : numA T a x = if numE T a x = 0 then a2 else a := by unfold numA; rw [if_neg hs, ha2, ha1, hx1, hk]; rfl
    have e2 : numX T a x = numE T a x := by unfold numX; rw [if_neg hs]
    have e3 : numV T a x = if numE T a x = 0 then u else 0 := by unfold numV; rw [if_neg hs, hu, ha1, hx1, hk]; rfl
    have hun : x2 ≠ 0 → u = 0 := fun hh => by rw [hu]; exact fixU_none (by rw [← hx2]; exact hh)
    rw [← ha1, ← hx1, ← hf] at cf
    have cg : ∀ W, Rd W b T a1 x1 → Calls Tryz.prog 84 #[.pointer (some ⟨b, 0, none⟩), .int .i64 (k : Int)] W (RdQ b T a2 x2 (.int .u64 (u : Int)) W) := fun W hW => by
      have c := rfixed_any b T a1 x1 k W hW
      rw [cl18_nat hk8.1 hk8.2, ← hu, ← ha2, ← hx2] at c
      exact c
    have q1 : (f : Int) - 248 + 1 = (k : Int) := by omega
    have f248 : ¬ f < 248 := by omega
    have f255 : f < 256 := by omega
    have CF := Box.mk cf; have CG := Box.mk cg
    rw [e1, e2, e3]
    clear cf cg e1 e2 e3 hs hf1 hf hk ha1 hx1 hu ha2 hx2 h
    by_cases hb : u < 248
    · have hE2 : numE T a x = if x2 = 0 then 3 else x2 := by rw [hE, if_pos (.inl hb)]
      obtain ⟨x3, hx3⟩ : ∃ q, q = if x2 = 0 then 3 else x2 := ⟨_, rfl⟩
      have hx3p : 0 < x3 := by rw [hx3]; split <;> omega
      rw [hE2, ← hx3, if_neg (by omega), if_neg (by omega)]
      have z1 : ((x3 : Int) != 0) = true := by simp; omega
      have cl : ∀ W, Rd W b T a2 x2 → Calls Tryz.prog 47 #[.pointer (some ⟨b, 0, none⟩), .int .i64 3] W (RdQ b T a2 x3 (.tuple #[]) W) := fun W hW => by rw [hx3]; exact fail_any b T a2 x2 3 W hW
      have CL := Box.mk cl
      clear cl hE hE2 hx3 hun
      go_enter Tryz.func48, Tryz.ntmps48
      go_wp2_with (first
        | (go_at_call 84; ((with_reducible refine CF.out.mono ?_); rintro e w1 ⟨rfl, r1, o1⟩; have R1 := Box.mk r1; have O1 := Box.mk o1; clear r1 o1))
        | (go_at_call 84; ((with_reducible refine (CG.out _ R1.out).mono ?_); rintro e w2 ⟨rfl, r2, o2⟩; have R2 := Box.mk r2; have O2 := Box.mk o2; clear r2 o2))
        | (go_at_call 47; ((with_reducible refine (CL.out _ R2.out).mono ?_); rintro e w3 ⟨rfl, r3, o3⟩; have d2 := r3.c2; have d1 := r3.c1; have g1 := r3.f1; have R3 := Box.mk r3; have O3 := Box.mk o3; clear r3 o3)))
      go_ret
      exact ⟨rfl, R3.out.move a hle, ((O1.out.trans O2.out).trans O3.out).setCell 1 _⟩
    · have cs := fun w => numSize_any u (by omega) hu64 w
      obtain ⟨j, hj⟩ : ∃ j, j = szN u := ⟨_, rfl⟩
      rw [← hj] at cs hE
      have CS := Box.mk cs
      have hj8 := szN_bd u
      rw [← hj] at hj8
      clear cs
      have hx20 : x2 = 0 := by
        rcases Nat.eq_zero_or_pos x2 with h0 | h0
        · exact h0
        · have := hun (by omega); omega
      subst hx20
      by_cases hjk : j = k
      · have hE2 : numE T a x = 0 := by rw [hE, if_neg (by omega)]
        rw [hE2, if_pos rfl, if_pos rfl]
        clear hE hE2 hun hj
        subst hjk
        go_enter Tryz.func48, Tryz.ntmps48
        go_wp2_with (first
          | (go_at_call 84; ((with_reducible refine CF.out.mono ?_); rintro e w1 ⟨rfl, r1, o1⟩; have R1 := Box.mk r1; have O1 := Box.mk o1; clear r1 o1))
          | (go_at_call 84; ((with_reducible refine (CG.out _ R1.out).mono ?_); rintro e w2 ⟨rfl, r2, o2⟩; have d2 := r2.c2; have R2 := Box.mk r2; have O2 := Box.mk o2; clear r2 o2))
          | (go_at_call 85; ((with_reducible refine (CS.out _).mono ?_); rintro e w' ⟨rfl, rfl⟩)))
        go_ret
        exact ⟨rfl, R2.out, O1.out.trans O2.out⟩
      · have hE2 : numE T a x = 3 := by rw [hE, if_pos (.inr hjk)]; rfl
        rw [hE2, if_neg (by omega), if_neg (by omega)]
        have cl : ∀ W, Rd W b T a2 0 → Calls Tryz.prog 47 #[.pointer (some ⟨b, 0, none⟩), .int .i64 3] W (RdQ b T a2 3 (.tuple #[]) W) := fun W hW => fail_any b T a2 0 3 W hW
        have CL := Box.mk cl
        have z2 : ((j : Int) != (k : Int)) = true := by simp; omega
        clear cl hE hE2 hun hj
        go_enter Tryz.func48, Tryz.ntmps48
        go_wp2_with (first
          | (go_at_call 84; ((with_reducible refine CF.out.mono ?_); rintro e w1 ⟨rfl, r1, o1⟩; have R1 := Box.mk r1; have O1 := Box.mk o1; clear r1 o1))
          | (go_at_call 84; ((with_reducible refine (CG.out _ R1.out).mono ?_); rintro e w2 ⟨rfl, r2, o2⟩; have R2 := Box.mk r2; have O2 := Box.mk o2; clear r2 o2))
          | (go_at_call 85; ((with_reducible refine (CS.out _).mono ?_); rintro e w' ⟨rfl, rfl⟩))
          | (go_at_call 47; ((with_reducible refine (CL.out _ R2.out).mono ?_); rintro e w3 ⟨rfl, r3, o3⟩; have d2 := r3.c2; have d1 := r3.c1; have g1 := r3.f1; have R3 := Box.mk r3; have O3 := Box.mk o3; clear r3 o3)))
        go_ret
        exact ⟨rfl, R3.out.move a hle, ((O1.out.trans O2.out).trans O3.out).setCell 1 _⟩
end Go.Proofs.YtacfdnjdjgdbcaaGreatDoor
namespace Go.Proofs.YtacfdnjdjgdbcaaGreatDoor
set_option maxRecDepth 100000
open Go.RowKit M

theorem Wr.ext {w w1 : World} {b b' : Nat} {L : List Nat} {v v1 v' : Value} (h : Wr w b' L v') (x : Ext b v v1 w w1) (h1 : b' ≠ b) (h2 : v.ownBlock ≠ some b') (h3 : v'.ownBlock ≠ some b) (h4 : ∀ k, v'.ownBlock = some k → v.ownBlock ≠ some k) : Wr w1 b' L v' := by
  have hlt := World.block_lt_of_cell? w _ h.cell
  have e := x.block b' hlt h1 h2
  refine ⟨by rw [World.cell?_of_block (w := w) (a := ⟨b', 0, none⟩) e]; exact h.cell, ?_, by rw [World.frozen?_of_block (w := w) (a := ⟨b', 0, none⟩) e]; exact h.fr⟩
  obtain ⟨o1, o2⟩ := h.own
  refine ⟨o1, ?_⟩
  rcases o2 with o2 | ⟨g, cap, cur, hv, hg, hh, r⟩
  · exact .inl o2
  · refine .inr ⟨g, cap, cur, hv, hg, ?_, r⟩
    have hgl : g < w.heap.size := by
      rcases Nat.lt_or_ge g w.heap.size with hl | hl
      · exact hl
      · rw [Array.getElem?_eq_none hl] at hh; cases hh
    have ho : v'.ownBlock = some g := by rw [hv]; rfl
    rw [x.block g hgl (fun e2 => h3 (by rw [ho, e2])) (h4 g ho)]
    exact hh

theorem wr_new (w : World) (b : Nat) (hb : b = w.heap.size) : Wr (w.alloc (.cells #[.slice none 0 0] 157)) b [] (.slice none 0 0) := by
  subst hb
  refine ⟨?_, World.ownsRow_nil _ _ _ _, by simp⟩
  have e := heap_alloc_new w (.cells #[.slice none 0 0] 157)
  rw [cell_of_row _ _ _ _ _ _ e]; rfl

set_option maxHeartbeats 400000 in
theorem wtext_any (b : Nat) (L : List Nat) (v0 : Value) (s : ByteArray) (w : World) (h : Wr w b L v0) (hl : L.length + s.size ≤ 700000) :
    Calls Tryz.prog 96 #[.pointer (some ⟨b, 0, none⟩), .string s] w (WrP b (L ++ txtL (sb s)) v0 w) := by
  have hlen : (sb s).length = s.size := sb_length s
  have c1 := num_any b L v0 s.size (by omega) w h (by omega)
  have hn9 := numL_length s.size
  have c2 : ∀ (W : World) (v1 : Value), Wr W b (L ++ numL s.size) v1 → Calls Tryz.prog 94 #[.pointer (some ⟨b, 0, none⟩), .string s] W (WrP b (L ++ txtL (sb s)) v1 W) := fun W v1 hW => by
    have c := raw_any b (L ++ numL s.size) v1 s W hW (by rw [List.length_append]; omega)
    rw [List.append_assoc, show numL s.size ++ sb s = txtL (sb s) by unfold txtL; rw [hlen]] at c
    exact c
  have hs63 : (s.size : Int) ≤ 700000 := by omega
  have C1 := Box.mk c1; have C2 := Box.mk c2
  clear c1 c2 h hlen
  go_enter Tryz.func96, Tryz.ntmps96
  go_wp2_with (first
    | (go_at_call 95; ((with_reducible refine C1.out.mono ?_); rintro e w1 ⟨rfl, v1, q1, b1⟩; have Q1 := Box.mk q1; have B1 := Box.mk b1; clear q1 b1))
    | (go_at_call 94; ((with_reducible refine (C2.out _ _ Q1.out).mono ?_); rintro e w2 ⟨rfl, v2, q2, b2⟩; have Q2 := Box.mk q2; have B2 := Box.mk b2; clear q2 b2)))
  go_end0
  exact ⟨rfl, v2, Q2.out, B1.out.trans B2.out⟩

/-- what Read leaves -/
def ReadP (T : ByteArray) (w : World) (e : Ending) (w' : World) : Prop :=
  e = .returned (.pointer (some ⟨w.heap.size, 0, none⟩)) ∧ Rd w' w.heap.size T 0 0 ∧ Below w.heap.size w w'

theorem read_any (T : ByteArray) (hT : T.size ≤ 1000000) (w : World) : Calls Tryz.prog 21 #[.string T] w (ReadP T w) := by
  go_enter Tryz.func21, Tryz.ntmps21
  go_wp2
  go_ret
  have e := heap_alloc_new w (.cells #[.string T, .int .i64 0, .int .i64 0] 110)
  refine ⟨rfl, ⟨?_, ?_, ?_, by simp, by simp, by omega, hT⟩, (Below.refl _ _).alloc (Nat.le_refl _) _⟩
  all_goals (try (rw [cell_of_row _ _ _ _ _ _ (heap_alloc_new w _)]; rfl))
theorem err_any (b : Nat) (T : ByteArray) (a x : Nat) (w : World) (h : Rd w b T a x) :
    Calls Tryz.prog 51 #[.pointer (some ⟨b, 0, none⟩)] w (RdQ b T a x (.int .i64 (x : Int)) w) := by
  have c2 := h.c2
  have HR := Box.mk h; clear h
  go_enter Tryz.func51, Tryz.ntmps51
  go_wp2
  go_ret
  exact ⟨rfl, HR.out, Onl.refl _ _⟩
end Go.Proofs.YtacfdnjdjgdbcaaGreatDoor
namespace Go.Proofs.YtacfdnjdjgdbcaaGreatDoor
set_option maxRecDepth 100000
open Go.RowKit M

theorem wr_ge {w : World} {b : Nat} {L : List Nat} {v : Value} (h : Wr w b L v) : ∀ k, v.ownBlock = some k → b + 1 ≤ k := fun k hk => (h.own.lt k hk).1
theorem wakeA : numA ⟨#[248, 5]⟩ 0 0 = 0 := by decide +kernel
theorem wakeX : numX ⟨#[248, 5]⟩ 0 0 = 3 := by decide +kernel
theorem wakeL : ([] : List Nat) ++ numL 300 ++ txtL (sb ⟨#[97, 98]⟩) = [249, 1, 44, 2, 97, 98] := by decide +kernel
theorem wakeB : bs [249, 1, 44, 2, 97, 98] = ⟨#[249, 1, 44, 2, 97, 98]⟩ := by decide

theorem numL_len (v : Nat) : (numL v).length = if v < 248 then 1 else 1 + szN v := by
  unfold numL; split <;> simp [fx_length]; omega
theorem numL_mono {a b : Nat} (h : a ≤ b) : (numL a).length ≤ (numL b).length := by
  rw [numL_len, numL_len]
  have := szN_mono h
  have := szN_bd b
  split <;> split <;> omega
/-- no number's bytes are the beginning of another's -/
theorem numL_prefix {a b : Nat} (ha : a < 18446744073709551616) (hb : b < 18446744073709551616) (h : (numL b).take (numL a).length = numL a) : a = b := by
  have hsa := szN_bd a
  have hsb := szN_bd b
  unfold numL at h
  by_cases h1 : a < 248
  · rw [if_pos h1] at h
    by_cases h2 : b < 248
    · rw [if_pos h2] at h; simpa using h.symm
    · rw [if_neg h2] at h; simp at h; omega
  · rw [if_neg h1] at h
    by_cases h2 : b < 248
    · rw [if_pos h2] at h; simp at h; omega
    · rw [if_neg h2] at h
      simp only [List.length_cons, List.take_succ_cons, List.cons.injEq] at h
      have hs : szN b = szN a := by omega
      have h3 := h.2
      rw [hs, List.take_of_length_le (by simp [fx_length])] at h3
      have e := congrArg un h3
      rw [un_fx, un_fx, Nat.mod_eq_of_lt (szN_lt ha), ← hs, Nat.mod_eq_of_lt (szN_lt hb)] at e
      exact e.symm
theorem bs_take (l : List Nat) (n : Nat) : (bs l).extract 0 n = bs (l.take n) := by
  apply ByteArray.ext
  apply Array.ext'
  rw [ByteArray.data_extract, Array.toList_extract, List.extract_eq_take_drop]
  simp [bs, strOfNums]
theorem bs_inj {l m : List Nat} (hl : ∀ d ∈ l, d < 2 ^ 8) (hm : ∀ d ∈ m, d < 2 ^ 8) (h : bs l = bs m) : l = m := by
  have := congrArg sb h
  rwa [sb_bs l hl, sb_bs m hm] at this
theorem str_beq (x y : ByteArray) : (x.toList == y.toList) = decide (x = y) := by
  rw [ByteArray.toList_eq, ByteArray.toList_eq]
  by_cases h : x = y
  · subst h
    rw [decide_eq_true rfl]
    exact beq_self_eq_true _
  · have h2 : ¬ x.data.toList = y.data.toList := fun hh => h (by apply ByteArray.ext; exact Array.ext' hh)
    rw [decide_eq_false h]
    exact beq_eq_false_iff_ne.2 h2

theorem own_new {b n : Nat} {v' : Value} {w w' : World} (h : Ext b (.slice none 0 0) v' w w') (hs : w.heap.size = n + 2) : v'.ownBlock ≠ some (n + 1) := fun e => by
  rcases h.lies with e2 | e2
  · rw [e] at e2; cases e2
  · have := e2 _ e; omega
end Go.Proofs.YtacfdnjdjgdbcaaGreatDoor
