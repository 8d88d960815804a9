/- PackF, PackG, PackH, in one text. -/
import Derived.Test.YtdffpbfllekcgaaGreatDoorHl
namespace Go.Proofs.YtdffpbfllekcgaaGreatDoor
set_option maxRecDepth 100000
open Go.RowKit M

theorem fixU_none {T : ByteArray} {a x k : Nat} (h : rawX T a x (k : Int) ≠ 0) : fixU T a x k = 0 := by
  unfold fixU
  have : rawS T a x (k : Int) = ⟨#[]⟩ := by
    unfold rawX at h
    unfold rawS
    by_cases hx : x = 0
    · rw [if_pos hx] at h
      split at h
      · omega
      · rw [if_neg (by omega)]
    · rw [if_neg (by omega)]
  rw [this]; rfl
theorem fixU_lt (T : ByteArray) (a x k : Nat) (h8 : k ≤ 8) : fixU T a x k < 2 ^ (8 * k) := by
  unfold fixU
  have h := un_lt (l := sb (rawS T a x k)) (sb_lt _)
  rw [sb_length] at h
  have hs := rawS_size T a x k
  have : 2 ^ (8 * (rawS T a x k).size) ≤ 2 ^ (8 * k) := Nat.pow_le_pow_right (by decide) (by omega)
  omega
theorem fixU_lt64 (T : ByteArray) (a x k : Nat) (h8 : k ≤ 8) : fixU T a x k < 18446744073709551616 := by
  have h := fixU_lt T a x k h8
  have h2 : 2 ^ (8 * k) ≤ 2 ^ 64 := Nat.pow_le_pow_right (by decide) (by omega)
  have h3 : (2 : Nat) ^ 64 = 18446744073709551616 := by decide
  omega

/-- the error behind the second part of a number -/
def numE (T : ByteArray) (a x : Nat) : Nat :=
  if fixU T (rawA T a x 1) (rawX T a x 1) (fixU T a x 1 - 247) < 248 ∨ szN (fixU T (rawA T a x 1) (rawX T a x 1) (fixU T a x 1 - 247)) ≠ fixU T a x 1 - 247 then
    (if rawX T (rawA T a x 1) (rawX T a x 1) (fixU T a x 1 - 247 : Nat) = 0 then 3 else rawX T (rawA T a x 1) (rawX T a x 1) (fixU T a x 1 - 247 : Nat))
  else rawX T (rawA T a x 1) (rawX T a x 1) (fixU T a x 1 - 247 : Nat)
/-- a number is read: the place, the error, the number -/
def numA (T : ByteArray) (a x : Nat) : Nat := if fixU T a x 1 < 248 then rawA T a x 1 else if numE T a x = 0 then rawA T (rawA T a x 1) (rawX T a x 1) (fixU T a x 1 - 247 : Nat) else a
def numX (T : ByteArray) (a x : Nat) : Nat := if fixU T a x 1 < 248 then rawX T a x 1 else numE T a x
def numV (T : ByteArray) (a x : Nat) : Nat := if fixU T a x 1 < 248 then fixU T a x 1 else if numE T a x = 0 then fixU T (rawA T a x 1) (rawX T a x 1) (fixU T a x 1 - 247) else 0

end Go.Proofs.YtdffpbfllekcgaaGreatDoor
namespace Go.Proofs.YtdffpbfllekcgaaGreatDoor
set_option maxRecDepth 100000
open Go.RowKit M

theorem Wr.ext {w w1 : World} {b b' : Nat} {L : List Nat} {v v1 v' : Value} (h : Wr w b' L v') (x : Ext b v v1 w w1) (h1 : b' ≠ b) (h2 : v.ownBlock ≠ some b') (h3 : v'.ownBlock ≠ some b) (h4 : ∀ k, v'.ownBlock = some k → v.ownBlock ≠ some k) : Wr w1 b' L v' := by
  have hlt := World.block_lt_of_cell? w _ h.cell
  have e := x.block b' hlt h1 h2
  refine ⟨by rw [World.cell?_of_block (w := w) (a := ⟨b', 0, none⟩) e]; exact h.cell, ?_, by rw [World.frozen?_of_block (w := w) (a := ⟨b', 0, none⟩) e]; exact h.fr⟩
  obtain ⟨o1, o2⟩ := h.own
  refine ⟨o1, ?_⟩
  rcases o2 with o2 | ⟨g, cap, cur, hv, hg, hh, r⟩
  · exact .inl o2
  · refine .inr ⟨g, cap, cur, hv, hg, ?_, r⟩
    have hgl : g < w.heap.size := by
      rcases Nat.lt_or_ge g w.heap.size with hl | hl
      · exact hl
      · rw [Array.getElem?_eq_none hl] at hh; cases hh
    have ho : v'.ownBlock = some g := by rw [hv]; rfl
    rw [x.block g hgl (fun e2 => h3 (by rw [ho, e2])) (h4 g ho)]
    exact hh

theorem wr_new (w : World) (b : Nat) (hb : b = w.heap.size) : Wr (w.alloc (.cells #[.slice none 0 0] 95)) b [] (.slice none 0 0) := by
  subst hb
  refine ⟨?_, World.ownsRow_nil _ _ _ _, by simp⟩
  have e := heap_alloc_new w (.cells #[.slice none 0 0] 95)
  rw [cell_of_row _ _ _ _ _ _ e]; rfl

/-- what Read leaves -/
def ReadP (T : ByteArray) (w : World) (e : Ending) (w' : World) : Prop :=
  e = .returned (.pointer (some ⟨w.heap.size, 0, none⟩)) ∧ Rd w' w.heap.size T 0 0 ∧ Below w.heap.size w w'

theorem read_any (T : ByteArray) (hT : T.size ≤ 1000000) (w : World) : Calls Tryz.prog 67 #[.string T] w (ReadP T w) := by
  go_enter Tryz.func67, Tryz.ntmps67
  go_wp2
  go_ret
  have e := heap_alloc_new w (.cells #[.string T, .int .i64 0, .int .i64 0] 149)
  refine ⟨rfl, ⟨?_, ?_, ?_, by simp, by simp, by omega, hT⟩, (Below.refl _ _).alloc (Nat.le_refl _) _⟩
  all_goals (try (rw [cell_of_row _ _ _ _ _ _ (heap_alloc_new w _)]; rfl))
theorem err_any (b : Nat) (T : ByteArray) (a x : Nat) (w : World) (h : Rd w b T a x) :
    Calls Tryz.prog 71 #[.pointer (some ⟨b, 0, none⟩)] w (RdQ b T a x (.int .i64 (x : Int)) w) := by
  have c2 := h.c2
  have HR := Box.mk h; clear h
  go_enter Tryz.func71, Tryz.ntmps71
  go_wp2
  go_ret
  exact ⟨rfl, HR.out, Onl.refl _ _⟩
theorem at_any (b : Nat) (T : ByteArray) (a x : Nat) (w : World) (h : Rd w b T a x) :
    Calls Tryz.prog 72 #[.pointer (some ⟨b, 0, none⟩)] w (RdQ b T a x (.int .i64 (a : Int)) w) := by
  have c1 := h.c1
  have HR := Box.mk h; clear h
  go_enter Tryz.func72, Tryz.ntmps72
  go_wp2
  go_ret
  exact ⟨rfl, HR.out, Onl.refl _ _⟩
end Go.Proofs.YtdffpbfllekcgaaGreatDoor
namespace Go.Proofs.YtdffpbfllekcgaaGreatDoor
set_option maxRecDepth 100000
open Go.RowKit M

theorem wr_ge {w : World} {b : Nat} {L : List Nat} {v : Value} (h : Wr w b L v) : ∀ k, v.ownBlock = some k → b + 1 ≤ k := fun k hk => (h.own.lt k hk).1
theorem wakeA : numA ⟨#[248, 5]⟩ 0 0 = 0 := by decide +kernel
theorem wakeX : numX ⟨#[248, 5]⟩ 0 0 = 3 := by decide +kernel
theorem wakeL : ([] : List Nat) ++ numL 300 ++ txtL (sb ⟨#[97, 98]⟩) = [249, 1, 44, 2, 97, 98] := by decide +kernel
theorem wakeB : bs [249, 1, 44, 2, 97, 98] = ⟨#[249, 1, 44, 2, 97, 98]⟩ := by decide

theorem numL_len (v : Nat) : (numL v).length = if v < 248 then 1 else 1 + szN v := by
  unfold numL; split <;> simp [fx_length]; omega
theorem numL_mono {a b : Nat} (h : a ≤ b) : (numL a).length ≤ (numL b).length := by
  rw [numL_len, numL_len]
  have := szN_mono h
  have := szN_bd b
  split <;> split <;> omega
/-- no number's bytes are the beginning of another's -/
theorem numL_prefix {a b : Nat} (ha : a < 18446744073709551616) (hb : b < 18446744073709551616) (h : (numL b).take (numL a).length = numL a) : a = b := by
  have hsa := szN_bd a
  have hsb := szN_bd b
  unfold numL at h
  by_cases h1 : a < 248
  · rw [if_pos h1] at h
    by_cases h2 : b < 248
    · rw [if_pos h2] at h; simpa using h.symm
    · rw [if_neg h2] at h; simp at h; omega
  · rw [if_neg h1] at h
    by_cases h2 : b < 248
    · rw [if_pos h2] at h; simp at h; omega
    · rw [if_neg h2] at h
      simp only [List.length_cons, List.take_succ_cons, List.cons.injEq] at h
      have hs : szN b = szN a := by omega
      have h3 := h.2
      rw [hs, List.take_of_length_le (by simp [fx_length])] at h3
      have e := congrArg un h3
      rw [un_fx, un_fx, Nat.mod_eq_of_lt (szN_lt ha), ← hs, Nat.mod_eq_of_lt (szN_lt hb)] at e
      exact e.symm
theorem bs_take (l : List Nat) (n : Nat) : (bs l).extract 0 n = bs (l.take n) := by
  apply ByteArray.ext
  apply Array.ext'
  rw [ByteArray.data_extract, Array.toList_extract, List.extract_eq_take_drop]
  simp [bs, strOfNums]
theorem bs_inj {l m : List Nat} (hl : ∀ d ∈ l, d < 2 ^ 8) (hm : ∀ d ∈ m, d < 2 ^ 8) (h : bs l = bs m) : l = m := by
  have := congrArg sb h
  rwa [sb_bs l hl, sb_bs m hm] at this
theorem str_beq (x y : ByteArray) : (x.toList == y.toList) = decide (x = y) := by
  rw [ByteArray.toList_eq, ByteArray.toList_eq]
  by_cases h : x = y
  · subst h
    rw [decide_eq_true rfl]
    exact beq_self_eq_true _
  · have h2 : ¬ x.data.toList = y.data.toList := fun hh => h (by apply ByteArray.ext; exact Array.ext' hh)
    rw [decide_eq_false h]
    exact beq_eq_false_iff_ne.2 h2

theorem own_new {b n : Nat} {v' : Value} {w w' : World} (h : Ext b (.slice none 0 0) v' w w') (hs : w.heap.size = n + 2) : v'.ownBlock ≠ some (n + 1) := fun e => by
  rcases h.lies with e2 | e2
  · rw [e] at e2; cases e2
  · have := e2 _ e; omega
end Go.Proofs.YtdffpbfllekcgaaGreatDoor
