/- Contracts of pack: the reader. -/
import Derived.Test.YtdhbeeeofaheeaaDoorPackC
import Derived.Deep.QuietTactic
import Derived.BigQuiet
import Derived.Deep.DeepCutAuto
namespace Go.Proofs.YtdhbeeeofaheeaaDoor
set_option maxRecDepth 100000
open Go.RowKit M

/-- block b alone of the old blocks may have changed -/
structure Onl (b : Nat) (w w' : World) : Prop where
  os : w'.os = w.os
  tape : w'.tape = w.tape
  output : w'.output = w.output
  size : w.heap.size ≤ w'.heap.size
  block : ∀ k, k < w.heap.size → k ≠ b → w'.heap[k]? = w.heap[k]?
theorem Onl.refl (b : Nat) (w : World) : Onl b w w := ⟨rfl, rfl, rfl, Nat.le_refl _, fun _ _ _ => rfl⟩
theorem Onl.trans {b : Nat} {w x y : World} (h : Onl b w x) (k : Onl b x y) : Onl b w y :=
  ⟨k.os.trans h.os, k.tape.trans h.tape, k.output.trans h.output, Nat.le_trans h.size k.size, fun i hi hb => (k.block i (Nat.lt_of_lt_of_le hi h.size) hb).trans (h.block i hi hb)⟩
theorem Onl.below {b B : Nat} {w x : World} (h : Onl b w x) (hb : B ≤ b) (hB : B ≤ w.heap.size) : Below B w x := ⟨h.os, h.tape, h.output, h.size, fun i hi => h.block i (by omega) (by omega)⟩
theorem Onl.setCell {b : Nat} {w x : World} (h : Onl b w x) (o : Nat) (u : Value) : Onl b w (x.setCell ⟨b, o, none⟩ u) :=
  h.trans ⟨rfl, rfl, rfl, by simp [World.setCell], fun k _ hk => Below.heap_setCell _ _ _ _ (by simpa using hk)⟩
theorem Onl.drewN {b : Nat} {w x : World} (h : Onl b w x) (n : Nat) : Onl b w (x.drewN n) := ⟨h.os, h.tape, h.output, h.size, h.block⟩

/-- a reader of T lies in block b, at a, with the error x -/
structure Rd (w : World) (b : Nat) (T : ByteArray) (a x : Nat) : Prop where
  c0 : w.cell? ⟨b, 0, none⟩ = some (.string T)
  c1 : w.cell? ⟨b, 1, none⟩ = some (.int .i64 (a : Int))
  c2 : w.cell? ⟨b, 2, none⟩ = some (.int .i64 (x : Int))
  f1 : w.frozen? ⟨b, 1, none⟩ = false
  f2 : w.frozen? ⟨b, 2, none⟩ = false
  le : a ≤ T.size
  sz : T.size ≤ 1000000
theorem Rd.drewN {w : World} {b : Nat} {T : ByteArray} {a x : Nat} (h : Rd w b T a x) (n : Nat) : Rd (w.drewN n) b T a x := ⟨h.c0, h.c1, h.c2, h.f1, h.f2, h.le, h.sz⟩
theorem Rd.err {w : World} {b : Nat} {T : ByteArray} {a x : Nat} (h : Rd w b T a x) (y : Nat) : Rd (w.setCell ⟨b, 2, none⟩ (.int .i64 (y : Int))) b T a y :=
  ⟨by rw [World.cell?_setCell_other _ _ _ _ (by simp)]; exact h.c0, by rw [World.cell?_setCell_other _ _ _ _ (by simp)]; exact h.c1, World.cell?_setCell_same _ _ _ h.c2, by rw [frozen_setCell]; exact h.f1, by rw [frozen_setCell]; exact h.f2, h.le, h.sz⟩
theorem Rd.move {w : World} {b : Nat} {T : ByteArray} {a x : Nat} (h : Rd w b T a x) (y : Nat) (hy : y ≤ T.size) : Rd (w.setCell ⟨b, 1, none⟩ (.int .i64 (y : Int))) b T y x :=
  ⟨by rw [World.cell?_setCell_other _ _ _ _ (by simp)]; exact h.c0, World.cell?_setCell_same _ _ _ h.c1, by rw [World.cell?_setCell_other _ _ _ _ (by simp)]; exact h.c2, by rw [frozen_setCell]; exact h.f1, by rw [frozen_setCell]; exact h.f2, hy, h.sz⟩

/-- what a call on a reader leaves -/
def RdQ (b : Nat) (T : ByteArray) (a x : Nat) (ret : Value) (w : World) (e : Ending) (w' : World) : Prop :=
  e = .returned ret ∧ Rd w' b T a x ∧ Onl b w w'

theorem fail_any (b : Nat) (T : ByteArray) (a x n : Nat) (w : World) (h : Rd w b T a x) :
    Calls Tryd.prog 61 #[.pointer (some ⟨b, 0, none⟩), .int .i64 (n : Int)] w (RdQ b T a (if x = 0 then n else x) (.tuple #[]) w) := by
  have c2 := h.c2
  have f2 := h.f2
  have HR := Box.mk h; clear h
  rcases Nat.eq_zero_or_pos x with hx | hx
  · subst hx
    go_enter Tryd.func61, Tryd.ntmps61
    go_wp2
    go_end0
    exact ⟨rfl, HR.out.err n, (Onl.refl _ _).setCell _ _⟩
  · have e1 : ((x : Int) == 0) = false := by rw [beq_eq_false_iff_ne]; omega
    have e2 : ¬ x = 0 := by omega
    rw [if_neg e2]
    go_enter Tryd.func61, Tryd.ntmps61
    go_wp2
    go_end0
    exact ⟨rfl, HR.out, Onl.refl _ _⟩

theorem left_any (b : Nat) (T : ByteArray) (a x : Nat) (w : World) (h : Rd w b T a x) :
    Calls Tryd.prog 63 #[.pointer (some ⟨b, 0, none⟩)] w (RdQ b T a x (.int .i64 ((T.size - a : Nat) : Int)) w) := by
  have c0 := h.c0
  have c1 := h.c1
  have hle := h.le
  have hsz := h.sz
  have e : IntKind.i64.wrap ((T.size : Int) - (a : Int)) = ((T.size - a : Nat) : Int) := by rw [IntWalk.i64_in _ (by omega)]; omega
  have HR := Box.mk h; clear h
  obtain ⟨y, hy⟩ : ∃ y, y = T.size - a := ⟨_, rfl⟩
  rw [← hy] at e ⊢
  clear hy
  go_enter Tryd.func63, Tryd.ntmps63
  go_wp2_with fail
  go_quiet (fail)
  go_wp2_with fail
  go_ret
  exact ⟨rfl, HR.out.drewN _, (Onl.refl _ _).drewN _⟩

/-- n bytes are read: the place, the error, the bytes -/
def rawA (T : ByteArray) (a x : Nat) (n : Int) : Nat := if x = 0 ∧ 0 ≤ n ∧ n ≤ ((T.size - a : Nat) : Int) then a + n.toNat else a
def rawX (T : ByteArray) (a x : Nat) (n : Int) : Nat := if x = 0 then (if 0 ≤ n ∧ n ≤ ((T.size - a : Nat) : Int) then 0 else 2) else x
def rawS (T : ByteArray) (a x : Nat) (n : Int) : ByteArray := if x = 0 ∧ 0 ≤ n ∧ n ≤ ((T.size - a : Nat) : Int) then T.extract a (a + n.toNat) else ⟨#[]⟩

set_option maxRecDepth 100000 in
set_option maxHeartbeats 400000 in
theorem rraw_any (b : Nat) (T : ByteArray) (a x : Nat) (n : Int) (w : World) (h : Rd w b T a x) :
    Calls Tryd.prog 36 #[.pointer (some ⟨b, 0, none⟩), .int .i64 n] w (RdQ b T (rawA T a x n) (rawX T a x n) (.string (rawS T a x n)) w) := by
  have hle := h.le
  have hsz := h.sz
  by_cases hok : 0 ≤ n ∧ n ≤ ((T.size - a : Nat) : Int)
  · obtain ⟨k, rfl⟩ : ∃ k : Nat, n = k := ⟨n.toNat, by omega⟩
    have hk : a + k ≤ T.size := by omega
    rcases Nat.eq_zero_or_pos x with hx | hx
    · subst hx
      have e1 : rawA T a 0 k = a + k := by unfold rawA; rw [if_pos ⟨rfl, hok⟩, Int.toNat_natCast]
      have e2 : rawX T a 0 k = 0 := by unfold rawX; rw [if_pos rfl, if_pos hok]
      have e3 : rawS T a 0 k = T.extract a (a + k) := by unfold rawS; rw [if_pos ⟨rfl, hok⟩, Int.toNat_natCast]
      rw [e1, e2, e3]
      clear e1 e2 e3
      have cl := left_any b T a 0 w h
      obtain ⟨y, hy⟩ : ∃ y, y = T.size - a := ⟨_, rfl⟩
      have hky : k ≤ y := by omega
      obtain ⟨q, hq⟩ : ∃ q, q = a + k := ⟨_, rfl⟩
      have n1 : IntKind.i64.wrap ((a : Int) + (k : Int)) = (q : Int) := by rw [IntWalk.i64_in _ (by omega)]; omega
      have hqs : q ≤ T.size := by omega
      have haq : a ≤ q := by omega
      rw [← hq]
      rw [← hy] at cl
      have CL := Box.mk cl; have HQ := Box.mk hq
      clear cl hy hok hk hq h
      go_enter Tryd.func36, Tryd.ntmps36
      go_wp2_with (go_at_call 63; refine CL.out.mono ?_; rintro e w1 ⟨rfl, r1, o1⟩; have c0 := r1.c0; have c1 := r1.c1; have c2 := r1.c2; have f1 := r1.f1; have R1 := Box.mk r1; have O1 := Box.mk o1; clear r1 o1)
      go_quiet (fail)
      go_wp2_with fail
      go_ret
      exact ⟨rfl, (R1.out.drewN nq).move q hqs, (O1.out.drewN nq).setCell 1 _⟩
    · have e1 : rawA T a x k = a := by unfold rawA; rw [if_neg (by omega)]
      have e2 : rawX T a x k = x := by unfold rawX; rw [if_neg (by omega)]
      have e3 : rawS T a x k = ⟨#[]⟩ := by unfold rawS; rw [if_neg (by omega)]
      rw [e1, e2, e3]
      clear e1 e2 e3
      have cl := left_any b T a x w h
      obtain ⟨y, hy⟩ : ∃ y, y = T.size - a := ⟨_, rfl⟩
      have hky : k ≤ y := by omega
      have z1 : ((x : Int) != 0) = true := by simp; omega
      rw [← hy] at cl
      have CL := Box.mk cl
      clear cl hy hok hk h
      go_enter Tryd.func36, Tryd.ntmps36
      go_wp2_with (go_at_call 63; refine CL.out.mono ?_; rintro e w1 ⟨rfl, r1, o1⟩; have c2 := r1.c2; have R1 := Box.mk r1; have O1 := Box.mk o1; clear r1 o1)
      go_ret
      exact ⟨rfl, R1.out, O1.out⟩
  · have e1 : rawA T a x n = a := by unfold rawA; rw [if_neg (by omega)]
    have e2 : rawX T a x n = if x = 0 then 2 else x := by unfold rawX; rw [if_neg hok]
    have e3 : rawS T a x n = ⟨#[]⟩ := by unfold rawS; rw [if_neg (by omega)]
    rw [e1, e2, e3]
    clear e1 e2 e3
    obtain ⟨x', hx'⟩ : ∃ x', x' = if x = 0 then 2 else x := ⟨_, rfl⟩
    have hx1 : 0 < x' := by rw [hx']; split <;> omega
    have z1 : ((x' : Int) != 0) = true := by simp; omega
    have cl := left_any b T a x w h
    have cf : ∀ W, Rd W b T a x → Calls Tryd.prog 61 #[.pointer (some ⟨b, 0, none⟩), .int .i64 2] W (RdQ b T a x' (.tuple #[]) W) := fun W hW => by rw [hx']; exact fail_any b T a x 2 W hW
    obtain ⟨y, hy⟩ : ∃ y, y = T.size - a := ⟨_, rfl⟩
    rw [← hy] at cl hok
    rw [← hx']
    have CL := Box.mk cl; have CF := Box.mk cf; have HR := Box.mk h
    clear cl cf h hy hx'
    rcases (by omega : n < 0 ∨ (0 ≤ n ∧ (y : Int) < n)) with hn | ⟨hn, hn2⟩
    · clear hok
      go_enter Tryd.func36, Tryd.ntmps36
      go_wp2_with (go_at_call 61; refine (CF.out _ HR.out).mono ?_; rintro e w1 ⟨rfl, r1, o1⟩; have c2 := r1.c2; have R1 := Box.mk r1; have O1 := Box.mk o1; clear r1 o1)
      go_ret
      exact ⟨rfl, R1.out, O1.out⟩
    · clear hok
      go_enter Tryd.func36, Tryd.ntmps36
      go_wp2_with (first
        | (go_at_call 63; refine CL.out.mono ?_; rintro e w1 ⟨rfl, r1, o1⟩; have R1 := Box.mk r1; have O1 := Box.mk o1; clear r1 o1)
        | (go_at_call 61; refine (CF.out _ R1.out).mono ?_; rintro e w2 ⟨rfl, r2, o2⟩; have c2 := r2.c2; have R2 := Box.mk r2; have O2 := Box.mk o2; clear r2 o2))
      go_ret
      exact ⟨rfl, R2.out, O1.out.trans O2.out⟩
end Go.Proofs.YtdhbeeeofaheeaaDoor
