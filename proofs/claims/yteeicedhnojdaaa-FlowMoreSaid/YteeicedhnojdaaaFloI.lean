/- The flow of threads: sizes and bounds stay. -/
import Derived.Test.YteeicedhnojdaaaFloG
namespace Go.Proofs.Yteeicedhnojdaaa
set_option maxRecDepth 100000
open Go.RowKit

structure CtxOk (c : CtxM) : Prop where
  rv : ∀ p ∈ c.reads, p.2 < 18446744073709551616
  rl : c.reads.length ≤ 1000000
  wl : c.works.length ≤ 1000000
theorem cnAt_ok {l : List Cn} (h : ∀ c ∈ l, CnOk c) (i : Nat) : CnOk (cnAt l i) := by
  unfold cnAt
  rw [List.getD_eq_getElem?_getD]
  cases hc : l[i]? with
  | none => exact ⟨by simp, by simp⟩
  | some c => exact h c (List.mem_of_getElem? hc)
theorem read_ok {c : CtxM} (h : CtxOk c) (k : Nat) : (readM c k).2 < 18446744073709551616 := by
  unfold readM
  split
  · rw [List.getD_eq_getElem?_getD]
    cases hc : c.reads[k]? with
    | none => simp
    | some p => exact h.rv p (List.mem_of_getElem? hc)
  · simp
theorem or_lt {a b : Nat} (ha : a < 18446744073709551616) (hb : b < 18446744073709551616) : a ||| b < 18446744073709551616 := by
  have e : (2 : Nat) ^ 64 = 18446744073709551616 := by decide
  rw [← e] at ha hb ⊢
  exact Nat.or_lt_two_pow ha hb
theorem reck_ok (op : Int) {a b : Nat} (ha : a < 18446744073709551616) (hb : b < 18446744073709551616) : reckM op a b < 18446744073709551616 := by
  have e : (2 : Nat) ^ 64 = 18446744073709551616 := by decide
  unfold reckM
  split
  · exact Nat.mod_lt _ (by decide)
  split
  · exact Nat.mod_lt _ (by decide)
  split
  · rw [← e] at ha hb ⊢; exact Nat.xor_lt_two_pow ha hb
  split
  · exact Nat.lt_of_le_of_lt Nat.and_le_left ha
  split
  · exact or_lt ha hb
  split
  · exact Nat.mod_lt _ (by decide)
  split
  · exact Nat.lt_of_le_of_lt (Nat.div_le_self _ _) ha
  · decide
theorem comb_ok {p q : Bool × Nat} {f : Nat → Nat → Nat} (h : f p.2 q.2 < 18446744073709551616) : (combM p q f).2 < 18446744073709551616 := by
  unfold combM
  split
  · exact h
  · decide
theorem ok_setM {n m : Nat} {s : WkM} (hs : WkOk n m s) (r : Nat) {c : Cn} (hc : CnOk c) : WkOk n m (setM s r c) :=
  ⟨by unfold setM; simp [hs.regs], fun x hx => by
    rcases List.mem_or_eq_of_mem_set hx with h | rfl
    · exact hs.rok x h
    · exact hc, hs.path, hs.lr, hs.state, hs.wr, hs.pair, hs.place, hs.value, hs.fpath, hs.left, hs.lok⟩
theorem bit1_ok (k : Nat) : bit1 k < 18446744073709551616 := withN_lt (by decide) _
theorem ok_leave {n m : Nat} {s : WkM} (hs : WkOk n m s) (i a k : Nat) (b : Bool) : WkOk n m (leaveM s i a k b) := by
  have h1 : ∀ x ∈ s.left.set i (withN (s.left.getD i 0) (a : Int)), x < 18446744073709551616 := fun x hx => by
    rcases List.mem_or_eq_of_mem_set hx with h | rfl
    · exact hs.lok x h
    · refine withN_lt ?_ _
      rw [List.getD_eq_getElem?_getD]
      cases hc : s.left[i]? with
      | none => simp
      | some v => exact hs.lok v (List.mem_of_getElem? hc)
  unfold leaveM
  cases b
  · exact ⟨hs.regs, hs.rok, hs.path, hs.lr, hs.state, hs.wr, hs.pair, hs.place, hs.value, hs.fpath, by simp [hs.left], h1⟩
  · exact ⟨hs.regs, hs.rok, hs.path, hs.lr, by simp [hs.state], hs.wr, hs.pair, hs.place, hs.value, hs.fpath, by simp [hs.left], h1⟩
theorem ok_br {n m : Nat} {s : WkM} (hs : WkOk n m s) {x : Ins} (hx : InsN x) : WkOk n m (brPath s x) :=
  ⟨hs.regs, hs.rok, or_lt hs.path (or_lt (arg_ok hs.rok _ _ (by have := hx.an; omega)).f (arg_ok hs.rok _ _ (by have := hx.bn; omega)).f), hs.lr, hs.state, hs.wr, hs.pair, hs.place, hs.value, hs.fpath, hs.left, hs.lok⟩
theorem ok_comp {n m : Nat} {s : WkM} (hs : WkOk n m s) {x : Ins} (hx : InsN x) : WkOk n m (compM s x) := by
  have ha := arg_ok hs.rok x.ar x.an.toNat (by have := hx.an; omega)
  have hb := arg_ok hs.rok x.br x.bn.toNat (by have := hx.bn; omega)
  unfold compM
  dsimp only
  split
  · exact ok_setM hs _ ha
  · exact ok_setM hs _ ⟨comb_ok (reck_ok _ ha.v hb.v), or_lt ha.f hb.f⟩
theorem ok_pair {n m : Nat} {s : WkM} (hs : WkOk n m s) (k : Nat) (x : Ins) : WkOk n m (pairM' s k x) :=
  ⟨hs.regs, hs.rok, hs.path, Nat.zero_le _, hs.state, hs.wr, by unfold pairM'; dsimp only; split <;> simp [hs.pair], hs.place, hs.value, hs.fpath, hs.left, hs.lok⟩
theorem ok_run {n m : Nat} {s : WkM} (hs : WkOk n m s) (k : Nat) (x : Ins) : WkOk n m (runM s k x) :=
  ⟨hs.regs, hs.rok, hs.path, hs.lr, by unfold runM; simp [hs.state], hs.wr, hs.pair, by unfold runM; dsimp only; split <;> simp [hs.place], hs.value, by unfold runM; simp [hs.fpath], hs.left, hs.lok⟩
theorem ok_write {n m : Nat} {s : WkM} (hs : WkOk n m s) (c : CtxM) (k : Nat) (x : Ins) : WkOk n m (writeM c s k x) :=
  ⟨hs.regs, hs.rok, hs.path, hs.lr, hs.state, by unfold writeM; simp [hs.wr], hs.pair, hs.place, by unfold writeM; simp [hs.value], hs.fpath, hs.left, hs.lok⟩
theorem ok_end {n m : Nat} {s : WkM} (hs : WkOk n m s) {c : CtxM} (hc : CtxOk c) (k : Nat) (x : Ins) : WkOk n m (endM c s k x) := by
  unfold endM
  split
  · exact ok_setM hs _ ⟨read_ok hc k, bit1_ok k⟩
  · split
    · exact ok_setM hs _ ⟨show (0 : Nat) < 18446744073709551616 by decide, bit1_ok k⟩
    · exact hs
theorem ok_lr {n m : Nat} {s : WkM} (hs : WkOk n m s) {k : Nat} (hk : k < n) (x : Ins) : WkOk n m (lrM s k x) := by
  unfold lrM
  split
  · exact ⟨hs.regs, hs.rok, hs.path, show k + 1 ≤ n by omega, hs.state, hs.wr, hs.pair, hs.place, hs.value, hs.fpath, hs.left, hs.lok⟩
  · exact hs
theorem ok_go {n m : Nat} {s : WkM} (hs : WkOk n m s) {c : CtxM} (hc : CtxOk c) {k : Nat} (hk : k < n) (x : Ins) : WkOk n m (goM c s k x) := by
  unfold goM
  dsimp only
  refine ok_lr (ok_end ?_ hc k x) hk x
  split
  · exact ok_write (ok_run hs k x) c k x
  · exact ok_run hs k x
theorem ok_acc {n m : Nat} {s : WkM} (hs : WkOk n m s) {c : CtxM} (hc : CtxOk c) {k : Nat} (hk : k < n) (x : Ins) : WkOk n m (accM c s k x) := by
  unfold accM
  split
  · dsimp only
    split
    · exact ok_go (ok_pair hs k x) hc hk x
    · have h1 := ok_setM (ok_pair hs k x) x.rd.toNat (c := numC0 1) ⟨by decide, by decide⟩
      exact ⟨h1.regs, h1.rok, h1.path, h1.lr, by simp [hs.state, pairM'], h1.wr, h1.pair, h1.place, h1.value, h1.fpath, h1.left, h1.lok⟩
  · exact ok_go hs hc hk x
end Go.Proofs.Yteeicedhnojdaaa
