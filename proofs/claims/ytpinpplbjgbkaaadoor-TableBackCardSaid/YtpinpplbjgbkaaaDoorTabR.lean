/- Tables' laws: a list of items, a table and the reference's list out of it (Grow). -/
import Derived.Test.YtpinpplbjgbkaaaDoorTabQ
import Derived.BigQuiet
namespace Go.Proofs.YtpinpplbjgbkaaaDoor
set_option maxRecDepth 100000
open Go.RowKit Go.Maps Go.Sort M

/-! ### Put, in one -/
theorem TExt.of_below {w W : World} {b : Nat} {mo : Option Nat} (h : Below w.heap.size w W) : TExt b mo mo w W :=
  ⟨h.os, h.tape, h.output, h.size, fun k hk _ _ => h.block k hk, .inl rfl⟩
/-- what Put leaves -/
def TPutP (b : Nat) (mo : Option Nat) (l : List Ent) (x : Ent) (w : World) (e : Ending) (w' : World) : Prop :=
  ∃ (bl : Bool) (mo' : Option Nat) (l' : List Ent), e = .returned (.bool bl) ∧ Tab w' b mo' l' ∧ TExt b mo mo' w w' ∧ ((bl = false ∧ l' = l ∧ ∃ y ∈ l, y.key = x.key) ∨ (bl = true ∧ l' = x :: l ∧ ∀ y ∈ l, y.key ≠ x.key))
theorem kkE_of {x y : Ent} (h : x.key = y.key) : kkE x = kkE y := by unfold kkE; rw [h]
theorem tput_any (b : Nat) (mo : Option Nat) (l : List Ent) (x : Ent) (w : World) (h : Tab w b mo l) (hl : l.length ≤ 1000) :
    Calls Tryd.prog 12 #[.pointer (some ⟨b, 0, none⟩), ekE x, .string x.text] w (TPutP b mo l x w) := by
  by_cases hy : ∃ y ∈ l, y.key = x.key
  · obtain ⟨y, hy, he⟩ := hy
    exact (put_there b mo l x y w h hy (kkE_of he)).mono fun e w' ⟨h1, h2⟩ => ⟨false, mo, l, h1, h.below h2, TExt.of_below h2, .inl ⟨rfl, rfl, y, hy, he⟩⟩
  · have hn : ∀ y ∈ l, y.key ≠ x.key := fun y h1 h2 => hy ⟨y, h1, h2⟩
    exact (put_new b mo l x w h (fun y h1 h2 => hn y h1 (kkE_eq h2)) (by unfold maxLen; omega)).mono fun e w' ⟨h1, mo', h2, h3⟩ => ⟨true, mo', x :: l, h1, h2, h3, .inr ⟨rfl, rfl, hn⟩⟩
/-- the reference's list is none of the table's memory -/
theorem RefIn.text {w W : World} {v : Value} {R : List Ent} {b : Nat} {mo mo' : Option Nat} {l : List Ent} (h : RefIn w v R) (ht : Tab w b mo l) (hx : TExt b mo mo' w W) : RefIn W v R :=
  ⟨h.val, fun h0 => by
    obtain ⟨g, c, e, hg, hc⟩ := h.cells h0
    have hb : W.heap[g]? = w.heap[g]? := by
      have c0 := (hc 0 R[0] (List.getElem?_eq_getElem h0)).1
      rw [Nat.zero_mul] at c0
      refine hx.block g hg (fun e1 => ?_) (fun e1 => ?_)
      · rw [e1, ht.cell] at c0
        injection c0 with c0
        cases c0
      · obtain ⟨es, ck, hm, _⟩ := (ht.mapd g e1).2.ex
        simp only [World.cell?, hm] at c0
        cases c0
    exact ⟨g, c, e, Nat.lt_of_lt_of_le hg hx.size, fun i x hi => ⟨(tcell_keep (a := ⟨g, i * 2, none⟩) hb).trans (hc i x hi).1, (tcell_keep (a := ⟨g, i * 2 + 1, none⟩) hb).trans (hc i x hi).2⟩⟩⟩

/-! ### items -/
structure IIn (w : World) (v : Value) (n : Nat) (A B : Nat → ByteArray) : Prop where
  shape : ∃ p c, v = .slice p n c
  cells : 0 < n → ∃ b off c, v = .slice (some ⟨b, off, none⟩) n c ∧ b < w.heap.size ∧ ∀ i, i < n → w.cell? ⟨b, off + i * 2, none⟩ = some (.string (A i)) ∧ w.cell? ⟨b, off + i * 2 + 1, none⟩ = some (.string (B i))
theorem IIn.below {w w' : World} {v : Value} {n : Nat} {A B : Nat → ByteArray} (h : IIn w v n A B) (hb : Below w.heap.size w w') : IIn w' v n A B :=
  ⟨h.shape, fun hn => by
    obtain ⟨b, off, c, hv, hlt, hc⟩ := h.cells hn
    exact ⟨b, off, c, hv, Nat.lt_of_lt_of_le hlt hb.size, fun i hi => ⟨(hb.cell hlt).trans (hc i hi).1, (hb.cell hlt).trans (hc i hi).2⟩⟩⟩
/-- the entry of an item -/
def itE (A B : Nat → ByteArray) (i : Nat) : Ent := ⟨shaN (sb ((A i).extract 0 20)), (B i).extract 0 60, shaN_length _, shaN_lt _⟩
def itL (A B : Nat → ByteArray) (k : Nat) : List Ent := ((List.range k).map (itE A B)).reverse
theorem itL_succ (A B : Nat → ByteArray) (k : Nat) : itL A B (k + 1) = itE A B k :: itL A B k := by
  unfold itL; rw [List.range_succ, List.map_append, List.reverse_append]; rfl
theorem itL_length (A B : Nat → ByteArray) (k : Nat) : (itL A B k).length = k := by simp [itL]
theorem itL_text {A B : Nat → ByteArray} {k : Nat} {l : List Ent} (h : l.Sublist (itL A B k)) : ∀ x ∈ l, x.text.size ≤ 60 := fun x hx => by
  have := h.subset hx
  unfold itL at this
  rw [List.mem_reverse, List.mem_map] at this
  obtain ⟨i, _, rfl⟩ := this
  unfold itE
  rw [ByteArray.size_extract]; omega

/-- what Grow leaves -/
def GrowP (w : World) (n : Nat) (A B : Nat → ByteArray) (e : Ending) (w' : World) : Prop :=
  ∃ tb mo l v R, e = .returned (.tuple #[.pointer (some ⟨tb, 0, none⟩), v]) ∧ Tab w' tb mo l ∧ RefIn w' v R ∧ R.Perm l ∧ Rising R ∧ l.Sublist (itL A B (min n 12)) ∧ Below w.heap.size w w' ∧ w.heap.size ≤ tb ∧ ∀ m, mo = some m → w.heap.size ≤ m

/-- the reference's Put, in one -/
theorem rput2_any (R : List Ent) (x : Ent) (v : Value) (w : World) (h : RefIn w v R) (hR : R.length ≤ 1000) :
    Calls Tryd.prog 27 #[v, .agg #[.string (bs x.key), .string x.text]] w fun e w' => ∃ v' bl R', e = .returned (.tuple #[v', .bool bl]) ∧ RefIn w' v' R' ∧ Below w.heap.size w w' ∧ (((∃ y ∈ R, y.key = x.key) ∧ R' = R) ∨ ((∀ y ∈ R, y.key ≠ x.key) ∧ R' = insR x R)) :=
  (rput_any R x v w h hR).mono fun e w' ⟨hb, h1⟩ => by
    rcases h1 with ⟨hy, he⟩ | ⟨hn, v', he, hr⟩
    · exact ⟨v, false, R, he, h.below hb, hb, .inl ⟨hy, rfl⟩⟩
    · exact ⟨v', true, _, he, hr, hb, .inr ⟨hn, rfl⟩⟩

theorem grow_step {A B : Nat → ByteArray} {k : Nat} {l l' R R' : List Ent} {bl : Bool} {x : Ent} (hx : x = itE A B k) (hp : R.Perm l) (hr : Rising R) (hs : l.Sublist (itL A B k))
    (h1 : (bl = false ∧ l' = l ∧ ∃ y ∈ l, y.key = x.key) ∨ (bl = true ∧ l' = x :: l ∧ ∀ y ∈ l, y.key ≠ x.key)) (h2 : ((∃ y ∈ R, y.key = x.key) ∧ R' = R) ∨ ((∀ y ∈ R, y.key ≠ x.key) ∧ R' = insR x R)) :
    R'.Perm l' ∧ Rising R' ∧ l'.Sublist (itL A B (k + 1)) := by
  rw [itL_succ, ← hx]
  rcases h1 with ⟨_, rfl, y, hy, he⟩ | ⟨_, rfl, hn⟩
  · rcases h2 with ⟨_, rfl⟩ | ⟨hn, _⟩
    · exact ⟨hp, hr, hs.cons _⟩
    · exact absurd he (hn y (hp.mem_iff.2 hy))
  · rcases h2 with ⟨⟨y, hy, he⟩, _⟩ | ⟨hn2, rfl⟩
    · exact absurd he (hn y (hp.mem_iff.1 hy))
    · exact ⟨(insR_perm x R).trans (hp.cons x), insR_rising x R hr hn2, hs.cons_cons x⟩
end Go.Proofs.YtpinpplbjgbkaaaDoor
