/- Tables' reference: where an entry goes in, as mathematics. -/
import Derived.Test.YtpinpplbjgbkaaaDoorTabO
namespace Go.Proofs.YtpinpplbjgbkaaaDoor
set_option maxRecDepth 100000
open Go.RowKit Go.Maps Go.Sort M

theorem bl_cb : ∀ a b : List UInt8, a.length = b.length → Op.bytesLess a b = decide (Lib.compareBytes a b < 0)
  | [], [], _ => rfl
  | [], _ :: _, h => by simp at h
  | _ :: _, [], h => by simp at h
  | x :: a, y :: b, h => by
    have ih := bl_cb a b (by simpa using h)
    by_cases p1 : x < y
    · simp only [Op.bytesLess, Lib.compareBytes, p1]; rfl
    · by_cases p2 : y < x
      · have n : (x == y) = false := by
          rw [beq_eq_false_iff_ne]; intro e; rw [e] at p2; exact p1 (by rw [e]; exact p2)
        simp only [Op.bytesLess, Lib.compareBytes, if_pos p2, p1, n]; rfl
      · have e : x = y := by
          rw [UInt8.lt_iff_toNat_lt] at p1 p2
          exact UInt8.toNat_inj.1 (by omega)
        subst e
        simp only [Op.bytesLess, Lib.compareBytes, p1, ih]
        simp
theorem bs_u8 (x : Ent) : (bs x.key).toList = kkE x := by
  unfold bs kkE u8l; rw [Lib.strOfNums_toList]; simp [Lib.bytesOf]
theorem ent_less (x y : Ent) : Op.bytesLess (bs x.key).toList (bs y.key).toList = decide (cfE x y < 0) := by
  rw [bs_u8, bs_u8]
  exact bl_cb _ _ (by unfold kkE u8l; rw [List.length_map, List.length_map, x.kl, y.kl])

def stR (x : Ent) (s : List Ent × Bool) (e : Ent) : List Ent × Bool := if s.2 = false ∧ cfE x e < 0 then (s.1 ++ [x] ++ [e], true) else (s.1 ++ [e], s.2)
def fdR (x : Ent) (R : List Ent) : List Ent × Bool := R.foldl (stR x) ([], false)
def insR (x : Ent) : List Ent → List Ent
  | [] => [x]
  | e :: R => if cfE x e < 0 then x :: e :: R else e :: insR x R
theorem fdR_take (x : Ent) {R : List Ent} {k : Nat} {e : Ent} (h : R[k]? = some e) : fdR x (R.take (k + 1)) = stR x (fdR x (R.take k)) e := by
  unfold fdR
  rw [List.take_add_one, h, Option.toList_some, List.foldl_append]; rfl
theorem fold_true (x : Ent) : ∀ (R o : List Ent), R.foldl (stR x) (o, true) = (o ++ R, true)
  | [], o => by simp
  | e :: R, o => by
    rw [List.foldl_cons]
    have : stR x (o, true) e = (o ++ [e], true) := by simp [stR]
    rw [this, fold_true x R]; simp
theorem fold_false (x : Ent) : ∀ (R o : List Ent), R.foldl (stR x) (o, false) = (o ++ insR x R, true) ∨ (R.foldl (stR x) (o, false) = (o ++ R, false) ∧ insR x R = R ++ [x])
  | [], o => .inr (by simp [insR])
  | e :: R, o => by
    rw [List.foldl_cons]
    by_cases h : cfE x e < 0
    · have : stR x (o, false) e = (o ++ [x] ++ [e], true) := by simp [stR, h]
      rw [this, fold_true]
      exact .inl (by simp [insR, h])
    · have : stR x (o, false) e = (o ++ [e], false) := by simp [stR, h]
      rw [this]
      rcases fold_false x R (o ++ [e]) with q | ⟨q, r⟩
      · exact .inl (by rw [q]; simp [insR, h])
      · exact .inr ⟨by rw [q]; simp, by simp [insR, h, r]⟩
theorem fdR_true {x : Ent} {R E : List Ent} (h : fdR x R = (E, true)) : E = insR x R := by
  rcases fold_false x R [] with q | ⟨q, _⟩
  · unfold fdR at h; rw [q] at h; injection h with h _; simpa using h.symm
  · unfold fdR at h; rw [q] at h; injection h with _ h; cases h
theorem fdR_false {x : Ent} {R E : List Ent} (h : fdR x R = (E, false)) : E ++ [x] = insR x R := by
  rcases fold_false x R [] with q | ⟨q, r⟩
  · unfold fdR at h; rw [q] at h; injection h with _ h; cases h
  · unfold fdR at h; rw [q] at h; injection h with h _; rw [r, ← h]; simp
theorem insR_perm (x : Ent) : ∀ R, (insR x R).Perm (x :: R)
  | [] => List.Perm.refl _
  | e :: R => by
    unfold insR
    split
    · exact List.Perm.refl _
    · exact ((insR_perm x R).cons e).trans (List.Perm.swap x e R)
theorem insR_length (x : Ent) (R : List Ent) : (insR x R).length = R.length + 1 := (insR_perm x R).length_eq
theorem cfE_anti (x y : Ent) : cfE x y = - cfE y x := cb_anti _ _
theorem cfE_zero {x y : Ent} (h : cfE x y = 0) : x.key = y.key := kkE_eq (cb_zero _ _ h)
theorem insR_rising (x : Ent) : ∀ R, Rising R → (∀ y ∈ R, y.key ≠ x.key) → Rising (insR x R)
  | [], _, _ => List.pairwise_singleton _ _
  | e :: R, h, hn => by
    have h1 := List.pairwise_cons.1 h
    unfold insR
    split
    · rename_i hx
      refine List.pairwise_cons.2 ⟨fun z hz => ?_, h⟩
      rcases List.mem_cons.1 hz with e1 | e1
      · rw [e1]; exact hx
      · exact cb_trans _ _ _ hx (h1.1 z e1)
    · rename_i hx
      have ih := insR_rising x R h1.2 fun y hy => hn y (List.mem_cons_of_mem _ hy)
      refine List.pairwise_cons.2 ⟨fun z hz => ?_, ih⟩
      rcases List.mem_cons.1 ((insR_perm x R).mem_iff.1 hz) with e1 | e1
      · have n0 : cfE x e ≠ 0 := fun q => hn e (List.mem_cons_self ..) (cfE_zero q).symm
        have := cfE_anti x e
        rw [e1]
        show cfE e x < 0
        omega
      · exact h1.1 z e1
end Go.Proofs.YtpinpplbjgbkaaaDoor
