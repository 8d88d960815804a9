/- Tables: the order of entries, and its comparison. -/
import Derived.Test.YtpinpplbjgbkaaaDoorTabF
import Derived.Test.YtpinpplbjgbkaaaDoorEShelf
import Derived.Deep.QuietTactic
import Derived.BigQuiet
namespace Go.Proofs.YtpinpplbjgbkaaaDoor
set_option maxRecDepth 100000
open Go.RowKit Go.Maps Go.Sort M

/-! ### bytes in order -/
theorem cb_self : ∀ a : List UInt8, Lib.compareBytes a a = 0
  | [] => rfl
  | x :: a => by
    have h : ¬ x < x := by rw [UInt8.lt_iff_toNat_lt]; omega
    simp only [Lib.compareBytes, if_neg h]
    exact cb_self a
theorem cb_zero : ∀ a b : List UInt8, Lib.compareBytes a b = 0 → a = b
  | [], [], _ => rfl
  | [], _ :: _, h => by simp [Lib.compareBytes] at h
  | _ :: _, [], h => by simp [Lib.compareBytes] at h
  | x :: a, y :: b, h => by
    simp only [Lib.compareBytes] at h
    split at h
    · cases h
    · split at h
      · cases h
      · rename_i h1 h2
        rw [UInt8.lt_iff_toNat_lt] at h1 h2
        have e : x = y := UInt8.toNat_inj.1 (by omega)
        rw [e, cb_zero a b h]
theorem cb_trans : ∀ a b c : List UInt8, Lib.compareBytes a b < 0 → Lib.compareBytes b c < 0 → Lib.compareBytes a c < 0
  | [], [], _, h, _ => by simp [Lib.compareBytes] at h
  | [], _ :: _, [], _, h => by simp [Lib.compareBytes] at h
  | [], _ :: _, _ :: _, _, _ => by simp [Lib.compareBytes]
  | _ :: _, [], _, h, _ => by simp [Lib.compareBytes] at h
  | _ :: _, _ :: _, [], _, h => by simp [Lib.compareBytes] at h
  | x :: a, y :: b, z :: c, h1, h2 => by
    have ih := cb_trans a b c
    simp only [Lib.compareBytes, UInt8.lt_iff_toNat_lt] at *
    by_cases p1 : x.toNat < y.toNat
    · by_cases q1 : y.toNat < z.toNat
      · rw [if_pos (by omega)]; decide
      · by_cases q2 : z.toNat < y.toNat
        · rw [if_neg q1, if_pos q2] at h2; cases h2
        · rw [if_pos (by omega)]; decide
    · by_cases p2 : y.toNat < x.toNat
      · rw [if_neg p1, if_pos p2] at h1; cases h1
      · rw [if_neg p1, if_neg p2] at h1
        by_cases q1 : y.toNat < z.toNat
        · rw [if_pos (by omega)]; decide
        · by_cases q2 : z.toNat < y.toNat
          · rw [if_neg q1, if_pos q2] at h2; cases h2
          · rw [if_neg q1, if_neg q2] at h2
            rw [if_neg (by omega), if_neg (by omega)]
            exact ih h1 h2
theorem cb_anti : ∀ a b : List UInt8, Lib.compareBytes a b = - Lib.compareBytes b a
  | [], [] => rfl
  | [], _ :: _ => rfl
  | _ :: _, [] => rfl
  | x :: a, y :: b => by
    have ih := cb_anti a b
    simp only [Lib.compareBytes, UInt8.lt_iff_toNat_lt]
    by_cases p1 : x.toNat < y.toNat
    · rw [if_pos p1, if_neg (by omega), if_pos p1]
    · by_cases p2 : y.toNat < x.toNat
      · rw [if_neg p1, if_pos p2, if_pos p2]; rfl
      · rw [if_neg p1, if_neg p2, if_neg p2, if_neg p1]; exact ih

/-- the comparison of two entries -/
def cfE (x y : Ent) : Int := Lib.compareBytes (kkE x) (kkE y)
/-- those of a list -/
abbrev InE (l : List Ent) := { x : Ent // x ∈ l }
def cfI (l : List Ent) (x y : InE l) : Int := cfE x.1 y.1
theorem ltE (l : List Ent) (x y : InE l) : ltOf (cfI l) x y = decide (cfE x.1 y.1 < 0) := rfl
theorem swoE (l : List Ent) : SWO (ltOf (cfI l)) where
  irrefl x := by rw [ltE]; unfold cfE; rw [cb_self]; rfl
  trans x y z h1 h2 := by
    rw [ltE] at *
    exact decide_eq_true (cb_trans _ _ _ (of_decide_eq_true h1) (of_decide_eq_true h2))
  ntrans x y z h1 h2 := by
    rw [ltE] at *
    refine decide_eq_false fun h => ?_
    have n1 : ¬ Lib.compareBytes (kkE x.1) (kkE y.1) < 0 := of_decide_eq_false h1
    have n2 : ¬ Lib.compareBytes (kkE y.1) (kkE z.1) < 0 := of_decide_eq_false h2
    have h : Lib.compareBytes (kkE x.1) (kkE z.1) < 0 := h
    rcases Int.lt_trichotomy (Lib.compareBytes (kkE y.1) (kkE z.1)) 0 with e | e | e
    · exact n2 e
    · rw [cb_zero _ _ e] at n1; exact n1 h
    · have e2 : Lib.compareBytes (kkE z.1) (kkE y.1) < 0 := by rw [cb_anti]; omega
      exact n1 (cb_trans _ _ _ h e2)
theorem totE (l : List Ent) (hu : ∀ x ∈ l, ∀ y ∈ l, kkE x = kkE y → x = y) (x y : InE l) (h1 : ltOf (cfI l) x y = false) (h2 : ltOf (cfI l) y x = false) : x = y := by
  rw [ltE] at *
  have n1 : ¬ Lib.compareBytes (kkE x.1) (kkE y.1) < 0 := of_decide_eq_false h1
  have n2 : ¬ Lib.compareBytes (kkE y.1) (kkE x.1) < 0 := of_decide_eq_false h2
  rw [cb_anti] at n2
  exact Subtype.ext (hu _ x.2 _ y.2 (cb_zero _ _ (by omega)))

/-! ### the comparison as it runs -/
theorem shaCompareG_any (l1 l2 : List Nat) (h1 : l1.length = 32) (h2 : l2.length = 32) (t1 : ∀ d ∈ l1, d < 256) (t2 : ∀ d ∈ l2, d < 256) (w : World) :
    Calls Tryd.prog 35 #[.agg (byts l1).toArray, .agg (byts l2).toArray] w fun e w' => e = .returned (.int .i64 (Lib.compareBytes (u8l l1) (u8l l2))) ∧ ∃ n, w' = ((w.alloc (.cells (byts l1).toArray 24)).alloc (.cells (byts l2).toArray 24)).drewN n := by
  obtain ⟨wr, hwr⟩ : ∃ wr, wr = (w.alloc (.cells (byts l1).toArray 24)).alloc (.cells (byts l2).toArray 24) := ⟨_, rfl⟩
  have r2 : wr.rangeAt (w.heap.size + 1) 0 (byts l2) := by rw [hwr]; exact range_new _ _ _ _ (by simp)
  have r1 : wr.rangeAt w.heap.size 0 (byts l1) := by
    rw [hwr]
    exact range_below ((Below.refl _ _).alloc (Nat.le_refl _) _) (range_new w _ _ _ rfl)
  have q : ∀ k, Calls Tryd.prog 51 #[.slice (some ⟨w.heap.size, 0, none⟩) 32 32, .slice (some ⟨w.heap.size + 1, 0, none⟩) 32 32] (wr.drewN k) fun e w' => e = .returned (.int .i64 (Lib.compareBytes (u8l l1) (u8l l2))) ∧ ∃ m, w' = wr.drewN m := fun k =>
    quiet_l (bytesCompare_any _ _ _ _ l1 l2 h1 h2 t1 t2 (wr.drewN k) (fun j v hv => by simpa using r1 j v hv) (fun j v hv => by simpa using r2 j v hv))
  obtain ⟨A1, hA1⟩ : ∃ A, A = byts l1 := ⟨_, rfl⟩
  obtain ⟨A2, hA2⟩ : ∃ A, A = byts l2 := ⟨_, rfl⟩
  obtain ⟨R, hR⟩ : ∃ R, R = Lib.compareBytes (u8l l1) (u8l l2) := ⟨_, rfl⟩
  rw [← hR] at q ⊢
  rw [← hA1, ← hA2] at hwr ⊢
  clear h1 h2 t1 t2 r1 r2 hR hA1 hA2
  subst hwr
  have Q := Box.mk q
  clear q
  go_enter Tryd.func35, Tryd.ntmps35
  go_wp2
  go_quiet (first
    | (go_at_call 51; exact Q.out _)
    | exact Q.out _)
  go_wp2
  go_ret
  exact ⟨rfl, _, rfl⟩
theorem encE_key (x : Ent) (j : Nat) (v : Value) (h : (byts x.key)[j]? = some v) : (encE x)[j]? = some v := by
  unfold encE
  rw [List.getElem?_append_left (List.getElem?_eq_some_iff.1 h).1]
  exact h
theorem alloc4 (w : World) (a b c d : Obj) (n : Nat) : ((((w.alloc a).alloc b).alloc c).alloc d).drewN n = grow (w.drewN n) #[a, b, c, d] := by
  rw [alloc_eq_grow, alloc_eq_grow, alloc_eq_grow, alloc_eq_grow, grow_grow, grow_grow, grow_grow]
  rfl
set_option maxHeartbeats 1000000 in
theorem tcompare_any (x y : Ent) (w : World) : Calls Tryd.prog 42 #[evE x, evE y] w fun e w' => e = .returned (.int .i64 (cfE x y)) ∧ ∃ q os', w' = grow (w.drewN q) os' := by
  have c := fun W => shaCompareG_any x.key y.key x.kl y.kl x.kb y.kb W
  have r1 : ((w.alloc (.cells (encE x).toArray 69)).alloc (.cells (encE y).toArray 69)).rangeAt w.heap.size 0 (byts x.key) := fun j v hv =>
    (range_below ((Below.refl _ _).alloc (Nat.le_refl _) _) (show (w.alloc (.cells (encE x).toArray 69)).rangeAt w.heap.size 0 (encE x) from range_new w _ _ _ rfl)) j v (encE_key x j v hv)
  have r2 : ((w.alloc (.cells (encE x).toArray 69)).alloc (.cells (encE y).toArray 69)).rangeAt (w.heap.size + 1) 0 (byts y.key) := fun j v hv =>
    (show ((w.alloc (.cells (encE x).toArray 69)).alloc (.cells (encE y).toArray 69)).rangeAt (w.heap.size + 1) 0 (encE y) from range_new _ _ _ _ (by simp)) j v (encE_key y j v hv)
  unfold evE
  obtain ⟨A, hA⟩ : ∃ A, A = encE x := ⟨_, rfl⟩
  obtain ⟨B, hB⟩ : ∃ B, B = encE y := ⟨_, rfl⟩
  obtain ⟨K, hK⟩ : ∃ K, K = byts x.key := ⟨_, rfl⟩
  obtain ⟨L, hL⟩ : ∃ L, L = byts y.key := ⟨_, rfl⟩
  obtain ⟨R, hR⟩ : ∃ R, R = Lib.compareBytes (u8l x.key) (u8l y.key) := ⟨_, rfl⟩
  have hkl : K.length = 32 := by rw [hK, byts_length, x.kl]
  have hll : L.length = 32 := by rw [hL, byts_length, y.kl]
  unfold cfE kkE
  rw [← hK, ← hL, ← hR] at c
  rw [← hA, ← hB, ← hK] at r1
  rw [← hA, ← hB, ← hL] at r2
  rw [← hA, ← hB, ← hR]
  clear hA hB hK hL hR
  have C := Box.mk c
  clear c
  go_enter Tryd.func42, Tryd.ntmps42
  go_wp2_with (first
    | ((with_reducible refine at_load 24 (.tmp 5) ?_); refine wpList_load_mid rfl 24 (.tmp 5) rfl w.heap.size 0 rfl K _ r1 und_hash rfl (by rw [hkl]; exact info_hash) ?_)
    | ((with_reducible refine at_load 24 (.tmp 7) ?_); refine wpList_load_mid rfl 24 (.tmp 7) rfl (w.heap.size + 1) 0 rfl L _ r2 und_hash rfl (by rw [hll]; exact info_hash) ?_)
    | (go_at_call 35; ((with_reducible refine (C.out _).mono ?_); rintro e w1 ⟨rfl, n, rfl⟩)))
  go_ret
  exact ⟨rfl, n, _, alloc4 w _ _ _ _ n⟩
theorem cmpE_lays (l : List Ent) [Inhabited (InE l)] (blk off size : Nat) (w : World) : CmpLays Tryd.prog 42 #[] (fun x : InE l => encE x.1) 33 (cfI l) blk off size w :=
  fun _ _ _ _ x y => tcompare_any x.1 y.1 _
end Go.Proofs.YtpinpplbjgbkaaaDoor
