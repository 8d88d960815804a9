/- Contracts of ordealref04: ReadText, Done. -/
import Derived.Test.YtdhbeeeofaheeaaPackU
namespace Go.Proofs.Ytdhbeeeofaheeaa
set_option maxRecDepth 100000
open Go.RowKit M

theorem numV_zero {T : ByteArray} {a x : Nat} (h : numX T a x ≠ 0) : numV T a x = 0 := by
  unfold numX at h
  unfold numV
  by_cases hs : fixU T a x 1 < 248
  · rw [if_pos hs] at h
    rw [if_pos hs]
    exact fixU_none (k := 1) h
  · rw [if_neg hs] at h
    rw [if_neg hs, if_neg h]
theorem raw_bad' {T : ByteArray} {a x : Nat} {n : Int} (h : x ≠ 0) : rawA T a x n = a ∧ rawX T a x n = x ∧ rawS T a x n = ⟨#[]⟩ := by
  refine ⟨?_, ?_, ?_⟩
  · unfold rawA; rw [if_neg (fun hh => h hh.1)]
  · unfold rawX; rw [if_neg h]
  · unfold rawS; rw [if_neg (fun hh => h hh.1)]
theorem txt1 {T : ByteArray} {a x : Nat} {most : Int} (h : numX T a x ≠ 0) : txtX T a x most = numX T a x ∧ txtA T a x most = a ∧ txtS T a x most = ⟨#[]⟩ := by
  have hv := numV_zero h
  have hE : txtE T a x most = numX T a x := by unfold txtE; rw [hv, if_neg (by omega)]
  obtain ⟨r1, r2, r3⟩ := raw_bad' (T := T) (a := numA T a x) (n := txtK T a x) h
  have hX : txtX T a x most = numX T a x := by unfold txtX; rw [hE, r2]
  exact ⟨hX, by unfold txtA; rw [hX, if_neg h], by unfold txtS; rw [hE, r3]⟩
theorem txt2 {T : ByteArray} {a x : Nat} {most : Int} (h : numX T a x = 0) (hm : max most 0 < (numV T a x : Int)) : txtX T a x most = 12 ∧ txtA T a x most = a ∧ txtS T a x most = ⟨#[]⟩ := by
  have hE : txtE T a x most = 12 := by unfold txtE; rw [if_pos hm, if_pos h]
  obtain ⟨r1, r2, r3⟩ := raw_bad' (T := T) (a := numA T a x) (x := 12) (n := txtK T a x) (by decide)
  have hX : txtX T a x most = 12 := by unfold txtX; rw [hE, r2]
  exact ⟨hX, by unfold txtA; rw [hX, if_neg (by decide)], by unfold txtS; rw [hE, r3]⟩
theorem txt34 {T : ByteArray} {a x : Nat} {most : Int} (h2 : most ≤ 9223372036854775807) (h : numX T a x = 0) (hm : ¬ max most 0 < (numV T a x : Int)) : txtX T a x most = rawX T (numA T a x) 0 (numV T a x : Int) ∧ txtA T a x most = (if rawX T (numA T a x) 0 (numV T a x : Int) = 0 then rawA T (numA T a x) 0 (numV T a x : Int) else a) ∧ txtS T a x most = rawS T (numA T a x) 0 (numV T a x : Int) := by
  have hE : txtE T a x most = 0 := by unfold txtE; rw [if_neg hm, h]
  have hK : txtK T a x = (numV T a x : Int) := by unfold txtK; exact IntWalk.i64_in _ (by omega)
  have hX : txtX T a x most = rawX T (numA T a x) 0 (numV T a x : Int) := by unfold txtX; rw [hE, hK]
  exact ⟨hX, by unfold txtA; rw [hX, hE, hK], by unfold txtS; rw [hE, hK]⟩

set_option maxHeartbeats 800000 in
theorem ctxt_one (T : ByteArray) (a x : Nat) (most : Int) (_h1 : -9223372036854775808 ≤ most) (_h2 : most ≤ 9223372036854775807) (ha : a ≤ T.size) (hT : T.size ≤ 1000000) (hX : numX T a x ≠ 0) (w : World) :
    Calls Try.prog 15 #[cu T a x, .int .i64 most] w fun e w' => e = .returned (.tuple #[cu T (txtA T a x most) (txtX T a x most), .string (txtS T a x most)]) ∧ Below w.heap.size w w' := by
  have c1 := fun W => cnum_any T a x ha hT W
  have hAl := numA_le (T := T) (a := a) (x := x) ha
  have hvl := numV_lt T a x
  obtain ⟨e1, e2, e3⟩ := txt1 (most := most) hX
  rw [e1, e2, e3]
  have hv0 := numV_zero hX
  rw [hv0] at c1
  have z1 : ((numX T a x : Int) == 0) = false := by rw [beq_eq_false_iff_ne]; omega
  have z2 : ((numX T a x : Int) != 0) = true := by simp; omega
  generalize numA T a x = A at *
  generalize numX T a x = X at *
  have C1 := Box.mk c1
  clear c1 e1 e2 e3 hv0 hvl
  unfold cu at C1 ⊢
  go_enter Try.func15, Try.ntmps15
  go_wp2_with (go_at_call 13; ((with_reducible refine (C1.out _).mono ?_); rintro e w1 ⟨rfl, b1⟩; have B1 := Box.mk (bch (((Below.refl _ _).alloc (Nat.le_refl _) _).alloc (by simp) _) (b1.alloc b1.size (.cells #[.string T, .int .i64 (A : Int), .int .i64 (X : Int)] 38))); obtain ⟨⟨m0, m1, m2⟩, ⟨f0, f1, f2⟩, ⟨n0, n1, n2⟩, ⟨g0, g1, g2⟩⟩ := two3 (w := w) (b1.alloc b1.size (.cells #[.string T, .int .i64 (A : Int), .int .i64 (X : Int)] 38)) rfl;  have ts := b1.size; simp at ts; clear b1))
  refine bodyPost_ret (v := .tuple #[.agg #[.string T, .int .i64 (a : Int), .int .i64 (X : Int)], .string ⟨#[]⟩]) (by simp [results, go_sem, *]) rfl ⟨rfl, ?_⟩
  exact (((B1.out.setCell (Nat.le_refl _) _).setCell (Nat.le_succ _) _).setCell (Nat.le_succ _) _).setCell (Nat.le_succ _) _

set_option maxHeartbeats 800000 in
theorem ctxt_two (T : ByteArray) (a x : Nat) (most : Int) (h1 : -9223372036854775808 ≤ most) (h2 : most ≤ 9223372036854775807) (ha : a ≤ T.size) (hT : T.size ≤ 1000000) (hX : numX T a x = 0) (hm : max most 0 < (numV T a x : Int)) (w : World) :
    Calls Try.prog 15 #[cu T a x, .int .i64 most] w fun e w' => e = .returned (.tuple #[cu T (txtA T a x most) (txtX T a x most), .string (txtS T a x most)]) ∧ Below w.heap.size w w' := by
  have c1 := fun W => cnum_any T a x ha hT W
  have hAl := numA_le (T := T) (a := a) (x := x) ha
  have hvl := numV_lt T a x
  obtain ⟨e1, e2, e3⟩ := txt2 hX hm
  rw [e1, e2, e3]
  rw [hX] at c1
  generalize numA T a x = A at *
  generalize numV T a x = N at *
  have C1 := Box.mk c1
  have hd : (most < 0 ∧  0 < N) ∨ (0 ≤ most ∧ IntKind.u64.wrap most = most ∧  most < (N : Int)) := by
    by_cases h : most < 0
    · exact .inl ⟨h, by omega⟩
    · refine .inr ⟨by omega, ?_, by omega⟩
      obtain ⟨m, rfl⟩ : ∃ m : Nat, most = m := ⟨most.toNat, by omega⟩
      exact u64small (by omega)
  clear c1 e1 e2 e3 hX hm
  unfold cu at C1 ⊢
  have z0 : ((0 : Nat) : Int) = 0 := rfl
  have z12 : ((12 : Nat) : Int) = 12 := rfl
  simp only [z0, z12] at C1 ⊢
  clear z0 z12
  rcases hd with ⟨d1, d2⟩ | ⟨d1, d3, d4⟩
  all_goals
    go_enter Try.func15, Try.ntmps15
    go_wp2_with (go_at_call 13; ((with_reducible refine (C1.out _).mono ?_); rintro e w1 ⟨rfl, b1⟩; have B1 := Box.mk (bch (((Below.refl _ _).alloc (Nat.le_refl _) _).alloc (by simp) _) (b1.alloc b1.size (.cells #[.string T, .int .i64 (A : Int), .int .i64 12] 38))); obtain ⟨⟨m0, m1, m2⟩, ⟨f0, f1, f2⟩, ⟨n0, n1, n2⟩, ⟨g0, g1, g2⟩⟩ := two3 (w := w) (b1.alloc b1.size (.cells #[.string T, .int .i64 (A : Int), .int .i64 0] 38)) rfl; obtain ⟨⟨m3, m4, m5⟩, ⟨f3, f4, f5⟩, ⟨n3, n4, n5⟩, ⟨g3, g4, g5⟩⟩ := two3 (w := w) (b1.alloc b1.size (.cells #[.string T, .int .i64 (A : Int), .int .i64 12] 38)) rfl; have ts := b1.size; simp at ts; clear b1))
    have hle : w.heap.size ≤ w1.heap.size := by omega
    refine bodyPost_ret (v := .tuple #[.agg #[.string T, .int .i64 (a : Int), .int .i64 12], .string ⟨#[]⟩]) (by simp [results, go_sem, *]) rfl ⟨rfl, ?_⟩
    exact ((((B1.out.setCell (Nat.le_refl _) _).setCell (Nat.le_succ _) _).setCell (Nat.le_succ _) _).setCell (Nat.le_succ _) _)

set_option maxHeartbeats 800000 in
theorem ctxt_three (T : ByteArray) (a x : Nat) (most : Int) (h1 : -9223372036854775808 ≤ most) (h2 : most ≤ 9223372036854775807) (ha : a ≤ T.size) (hT : T.size ≤ 1000000) (hX : numX T a x = 0) (hm : ¬ max most 0 < (numV T a x : Int)) (hs : T.size - numA T a x < numV T a x) (w : World) :
    Calls Try.prog 15 #[cu T a x, .int .i64 most] w fun e w' => e = .returned (.tuple #[cu T (txtA T a x most) (txtX T a x most), .string (txtS T a x most)]) ∧ Below w.heap.size w w' := by
  have c1 := fun W => cnum_any T a x ha hT W
  have hAl := numA_le (T := T) (a := a) (x := x) ha
  have hvl := numV_lt T a x
  obtain ⟨e1, e2, e3⟩ := txt34 h2 hX hm
  have hc : ¬ (0 ≤ (numV T a x : Int) ∧ (numV T a x : Int) ≤ ((T.size - numA T a x : Nat) : Int)) := by omega
  have r1 : rawX T (numA T a x) 0 (numV T a x : Int) = 2 := by unfold rawX; rw [if_pos rfl, if_neg hc]
  have r3 : rawS T (numA T a x) 0 (numV T a x : Int) = ⟨#[]⟩ := by unfold rawS; rw [if_neg (fun h => hc h.2)]
  rw [r1] at e1 e2
  rw [if_neg (by decide)] at e2
  rw [e1, e2, e3, r3]
  rw [hX] at c1
  clear r1 r3 hc
  generalize numA T a x = A at *
  generalize numV T a x = N at *
  obtain ⟨Y, hY⟩ : ∃ Y, Y = T.size - A := ⟨_, rfl⟩
  have ey : (T.size : Int) - (A : Int) = (Y : Int) := by omega
  have ny : IntKind.u64.wrap (Y : Int) = (Y : Int) := u64small (by omega)
  have dn : Y < N := by omega
  have C1 := Box.mk c1
  have hd : (most < 0 ∧ N = 0) ∨ (0 ≤ most ∧ ¬ most < 0 ∧ IntKind.u64.wrap most = most ∧ ¬ most < (N : Int)) := by
    by_cases h : most < 0
    · exact .inl ⟨h, by omega⟩
    · refine .inr ⟨by omega, h, ?_, by omega⟩
      obtain ⟨m, rfl⟩ : ∃ m : Nat, most = m := ⟨most.toNat, by omega⟩
      exact u64small (by omega)
  clear c1 e1 e2 e3 hX hm hY hs
  unfold cu at C1 ⊢
  have z0 : ((0 : Nat) : Int) = 0 := rfl
  have z12 : ((2 : Nat) : Int) = 2 := rfl
  simp only [z0, z12] at C1 ⊢
  clear z0 z12
  rcases hd with ⟨d1, d2⟩ | ⟨d1, d2, d3, d4⟩
  · omega
  go_enter Try.func15, Try.ntmps15
  go_wp2_with (go_at_call 13; ((with_reducible refine (C1.out _).mono ?_); rintro e w1 ⟨rfl, b1⟩; have B1 := Box.mk (bch (((Below.refl _ _).alloc (Nat.le_refl _) _).alloc (by simp) _) (b1.alloc b1.size (.cells #[.string T, .int .i64 (A : Int), .int .i64 2] 38))); obtain ⟨⟨m0, m1, m2⟩, ⟨f0, f1, f2⟩, ⟨n0, n1, n2⟩, ⟨g0, g1, g2⟩⟩ := two3 (w := w) (b1.alloc b1.size (.cells #[.string T, .int .i64 (A : Int), .int .i64 0] 38)) rfl; obtain ⟨⟨m3, m4, m5⟩, ⟨f3, f4, f5⟩, ⟨n3, n4, n5⟩, ⟨g3, g4, g5⟩⟩ := two3 (w := w) (b1.alloc b1.size (.cells #[.string T, .int .i64 (A : Int), .int .i64 2] 38)) rfl; have ts := b1.size; simp at ts; clear b1))
  refine bodyPost_ret (v := .tuple #[.agg #[.string T, .int .i64 (a : Int), .int .i64 2], .string ⟨#[]⟩]) (by simp [results, go_sem, *]) rfl ⟨rfl, ?_⟩
  exact ((((B1.out.setCell (Nat.le_refl _) _).setCell (Nat.le_succ _) _).setCell (Nat.le_succ _) _).setCell (Nat.le_succ _) _)

set_option maxHeartbeats 800000 in
theorem ctxt_four (T : ByteArray) (a x : Nat) (most : Int) (h1 : -9223372036854775808 ≤ most) (h2 : most ≤ 9223372036854775807) (ha : a ≤ T.size) (hT : T.size ≤ 1000000) (hX : numX T a x = 0) (hm : ¬ max most 0 < (numV T a x : Int)) (hs : ¬ T.size - numA T a x < numV T a x) (w : World) :
    Calls Try.prog 15 #[cu T a x, .int .i64 most] w fun e w' => e = .returned (.tuple #[cu T (txtA T a x most) (txtX T a x most), .string (txtS T a x most)]) ∧ Below w.heap.size w w' := by
  have c1 := fun W => cnum_any T a x ha hT W
  have hAl := numA_le (T := T) (a := a) (x := x) ha
  have hvl := numV_lt T a x
  obtain ⟨e1, e2, e3⟩ := txt34 h2 hX hm
  have hc : 0 ≤ (numV T a x : Int) ∧ (numV T a x : Int) ≤ ((T.size - numA T a x : Nat) : Int) := by omega
  have r1 : rawX T (numA T a x) 0 (numV T a x : Int) = 0 := by unfold rawX; rw [if_pos rfl, if_pos hc]
  rw [r1] at e1 e2
  rw [if_pos rfl] at e2
  have c2 := fun W => crawl_any T (numA T a x) 0 (numV T a x : Int) hAl hT W
  rw [r1] at c2
  rw [e1, e2, e3]
  rw [hX] at c1
  have hv6 : numV T a x ≤ 1000000 := by omega
  clear r1 hc
  generalize rawA T (numA T a x) 0 (numV T a x : Int) = RA at *
  generalize rawS T (numA T a x) 0 (numV T a x : Int) = RS at *
  generalize numA T a x = A at *
  generalize numV T a x = N at *
  obtain ⟨Y, hY⟩ : ∃ Y, Y = T.size - A := ⟨_, rfl⟩
  have ey : (T.size : Int) - (A : Int) = (Y : Int) := by omega
  have ny : IntKind.u64.wrap (Y : Int) = (Y : Int) := u64small (by omega)
  have dn : ¬ Y < N := by omega
  have nN : IntKind.i64.wrap (N : Int) = (N : Int) := IntWalk.i64_in _ (by omega)
  have C1 := Box.mk c1; have C2 := Box.mk c2
  have hd : (most < 0 ∧ N = 0) ∨ (0 ≤ most ∧ ¬ most < 0 ∧ IntKind.u64.wrap most = most ∧ ¬ most < (N : Int)) := by
    by_cases h : most < 0
    · exact .inl ⟨h, by omega⟩
    · refine .inr ⟨by omega, h, ?_, by omega⟩
      obtain ⟨m, rfl⟩ : ∃ m : Nat, most = m := ⟨most.toNat, by omega⟩
      exact u64small (by omega)
  clear c1 c2 e1 e2 e3 hX hm hY hs
  unfold cu at C1 C2 ⊢
  have z0 : ((0 : Nat) : Int) = 0 := rfl
  rcases hd with ⟨d1, d2⟩ | ⟨d1, d2, d3, d4⟩
  all_goals
    (try subst d2)
    simp only [z0] at C1 C2 ⊢
    clear z0
    go_enter Try.func15, Try.ntmps15
    go_wp2_with (first
      | (go_at_call 13; ((with_reducible refine (C1.out _).mono ?_); rintro e w1 ⟨rfl, b1⟩; have B1 := Box.mk (bch (((Below.refl _ _).alloc (Nat.le_refl _) _).alloc (by simp) _) (b1.alloc b1.size (.cells #[.string T, .int .i64 (A : Int), .int .i64 0] 38))); obtain ⟨⟨m0, m1, m2⟩, ⟨f0, f1, f2⟩, ⟨n0, n1, n2⟩, ⟨g0, g1, g2⟩⟩ := two3 (w := w) (b1.alloc b1.size (.cells #[.string T, .int .i64 (A : Int), .int .i64 0] 38)) rfl; have Q1 := Box.mk (b1.alloc b1.size (.cells #[.string T, .int .i64 (A : Int), .int .i64 0] 38)); have ts := b1.size; simp at ts; clear b1))
      | (go_at_call 17; ((with_reducible refine (C2.out _).mono ?_); rintro e w2 ⟨rfl, b2⟩; have B2 := Box.mk (bch B1.out b2); obtain ⟨_, _, ⟨n3, n4, n5⟩, ⟨g3, g4, g5⟩⟩ := two3 (w := w) (bch Q1.out b2) rfl; clear b2)))
    refine bodyPost_ret (v := .tuple #[.agg #[.string T, .int .i64 (RA : Int), .int .i64 0], .string RS]) (by simp [results, go_sem, *]) rfl ⟨rfl, ?_⟩
    exact ((B2.out.setCell (Nat.le_succ _) _).setCell (Nat.le_succ _) _).setCell (Nat.le_succ _) _

theorem ctxt_any (T : ByteArray) (a x : Nat) (most : Int) (h1 : -9223372036854775808 ≤ most) (h2 : most ≤ 9223372036854775807) (ha : a ≤ T.size) (hT : T.size ≤ 1000000) (w : World) :
    Calls Try.prog 15 #[cu T a x, .int .i64 most] w fun e w' => e = .returned (.tuple #[cu T (txtA T a x most) (txtX T a x most), .string (txtS T a x most)]) ∧ Below w.heap.size w w' := by
  by_cases hX : numX T a x = 0
  · by_cases hm : max most 0 < (numV T a x : Int)
    · exact ctxt_two T a x most h1 h2 ha hT hX hm w
    · by_cases hs : T.size - numA T a x < numV T a x
      · exact ctxt_three T a x most h1 h2 ha hT hX hm hs w
      · exact ctxt_four T a x most h1 h2 ha hT hX hm hs w
  · exact ctxt_one T a x most h1 h2 ha hT hX w

set_option maxHeartbeats 400000 in
theorem cdone_any (T : ByteArray) (a x : Nat) (w : World) :
    Calls Try.prog 21 #[cu T a x] w fun e w' => e = .returned (cu T a (if x = 0 ∧ a < T.size then 3 else x)) ∧ Below w.heap.size w w' := by
  unfold cu
  by_cases hx : x = 0
  · subst hx
    by_cases hs : a < T.size
    · rw [if_pos ⟨rfl, hs⟩]
      go_enter Try.func21, Try.ntmps21
      go_wp2
      refine bodyPost_ret (v := .agg #[.string T, .int .i64 (a : Int), .int .i64 3]) (by simp [results, go_sem, *]) rfl ⟨rfl, ?_⟩
      exact ((Below.refl _ _).alloc (Nat.le_refl _) _).alloc (by simp) _
    · rw [if_neg (fun h => hs h.2)]
      go_enter Try.func21, Try.ntmps21
      go_wp2
      refine bodyPost_ret (v := .agg #[.string T, .int .i64 (a : Int), .int .i64 0]) (by simp [results, go_sem, *]) rfl ⟨rfl, ?_⟩
      exact ((Below.refl _ _).alloc (Nat.le_refl _) _).alloc (by simp) _
  · rw [if_neg (fun h => hx h.1)]
    have z1 : ((x : Int) == 0) = false := by rw [beq_eq_false_iff_ne]; omega
    go_enter Try.func21, Try.ntmps21
    go_wp2
    refine bodyPost_ret (v := .agg #[.string T, .int .i64 (a : Int), .int .i64 (x : Int)]) (by simp [results, go_sem, *]) rfl ⟨rfl, ?_⟩
    exact ((Below.refl _ _).alloc (Nat.le_refl _) _).alloc (by simp) _
end Go.Proofs.Ytdhbeeeofaheeaa
