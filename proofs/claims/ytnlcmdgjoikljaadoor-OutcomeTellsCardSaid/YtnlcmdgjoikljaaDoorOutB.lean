/- States of tests: isState, Compare. -/
import Derived.Test.YtnlcmdgjoikljaaDoorOutA
import Derived.Deep.RegionHeld3
import Derived.Deep.MidRow
import Derived.IntWalk
namespace Go.Proofs.YtnlcmdgjoikljaaDoor
set_option maxRecDepth 100000
open Go.RowKit

/-- a state: how many numbers, and forty numbers -/
structure StM where
  n : Int
  v : List Int
  len : v.length = 40
/-- its cells -/
def stC (s : StM) : List Value := .int .i64 s.n :: s.v.map (Value.int .u64)
abbrev stA (s : StM) : Array Value := (stC s).toArray
def StOk (s : StM) : Prop := s.v.length = 40
theorem stOk (s : StM) : StOk s := s.len
theorem stC_len {s : StM} (h : StOk s) : (stC s).length = 41 := by
  unfold StOk at h
  simp [stC, h]
theorem stC_one (s : StM) : ∀ u ∈ stC s, u.oneCell' = true := by
  intro u hu
  rcases List.mem_cons.1 hu with rfl | hu
  · rfl
  · obtain ⟨x, _, rfl⟩ := List.mem_map.1 hu; rfl
theorem stC_num {s : StM} {i : Nat} {x : Int} (h : s.v[i]? = some x) : (stC s)[1 + i]? = some (.int .u64 x) := by
  rw [Nat.add_comm, stC, List.getElem?_cons_succ, List.getElem?_map, h]; rfl
/-- a state lies in a block from o on -/
theorem stA_at {w : World} {b : Nat} {s : StM} {T : TypeId} (h : w.heap[b]? = some (.cells (stA s) T)) : w.cell? ⟨b, 0, none⟩ = some (.int .i64 s.n) ∧ ∀ i x, s.v[i]? = some x → w.cell? ⟨b, 1 + i, none⟩ = some (.int .u64 x) := by
  refine ⟨by rw [cOf h]; simp [stA, stC], fun i x hx => ?_⟩
  rw [cOf h]
  have := stC_num hx
  simpa [stA] using this
/-- whether it has a possible number of numbers, and zeros behind them -/
def isSt (s : StM) : Bool := decide (0 ≤ s.n) && decide (s.n ≤ 40) && !((s.v.drop s.n.toNat).any fun x => decide (x ≠ 0))
set_option maxHeartbeats 1600000 in
theorem isState_any (s : StM) (hs : StOk s) (w : World) :
    Calls Tryd.prog 37 #[.agg (stA s)] w fun e w' => e = .returned (.bool (isSt s)) ∧ Below w.heap.size w w' := by
  have hat := stA_at (heap_alloc_new w (.cells (stA s) 44))
  obtain ⟨h0, hc⟩ := hat
  have hss : s.v.length = 40 := hs
  unfold isSt
  generalize stA s = A at *
  generalize s.n = n at *
  by_cases h1 : n < 0
  · have hneg : ¬ (0 ≤ n) := by omega
    rw [decide_eq_false hneg]
    clear hc hs hss hneg
    go_enter Tryd.func37, Tryd.ntmps37
    go_wp2
    go_ret
    exact ⟨by simp, aset _ _⟩
  by_cases h2 : 40 < n
  · have hneg : ¬ (n ≤ 40) := by omega
    rw [decide_eq_false hneg]
    clear hc hs hss hneg
    go_enter Tryd.func37, Tryd.ntmps37
    go_wp2
    go_ret
    exact ⟨by simp, aset _ _⟩
  have hn0 : 0 ≤ n := by omega
  have hn4 : n ≤ 40 := by omega
  obtain ⟨m, rfl⟩ := Int.eq_ofNat_of_zero_le hn0
  rw [decide_eq_true hn0, decide_eq_true hn4, Bool.true_and, Bool.true_and, Int.toNat_natCast]
  by_cases h3 : m = 40
  · subst h3
    have hd : s.v.drop 40 = [] := List.drop_of_length_le (by omega)
    rw [hd]
    have cl := fun (b o c : Nat) W => hasSet_any [] b o c 0 rfl (by omega) W (fun i x h => by simp at h)
    have CL := Bx.mk cl
    clear cl hc hs hss hd h1 h2 hn0 hn4
    go_enter Tryd.func37, Tryd.ntmps37
    go_wp2_with (go_at_call 57; ((with_reducible refine (CL.out _ _ _ _).mono ?_); rintro e w' ⟨rfl, rfl⟩))
    go_ret
    exact ⟨by simp, aset _ _⟩
  · have hm : m < 40 := by omega
    have cl := hasSet_any (s.v.drop m) w.heap.size (1 + m) (40 - m) (40 - m) (by rw [List.length_drop, hss]) (by omega) (w.alloc (.cells A 44)) (fun i x h => by
      rw [List.getElem?_drop] at h
      have := hc (m + i) x h
      rwa [show 1 + m + i = 1 + (m + i) by omega])
    generalize ((s.v.drop m).any fun x => decide (x ≠ 0)) = R at *
    have CL := Bx.mk cl
    clear cl hc hs hss h3 hn4
    go_enter Tryd.func37, Tryd.ntmps37
    go_wp2_with (go_at_call 57; ((with_reducible refine (CL.out).mono ?_); rintro e w' ⟨rfl, rfl⟩))
    go_ret
    exact ⟨rfl, aset _ _⟩

/-- states by the first number that is unlike -/
def cmpSt (a b : StM) : Int := firstNZ [cmpI a.n b.n, cmpLs a.v b.v]
set_option maxHeartbeats 3200000 in
theorem compareSt_any (a b : StM) (ha : StOk a) (hb : StOk b) (w : World) :
    Calls Tryd.prog 17 #[.agg (stA a), .agg (stA b)] w fun e w' => e = .returned (.int .i64 (cmpSt a b)) ∧ Below w.heap.size w w' := by
  obtain ⟨w0, hw0⟩ : ∃ w0, w0 = (w.alloc (.cells (stA a) 44)).alloc (.cells (stA b) 44) := ⟨_, rfl⟩
  have hbA : Below w.heap.size w w0 := by rw [hw0]; exact (aset _ _).alloc (by simp) _
  have A1 := stA_at (w := w0) (b := w.heap.size) (s := a) (T := 44) (by
    rw [hw0]
    exact ((aset (w.alloc (.cells (stA a) 44)) (.cells (stA b) 44)).block w.heap.size (by simp)).trans (heap_alloc_new _ _))
  have A2 := stA_at (w := w0) (b := w.heap.size + 1) (s := b) (T := 44) (by
    rw [hw0]
    have := heap_alloc_new (w.alloc (.cells (stA a) 44)) (.cells (stA b) 44)
    simpa using this)
  obtain ⟨q0, hc1⟩ := A1
  obtain ⟨q1, hc2⟩ := A2
  have c3 := fun W => compareI_any a.n b.n W
  have c4 : ∀ W, Below w0.heap.size w0 W → Calls Tryd.prog 36 #[.slice (some ⟨w.heap.size, 1, none⟩) 40 40, .slice (some ⟨w.heap.size + 1, 1, none⟩) 40 40] W fun e w' => e = .returned (.int .i64 (cmpLs a.v b.v)) ∧ W = w' := fun W hW =>
    compareLs_any a.v b.v w.heap.size 1 (w.heap.size + 1) 1 40 40 40 ha hb (by omega) W (fun i x h => cBel (hc1 i x h) hW) (fun i x h => cBel (hc2 i x h) hW)
  have c5 : ∀ (g : Nat) (W : World), W.heap[g]? = some (.cells #[.int .i64 (cmpI a.n b.n), .int .i64 (cmpLs a.v b.v)] 3) → Calls Tryd.prog 34 #[.slice (some ⟨g, 0, none⟩) 2 2] W fun e w' => e = .returned (.int .i64 (cmpSt a b)) ∧ W = w' := fun g W hW =>
    orInt_any [cmpI a.n b.n, cmpLs a.v b.v] g 2 rfl (by decide) _ (fun j x hx => by
      rw [cOf hW]
      match j, hx with
      | 0, hx => simp at hx; subst hx; rfl
      | 1, hx => simp at hx; subst hx; rfl
      | j + 2, hx => simp at hx)
  generalize cmpSt a b = R at *
  generalize cmpI a.n b.n = k1 at *
  generalize cmpLs a.v b.v = k2 at *
  generalize a.n = x0 at *
  generalize b.n = y0 at *
  generalize stA a = AA at *
  generalize stA b = AB at *
  have C3 := Bx.mk c3; have C4 := Bx.mk c4; have C5 := Bx.mk c5
  clear c3 c4 c5 hc1 hc2 ha hb
  have HW0 := Bx.mk hw0
  have H5 : Bx ((w0.alloc (.cells #[.int .i64 k1, .int .i64 k2] 3)).drew.heap[w0.heap.size]? = some (.cells #[.int .i64 k1, .int .i64 k2] 3)) := ⟨heap_alloc_new w0 _⟩
  clear hw0
  go_enter Tryd.func17, Tryd.ntmps17
  go_wp2_with fail
  simp only [← HW0.out]
  go_region_held3 (fun W => W.cell? ⟨w.heap.size, 0, none⟩ = some (.int .i64 x0) ∧ W.cell? ⟨w.heap.size + 1, 0, none⟩ = some (.int .i64 y0) ∧ Below w0.heap.size w0 W)
    (first
      | (exact ⟨q0, q1, (Below.refl _ _).drew⟩)
      | (go_split_ands; refine ⟨cBel (by assumption) (by first | assumption | exact Below.refl _ _ | exact aset _ _), cBel (by assumption) (by first | assumption | exact Below.refl _ _ | exact aset _ _), bel (by assumption) (by first | assumption | exact Below.refl _ _ | exact aset _ _)⟩))
    (first
      | (go_at_call 35; ((with_reducible refine (C3.out _).mono ?_); rintro e w1 ⟨rfl, rfl⟩))
      | (go_at_call 36; ((with_reducible refine (C4.out _ ((fun (hh : _ ∧ _ ∧ Below w0.heap.size w0 _) => hh.2.2) (by assumption))).mono ?_); rintro e w1 ⟨rfl, rfl⟩))
      | (go_at_call 34; ((with_reducible refine (C5.out w0.heap.size (w0.alloc (.cells #[.int .i64 k1, .int .i64 k2] 3)).drew H5.out).mono ?_); rintro e w1 ⟨rfl, rfl⟩)))
  rename_i hh
  have hb9 := bel hbA hh.2.2
  clear hh
  go_wp2
  go_ret
  exact ⟨rfl, hb9⟩
end Go.Proofs.YtnlcmdgjoikljaaDoor
