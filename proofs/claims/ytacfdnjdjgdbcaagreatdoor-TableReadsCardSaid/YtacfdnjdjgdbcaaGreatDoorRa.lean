/- PackR, PackS, PackT, in one text. -/
import Derived.Test.YtacfdnjdjgdbcaaGreatDoorHn
import Derived.Deep.RegionWith
import Derived.Deep.RegionHeld3
import Derived.Deep.DeepCutAuto
namespace Go.Proofs.YtacfdnjdjgdbcaaGreatDoor
set_option maxRecDepth 100000
open Go.RowKit M

/-- a cursor -/
def cu (T : ByteArray) (a x : Nat) : Value := .agg #[.string T, .int .i64 (a : Int), .int .i64 (x : Int)]

set_option maxHeartbeats 400000 in
theorem crawl_bad (T : ByteArray) (a x : Nat) (n : Int) (hx : x ≠ 0) (w : World) :
    Calls Tryz.prog 25 #[cu T a x, .int .i64 n] w fun e w' => e = .returned (.tuple #[cu T a x, .string ⟨#[]⟩]) ∧ Below w.heap.size w w' := by
  have d1 : ((x : Int) != 0) = true := by simp; omega
  unfold cu
  go_enter Tryz.func25, Tryz.ntmps25
  go_wp2
  refine bodyPost_ret (v := .tuple #[.agg #[.string T, .int .i64 (a : Int), .int .i64 (x : Int)], .string ⟨#[]⟩]) (by simp [results, go_sem]) rfl ⟨rfl, ?_⟩
  exact ((Below.refl _ _).alloc (Nat.le_refl _) _).alloc (by simp) _

set_option maxHeartbeats 400000 in
theorem crawl_end (T : ByteArray) (a : Nat) (n : Int) (ha : a ≤ T.size) (hT : T.size ≤ 1000000) (hn : n < 0 ∨ ((T.size - a : Nat) : Int) < n) (w : World) :
    Calls Tryz.prog 25 #[cu T a 0, .int .i64 n] w fun e w' => e = .returned (.tuple #[cu T a 2, .string ⟨#[]⟩]) ∧ Below w.heap.size w w' := by
  obtain ⟨y, hy⟩ : ∃ y, y = T.size - a := ⟨_, rfl⟩
  have ey : (T.size : Int) - (a : Int) = (y : Int) := by omega
  rw [← hy] at hn
  have hc : decide (n < 0) = true ∨ (decide (n < 0) = false ∧ decide ((y : Int) < n) = true) := by
    by_cases h : n < 0
    · exact .inl (by simpa using h)
    · exact .inr ⟨by simpa using h, by simp; omega⟩
  clear hn hy
  unfold cu
  rcases hc with d1 | ⟨d1, d2⟩
  all_goals
    go_enter Tryz.func25, Tryz.ntmps25
    go_wp2
    refine bodyPost_ret (v := .tuple #[.agg #[.string T, .int .i64 (a : Int), .int .i64 2], .string ⟨#[]⟩]) (by simp [results, go_sem]) rfl ⟨rfl, ?_⟩
    exact ((Below.refl _ _).alloc (Nat.le_refl _) _).alloc (by simp) _

set_option maxHeartbeats 400000 in
theorem crawl_ok (T : ByteArray) (a n : Nat) (hT : T.size ≤ 1000000) (hn : a + n ≤ T.size) (w : World) :
    Calls Tryz.prog 25 #[cu T a 0, .int .i64 (n : Int)] w fun e w' => e = .returned (.tuple #[cu T (a + n) 0, .string (T.extract a (a + n))]) ∧ Below w.heap.size w w' := by
  obtain ⟨y, hy⟩ : ∃ y, y = T.size - a := ⟨_, rfl⟩
  have ey : (T.size : Int) - (a : Int) = (y : Int) := by omega
  have d1 : decide ((n : Int) < 0) = false := by simp
  have d2 : decide ((y : Int) < (n : Int)) = false := by simp; omega
  obtain ⟨m, hm⟩ : ∃ m, m = a + n := ⟨_, rfl⟩
  have em : (a : Int) + (n : Int) = (m : Int) := by omega
  have h1 : a ≤ m := by omega
  have h2 : m ≤ T.size := by omega
  rw [← hm]
  clear hm hy hn
  unfold cu
  go_enter Tryz.func25, Tryz.ntmps25
  go_wp2
  refine bodyPost_ret (v := .tuple #[.agg #[.string T, .int .i64 (m : Int), .int .i64 0], .string (T.extract a m)]) (by simp [results, go_sem]) rfl ⟨rfl, ?_⟩
  exact ((Below.refl _ _).alloc (Nat.le_refl _) _).alloc (by simp) _

theorem crawl_any (T : ByteArray) (a x : Nat) (n : Int) (ha : a ≤ T.size) (hT : T.size ≤ 1000000) (w : World) :
    Calls Tryz.prog 25 #[cu T a x, .int .i64 n] w fun e w' => e = .returned (.tuple #[cu T (rawA T a x n) (rawX T a x n), .string (rawS T a x n)]) ∧ Below w.heap.size w w' := by
  by_cases hx : x = 0
  · subst hx
    by_cases hn : 0 ≤ n ∧ n ≤ ((T.size - a : Nat) : Int)
    · obtain ⟨k, rfl⟩ := Int.eq_ofNat_of_zero_le hn.1
      have h := crawl_ok T a k hT (by omega) w
      unfold rawA rawX rawS
      rw [if_pos ⟨rfl, hn⟩, if_pos rfl, if_pos hn, if_pos ⟨rfl, hn⟩, Int.toNat_natCast]
      exact h
    · have h := crawl_end T a n ha hT (by omega) w
      unfold rawA rawX rawS
      rw [if_neg (fun h => hn h.2), if_pos rfl, if_neg hn, if_neg (fun h => hn h.2)]
      exact h
  · have h := crawl_bad T a x n hx w
    unfold rawA rawX rawS
    rw [if_neg (fun h => hx h.1), if_neg hx, if_neg (fun h => hx h.1)]
    exact h
end Go.Proofs.YtacfdnjdjgdbcaaGreatDoor
namespace Go.Proofs.YtacfdnjdjgdbcaaGreatDoor
set_option maxRecDepth 100000
open Go.RowKit M

theorem two3 {w W0 W : World} {a b c d e f : Value} {t u : TypeId} (hb : Below W0.heap.size W0 W) (h0 : W0.heap = ((w.alloc (.cells #[a, b, c] t)).alloc (.cells #[d, e, f] u)).heap) :
    (W.cell? ⟨w.heap.size, 0, none⟩ = some a ∧ W.cell? ⟨w.heap.size, 1, none⟩ = some b ∧ W.cell? ⟨w.heap.size, 2, none⟩ = some c) ∧
    (W.frozen? ⟨w.heap.size, 0, none⟩ = false ∧ W.frozen? ⟨w.heap.size, 1, none⟩ = false ∧ W.frozen? ⟨w.heap.size, 2, none⟩ = false) ∧
    (W.cell? ⟨w.heap.size + 1, 0, none⟩ = some d ∧ W.cell? ⟨w.heap.size + 1, 1, none⟩ = some e ∧ W.cell? ⟨w.heap.size + 1, 2, none⟩ = some f) ∧
    (W.frozen? ⟨w.heap.size + 1, 0, none⟩ = false ∧ W.frozen? ⟨w.heap.size + 1, 1, none⟩ = false ∧ W.frozen? ⟨w.heap.size + 1, 2, none⟩ = false) := by
  have e1 : W.heap[w.heap.size]? = some (.cells #[a, b, c] t) := by
    rw [hb.block w.heap.size (by rw [h0]; simp; omega), h0, heap_alloc_old _ _ (by simp)]
    exact heap_alloc_new w _
  have e2 : W.heap[w.heap.size + 1]? = some (.cells #[d, e, f] u) := by
    rw [hb.block (w.heap.size + 1) (by rw [h0]; simp), h0]
    exact heap_alloc2_new w _ _
  have c1 := fun j => cell_of_row W w.heap.size j _ _ _ e1
  have c2 := fun j => cell_of_row W (w.heap.size + 1) j _ _ _ e2
  refine ⟨⟨by rw [c1]; rfl, by rw [c1]; rfl, by rw [c1]; rfl⟩, ⟨?_, ?_, ?_⟩, ⟨by rw [c2]; rfl, by rw [c2]; rfl, by rw [c2]; rfl⟩, ⟨?_, ?_, ?_⟩⟩
  all_goals
    unfold World.frozen?
    simp [e1, e2]

theorem un_snoc' (l : List Nat) (d : Nat) : un (l ++ [d]) = d + 256 * un l := by
  unfold un
  rw [List.reverse_append]
  rfl

set_option maxHeartbeats 600000 in
theorem cfix_any (T : ByteArray) (a x k : Nat) (ha : a ≤ T.size) (hT : T.size ≤ 1000000) (h1 : 1 ≤ k) (h8 : k ≤ 8) (w : World) :
    Calls Tryz.prog 53 #[cu T a x, .int .i64 (k : Int)] w fun e w' => e = .returned (.tuple #[cu T (rawA T a x k) (rawX T a x k), .int .u64 (fixU T a x k : Nat)]) ∧ Below w.heap.size w w' := by
  have c1 := fun W => crawl_any T a x (k : Int) ha hT W
  have hsz := rawS_size T a x k
  have hfx : fixU T a x k = un (sb (rawS T a x (k : Int))) := rfl
  rw [hfx]
  obtain ⟨s, hs⟩ : ∃ s, s = rawS T a x (k : Int) := ⟨_, rfl⟩
  rw [← hs] at c1 hsz ⊢
  have hs8 : s.size ≤ 8 := by omega
  generalize rawA T a x (k : Int) = a1 at *
  generalize rawX T a x (k : Int) = x1 at *
  clear hs hsz hfx
  have hbl := sb_lt s
  have hl := sb_length s
  obtain ⟨L, hL⟩ : ∃ L, L = sb s := ⟨_, rfl⟩
  rw [← hL] at hbl hl ⊢
  have hget : ∀ k, k < s.size → L.take (k + 1) = L.take k ++ [bn s k] := fun k hk => by
    rw [List.take_succ_eq_append_getElem (by omega)]
    have : L[k]'(by omega) = bn s k := by subst hL; simp [sb, bnl]
    rw [this]
  have hun : ∀ k, un (L.take k) < 256 ^ k := fun k => by
    have h := un_lt (l := L.take k) (fun d hd => hbl d (List.mem_of_mem_take hd))
    refine Nat.lt_of_lt_of_le h ?_
    rw [show (256 : Nat) = 2 ^ 8 by decide, ← Nat.pow_mul]
    exact Nat.pow_le_pow_right (by decide) (by rw [List.length_take]; omega)
  have HG := Box.mk hget; have HU := Box.mk hun; have HL := Box.mk hl; have C1 := Box.mk c1
  clear hget hun hbl hL hl c1
  unfold cu at C1 ⊢
  go_enter Tryz.func53, Tryz.ntmps53
  go_wp2_with (go_at_call 25; ((with_reducible refine (C1.out _).mono ?_); rintro e w1 ⟨rfl, b1⟩; obtain ⟨⟨m0, m1, m2⟩, ⟨f0, f1, f2⟩, ⟨n0, n1, n2⟩, ⟨g0, g1, g2⟩⟩ := two3 (w := w) b1 rfl; have B1 := Box.mk (bch (((Below.refl _ _).alloc (Nat.le_refl _) _).alloc (by simp) _) b1); clear b1))
  go_loop [7, 8] (fun x i => ∃ k : Nat, k ≤ s.size ∧ i = .int .i64 (k : Int) ∧ x = .int .u64 ((un (L.take k) : Nat) : Int)) (fun _ i => s.size - (intOf i).toNat)
  case atStart => exact ⟨0, by omega, rfl, by simp [un_nil]⟩
  case round =>
    obtain ⟨k, hk, rfl, rfl⟩ := hrel
    by_cases hlt : k < s.size
    · have hu := HU.out k
      have hu7 : un (L.take k) < 256 ^ 7 := Nat.lt_of_lt_of_le hu (Nat.pow_le_pow_right (by decide) (by omega))
      have hu7 : un (L.take k) < 72057594037927936 := hu7
      have hsn := un_snoc' (L.take k) (bn s k)
      rw [← HG.out k hlt] at hsn
      have hle := bn_le s k
      have HSN := Box.mk hsn
      rw [← bn_of hlt] at hle
      clear hsn hu
      generalize un (L.take k) = x at *
      go_wp2
      go_round
      case rel => exact ⟨k + 1, by omega, by go_num, by rw [HSN.out, ← bn_of hlt]; go_num⟩
      case measure => simp [intOf]; omega
    · obtain rfl : k = s.size := by omega
      have e : L.take s.size = L := List.take_of_length_le (by rw [HL.out]; omega)
      rw [e]
      go_wp2
      refine bodyPost_ret (v := .tuple #[.agg #[.string T, .int .i64 (a1 : Int), .int .i64 (x1 : Int)], .int .u64 ((un L : Nat) : Int)]) (by simp [results, go_sem, *]) rfl ⟨rfl, ?_⟩
      exact (((((B1.out.setCell (Nat.le_refl _) _).setCell (Nat.le_refl _) _).setCell (Nat.le_refl _) _).setCell (Nat.le_succ _) _).setCell (Nat.le_succ _) _).setCell (Nat.le_succ _) _
end Go.Proofs.YtacfdnjdjgdbcaaGreatDoor
namespace Go.Proofs.YtacfdnjdjgdbcaaGreatDoor
set_option maxRecDepth 100000
open Go.RowKit M

/-- a cursor's variable -/
structure Cur (w : World) (b : Nat) (T : ByteArray) (a x : Nat) : Prop where
  c0 : w.cell? ⟨b, 0, none⟩ = some (.string T)
  c1 : w.cell? ⟨b, 1, none⟩ = some (.int .i64 (a : Int))
  c2 : w.cell? ⟨b, 2, none⟩ = some (.int .i64 (x : Int))
  f0 : w.frozen? ⟨b, 0, none⟩ = false
  f1 : w.frozen? ⟨b, 1, none⟩ = false
  f2 : w.frozen? ⟨b, 2, none⟩ = false
theorem Cur.below {w w' : World} {b : Nat} {T : ByteArray} {a x : Nat} (h : Cur w b T a x) (hb : Below w.heap.size w w') : Cur w' b T a x := by
  have hlt : b < w.heap.size := World.block_lt_of_cell? w _ h.c0
  exact ⟨by rw [hb.cell hlt]; exact h.c0, by rw [hb.cell hlt]; exact h.c1, by rw [hb.cell hlt]; exact h.c2, by rw [hb.frozen hlt]; exact h.f0, by rw [hb.frozen hlt]; exact h.f1, by rw [hb.frozen hlt]; exact h.f2⟩
theorem Cur.drewN {w : World} {b : Nat} {T : ByteArray} {a x : Nat} (h : Cur w b T a x) (k : Nat) : Cur (w.drewN k) b T a x := ⟨h.c0, h.c1, h.c2, h.f0, h.f1, h.f2⟩
theorem Cur.drew {w : World} {b : Nat} {T : ByteArray} {a x : Nat} (h : Cur w b T a x) : Cur w.drew b T a x := ⟨h.c0, h.c1, h.c2, h.f0, h.f1, h.f2⟩
theorem Cur.of_block {W : World} {b : Nat} {T : ByteArray} {a x : Nat} {t : TypeId} (e : W.heap[b]? = some (.cells #[.string T, .int .i64 (a : Int), .int .i64 (x : Int)] t)) : Cur W b T a x := by
  have hc := fun j => cell_of_row W b j _ _ _ e
  refine ⟨by rw [hc]; rfl, by rw [hc]; rfl, by rw [hc]; rfl, ?_, ?_, ?_⟩
  all_goals
    unfold World.frozen?
    simp [e]
theorem Cur.new (w : World) (T : ByteArray) (a x : Nat) (t : TypeId) : Cur (w.alloc (.cells #[.string T, .int .i64 (a : Int), .int .i64 (x : Int)] t)) w.heap.size T a x := Cur.of_block (heap_alloc_new w _)
theorem Cur.far {w : World} {b g : Nat} {T : ByteArray} {a x : Nat} (h : Cur w b T a x) (o : Nat) (u : Value) (hne : g ≠ b) : Cur (w.setCell ⟨g, o, none⟩ u) b T a x := by
  have n0 : ∀ j, (⟨g, o, none⟩ : Addr) ≠ ⟨b, j, none⟩ := fun j e => hne (by injection e)
  exact ⟨by rw [World.cell?_setCell_other _ _ _ _ (n0 0)]; exact h.c0, by rw [World.cell?_setCell_other _ _ _ _ (n0 1)]; exact h.c1, by rw [World.cell?_setCell_other _ _ _ _ (n0 2)]; exact h.c2, by rw [frozen_setCell]; exact h.f0, by rw [frozen_setCell]; exact h.f1, by rw [frozen_setCell]; exact h.f2⟩
theorem Cur.set3 {w : World} {b : Nat} {T : ByteArray} {a x : Nat} (h : Cur w b T a x) (T' : ByteArray) (a' x' : Nat) :
    Cur (((w.setCell ⟨b, 0, none⟩ (.string T')).setCell ⟨b, 1, none⟩ (.int .i64 (a' : Int))).setCell ⟨b, 2, none⟩ (.int .i64 (x' : Int))) b T' a' x' := by
  have k1 : (w.setCell ⟨b, 0, none⟩ (.string T')).cell? ⟨b, 1, none⟩ = some (.int .i64 (a : Int)) := by rw [World.cell?_setCell_other _ _ _ _ (by simp)]; exact h.c1
  have k2 : ((w.setCell ⟨b, 0, none⟩ (.string T')).setCell ⟨b, 1, none⟩ (.int .i64 (a' : Int))).cell? ⟨b, 2, none⟩ = some (.int .i64 (x : Int)) := by
    rw [World.cell?_setCell_other _ _ _ _ (by simp), World.cell?_setCell_other _ _ _ _ (by simp)]; exact h.c2
  refine ⟨?_, ?_, ?_, ?_, ?_, ?_⟩
  · rw [World.cell?_setCell_other _ _ _ _ (by simp), World.cell?_setCell_other _ _ _ _ (by simp)]; exact World.cell?_setCell_same _ _ _ h.c0
  · rw [World.cell?_setCell_other _ _ _ _ (by simp)]; exact World.cell?_setCell_same _ _ _ k1
  · exact World.cell?_setCell_same _ _ _ k2
  · rw [frozen_setCell, frozen_setCell, frozen_setCell]; exact h.f0
  · rw [frozen_setCell, frozen_setCell, frozen_setCell]; exact h.f1
  · rw [frozen_setCell, frozen_setCell, frozen_setCell]; exact h.f2

set_option maxHeartbeats 600000 in
theorem cnum_small (T : ByteArray) (a x : Nat) (ha : a ≤ T.size) (hT : T.size ≤ 1000000) (hs : fixU T a x 1 < 248) (w : World) :
    Calls Tryz.prog 24 #[cu T a x] w fun e w' => e = .returned (.tuple #[cu T (numA T a x) (numX T a x), .int .u64 (numV T a x : Nat)]) ∧ Below w.heap.size w w' := by
  have c1 : ∀ W, Calls Tryz.prog 53 #[cu T a x, .int .i64 1] W fun e w' => e = .returned (.tuple #[cu T (rawA T a x 1) (rawX T a x 1), .int .u64 (fixU T a x 1 : Nat)]) ∧ Below W.heap.size W w' := fun W => cfix_any T a x 1 ha hT (by omega) (by omega) W
  have e1 : numA T a x = rawA T a x 1 := by unfold numA; rw [if_pos hs]
  have e2 : numX T a x = rawX T a x 1 := by unfold numX; rw [if_pos hs]
  have e3 : numV T a x = fixU T a x 1 := by unfold numV; rw [if_pos hs]
  rw [e1, e2, e3]
  generalize rawA T a x 1 = a1 at *
  generalize rawX T a x 1 = x1 at *
  generalize fixU T a x 1 = f at *
  clear e1 e2 e3
  have C1 := Box.mk c1
  clear c1
  have hd : ((x1 : Int) != 0) = true ∨ ((x1 : Int) != 0) = false := by cases ((x1 : Int) != 0) <;> simp
  have d2 : decide ((f : Int) < 248) = true := by simp; omega
  unfold cu at C1 ⊢
  rcases hd with d1 | d1
  all_goals
    go_enter Tryz.func24, Tryz.ntmps24
    go_wp2_with (go_at_call 53; ((with_reducible refine (C1.out _).mono ?_); rintro e w1 ⟨rfl, b1⟩; have B1 := Box.mk (bch (((Below.refl _ _).alloc (Nat.le_refl _) _).alloc (by simp) _) (b1.alloc b1.size (.cells #[.string T, .int .i64 (a1 : Int), .int .i64 (x1 : Int)] 65))); obtain ⟨⟨m0, m1, m2⟩, ⟨f0, f1, f2⟩, ⟨n0, n1, n2⟩, ⟨g0, g1, g2⟩⟩ := two3 (w := w) (b1.alloc b1.size (.cells #[.string T, .int .i64 (a1 : Int), .int .i64 (x1 : Int)] 65)) rfl; clear b1))
    refine bodyPost_ret (v := .tuple #[.agg #[.string T, .int .i64 (a1 : Int), .int .i64 (x1 : Int)], .int .u64 (f : Int)]) (by simp [results, go_sem, *]) rfl ⟨rfl, ?_⟩
    exact (((B1.out).setCell (Nat.le_succ _) _).setCell (Nat.le_succ _) _).setCell (Nat.le_succ _) _
end Go.Proofs.YtacfdnjdjgdbcaaGreatDoor
