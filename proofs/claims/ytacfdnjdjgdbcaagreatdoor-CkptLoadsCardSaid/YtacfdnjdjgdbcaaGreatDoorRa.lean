/- PackR, PackS, PackT, PackU, PackV, in one text. -/
import Derived.Test.YtacfdnjdjgdbcaaGreatDoorHm
import Derived.Deep.RegionWith
import Derived.Deep.RegionHeld3
import Derived.Deep.DeepCutAuto
import Derived.Deep.QuietTactic
namespace Go.Proofs.YtacfdnjdjgdbcaaGreatDoor
set_option maxRecDepth 100000
open Go.RowKit M

/-- a cursor -/
def cu (T : ByteArray) (a x : Nat) : Value := .agg #[.string T, .int .i64 (a : Int), .int .i64 (x : Int)]

set_option maxHeartbeats 400000 in
theorem crawl_bad (T : ByteArray) (a x : Nat) (n : Int) (hx : x ≠ 0) (w : World) :
    Calls Tryz.prog 25 #[cu T a x, .int .i64 n] w fun e w' => e = .returned (.tuple #[cu T a x, .string ⟨#[]⟩]) ∧ Below w.heap.size w w' := by
  have d1 : ((x : Int) != 0) = true := by simp; omega
  unfold cu
  go_enter Tryz.func25, Tryz.ntmps25
  go_wp2
  refine bodyPost_ret (v := .tuple #[.agg #[.string T, .int .i64 (a : Int), .int .i64 (x : Int)], .string ⟨#[]⟩]) (by simp [results, go_sem]) rfl ⟨rfl, ?_⟩
  exact ((Below.refl _ _).alloc (Nat.le_refl _) _).alloc (by simp) _

set_option maxHeartbeats 400000 in
theorem crawl_end (T : ByteArray) (a : Nat) (n : Int) (ha : a ≤ T.size) (hT : T.size ≤ 1000000) (hn : n < 0 ∨ ((T.size - a : Nat) : Int) < n) (w : World) :
    Calls Tryz.prog 25 #[cu T a 0, .int .i64 n] w fun e w' => e = .returned (.tuple #[cu T a 2, .string ⟨#[]⟩]) ∧ Below w.heap.size w w' := by
  obtain ⟨y, hy⟩ : ∃ y, y = T.size - a := ⟨_, rfl⟩
  have ey : (T.size : Int) - (a : Int) = (y : Int) := by omega
  rw [← hy] at hn
  have hc : decide (n < 0) = true ∨ (decide (n < 0) = false ∧ decide ((y : Int) < n) = true) := by
    by_cases h : n < 0
    · exact .inl (by simpa using h)
    · exact .inr ⟨by simpa using h, by simp; omega⟩
  clear hn hy
  unfold cu
  rcases hc with d1 | ⟨d1, d2⟩
  all_goals
    go_enter Tryz.func25, Tryz.ntmps25
    go_wp2
    refine bodyPost_ret (v := .tuple #[.agg #[.string T, .int .i64 (a : Int), .int .i64 2], .string ⟨#[]⟩]) (by simp [results, go_sem]) rfl ⟨rfl, ?_⟩
    exact ((Below.refl _ _).alloc (Nat.le_refl _) _).alloc (by simp) _

set_option maxHeartbeats 400000 in
theorem crawl_ok (T : ByteArray) (a n : Nat) (hT : T.size ≤ 1000000) (hn : a + n ≤ T.size) (w : World) :
    Calls Tryz.prog 25 #[cu T a 0, .int .i64 (n : Int)] w fun e w' => e = .returned (.tuple #[cu T (a + n) 0, .string (T.extract a (a + n))]) ∧ Below w.heap.size w w' := by
  obtain ⟨y, hy⟩ : ∃ y, y = T.size - a := ⟨_, rfl⟩
  have ey : (T.size : Int) - (a : Int) = (y : Int) := by omega
  have d1 : decide ((n : Int) < 0) = false := by simp
  have d2 : decide ((y : Int) < (n : Int)) = false := by simp; omega
  obtain ⟨m, hm⟩ : ∃ m, m = a + n := ⟨_, rfl⟩
  have em : (a : Int) + (n : Int) = (m : Int) := by omega
  have h1 : a ≤ m := by omega
  have h2 : m ≤ T.size := by omega
  rw [← hm]
  clear hm hy hn
  unfold cu
  go_enter Tryz.func25, Tryz.ntmps25
  go_wp2
  refine bodyPost_ret (v := .tuple #[.agg #[.string T, .int .i64 (m : Int), .int .i64 0], .string (T.extract a m)]) (by simp [results, go_sem]) rfl ⟨rfl, ?_⟩
  exact ((Below.refl _ _).alloc (Nat.le_refl _) _).alloc (by simp) _

theorem crawl_any (T : ByteArray) (a x : Nat) (n : Int) (ha : a ≤ T.size) (hT : T.size ≤ 1000000) (w : World) :
    Calls Tryz.prog 25 #[cu T a x, .int .i64 n] w fun e w' => e = .returned (.tuple #[cu T (rawA T a x n) (rawX T a x n), .string (rawS T a x n)]) ∧ Below w.heap.size w w' := by
  by_cases hx : x = 0
  · subst hx
    by_cases hn : 0 ≤ n ∧ n ≤ ((T.size - a : Nat) : Int)
    · obtain ⟨k, rfl⟩ := Int.eq_ofNat_of_zero_le hn.1
      have h := crawl_ok T a k hT (by omega) w
      unfold rawA rawX rawS
      rw [if_pos ⟨rfl, hn⟩, if_pos rfl, if_pos hn, if_pos ⟨rfl, hn⟩, Int.toNat_natCast]
      exact h
    · have h := crawl_end T a n ha hT (by omega) w
      unfold rawA rawX rawS
      rw [if_neg (fun h => hn h.2), if_pos rfl, if_neg hn, if_neg (fun h => hn h.2)]
      exact h
  · have h := crawl_bad T a x n hx w
    unfold rawA rawX rawS
    rw [if_neg (fun h => hx h.1), if_neg hx, if_neg (fun h => hx h.1)]
    exact h
end Go.Proofs.YtacfdnjdjgdbcaaGreatDoor
namespace Go.Proofs.YtacfdnjdjgdbcaaGreatDoor
set_option maxRecDepth 100000
open Go.RowKit M

theorem two3 {w W0 W : World} {a b c d e f : Value} {t u : TypeId} (hb : Below W0.heap.size W0 W) (h0 : W0.heap = ((w.alloc (.cells #[a, b, c] t)).alloc (.cells #[d, e, f] u)).heap) :
    (W.cell? ⟨w.heap.size, 0, none⟩ = some a ∧ W.cell? ⟨w.heap.size, 1, none⟩ = some b ∧ W.cell? ⟨w.heap.size, 2, none⟩ = some c) ∧
    (W.frozen? ⟨w.heap.size, 0, none⟩ = false ∧ W.frozen? ⟨w.heap.size, 1, none⟩ = false ∧ W.frozen? ⟨w.heap.size, 2, none⟩ = false) ∧
    (W.cell? ⟨w.heap.size + 1, 0, none⟩ = some d ∧ W.cell? ⟨w.heap.size + 1, 1, none⟩ = some e ∧ W.cell? ⟨w.heap.size + 1, 2, none⟩ = some f) ∧
    (W.frozen? ⟨w.heap.size + 1, 0, none⟩ = false ∧ W.frozen? ⟨w.heap.size + 1, 1, none⟩ = false ∧ W.frozen? ⟨w.heap.size + 1, 2, none⟩ = false) := by
  have e1 : W.heap[w.heap.size]? = some (.cells #[a, b, c] t) := by
    rw [hb.block w.heap.size (by rw [h0]; simp; omega), h0, heap_alloc_old _ _ (by simp)]
    exact heap_alloc_new w _
  have e2 : W.heap[w.heap.size + 1]? = some (.cells #[d, e, f] u) := by
    rw [hb.block (w.heap.size + 1) (by rw [h0]; simp), h0]
    exact heap_alloc2_new w _ _
  have c1 := fun j => cell_of_row W w.heap.size j _ _ _ e1
  have c2 := fun j => cell_of_row W (w.heap.size + 1) j _ _ _ e2
  refine ⟨⟨by rw [c1]; rfl, by rw [c1]; rfl, by rw [c1]; rfl⟩, ⟨?_, ?_, ?_⟩, ⟨by rw [c2]; rfl, by rw [c2]; rfl, by rw [c2]; rfl⟩, ⟨?_, ?_, ?_⟩⟩
  all_goals
    unfold World.frozen?
    simp [e1, e2]

theorem un_snoc' (l : List Nat) (d : Nat) : un (l ++ [d]) = d + 256 * un l := by
  unfold un
  rw [List.reverse_append]
  rfl

set_option maxHeartbeats 600000 in
theorem cfix_any (T : ByteArray) (a x k : Nat) (ha : a ≤ T.size) (hT : T.size ≤ 1000000) (h1 : 1 ≤ k) (h8 : k ≤ 8) (w : World) :
    Calls Tryz.prog 53 #[cu T a x, .int .i64 (k : Int)] w fun e w' => e = .returned (.tuple #[cu T (rawA T a x k) (rawX T a x k), .int .u64 (fixU T a x k : Nat)]) ∧ Below w.heap.size w w' := by
  have c1 := fun W => crawl_any T a x (k : Int) ha hT W
  have hsz := rawS_size T a x k
  have hfx : fixU T a x k = un (sb (rawS T a x (k : Int))) := rfl
  rw [hfx]
  obtain ⟨s, hs⟩ : ∃ s, s = rawS T a x (k : Int) := ⟨_, rfl⟩
  rw [← hs] at c1 hsz ⊢
  have hs8 : s.size ≤ 8 := by omega
  generalize rawA T a x (k : Int) = a1 at *
  generalize rawX T a x (k : Int) = x1 at *
  clear hs hsz hfx
  have hbl := sb_lt s
  have hl := sb_length s
  obtain ⟨L, hL⟩ : ∃ L, L = sb s := ⟨_, rfl⟩
  rw [← hL] at hbl hl ⊢
  have hget : ∀ k, k < s.size → L.take (k + 1) = L.take k ++ [bn s k] := fun k hk => by
    rw [List.take_succ_eq_append_getElem (by omega)]
    have : L[k]'(by omega) = bn s k := by subst hL; simp [sb, bnl]
    rw [this]
  have hun : ∀ k, un (L.take k) < 256 ^ k := fun k => by
    have h := un_lt (l := L.take k) (fun d hd => hbl d (List.mem_of_mem_take hd))
    refine Nat.lt_of_lt_of_le h ?_
    rw [show (256 : Nat) = 2 ^ 8 by decide, ← Nat.pow_mul]
    exact Nat.pow_le_pow_right (by decide) (by rw [List.length_take]; omega)
  have HG := Box.mk hget; have HU := Box.mk hun; have HL := Box.mk hl; have C1 := Box.mk c1
  clear hget hun hbl hL hl c1
  unfold cu at C1 ⊢
  go_enter Tryz.func53, Tryz.ntmps53
  go_wp2_with (go_at_call 25; ((with_reducible refine (C1.out _).mono ?_); rintro e w1 ⟨rfl, b1⟩; obtain ⟨⟨m0, m1, m2⟩, ⟨f0, f1, f2⟩, ⟨n0, n1, n2⟩, ⟨g0, g1, g2⟩⟩ := two3 (w := w) b1 rfl; have B1 := Box.mk (bch (((Below.refl _ _).alloc (Nat.le_refl _) _).alloc (by simp) _) b1); clear b1))
  go_loop [7, 8] (fun x i => ∃ k : Nat, k ≤ s.size ∧ i = .int .i64 (k : Int) ∧ x = .int .u64 ((un (L.take k) : Nat) : Int)) (fun _ i => s.size - (intOf i).toNat)
  case atStart => exact ⟨0, by omega, rfl, by simp [un_nil]⟩
  case round =>
    obtain ⟨k, hk, rfl, rfl⟩ := hrel
    by_cases hlt : k < s.size
    · have hu := HU.out k
      have hu7 : un (L.take k) < 256 ^ 7 := Nat.lt_of_lt_of_le hu (Nat.pow_le_pow_right (by decide) (by omega))
      have hu7 : un (L.take k) < 72057594037927936 := hu7
      have hsn := un_snoc' (L.take k) (bn s k)
      rw [← HG.out k hlt] at hsn
      have hle := bn_le s k
      have HSN := Box.mk hsn
      rw [← bn_of hlt] at hle
      clear hsn hu
      generalize un (L.take k) = x at *
      go_wp2
      go_round
      case rel => exact ⟨k + 1, by omega, by go_num, by rw [HSN.out, ← bn_of hlt]; go_num⟩
      case measure => simp [intOf]; omega
    · obtain rfl : k = s.size := by omega
      have e : L.take s.size = L := List.take_of_length_le (by rw [HL.out]; omega)
      rw [e]
      go_wp2
      refine bodyPost_ret (v := .tuple #[.agg #[.string T, .int .i64 (a1 : Int), .int .i64 (x1 : Int)], .int .u64 ((un L : Nat) : Int)]) (by simp [results, go_sem, *]) rfl ⟨rfl, ?_⟩
      exact (((((B1.out.setCell (Nat.le_refl _) _).setCell (Nat.le_refl _) _).setCell (Nat.le_refl _) _).setCell (Nat.le_succ _) _).setCell (Nat.le_succ _) _).setCell (Nat.le_succ _) _
end Go.Proofs.YtacfdnjdjgdbcaaGreatDoor
namespace Go.Proofs.YtacfdnjdjgdbcaaGreatDoor
set_option maxRecDepth 100000
open Go.RowKit M

/-- a cursor's variable -/
structure Cur (w : World) (b : Nat) (T : ByteArray) (a x : Nat) : Prop where
  c0 : w.cell? ⟨b, 0, none⟩ = some (.string T)
  c1 : w.cell? ⟨b, 1, none⟩ = some (.int .i64 (a : Int))
  c2 : w.cell? ⟨b, 2, none⟩ = some (.int .i64 (x : Int))
  f0 : w.frozen? ⟨b, 0, none⟩ = false
  f1 : w.frozen? ⟨b, 1, none⟩ = false
  f2 : w.frozen? ⟨b, 2, none⟩ = false
theorem Cur.below {w w' : World} {b : Nat} {T : ByteArray} {a x : Nat} (h : Cur w b T a x) (hb : Below w.heap.size w w') : Cur w' b T a x := by
  have hlt : b < w.heap.size := World.block_lt_of_cell? w _ h.c0
  exact ⟨by rw [hb.cell hlt]; exact h.c0, by rw [hb.cell hlt]; exact h.c1, by rw [hb.cell hlt]; exact h.c2, by rw [hb.frozen hlt]; exact h.f0, by rw [hb.frozen hlt]; exact h.f1, by rw [hb.frozen hlt]; exact h.f2⟩
theorem Cur.drewN {w : World} {b : Nat} {T : ByteArray} {a x : Nat} (h : Cur w b T a x) (k : Nat) : Cur (w.drewN k) b T a x := ⟨h.c0, h.c1, h.c2, h.f0, h.f1, h.f2⟩
theorem Cur.drew {w : World} {b : Nat} {T : ByteArray} {a x : Nat} (h : Cur w b T a x) : Cur w.drew b T a x := ⟨h.c0, h.c1, h.c2, h.f0, h.f1, h.f2⟩
theorem Cur.of_block {W : World} {b : Nat} {T : ByteArray} {a x : Nat} {t : TypeId} (e : W.heap[b]? = some (.cells #[.string T, .int .i64 (a : Int), .int .i64 (x : Int)] t)) : Cur W b T a x := by
  have hc := fun j => cell_of_row W b j _ _ _ e
  refine ⟨by rw [hc]; rfl, by rw [hc]; rfl, by rw [hc]; rfl, ?_, ?_, ?_⟩
  all_goals
    unfold World.frozen?
    simp [e]
theorem Cur.new (w : World) (T : ByteArray) (a x : Nat) (t : TypeId) : Cur (w.alloc (.cells #[.string T, .int .i64 (a : Int), .int .i64 (x : Int)] t)) w.heap.size T a x := Cur.of_block (heap_alloc_new w _)
theorem Cur.far {w : World} {b g : Nat} {T : ByteArray} {a x : Nat} (h : Cur w b T a x) (o : Nat) (u : Value) (hne : g ≠ b) : Cur (w.setCell ⟨g, o, none⟩ u) b T a x := by
  have n0 : ∀ j, (⟨g, o, none⟩ : Addr) ≠ ⟨b, j, none⟩ := fun j e => hne (by injection e)
  exact ⟨by rw [World.cell?_setCell_other _ _ _ _ (n0 0)]; exact h.c0, by rw [World.cell?_setCell_other _ _ _ _ (n0 1)]; exact h.c1, by rw [World.cell?_setCell_other _ _ _ _ (n0 2)]; exact h.c2, by rw [frozen_setCell]; exact h.f0, by rw [frozen_setCell]; exact h.f1, by rw [frozen_setCell]; exact h.f2⟩
theorem Cur.set3 {w : World} {b : Nat} {T : ByteArray} {a x : Nat} (h : Cur w b T a x) (T' : ByteArray) (a' x' : Nat) :
    Cur (((w.setCell ⟨b, 0, none⟩ (.string T')).setCell ⟨b, 1, none⟩ (.int .i64 (a' : Int))).setCell ⟨b, 2, none⟩ (.int .i64 (x' : Int))) b T' a' x' := by
  have k1 : (w.setCell ⟨b, 0, none⟩ (.string T')).cell? ⟨b, 1, none⟩ = some (.int .i64 (a : Int)) := by rw [World.cell?_setCell_other _ _ _ _ (by simp)]; exact h.c1
  have k2 : ((w.setCell ⟨b, 0, none⟩ (.string T')).setCell ⟨b, 1, none⟩ (.int .i64 (a' : Int))).cell? ⟨b, 2, none⟩ = some (.int .i64 (x : Int)) := by
    rw [World.cell?_setCell_other _ _ _ _ (by simp), World.cell?_setCell_other _ _ _ _ (by simp)]; exact h.c2
  refine ⟨?_, ?_, ?_, ?_, ?_, ?_⟩
  · rw [World.cell?_setCell_other _ _ _ _ (by simp), World.cell?_setCell_other _ _ _ _ (by simp)]; exact World.cell?_setCell_same _ _ _ h.c0
  · rw [World.cell?_setCell_other _ _ _ _ (by simp)]; exact World.cell?_setCell_same _ _ _ k1
  · exact World.cell?_setCell_same _ _ _ k2
  · rw [frozen_setCell, frozen_setCell, frozen_setCell]; exact h.f0
  · rw [frozen_setCell, frozen_setCell, frozen_setCell]; exact h.f1
  · rw [frozen_setCell, frozen_setCell, frozen_setCell]; exact h.f2

set_option maxHeartbeats 600000 in
theorem cnum_small (T : ByteArray) (a x : Nat) (ha : a ≤ T.size) (hT : T.size ≤ 1000000) (hs : fixU T a x 1 < 248) (w : World) :
    Calls Tryz.prog 24 #[cu T a x] w fun e w' => e = .returned (.tuple #[cu T (numA T a x) (numX T a x), .int .u64 (numV T a x : Nat)]) ∧ Below w.heap.size w w' := by
  have c1 : ∀ W, Calls Tryz.prog 53 #[cu T a x, .int .i64 1] W fun e w' => e = .returned (.tuple #[cu T (rawA T a x 1) (rawX T a x 1), .int .u64 (fixU T a x 1 : Nat)]) ∧ Below W.heap.size W w' := fun W => cfix_any T a x 1 ha hT (by omega) (by omega) W
  have e1 : numA T a x = rawA T a x 1 := by unfold numA; rw [if_pos hs]
  have e2 : numX T a x = rawX T a x 1 := by unfold numX; rw [if_pos hs]
  have e3 : numV T a x = fixU T a x 1 := by unfold numV; rw [if_pos hs]
  rw [e1, e2, e3]
  generalize rawA T a x 1 = a1 at *
  generalize rawX T a x 1 = x1 at *
  generalize fixU T a x 1 = f at *
  clear e1 e2 e3
  have C1 := Box.mk c1
  clear c1
  have hd : ((x1 : Int) != 0) = true ∨ ((x1 : Int) != 0) = false := by cases ((x1 : Int) != 0) <;> simp
  have d2 : decide ((f : Int) < 248) = true := by simp; omega
  unfold cu at C1 ⊢
  rcases hd with d1 | d1
  all_goals
    go_enter Tryz.func24, Tryz.ntmps24
    go_wp2_with (go_at_call 53; ((with_reducible refine (C1.out _).mono ?_); rintro e w1 ⟨rfl, b1⟩; have B1 := Box.mk (bch (((Below.refl _ _).alloc (Nat.le_refl _) _).alloc (by simp) _) (b1.alloc b1.size (.cells #[.string T, .int .i64 (a1 : Int), .int .i64 (x1 : Int)] 65))); obtain ⟨⟨m0, m1, m2⟩, ⟨f0, f1, f2⟩, ⟨n0, n1, n2⟩, ⟨g0, g1, g2⟩⟩ := two3 (w := w) (b1.alloc b1.size (.cells #[.string T, .int .i64 (a1 : Int), .int .i64 (x1 : Int)] 65)) rfl; clear b1))
    refine bodyPost_ret (v := .tuple #[.agg #[.string T, .int .i64 (a1 : Int), .int .i64 (x1 : Int)], .int .u64 (f : Int)]) (by simp [results, go_sem, *]) rfl ⟨rfl, ?_⟩
    exact (((B1.out).setCell (Nat.le_succ _) _).setCell (Nat.le_succ _) _).setCell (Nat.le_succ _) _
end Go.Proofs.YtacfdnjdjgdbcaaGreatDoor
namespace Go.Proofs.YtacfdnjdjgdbcaaGreatDoor
set_option maxRecDepth 100000
open Go.RowKit M

theorem num_eq {T : ByteArray} {a k : Nat} (h1 : 1 ≤ k) (hk : a + 1 + k ≤ T.size) (hf : un (((sb T).drop a).take 1) = 247 + k) :
    ((bs (numL (un (((sb T).drop (a + 1)).take k)))).toList == (T.extract a (a + 1 + k)).toList) = !decide (un (((sb T).drop (a + 1)).take k) < 248 ∨ szN (un (((sb T).drop (a + 1)).take k)) ≠ k) := by
  have hl := sb_length T
  obtain ⟨B, hB⟩ : ∃ B, B = ((sb T).drop (a + 1)).take k := ⟨_, rfl⟩
  have hBl : B.length = k := by rw [hB, List.length_take, List.length_drop]; omega
  have hBb : ∀ d ∈ B, d < 2 ^ 8 := fun d hd => sb_lt T d (by rw [hB] at hd; exact List.mem_of_mem_drop (List.mem_of_mem_take hd))
  have h1l : (((sb T).drop a).take 1).length = 1 := by rw [List.length_take, List.length_drop]; omega
  have hs : sb (T.extract a (a + 1 + k)) = (247 + k) :: B := by
    rw [sb_part _ _ _ hk, show a + 1 + k - a = 1 + k by omega, List.take_add, List.drop_drop, ← hB]
    match hm : ((sb T).drop a).take 1, h1l with
    | [c], _ =>
      rw [hm, un_one] at hf
      rw [hf]; rfl
  rw [← hB, str_beq]
  have hfx := fx_un hBb
  rw [hBl] at hfx
  have hfl : ∀ d ∈ (247 + k) :: B, d < 2 ^ 8 := fun d hd => by rw [← hs] at hd; exact sb_lt _ d hd
  have hiff : (bs (numL (un B)) = T.extract a (a + 1 + k)) ↔ ¬ (un B < 248 ∨ szN (un B) ≠ k) := by
    rw [← bs_list (T.extract a (a + 1 + k)), hs]
    constructor
    · intro h
      have h2 := bs_inj (numL_lt _) hfl h
      unfold numL at h2
      by_cases hu : un B < 248
      · rw [if_pos hu] at h2
        have h3 := (List.cons.inj h2).2
        have h4 := congrArg List.length h3
        rw [hBl] at h4
        simp at h4
        omega
      · rw [if_neg hu] at h2
        have h3 := (List.cons.inj h2).1
        omega
    · intro h
      have hu : ¬ un B < 248 := fun h1 => h (.inl h1)
      have hz : szN (un B) = k := Decidable.byContradiction fun h1 => h (.inr h1)
      unfold numL
      rw [if_neg hu, hz, hfx]
  by_cases hc : un B < 248 ∨ szN (un B) ≠ k
  · rw [decide_eq_true hc, decide_eq_false (fun h => hiff.1 h hc)]; rfl
  · rw [decide_eq_false hc, decide_eq_true (hiff.2 hc)]; rfl

theorem pcell_keep {w w' : World} {a : Addr} {v : Value} (h : w.cell? a = some v) (hb : Below w.heap.size w w') : w'.cell? a = some v := by
  rw [hb.cell (World.block_lt_of_cell? w _ h)]; exact h

set_option maxRecDepth 100000 in
set_option maxHeartbeats 1000000 in
theorem cnum_big (T : ByteArray) (a x : Nat) (ha : a ≤ T.size) (hT : T.size ≤ 1000000) (hs : ¬ fixU T a x 1 < 248) (w : World) :
    Calls Tryz.prog 24 #[cu T a x] w fun e w' => e = .returned (.tuple #[cu T (numA T a x) (numX T a x), .int .u64 (numV T a x : Nat)]) ∧ Below w.heap.size w w' := by
  have c1 : ∀ W, Calls Tryz.prog 53 #[cu T a x, .int .i64 1] W fun e w' => e = .returned (.tuple #[cu T (rawA T a x 1) (rawX T a x 1), .int .u64 (fixU T a x 1 : Nat)]) ∧ Below W.heap.size W w' := fun W => cfix_any T a x 1 ha hT (by omega) (by omega) W
  have hr1 : rawX T a x ((1 : Nat) : Int) = 0 := Decidable.byContradiction fun h => by have := fixU_none (k := 1) h; omega
  obtain ⟨hx0, _, hle1, hA1, hS1⟩ := raw_ok hr1
  subst hx0
  have hA1 : rawA T a 0 1 = a + 1 := hA1
  have hr1 : rawX T a 0 1 = 0 := hr1
  have hf8 := fixU_lt T a 0 1 (by omega)
  have hf0 : fixU T a 0 1 = un (((sb T).drop a).take 1) := by
    unfold fixU
    have hS1 : rawS T a 0 ((1 : Nat) : Int) = T.extract a (a + 1) := hS1
    rw [hS1, sb_part _ _ _ (by omega), Nat.add_sub_cancel_left]
  obtain ⟨k, hk⟩ : ∃ k, k = fixU T a 0 1 - 247 := ⟨_, rfl⟩
  have hk1 : 1 ≤ k := by omega
  have hk8 : k ≤ 8 := by omega
  have hfk : fixU T a 0 1 = 247 + k := by omega
  have c2 := fun W => cfix_any T (a + 1) 0 k (by omega) hT hk1 hk8 W
  have hE : numE T a 0 = if fixU T (a + 1) 0 k < 248 ∨ szN (fixU T (a + 1) 0 k) ≠ k then (if rawX T (a + 1) 0 (k : Nat) = 0 then 3 else rawX T (a + 1) 0 (k : Nat)) else rawX T (a + 1) 0 (k : Nat) := by
    unfold numE; rw [hA1, hr1, ← hk]
  have eA : numA T a 0 = if numE T a 0 = 0 then rawA T (a + 1) 0 (k : Nat) else a := by unfold numA; rw [if_neg hs, hA1, hr1, ← hk]
  have eX : numX T a 0 = numE T a 0 := by unfold numX; rw [if_neg hs]
  have eV : numV T a 0 = if numE T a 0 = 0 then fixU T (a + 1) 0 k else 0 := by unfold numV; rw [if_neg hs, hA1, hr1, ← hk]
  have hux : rawX T (a + 1) 0 (k : Nat) ≠ 0 → fixU T (a + 1) 0 k = 0 := fun h => fixU_none h
  have hcm : rawX T (a + 1) 0 (k : Nat) = 0 → rawA T (a + 1) 0 (k : Nat) = a + 1 + k ∧ a + 1 + k ≤ T.size ∧ ((bs (numL (fixU T (a + 1) 0 k))).toList == (T.extract a (a + 1 + k)).toList) = !decide (fixU T (a + 1) 0 k < 248 ∨ szN (fixU T (a + 1) 0 k) ≠ k) := fun h => by
    obtain ⟨_, _, hle, hA, hS⟩ := raw_ok h
    have hke : a + 1 + k ≤ T.size := by omega
    have hu : fixU T (a + 1) 0 k = un (((sb T).drop (a + 1)).take k) := by
      unfold fixU
      have hS : rawS T (a + 1) 0 (k : Nat) = T.extract (a + 1) (a + 1 + k) := by rw [hS, Int.toNat_natCast]
      rw [hS, sb_part _ _ _ hke, Nat.add_sub_cancel_left]
    refine ⟨by rw [hA, Int.toNat_natCast], hke, ?_⟩
    rw [hu]
    exact num_eq hk1 hke (by rw [← hf0, hfk])
  rw [eX, eA, eV, hE]
  have hul := fixU_lt64 T (a + 1) 0 k hk8
  rw [hA1, hr1, hfk] at c1
  generalize fixU T (a + 1) 0 k = u at *
  generalize rawA T (a + 1) 0 (k : Nat) = a2 at *
  generalize rawX T (a + 1) 0 (k : Nat) = x2 at *
  obtain ⟨RX, hRX⟩ : ∃ r, r = (if u < 248 ∨ szN u ≠ k then (if x2 = 0 then 3 else x2) else x2) := ⟨_, rfl⟩
  rw [← hRX]
  obtain ⟨RA, hRA⟩ : ∃ r, r = if RX = 0 then a2 else a := ⟨_, rfl⟩
  obtain ⟨RV, hRV⟩ : ∃ r, r = if RX = 0 then u else 0 := ⟨_, rfl⟩
  rw [← hRA, ← hRV]
  have HRX := Box.mk hRX; have HRA := Box.mk hRA; have HRV := Box.mk hRV
  clear hRX hRA hRV
  obtain ⟨a1, ha1⟩ : ∃ a1, a1 = a + 1 := ⟨_, rfl⟩
  rw [← ha1] at c1 c2
  have C1 := Box.mk c1; have C2 := Box.mk c2; have HCM := Box.mk hcm; have HUX := Box.mk hux
  have ef : ((247 + k : Nat) : Int) - 247 = (k : Int) := by omega
  have nf : IntKind.i64.wrap ((247 + k : Nat) : Int) = ((247 + k : Nat) : Int) := IntWalk.i64_in _ (by omega)
  have d2 : decide (((247 + k : Nat) : Int) < 248) = false := by simp; omega
  obtain ⟨f, hfe⟩ : ∃ f, f = 247 + k := ⟨_, rfl⟩
  rw [← hfe] at C1 ef nf d2
  have hfl : f ≤ 255 := by omega
  have HA1 := Box.mk ha1
  clear ha1 c1 c2 hcm hux hE eA eX eV hk hf0 hfk hr1 hA1 hS1 hs hf8 hfe
  unfold cu at C1 C2 ⊢
  have z0 : ((0 : Nat) : Int) = 0 := rfl
  simp only [z0] at C1 C2 ⊢
  clear z0
  go_enter Tryz.func24, Tryz.ntmps24
  go_upto_region 4 with (go_at_call 53; ((with_reducible refine (C1.out _).mono ?_); rintro e w1 ⟨rfl, b1⟩; have B1 := Box.mk (bch (((Below.refl _ _).alloc (Nat.le_refl _) _).alloc (by simp) _) (b1.alloc b1.size (.cells #[.string T, .int .i64 (a1 : Int), .int .i64 0] 65))); obtain ⟨⟨m0, m1, m2⟩, ⟨f0, f1, f2⟩, ⟨n0, n1, n2⟩, ⟨g0, g1, g2⟩⟩ := two3 (w := w) (b1.alloc b1.size (.cells #[.string T, .int .i64 (a1 : Int), .int .i64 0] 65)) rfl; have TS : Box (w.heap.size + 2 ≤ w1.heap.size) := ⟨by have := b1.size; simp at this; omega⟩; clear b1))
  have ts := TS.out
  obtain ⟨bd, hbd⟩ : ∃ b, b = w1.heap.size := ⟨_, rfl⟩
  obtain ⟨wd, hwd⟩ : ∃ W, W = w1.alloc (.cells #[.string T, .int .i64 (a1 : Int), .int .i64 0] 65) := ⟨_, rfl⟩
  have K0 : Cur wd w.heap.size T a 0 := by rw [hwd]; exact ⟨m0, m1, m2, f0, f1, f2⟩
  have K1 : Cur wd (w.heap.size + 1) ⟨#[]⟩ 0 0 := by rw [hwd]; exact ⟨n0, n1, n2, g0, g1, g2⟩
  have KD : Cur wd bd T a1 0 := by rw [hwd, hbd]; exact Cur.new w1 T a1 0 _
  rw [← hwd] at B1
  rw [← hwd] at ⊢
  rw [← hbd] at ts ⊢
  have q0 := KD.c0
  have q1 := KD.c1
  have q2 := KD.c2
  have k0 := Box.mk K0; have k1 := Box.mk K1; have kd := Box.mk KD
  clear K0 K1 KD hwd hbd m0 m1 m2 f0 f1 f2 n0 n1 n2 g0 g1 g2 TS
  go_cut [6] (fun s6 wx => s6 = .int .u64 (u : Int) ∧ Cur wx w.heap.size T a 0 ∧ Cur wx (w.heap.size + 1) ⟨#[]⟩ 0 0 ∧ Cur wx bd T a2 x2 ∧ Below w.heap.size w wx)
  case first =>
    go_wp2_with (go_at_call 53; ((with_reducible refine (C2.out _).mono ?_); rintro e w2 ⟨rfl, b2⟩; have J0 := Box.mk (k0.out.below b2); have J1 := Box.mk (k1.out.below b2); have JD := Box.mk (kd.out.below b2); have B2 := Box.mk (bch B1.out b2); have r0 := JD.out.c0; have r1 := JD.out.c1; have r2 := JD.out.c2; have t0 := JD.out.f0; have t1 := JD.out.f1; have t2 := JD.out.f2; clear b2))
    go_meet
    have hne0 : bd ≠ w.heap.size := by omega
    have hne1 : bd ≠ w.heap.size + 1 := by omega
    have hle : w.heap.size ≤ bd := by omega
    exact ⟨rfl, ((J0.out.far _ _ hne0).far _ _ hne0).far _ _ hne0, ((J1.out.far _ _ hne1).far _ _ hne1).far _ _ hne1, JD.out.set3 T a2 x2, ((B2.out.setCell hle _).setCell hle _).setCell hle _⟩
  case rest =>
    obtain ⟨rfl, h0, h1, hd, hb⟩ := hcut
    clear k0 k1 kd q0 q1 q2 B1
    have hne0 : bd ≠ w.heap.size := by omega
    have hne1 : bd ≠ w.heap.size + 1 := by omega
    have hle : w.heap.size ≤ bd := by omega
    rcases Nat.eq_zero_or_pos x2 with hx | hx
    · subst hx
      obtain ⟨hA2, hke, hcmp⟩ := HCM.out rfl
      rw [← hA2] at hcmp hke
      obtain ⟨bad, hbad⟩ : ∃ b : Bool, b = decide (u < 248 ∨ szN u ≠ k) := ⟨_, rfl⟩
      rw [← hbad] at hcmp
      have i0 : (0 : Int) ≤ (a : Int) := by omega
      have i1 : (a : Int) ≤ (a2 : Int) := by omega
      have i2 : (a2 : Int) ≤ (T.size : Int) := by omega
      have HBD := Box.mk hbad; have HC := Box.mk hcmp
      have sN : (bs (numL u)).size ≤ 9 := by rw [bs_size]; exact (numL_length u).2
      have cn := fun W => refNum_any u hul W
      generalize bs (numL u) = NU at *
      have CN := Box.mk cn
      clear hbad hcmp cn hA2
      go_upto_region 5 with fail
      go_cut [43] (fun s43 wx => s43 = .bool bad ∧ Cur wx w.heap.size T a 0 ∧ Cur wx (w.heap.size + 1) ⟨#[]⟩ 0 0 ∧ Cur wx bd T a2 0 ∧ Below w.heap.size w wx)
      case first =>
        have H0 := Box.mk h0; have H1 := Box.mk h1; have HD := Box.mk hd; have HB := Box.mk hb
        have p0 := h0.c0
        have p1 := h0.c1
        have r1 := hd.c1
        have r2 : wc.cell? ⟨bd, 2, none⟩ = some (.int .i64 0) := hd.c2
        clear h0 h1 hd hb
        clear HCM HUX HRX HRA HRV HA1 C2 C1 HBD hke ts ef nf d2 hfl hul hk1 hk8
        go_region_held3 (fun W => W.cell? ⟨w.heap.size, 0, none⟩ = some (.string T) ∧ W.cell? ⟨w.heap.size, 1, none⟩ = some (.int .i64 (a : Int)) ∧ W.cell? ⟨bd, 1, none⟩ = some (.int .i64 (a2 : Int)) ∧ W.cell? ⟨bd, 2, none⟩ = some (.int .i64 0))
          (first
            | (exact ⟨p0, p1, r1, r2⟩)
            | (go_split_ands; refine ⟨pcell_keep (by assumption) (by assumption), pcell_keep (by assumption) (by assumption), pcell_keep (by assumption) (by assumption), pcell_keep (by assumption) (by assumption)⟩))
          (first | (go_at_call 54; ((with_reducible refine (CN.out _).mono ?_); rintro e w3 ⟨rfl, b3⟩)))
        all_goals
          go_wp2_with fail
          go_meet
          exact ⟨by rw [HC.out, Bool.not_not], H0.out.drew.below b3, H1.out.drew.below b3, HD.out.drew.below b3, bch HB.out.drew b3⟩
      case rest =>
        clear h0 h1 hd hb
        obtain ⟨rfl, h0, h1, hd, hb⟩ := hcut
        have p0 := h0.c0
        have p1 := h0.c1
        have p2 := h0.c2
        have pf := h0.f2
        have r0 := hd.c0
        have r1 := hd.c1
        have r2 := hd.c2
        have rf := hd.f2
        have s0 := h1.c0
        have s1 := h1.c1
        have s2 := h1.c2
        have sf0 := h1.f0
        have sf1 := h1.f1
        have sf2 := h1.f2
        have HB := Box.mk hb
        clear h0 h1 hd hb
        cases bad with
        | true =>
          have ERX : Box (RX = 3) := ⟨by rw [HRX.out, if_pos (by have := HBD.out; simpa using this.symm)]; rfl⟩
          have ERA : Box (RA = a) := ⟨by rw [HRA.out, ERX.out]; rfl⟩
          have ERV : Box (RV = 0) := ⟨by rw [HRV.out, ERX.out]; rfl⟩
          clear HBD HRX HRA HRV HCM HUX C1 C2 CN HC HA1 hke ts ef nf d2 hfl hul hk1 hk8 i0 i1 i2
          go_wp2
          refine bodyPost_ret (v := .tuple #[.agg #[.string T, .int .i64 (a : Int), .int .i64 3], .int .u64 0]) (by simp [results, go_sem, *]) rfl ⟨by rw [ERX.out, ERA.out, ERV.out]; rfl, ?_⟩
          exact (((((HB.out.setCell hle _).setCell (Nat.le_refl _) _).setCell (Nat.le_succ _) _).setCell (Nat.le_succ _) _).setCell (Nat.le_succ _) _)
        | false =>
          have ERX : Box (RX = 0) := ⟨by rw [HRX.out, if_neg (by have := HBD.out; simpa using this.symm)]⟩
          have ERA : Box (RA = a2) := ⟨by rw [HRA.out, ERX.out]; rfl⟩
          have ERV : Box (RV = u) := ⟨by rw [HRV.out, ERX.out]; rfl⟩
          clear HBD HRX HRA HRV HCM HUX C1 C2 CN HC HA1 hke ts ef nf d2 hfl hul hk1 hk8 i0 i1 i2
          go_wp2
          refine bodyPost_ret (v := .tuple #[.agg #[.string T, .int .i64 (a2 : Int), .int .i64 0], .int .u64 (u : Int)]) (by simp [results, go_sem, *]) rfl ⟨by rw [ERX.out, ERA.out, ERV.out]; rfl, ?_⟩
          exact (((HB.out.setCell (Nat.le_succ _) _).setCell (Nat.le_succ _) _).setCell (Nat.le_succ _) _)
    · have hu0 := HUX.out (by omega)
      have ERX : Box (RX = x2) := ⟨by rw [HRX.out, if_pos (.inl (by omega)), if_neg (by omega)]⟩
      have ERA : Box (RA = a) := ⟨by rw [HRA.out, ERX.out, if_neg (by omega)]⟩
      have ERV : Box (RV = 0) := ⟨by rw [HRV.out, ERX.out, if_neg (by omega)]⟩
      have z1 : ((x2 : Int) == 0) = false := by rw [beq_eq_false_iff_ne]; omega
      have z2 : ((x2 : Int) != 0) = true := by simp; omega
      clear HRX HRA HRV HCM HUX C1 C2 HA1 ts ef nf d2 hfl hul hk1 hk8 hu0
      go_upto_region 5 with fail
      go_cut [43] (fun s43 wx => s43 = .bool false ∧ Cur wx w.heap.size T a 0 ∧ Cur wx (w.heap.size + 1) ⟨#[]⟩ 0 0 ∧ Cur wx bd T a2 x2 ∧ Below w.heap.size w wx)
      case first =>
        have H0 := Box.mk h0; have H1 := Box.mk h1; have HD := Box.mk hd; have HB := Box.mk hb
        have r2 := hd.c2
        clear h0 h1 hd hb
        go_quiet (fail)
        go_wp2_with fail
        go_meet
        exact ⟨rfl, H0.out.drewN _, H1.out.drewN _, HD.out.drewN _, ⟨HB.out.os, HB.out.tape, HB.out.output, HB.out.size, HB.out.block⟩⟩
      case rest =>
        clear h0 h1 hd hb
        obtain ⟨rfl, h0, h1, hd, hb⟩ := hcut
        have p0 := h0.c0
        have p1 := h0.c1
        have p2 := h0.c2
        have pf := h0.f2
        have r0 := hd.c0
        have r1 := hd.c1
        have r2 := hd.c2
        have rf := hd.f2
        have s0 := h1.c0
        have s1 := h1.c1
        have s2 := h1.c2
        have sf0 := h1.f0
        have sf1 := h1.f1
        have sf2 := h1.f2
        have HB := Box.mk hb
        clear h0 h1 hd hb
        go_wp2
        refine bodyPost_ret (v := .tuple #[.agg #[.string T, .int .i64 (a : Int), .int .i64 (x2 : Int)], .int .u64 0]) (by simp [results, go_sem, *]) rfl ⟨by rw [ERX.out, ERA.out, ERV.out]; rfl, ?_⟩
        exact ((((HB.out.setCell (Nat.le_refl _) _).setCell (Nat.le_succ _) _).setCell (Nat.le_succ _) _).setCell (Nat.le_succ _) _)

theorem cnum_any (T : ByteArray) (a x : Nat) (ha : a ≤ T.size) (hT : T.size ≤ 1000000) (w : World) :
    Calls Tryz.prog 24 #[cu T a x] w fun e w' => e = .returned (.tuple #[cu T (numA T a x) (numX T a x), .int .u64 (numV T a x : Nat)]) ∧ Below w.heap.size w w' := by
  by_cases hs : fixU T a x 1 < 248
  · exact cnum_small T a x ha hT hs w
  · exact cnum_big T a x ha hT hs w
end Go.Proofs.YtacfdnjdjgdbcaaGreatDoor
namespace Go.Proofs.YtacfdnjdjgdbcaaGreatDoor
set_option maxRecDepth 100000
open Go.RowKit M

theorem numV_zero {T : ByteArray} {a x : Nat} (h : numX T a x ≠ 0) : numV T a x = 0 := by
  unfold numX at h
  unfold numV
  by_cases hs : fixU T a x 1 < 248
  · rw [if_pos hs] at h
    rw [if_pos hs]
    exact fixU_none (k := 1) h
  · rw [if_neg hs] at h
    rw [if_neg hs, if_neg h]
theorem raw_bad' {T : ByteArray} {a x : Nat} {n : Int} (h : x ≠ 0) : rawA T a x n = a ∧ rawX T a x n = x ∧ rawS T a x n = ⟨#[]⟩ := by
  refine ⟨?_, ?_, ?_⟩
  · unfold rawA; rw [if_neg (fun hh => h hh.1)]
  · unfold rawX; rw [if_neg h]
  · unfold rawS; rw [if_neg (fun hh => h hh.1)]
theorem txt1 {T : ByteArray} {a x : Nat} {most : Int} (h : numX T a x ≠ 0) : txtX T a x most = numX T a x ∧ txtA T a x most = a ∧ txtS T a x most = ⟨#[]⟩ := by
  have hv := numV_zero h
  have hE : txtE T a x most = numX T a x := by unfold txtE; rw [hv, if_neg (by omega)]
  obtain ⟨r1, r2, r3⟩ := raw_bad' (T := T) (a := numA T a x) (n := txtK T a x) h
  have hX : txtX T a x most = numX T a x := by unfold txtX; rw [hE, r2]
  exact ⟨hX, by unfold txtA; rw [hX, if_neg h], by unfold txtS; rw [hE, r3]⟩
theorem txt2 {T : ByteArray} {a x : Nat} {most : Int} (h : numX T a x = 0) (hm : max most 0 < (numV T a x : Int)) : txtX T a x most = 12 ∧ txtA T a x most = a ∧ txtS T a x most = ⟨#[]⟩ := by
  have hE : txtE T a x most = 12 := by unfold txtE; rw [if_pos hm, if_pos h]
  obtain ⟨r1, r2, r3⟩ := raw_bad' (T := T) (a := numA T a x) (x := 12) (n := txtK T a x) (by decide)
  have hX : txtX T a x most = 12 := by unfold txtX; rw [hE, r2]
  exact ⟨hX, by unfold txtA; rw [hX, if_neg (by decide)], by unfold txtS; rw [hE, r3]⟩
theorem txt34 {T : ByteArray} {a x : Nat} {most : Int} (h2 : most ≤ 9223372036854775807) (h : numX T a x = 0) (hm : ¬ max most 0 < (numV T a x : Int)) : txtX T a x most = rawX T (numA T a x) 0 (numV T a x : Int) ∧ txtA T a x most = (if rawX T (numA T a x) 0 (numV T a x : Int) = 0 then rawA T (numA T a x) 0 (numV T a x : Int) else a) ∧ txtS T a x most = rawS T (numA T a x) 0 (numV T a x : Int) := by
  have hE : txtE T a x most = 0 := by unfold txtE; rw [if_neg hm, h]
  have hK : txtK T a x = (numV T a x : Int) := by unfold txtK; exact IntWalk.i64_in _ (by omega)
  have hX : txtX T a x most = rawX T (numA T a x) 0 (numV T a x : Int) := by unfold txtX; rw [hE, hK]
  exact ⟨hX, by unfold txtA; rw [hX, hE, hK], by unfold txtS; rw [hE, hK]⟩

set_option maxHeartbeats 800000 in
theorem ctxt_one (T : ByteArray) (a x : Nat) (most : Int) (_h1 : -9223372036854775808 ≤ most) (_h2 : most ≤ 9223372036854775807) (ha : a ≤ T.size) (hT : T.size ≤ 1000000) (hX : numX T a x ≠ 0) (w : World) :
    Calls Tryz.prog 26 #[cu T a x, .int .i64 most] w fun e w' => e = .returned (.tuple #[cu T (txtA T a x most) (txtX T a x most), .string (txtS T a x most)]) ∧ Below w.heap.size w w' := by
  have c1 := fun W => cnum_any T a x ha hT W
  have hAl := numA_le (T := T) (a := a) (x := x) ha
  have hvl := numV_lt T a x
  obtain ⟨e1, e2, e3⟩ := txt1 (most := most) hX
  rw [e1, e2, e3]
  have hv0 := numV_zero hX
  rw [hv0] at c1
  have z1 : ((numX T a x : Int) == 0) = false := by rw [beq_eq_false_iff_ne]; omega
  have z2 : ((numX T a x : Int) != 0) = true := by simp; omega
  generalize numA T a x = A at *
  generalize numX T a x = X at *
  have C1 := Box.mk c1
  clear c1 e1 e2 e3 hv0 hvl
  unfold cu at C1 ⊢
  go_enter Tryz.func26, Tryz.ntmps26
  go_wp2_with (go_at_call 24; ((with_reducible refine (C1.out _).mono ?_); rintro e w1 ⟨rfl, b1⟩; have B1 := Box.mk (bch (((Below.refl _ _).alloc (Nat.le_refl _) _).alloc (by simp) _) (b1.alloc b1.size (.cells #[.string T, .int .i64 (A : Int), .int .i64 (X : Int)] 65))); obtain ⟨⟨m0, m1, m2⟩, ⟨f0, f1, f2⟩, ⟨n0, n1, n2⟩, ⟨g0, g1, g2⟩⟩ := two3 (w := w) (b1.alloc b1.size (.cells #[.string T, .int .i64 (A : Int), .int .i64 (X : Int)] 65)) rfl;  have ts := b1.size; simp at ts; clear b1))
  refine bodyPost_ret (v := .tuple #[.agg #[.string T, .int .i64 (a : Int), .int .i64 (X : Int)], .string ⟨#[]⟩]) (by simp [results, go_sem, *]) rfl ⟨rfl, ?_⟩
  exact (((B1.out.setCell (Nat.le_refl _) _).setCell (Nat.le_succ _) _).setCell (Nat.le_succ _) _).setCell (Nat.le_succ _) _

set_option maxHeartbeats 800000 in
theorem ctxt_two (T : ByteArray) (a x : Nat) (most : Int) (h1 : -9223372036854775808 ≤ most) (h2 : most ≤ 9223372036854775807) (ha : a ≤ T.size) (hT : T.size ≤ 1000000) (hX : numX T a x = 0) (hm : max most 0 < (numV T a x : Int)) (w : World) :
    Calls Tryz.prog 26 #[cu T a x, .int .i64 most] w fun e w' => e = .returned (.tuple #[cu T (txtA T a x most) (txtX T a x most), .string (txtS T a x most)]) ∧ Below w.heap.size w w' := by
  have c1 := fun W => cnum_any T a x ha hT W
  have hAl := numA_le (T := T) (a := a) (x := x) ha
  have hvl := numV_lt T a x
  obtain ⟨e1, e2, e3⟩ := txt2 hX hm
  rw [e1, e2, e3]
  rw [hX] at c1
  generalize numA T a x = A at *
  generalize numV T a x = N at *
  have C1 := Box.mk c1
  have hd : (most < 0 ∧  0 < N) ∨ (0 ≤ most ∧ IntKind.u64.wrap most = most ∧  most < (N : Int)) := by
    by_cases h : most < 0
    · exact .inl ⟨h, by omega⟩
    · refine .inr ⟨by omega, ?_, by omega⟩
      obtain ⟨m, rfl⟩ : ∃ m : Nat, most = m := ⟨most.toNat, by omega⟩
      exact u64small (by omega)
  clear c1 e1 e2 e3 hX hm
  unfold cu at C1 ⊢
  have z0 : ((0 : Nat) : Int) = 0 := rfl
  have z12 : ((12 : Nat) : Int) = 12 := rfl
  simp only [z0, z12] at C1 ⊢
  clear z0 z12
  rcases hd with ⟨d1, d2⟩ | ⟨d1, d3, d4⟩
  all_goals
    go_enter Tryz.func26, Tryz.ntmps26
    go_wp2_with (go_at_call 24; ((with_reducible refine (C1.out _).mono ?_); rintro e w1 ⟨rfl, b1⟩; have B1 := Box.mk (bch (((Below.refl _ _).alloc (Nat.le_refl _) _).alloc (by simp) _) (b1.alloc b1.size (.cells #[.string T, .int .i64 (A : Int), .int .i64 12] 65))); obtain ⟨⟨m0, m1, m2⟩, ⟨f0, f1, f2⟩, ⟨n0, n1, n2⟩, ⟨g0, g1, g2⟩⟩ := two3 (w := w) (b1.alloc b1.size (.cells #[.string T, .int .i64 (A : Int), .int .i64 0] 65)) rfl; obtain ⟨⟨m3, m4, m5⟩, ⟨f3, f4, f5⟩, ⟨n3, n4, n5⟩, ⟨g3, g4, g5⟩⟩ := two3 (w := w) (b1.alloc b1.size (.cells #[.string T, .int .i64 (A : Int), .int .i64 12] 65)) rfl; have ts := b1.size; simp at ts; clear b1))
    have hle : w.heap.size ≤ w1.heap.size := by omega
    refine bodyPost_ret (v := .tuple #[.agg #[.string T, .int .i64 (a : Int), .int .i64 12], .string ⟨#[]⟩]) (by simp [results, go_sem, *]) rfl ⟨rfl, ?_⟩
    exact ((((B1.out.setCell (Nat.le_refl _) _).setCell (Nat.le_succ _) _).setCell (Nat.le_succ _) _).setCell (Nat.le_succ _) _)

set_option maxHeartbeats 800000 in
theorem ctxt_three (T : ByteArray) (a x : Nat) (most : Int) (h1 : -9223372036854775808 ≤ most) (h2 : most ≤ 9223372036854775807) (ha : a ≤ T.size) (hT : T.size ≤ 1000000) (hX : numX T a x = 0) (hm : ¬ max most 0 < (numV T a x : Int)) (hs : T.size - numA T a x < numV T a x) (w : World) :
    Calls Tryz.prog 26 #[cu T a x, .int .i64 most] w fun e w' => e = .returned (.tuple #[cu T (txtA T a x most) (txtX T a x most), .string (txtS T a x most)]) ∧ Below w.heap.size w w' := by
  have c1 := fun W => cnum_any T a x ha hT W
  have hAl := numA_le (T := T) (a := a) (x := x) ha
  have hvl := numV_lt T a x
  obtain ⟨e1, e2, e3⟩ := txt34 h2 hX hm
  have hc : ¬ (0 ≤ (numV T a x : Int) ∧ (numV T a x : Int) ≤ ((T.size - numA T a x : Nat) : Int)) := by omega
  have r1 : rawX T (numA T a x) 0 (numV T a x : Int) = 2 := by unfold rawX; rw [if_pos rfl, if_neg hc]
  have r3 : rawS T (numA T a x) 0 (numV T a x : Int) = ⟨#[]⟩ := by unfold rawS; rw [if_neg (fun h => hc h.2)]
  rw [r1] at e1 e2
  rw [if_neg (by decide)] at e2
  rw [e1, e2, e3, r3]
  rw [hX] at c1
  clear r1 r3 hc
  generalize numA T a x = A at *
  generalize numV T a x = N at *
  obtain ⟨Y, hY⟩ : ∃ Y, Y = T.size - A := ⟨_, rfl⟩
  have ey : (T.size : Int) - (A : Int) = (Y : Int) := by omega
  have ny : IntKind.u64.wrap (Y : Int) = (Y : Int) := u64small (by omega)
  have dn : Y < N := by omega
  have C1 := Box.mk c1
  have hd : (most < 0 ∧ N = 0) ∨ (0 ≤ most ∧ ¬ most < 0 ∧ IntKind.u64.wrap most = most ∧ ¬ most < (N : Int)) := by
    by_cases h : most < 0
    · exact .inl ⟨h, by omega⟩
    · refine .inr ⟨by omega, h, ?_, by omega⟩
      obtain ⟨m, rfl⟩ : ∃ m : Nat, most = m := ⟨most.toNat, by omega⟩
      exact u64small (by omega)
  clear c1 e1 e2 e3 hX hm hY hs
  unfold cu at C1 ⊢
  have z0 : ((0 : Nat) : Int) = 0 := rfl
  have z12 : ((2 : Nat) : Int) = 2 := rfl
  simp only [z0, z12] at C1 ⊢
  clear z0 z12
  rcases hd with ⟨d1, d2⟩ | ⟨d1, d2, d3, d4⟩
  · omega
  go_enter Tryz.func26, Tryz.ntmps26
  go_wp2_with (go_at_call 24; ((with_reducible refine (C1.out _).mono ?_); rintro e w1 ⟨rfl, b1⟩; have B1 := Box.mk (bch (((Below.refl _ _).alloc (Nat.le_refl _) _).alloc (by simp) _) (b1.alloc b1.size (.cells #[.string T, .int .i64 (A : Int), .int .i64 2] 65))); obtain ⟨⟨m0, m1, m2⟩, ⟨f0, f1, f2⟩, ⟨n0, n1, n2⟩, ⟨g0, g1, g2⟩⟩ := two3 (w := w) (b1.alloc b1.size (.cells #[.string T, .int .i64 (A : Int), .int .i64 0] 65)) rfl; obtain ⟨⟨m3, m4, m5⟩, ⟨f3, f4, f5⟩, ⟨n3, n4, n5⟩, ⟨g3, g4, g5⟩⟩ := two3 (w := w) (b1.alloc b1.size (.cells #[.string T, .int .i64 (A : Int), .int .i64 2] 65)) rfl; have ts := b1.size; simp at ts; clear b1))
  refine bodyPost_ret (v := .tuple #[.agg #[.string T, .int .i64 (a : Int), .int .i64 2], .string ⟨#[]⟩]) (by simp [results, go_sem, *]) rfl ⟨rfl, ?_⟩
  exact ((((B1.out.setCell (Nat.le_refl _) _).setCell (Nat.le_succ _) _).setCell (Nat.le_succ _) _).setCell (Nat.le_succ _) _)

set_option maxHeartbeats 800000 in
theorem ctxt_four (T : ByteArray) (a x : Nat) (most : Int) (h1 : -9223372036854775808 ≤ most) (h2 : most ≤ 9223372036854775807) (ha : a ≤ T.size) (hT : T.size ≤ 1000000) (hX : numX T a x = 0) (hm : ¬ max most 0 < (numV T a x : Int)) (hs : ¬ T.size - numA T a x < numV T a x) (w : World) :
    Calls Tryz.prog 26 #[cu T a x, .int .i64 most] w fun e w' => e = .returned (.tuple #[cu T (txtA T a x most) (txtX T a x most), .string (txtS T a x most)]) ∧ Below w.heap.size w w' := by
  have c1 := fun W => cnum_any T a x ha hT W
  have hAl := numA_le (T := T) (a := a) (x := x) ha
  have hvl := numV_lt T a x
  obtain ⟨e1, e2, e3⟩ := txt34 h2 hX hm
  have hc : 0 ≤ (numV T a x : Int) ∧ (numV T a x : Int) ≤ ((T.size - numA T a x : Nat) : Int) := by omega
  have r1 : rawX T (numA T a x) 0 (numV T a x : Int) = 0 := by unfold rawX; rw [if_pos rfl, if_pos hc]
  rw [r1] at e1 e2
  rw [if_pos rfl] at e2
  have c2 := fun W => crawl_any T (numA T a x) 0 (numV T a x : Int) hAl hT W
  rw [r1] at c2
  rw [e1, e2, e3]
  rw [hX] at c1
  have hv6 : numV T a x ≤ 1000000 := by omega
  clear r1 hc
  generalize rawA T (numA T a x) 0 (numV T a x : Int) = RA at *
  generalize rawS T (numA T a x) 0 (numV T a x : Int) = RS at *
  generalize numA T a x = A at *
  generalize numV T a x = N at *
  obtain ⟨Y, hY⟩ : ∃ Y, Y = T.size - A := ⟨_, rfl⟩
  have ey : (T.size : Int) - (A : Int) = (Y : Int) := by omega
  have ny : IntKind.u64.wrap (Y : Int) = (Y : Int) := u64small (by omega)
  have dn : ¬ Y < N := by omega
  have nN : IntKind.i64.wrap (N : Int) = (N : Int) := IntWalk.i64_in _ (by omega)
  have C1 := Box.mk c1; have C2 := Box.mk c2
  have hd : (most < 0 ∧ N = 0) ∨ (0 ≤ most ∧ ¬ most < 0 ∧ IntKind.u64.wrap most = most ∧ ¬ most < (N : Int)) := by
    by_cases h : most < 0
    · exact .inl ⟨h, by omega⟩
    · refine .inr ⟨by omega, h, ?_, by omega⟩
      obtain ⟨m, rfl⟩ : ∃ m : Nat, most = m := ⟨most.toNat, by omega⟩
      exact u64small (by omega)
  clear c1 c2 e1 e2 e3 hX hm hY hs
  unfold cu at C1 C2 ⊢
  have z0 : ((0 : Nat) : Int) = 0 := rfl
  rcases hd with ⟨d1, d2⟩ | ⟨d1, d2, d3, d4⟩
  all_goals
    (try subst d2)
    simp only [z0] at C1 C2 ⊢
    clear z0
    go_enter Tryz.func26, Tryz.ntmps26
    go_wp2_with (first
      | (go_at_call 24; ((with_reducible refine (C1.out _).mono ?_); rintro e w1 ⟨rfl, b1⟩; have B1 := Box.mk (bch (((Below.refl _ _).alloc (Nat.le_refl _) _).alloc (by simp) _) (b1.alloc b1.size (.cells #[.string T, .int .i64 (A : Int), .int .i64 0] 65))); obtain ⟨⟨m0, m1, m2⟩, ⟨f0, f1, f2⟩, ⟨n0, n1, n2⟩, ⟨g0, g1, g2⟩⟩ := two3 (w := w) (b1.alloc b1.size (.cells #[.string T, .int .i64 (A : Int), .int .i64 0] 65)) rfl; have Q1 := Box.mk (b1.alloc b1.size (.cells #[.string T, .int .i64 (A : Int), .int .i64 0] 65)); have ts := b1.size; simp at ts; clear b1))
      | (go_at_call 25; ((with_reducible refine (C2.out _).mono ?_); rintro e w2 ⟨rfl, b2⟩; have B2 := Box.mk (bch B1.out b2); obtain ⟨_, _, ⟨n3, n4, n5⟩, ⟨g3, g4, g5⟩⟩ := two3 (w := w) (bch Q1.out b2) rfl; clear b2)))
    refine bodyPost_ret (v := .tuple #[.agg #[.string T, .int .i64 (RA : Int), .int .i64 0], .string RS]) (by simp [results, go_sem, *]) rfl ⟨rfl, ?_⟩
    exact ((B2.out.setCell (Nat.le_succ _) _).setCell (Nat.le_succ _) _).setCell (Nat.le_succ _) _

theorem ctxt_any (T : ByteArray) (a x : Nat) (most : Int) (h1 : -9223372036854775808 ≤ most) (h2 : most ≤ 9223372036854775807) (ha : a ≤ T.size) (hT : T.size ≤ 1000000) (w : World) :
    Calls Tryz.prog 26 #[cu T a x, .int .i64 most] w fun e w' => e = .returned (.tuple #[cu T (txtA T a x most) (txtX T a x most), .string (txtS T a x most)]) ∧ Below w.heap.size w w' := by
  by_cases hX : numX T a x = 0
  · by_cases hm : max most 0 < (numV T a x : Int)
    · exact ctxt_two T a x most h1 h2 ha hT hX hm w
    · by_cases hs : T.size - numA T a x < numV T a x
      · exact ctxt_three T a x most h1 h2 ha hT hX hm hs w
      · exact ctxt_four T a x most h1 h2 ha hT hX hm hs w
  · exact ctxt_one T a x most h1 h2 ha hT hX w

set_option maxHeartbeats 400000 in
theorem cdone_any (T : ByteArray) (a x : Nat) (w : World) :
    Calls Tryz.prog 27 #[cu T a x] w fun e w' => e = .returned (cu T a (if x = 0 ∧ a < T.size then 3 else x)) ∧ Below w.heap.size w w' := by
  unfold cu
  by_cases hx : x = 0
  · subst hx
    by_cases hs : a < T.size
    · rw [if_pos ⟨rfl, hs⟩]
      go_enter Tryz.func27, Tryz.ntmps27
      go_wp2
      refine bodyPost_ret (v := .agg #[.string T, .int .i64 (a : Int), .int .i64 3]) (by simp [results, go_sem, *]) rfl ⟨rfl, ?_⟩
      exact ((Below.refl _ _).alloc (Nat.le_refl _) _).alloc (by simp) _
    · rw [if_neg (fun h => hs h.2)]
      go_enter Tryz.func27, Tryz.ntmps27
      go_wp2
      refine bodyPost_ret (v := .agg #[.string T, .int .i64 (a : Int), .int .i64 0]) (by simp [results, go_sem, *]) rfl ⟨rfl, ?_⟩
      exact ((Below.refl _ _).alloc (Nat.le_refl _) _).alloc (by simp) _
  · rw [if_neg (fun h => hx h.1)]
    have z1 : ((x : Int) == 0) = false := by rw [beq_eq_false_iff_ne]; omega
    go_enter Tryz.func27, Tryz.ntmps27
    go_wp2
    refine bodyPost_ret (v := .agg #[.string T, .int .i64 (a : Int), .int .i64 (x : Int)]) (by simp [results, go_sem, *]) rfl ⟨rfl, ?_⟩
    exact ((Below.refl _ _).alloc (Nat.le_refl _) _).alloc (by simp) _
end Go.Proofs.YtacfdnjdjgdbcaaGreatDoor
