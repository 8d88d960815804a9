/- Contracts of ordealref04: ReadFixed. -/
import Derived.Test.YtdhbeeeofaheeaaPackR
namespace Go.Proofs.Ytdhbeeeofaheeaa
set_option maxRecDepth 100000
open Go.RowKit M

theorem two3 {w W0 W : World} {a b c d e f : Value} {t u : TypeId} (hb : Below W0.heap.size W0 W) (h0 : W0.heap = ((w.alloc (.cells #[a, b, c] t)).alloc (.cells #[d, e, f] u)).heap) :
    (W.cell? ⟨w.heap.size, 0, none⟩ = some a ∧ W.cell? ⟨w.heap.size, 1, none⟩ = some b ∧ W.cell? ⟨w.heap.size, 2, none⟩ = some c) ∧
    (W.frozen? ⟨w.heap.size, 0, none⟩ = false ∧ W.frozen? ⟨w.heap.size, 1, none⟩ = false ∧ W.frozen? ⟨w.heap.size, 2, none⟩ = false) ∧
    (W.cell? ⟨w.heap.size + 1, 0, none⟩ = some d ∧ W.cell? ⟨w.heap.size + 1, 1, none⟩ = some e ∧ W.cell? ⟨w.heap.size + 1, 2, none⟩ = some f) ∧
    (W.frozen? ⟨w.heap.size + 1, 0, none⟩ = false ∧ W.frozen? ⟨w.heap.size + 1, 1, none⟩ = false ∧ W.frozen? ⟨w.heap.size + 1, 2, none⟩ = false) := by
  have e1 : W.heap[w.heap.size]? = some (.cells #[a, b, c] t) := by
    rw [hb.block w.heap.size (by rw [h0]; simp; omega), h0, heap_alloc_old _ _ (by simp)]
    exact heap_alloc_new w _
  have e2 : W.heap[w.heap.size + 1]? = some (.cells #[d, e, f] u) := by
    rw [hb.block (w.heap.size + 1) (by rw [h0]; simp), h0]
    exact heap_alloc2_new w _ _
  have c1 := fun j => cell_of_row W w.heap.size j _ _ _ e1
  have c2 := fun j => cell_of_row W (w.heap.size + 1) j _ _ _ e2
  refine ⟨⟨by rw [c1]; rfl, by rw [c1]; rfl, by rw [c1]; rfl⟩, ⟨?_, ?_, ?_⟩, ⟨by rw [c2]; rfl, by rw [c2]; rfl, by rw [c2]; rfl⟩, ⟨?_, ?_, ?_⟩⟩
  all_goals
    unfold World.frozen?
    simp [e1, e2]

theorem un_snoc' (l : List Nat) (d : Nat) : un (l ++ [d]) = d + 256 * un l := by
  unfold un
  rw [List.reverse_append]
  rfl

set_option maxHeartbeats 600000 in
theorem cfix_any (T : ByteArray) (a x k : Nat) (ha : a ≤ T.size) (hT : T.size ≤ 1000000) (h1 : 1 ≤ k) (h8 : k ≤ 8) (w : World) :
    Calls Try.prog 11 #[cu T a x, .int .i64 (k : Int)] w fun e w' => e = .returned (.tuple #[cu T (rawA T a x k) (rawX T a x k), .int .u64 (fixU T a x k : Nat)]) ∧ Below w.heap.size w w' := by
  have c1 := fun W => crawl_any T a x (k : Int) ha hT W
  have hsz := rawS_size T a x k
  have hfx : fixU T a x k = un (sb (rawS T a x (k : Int))) := rfl
  rw [hfx]
  obtain ⟨s, hs⟩ : ∃ s, s = rawS T a x (k : Int) := ⟨_, rfl⟩
  rw [← hs] at c1 hsz ⊢
  have hs8 : s.size ≤ 8 := by omega
  generalize rawA T a x (k : Int) = a1 at *
  generalize rawX T a x (k : Int) = x1 at *
  clear hs hsz hfx
  have hbl := sb_lt s
  have hl := sb_length s
  obtain ⟨L, hL⟩ : ∃ L, L = sb s := ⟨_, rfl⟩
  rw [← hL] at hbl hl ⊢
  have hget : ∀ k, k < s.size → L.take (k + 1) = L.take k ++ [bn s k] := fun k hk => by
    rw [List.take_succ_eq_append_getElem (by omega)]
    have : L[k]'(by omega) = bn s k := by subst hL; simp [sb, bnl]
    rw [this]
  have hun : ∀ k, un (L.take k) < 256 ^ k := fun k => by
    have h := un_lt (l := L.take k) (fun d hd => hbl d (List.mem_of_mem_take hd))
    refine Nat.lt_of_lt_of_le h ?_
    rw [show (256 : Nat) = 2 ^ 8 by decide, ← Nat.pow_mul]
    exact Nat.pow_le_pow_right (by decide) (by rw [List.length_take]; omega)
  have HG := Box.mk hget; have HU := Box.mk hun; have HL := Box.mk hl; have C1 := Box.mk c1
  clear hget hun hbl hL hl c1
  unfold cu at C1 ⊢
  go_enter Try.func11, Try.ntmps11
  go_wp2_with (go_at_call 17; ((with_reducible refine (C1.out _).mono ?_); rintro e w1 ⟨rfl, b1⟩; obtain ⟨⟨m0, m1, m2⟩, ⟨f0, f1, f2⟩, ⟨n0, n1, n2⟩, ⟨g0, g1, g2⟩⟩ := two3 (w := w) b1 rfl; have B1 := Box.mk (bch (((Below.refl _ _).alloc (Nat.le_refl _) _).alloc (by simp) _) b1); clear b1))
  go_loop [7, 8] (fun x i => ∃ k : Nat, k ≤ s.size ∧ i = .int .i64 (k : Int) ∧ x = .int .u64 ((un (L.take k) : Nat) : Int)) (fun _ i => s.size - (intOf i).toNat)
  case atStart => exact ⟨0, by omega, rfl, by simp [un_nil]⟩
  case round =>
    obtain ⟨k, hk, rfl, rfl⟩ := hrel
    by_cases hlt : k < s.size
    · have hu := HU.out k
      have hu7 : un (L.take k) < 256 ^ 7 := Nat.lt_of_lt_of_le hu (Nat.pow_le_pow_right (by decide) (by omega))
      have hu7 : un (L.take k) < 72057594037927936 := hu7
      have hsn := un_snoc' (L.take k) (bn s k)
      rw [← HG.out k hlt] at hsn
      have hle := bn_le s k
      have HSN := Box.mk hsn
      rw [← bn_of hlt] at hle
      clear hsn hu
      generalize un (L.take k) = x at *
      go_wp2
      go_round
      case rel => exact ⟨k + 1, by omega, by go_num, by rw [HSN.out, ← bn_of hlt]; go_num⟩
      case measure => simp [intOf]; omega
    · obtain rfl : k = s.size := by omega
      have e : L.take s.size = L := List.take_of_length_le (by rw [HL.out]; omega)
      rw [e]
      go_wp2
      refine bodyPost_ret (v := .tuple #[.agg #[.string T, .int .i64 (a1 : Int), .int .i64 (x1 : Int)], .int .u64 ((un L : Nat) : Int)]) (by simp [results, go_sem, *]) rfl ⟨rfl, ?_⟩
      exact (((((B1.out.setCell (Nat.le_refl _) _).setCell (Nat.le_refl _) _).setCell (Nat.le_refl _) _).setCell (Nat.le_succ _) _).setCell (Nat.le_succ _) _).setCell (Nat.le_succ _) _
end Go.Proofs.Ytdhbeeeofaheeaa
