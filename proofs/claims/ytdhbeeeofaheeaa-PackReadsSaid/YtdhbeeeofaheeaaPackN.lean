/- Contracts of ordeallaw04: put. -/
import Derived.Test.YtdhbeeeofaheeaaPackL
namespace Go.Proofs.Ytdhbeeeofaheeaa
set_option maxRecDepth 100000
open Go.RowKit M

/-- the bytes of a thing -/
def thL (k n : Int) (v : Nat) (s : ByteArray) : List Nat :=
  if k = 1 then fx (cl18 n) v else if k = 2 then numL v else if k = 3 then txtL (sb (s.extract 0 300)) else if k = 4 then sb (s.extract 0 300) else []
theorem thL_lt (k n : Int) (v : Nat) (s : ByteArray) : ∀ d ∈ thL k n v s, d < 2 ^ 8 := by
  intro d hd
  unfold thL at hd
  split at hd
  · exact fx_lt _ _ d hd
  · split at hd
    · exact numL_lt _ d hd
    · split at hd
      · unfold txtL at hd
        rcases List.mem_append.1 hd with h | h
        · exact numL_lt _ d h
        · exact sb_lt _ d h
      · split at hd
        · exact sb_lt _ d hd
        · cases hd
theorem thL_length (k n : Int) (v : Nat) (s : ByteArray) : (thL k n v s).length ≤ 309 := by
  have h1 := cl18_bd n
  have h2 := numL_length v
  have h3 := numL_length (sb (s.extract 0 300)).length
  have h4 : (sb (s.extract 0 300)).length ≤ 300 := by rw [sb_length]; exact cut_le s 300
  unfold thL
  split
  · rw [fx_length]; omega
  · split
    · omega
    · split
      · unfold txtL; rw [List.length_append]; omega
      · split
        · omega
        · simp

/-- what put leaves -/
def PutP (b : Nat) (L M : List Nat) (v0 : Value) (w : World) (e : Ending) (w' : World) : Prop :=
  e = .returned (.string (bs M)) ∧ ∃ v', Wr w' b (L ++ M) v' ∧ Ext b v0 v' w w'

theorem box_cells {w W W0 : World} {b : Nat} {v0 v1 x0 x1 x2 x3 : Value} {t : TypeId} (x : Ext b v0 v1 W0 W) (h0 : W0 = w.alloc (.cells #[x0, x1, x2, x3] t)) (hb : b < w.heap.size) (hv : ∀ k, v0.ownBlock = some k → k < w.heap.size) :
    W.cell? ⟨w.heap.size, 0, none⟩ = some x0 ∧ W.cell? ⟨w.heap.size, 1, none⟩ = some x1 ∧ W.cell? ⟨w.heap.size, 2, none⟩ = some x2 ∧ W.cell? ⟨w.heap.size, 3, none⟩ = some x3 := by
  subst h0
  have e : W.heap[w.heap.size]? = some (.cells #[x0, x1, x2, x3] t) := by
    rw [x.block w.heap.size (by simp) (by omega) (fun e => by have := hv _ e; omega)]
    exact heap_alloc_new w _
  have hc := fun j => cell_of_row W w.heap.size j _ _ _ e
  exact ⟨by rw [hc]; rfl, by rw [hc]; rfl, by rw [hc]; rfl, by rw [hc]; rfl⟩

set_option maxHeartbeats 400000 in
theorem put1 (b : Nat) (L : List Nat) (v0 : Value) (n : Int) (v : Nat) (s : ByteArray) (hn1 : -9223372036854775808 ≤ n) (hn2 : n ≤ 9223372036854775807) (hv : v < 18446744073709551616) (w : World) (h : Wr w b L v0) (hl : L.length ≤ 500000) :
    Calls Try.prog 6 #[.pointer (some ⟨b, 0, none⟩), .agg #[.int .i64 1, .int .i64 n, .int .u64 v, .string s]] w (PutP b L (fx (cl18 n) v) v0 w) := by
  have hbl : b < w.heap.size := World.block_lt_of_cell? w _ h.cell
  have hob : ∀ k, v0.ownBlock = some k → k < w.heap.size := fun k hk => (h.own.lt k hk).2
  have c0 : ∀ w, Calls Try.prog 9 #[.string s, .int .i64 300] w fun e w' => e = .returned (.string (s.extract 0 300)) ∧ w = w' := fun w => cut_any s 300 w
  obtain ⟨s', hs'⟩ : ∃ s', s' = s.extract 0 300 := ⟨_, rfl⟩
  rw [← hs'] at c0
  have hba : Below w.heap.size w (w.alloc (.cells #[.int .i64 1, .int .i64 n, .int .u64 v, .string s'] 30)) := (Below.refl _ _).alloc (Nat.le_refl _) _
  have c1 := wfixed_any b L v0 v hv n _ (h.below hba) (by omega)
  have hcb := cl18_bd n
  have c2 := fun W => refFixed_any v (cl18 n) hv hcb.1 hcb.2 W
  have hcl : min (max n 1) 8 = ((cl18 n : Nat) : Int) := by unfold cl18; split; omega; split <;> omega
  have hz := fx_length (cl18 n) v
  have C0 := Box.mk c0; have C1 := Box.mk c1; have C2 := Box.mk c2; have HBA := Box.mk hba; have HOB := Box.mk hob
  generalize cl18 n = m at *
  clear c0 c1 c2 hba h hs' hob
  go_enter Try.func6, Try.ntmps6
  go_wp2_with (first
    | (go_at_call 9; ((with_reducible refine (C0.out _).mono ?_); rintro e w' ⟨rfl, rfl⟩))
    | (go_at_call 24; ((with_reducible refine C1.out.mono ?_); rintro e w1 ⟨rfl, v1, q1, x1⟩; have Q1 := Box.mk q1; have X1 := Box.mk x1; obtain ⟨m0, m1, m2, m3⟩ := box_cells x1 rfl hbl HOB.out; clear q1 x1))
    | (go_at_call 23; ((with_reducible refine (C2.out _).mono ?_); rintro e w2 ⟨rfl, b2⟩; have B2 := Box.mk b2; clear b2)))
  go_ret
  exact ⟨rfl, v1, Q1.out.below B2.out, ((Ext.of_below HBA.out).trans X1.out).trans (Ext.of_below B2.out)⟩

set_option maxHeartbeats 400000 in
theorem put2 (b : Nat) (L : List Nat) (v0 : Value) (n : Int) (v : Nat) (s : ByteArray) (hv : v < 18446744073709551616) (w : World) (h : Wr w b L v0) (hl : L.length ≤ 500000) :
    Calls Try.prog 6 #[.pointer (some ⟨b, 0, none⟩), .agg #[.int .i64 2, .int .i64 n, .int .u64 v, .string s]] w (PutP b L (numL v) v0 w) := by
  have hbl : b < w.heap.size := World.block_lt_of_cell? w _ h.cell
  have hob : ∀ k, v0.ownBlock = some k → k < w.heap.size := fun k hk => (h.own.lt k hk).2
  have c0 : ∀ w, Calls Try.prog 9 #[.string s, .int .i64 300] w fun e w' => e = .returned (.string (s.extract 0 300)) ∧ w = w' := fun w => cut_any s 300 w
  have hcs := cut_le s 300
  obtain ⟨s', hs'⟩ : ∃ s', s' = s.extract 0 300 := ⟨_, rfl⟩
  rw [← hs'] at c0 hcs
  have hba : Below w.heap.size w (w.alloc (.cells #[.int .i64 2, .int .i64 n, .int .u64 v, .string s'] 30)) := (Below.refl _ _).alloc (Nat.le_refl _) _
  have c1 := num_any b L v0 v hv _ (h.below hba) (by omega)
  have c2 := fun W => refNum_any v hv W
  have hz := numL_length v
  have C0 := Box.mk c0; have HBA := Box.mk hba; have HOB := Box.mk hob; have HW := Box.mk (h.below hba)
  have C1 := Box.mk c1; have C2 := Box.mk c2
  clear c1 c2
  clear c0 hba h hs' hob
  go_enter Try.func6, Try.ntmps6
  go_wp2_with (first
    | (go_at_call 9; ((with_reducible refine (C0.out _).mono ?_); rintro e w' ⟨rfl, rfl⟩))
    | (go_at_call 25; ((with_reducible refine C1.out.mono ?_); rintro e w1 ⟨rfl, v1, q1, x1⟩; have Q1 := Box.mk q1; have X1 := Box.mk x1; obtain ⟨m0, m1, m2, m3⟩ := box_cells x1 rfl hbl HOB.out; clear q1 x1))
    | (go_at_call 26; ((with_reducible refine (C2.out _).mono ?_); rintro e w2 ⟨rfl, b2⟩; have B2 := Box.mk b2; clear b2)))
  go_ret
  exact ⟨rfl, v1, Q1.out.below B2.out, ((Ext.of_below HBA.out).trans X1.out).trans (Ext.of_below B2.out)⟩

set_option maxHeartbeats 400000 in
theorem put3 (b : Nat) (L : List Nat) (v0 : Value) (n : Int) (v : Nat) (s : ByteArray) (_hv : v < 18446744073709551616) (w : World) (h : Wr w b L v0) (hl : L.length ≤ 500000) :
    Calls Try.prog 6 #[.pointer (some ⟨b, 0, none⟩), .agg #[.int .i64 3, .int .i64 n, .int .u64 v, .string s]] w (PutP b L (txtL (sb (s.extract 0 300))) v0 w) := by
  have hbl : b < w.heap.size := World.block_lt_of_cell? w _ h.cell
  have hob : ∀ k, v0.ownBlock = some k → k < w.heap.size := fun k hk => (h.own.lt k hk).2
  have c0 : ∀ w, Calls Try.prog 9 #[.string s, .int .i64 300] w fun e w' => e = .returned (.string (s.extract 0 300)) ∧ w = w' := fun w => cut_any s 300 w
  have hcs := cut_le s 300
  obtain ⟨s', hs'⟩ : ∃ s', s' = s.extract 0 300 := ⟨_, rfl⟩
  rw [← hs'] at c0 hcs ⊢
  have hba : Below w.heap.size w (w.alloc (.cells #[.int .i64 3, .int .i64 n, .int .u64 v, .string s'] 30)) := (Below.refl _ _).alloc (Nat.le_refl _) _
  have c1 := wtext_any b L v0 s' _ (h.below hba) (by omega)
  have c2 := fun W => refText_any s' (by omega) W
  have C0 := Box.mk c0; have HBA := Box.mk hba; have HOB := Box.mk hob; have HW := Box.mk (h.below hba)
  have C1 := Box.mk c1; have C2 := Box.mk c2
  clear c1 c2
  clear c0 hba h hs' hob
  go_enter Try.func6, Try.ntmps6
  go_wp2_with (first
    | (go_at_call 9; ((with_reducible refine (C0.out _).mono ?_); rintro e w' ⟨rfl, rfl⟩))
    | (go_at_call 27; ((with_reducible refine C1.out.mono ?_); rintro e w1 ⟨rfl, v1, q1, x1⟩; have Q1 := Box.mk q1; have X1 := Box.mk x1; obtain ⟨m0, m1, m2, m3⟩ := box_cells x1 rfl hbl HOB.out; clear q1 x1))
    | (go_at_call 28; ((with_reducible refine (C2.out _).mono ?_); rintro e w2 ⟨rfl, b2⟩; have B2 := Box.mk b2; clear b2)))
  go_ret
  exact ⟨rfl, v1, Q1.out.below B2.out, ((Ext.of_below HBA.out).trans X1.out).trans (Ext.of_below B2.out)⟩

set_option maxHeartbeats 400000 in
theorem put4 (b : Nat) (L : List Nat) (v0 : Value) (n : Int) (v : Nat) (s : ByteArray) (_hv : v < 18446744073709551616) (w : World) (h : Wr w b L v0) (hl : L.length ≤ 500000) :
    Calls Try.prog 6 #[.pointer (some ⟨b, 0, none⟩), .agg #[.int .i64 4, .int .i64 n, .int .u64 v, .string s]] w (PutP b L (sb (s.extract 0 300)) v0 w) := by
  have hbl : b < w.heap.size := World.block_lt_of_cell? w _ h.cell
  have hob : ∀ k, v0.ownBlock = some k → k < w.heap.size := fun k hk => (h.own.lt k hk).2
  have c0 : ∀ w, Calls Try.prog 9 #[.string s, .int .i64 300] w fun e w' => e = .returned (.string (s.extract 0 300)) ∧ w = w' := fun w => cut_any s 300 w
  have hcs := cut_le s 300
  obtain ⟨s', hs'⟩ : ∃ s', s' = s.extract 0 300 := ⟨_, rfl⟩
  rw [← hs'] at c0 hcs ⊢
  have hba : Below w.heap.size w (w.alloc (.cells #[.int .i64 4, .int .i64 n, .int .u64 v, .string s'] 30)) := (Below.refl _ _).alloc (Nat.le_refl _) _
  have c1 := raw_any b L v0 s' _ (h.below hba) (by omega)
  have hbs := bs_list s'
  have C0 := Box.mk c0; have HBA := Box.mk hba; have HOB := Box.mk hob; have HW := Box.mk (h.below hba)
  have C1 := Box.mk c1; have HBS := Box.mk hbs
  clear c1 hbs
  clear c0 hba h hs' hob
  go_enter Try.func6, Try.ntmps6
  go_wp2_with (first
    | (go_at_call 9; ((with_reducible refine (C0.out _).mono ?_); rintro e w' ⟨rfl, rfl⟩))
    | (go_at_call 29; ((with_reducible refine C1.out.mono ?_); rintro e w1 ⟨rfl, v1, q1, x1⟩; have Q1 := Box.mk q1; have X1 := Box.mk x1; obtain ⟨m0, m1, m2, m3⟩ := box_cells x1 rfl hbl HOB.out; clear q1 x1)))
  go_ret
  exact ⟨by rw [HBS.out]; rfl, v1, Q1.out, (Ext.of_below HBA.out).trans X1.out⟩

set_option maxHeartbeats 400000 in
theorem put5 (b : Nat) (L : List Nat) (v0 : Value) (k : Int) (hk1 : k ≠ 1) (hk2 : k ≠ 2) (hk3 : k ≠ 3) (hk4 : k ≠ 4) (n : Int) (v : Nat) (s : ByteArray) (_hv : v < 18446744073709551616) (w : World) (h : Wr w b L v0) (hl : L.length ≤ 500000) :
    Calls Try.prog 6 #[.pointer (some ⟨b, 0, none⟩), .agg #[.int .i64 k, .int .i64 n, .int .u64 v, .string s]] w (PutP b L [] v0 w) := by
  have hbl : b < w.heap.size := World.block_lt_of_cell? w _ h.cell
  have hob : ∀ k, v0.ownBlock = some k → k < w.heap.size := fun k hk => (h.own.lt k hk).2
  have c0 : ∀ w, Calls Try.prog 9 #[.string s, .int .i64 300] w fun e w' => e = .returned (.string (s.extract 0 300)) ∧ w = w' := fun w => cut_any s 300 w
  have hcs := cut_le s 300
  obtain ⟨s', hs'⟩ : ∃ s', s' = s.extract 0 300 := ⟨_, rfl⟩
  rw [← hs'] at c0 hcs
  have hba : Below w.heap.size w (w.alloc (.cells #[.int .i64 k, .int .i64 n, .int .u64 v, .string s'] 30)) := (Below.refl _ _).alloc (Nat.le_refl _) _
  have d1 : (k == 1) = false := by rw [beq_eq_false_iff_ne]; exact hk1
  have d2 : (k == 2) = false := by rw [beq_eq_false_iff_ne]; exact hk2
  have d3 : (k == 3) = false := by rw [beq_eq_false_iff_ne]; exact hk3
  have d4 : (k == 4) = false := by rw [beq_eq_false_iff_ne]; exact hk4
  have C0 := Box.mk c0; have HBA := Box.mk hba; have HOB := Box.mk hob; have HW := Box.mk (h.below hba)

  clear c0 hba h hs' hob
  go_enter Try.func6, Try.ntmps6
  go_wp2_with (first
    | (go_at_call 9; ((with_reducible refine (C0.out _).mono ?_); rintro e w' ⟨rfl, rfl⟩)))
  go_ret
  exact ⟨rfl, v0, by rw [List.append_nil]; exact HW.out, Ext.of_below HBA.out⟩

theorem put_any (b : Nat) (L : List Nat) (v0 : Value) (k n : Int) (v : Nat) (s : ByteArray) (hn1 : -9223372036854775808 ≤ n) (hn2 : n ≤ 9223372036854775807) (hv : v < 18446744073709551616) (w : World) (h : Wr w b L v0) (hl : L.length ≤ 500000) :
    Calls Try.prog 6 #[.pointer (some ⟨b, 0, none⟩), .agg #[.int .i64 k, .int .i64 n, .int .u64 v, .string s]] w (PutP b L (thL k n v s) v0 w) := by
  unfold thL
  by_cases h1 : k = 1
  · rw [if_pos h1, h1]; exact put1 b L v0 n v s hn1 hn2 hv w h hl
  rw [if_neg h1]
  by_cases h2 : k = 2
  · rw [if_pos h2, h2]; exact put2 b L v0 n v s hv w h hl
  rw [if_neg h2]
  by_cases h3 : k = 3
  · rw [if_pos h3, h3]; exact put3 b L v0 n v s hv w h hl
  rw [if_neg h3]
  by_cases h4 : k = 4
  · rw [if_pos h4, h4]; exact put4 b L v0 n v s hv w h hl
  rw [if_neg h4]
  exact put5 b L v0 k h1 h2 h3 h4 n v s hv w h hl
end Go.Proofs.Ytdhbeeeofaheeaa
