/- Contracts of flow: a flow of which nothing is known. -/
import Derived.Test.YtccjekgbhablpaaFloO
import Derived.Test.YtccjekgbhablpaaBatch
namespace Go.Proofs.Ytccjekgbhablpaa
set_option maxRecDepth 100000
open Go.RowKit

def rgC (l : List (List (Bool × Nat))) : List Value := l.flatMap nV
def v8z : List (Bool × Nat) := List.replicate 8 (false, 0)
theorem made_int (n : Nat) : madeCells (Value.int .i64 0).cells (n * 1) = (nI (List.replicate n 0)).toArray := by
  apply Array.ext_getElem?
  intro j
  by_cases hj : j < n
  · simp [madeCells, nI, hj, Value.cells, Nat.mod_one]
  · simp [madeCells, nI, hj]
theorem made_u64 (n : Nat) : madeCells (Value.int .u64 0).cells (n * 1) = (nU (List.replicate n 0)).toArray := by
  apply Array.ext_getElem?
  intro j
  by_cases hj : j < n
  · simp [madeCells, nU, hj, Value.cells, Nat.mod_one]
  · simp [madeCells, nU, hj]
theorem made_val (n : Nat) : madeCells (Value.agg #[.bool false, .int .u64 0]).cells (n * 2) = (nV (List.replicate n (false, 0))).toArray := by
  apply Array.ext_getElem?
  intro j
  by_cases hj : j < n * 2
  · have h1 : (nV (List.replicate n (false, 0)))[j / 2 * 2 + j % 2]? = (vC (false, 0))[j % 2]? := nV_get (l := List.replicate n (false, 0)) (k := j / 2) (by rw [List.getElem?_replicate, if_pos (by omega)]) (j % 2) (Nat.mod_lt _ (by decide))
    rw [show j / 2 * 2 + j % 2 = j by omega] at h1
    have h3 : (nV (List.replicate n (false, 0))).toArray[j]? = (nV (List.replicate n (false, 0)))[j]? := by simp
    rw [h3, h1]
    have h2 : j % 2 = 0 ∨ j % 2 = 1 := by omega
    rcases h2 with h2 | h2
    · simp [madeCells, hj, Value.cells, h2, vC]
    · simp [madeCells, hj, Value.cells, h2, vC]
  · rw [Array.getElem?_eq_none (by simp [madeCells]; omega), List.getElem?_toArray, List.getElem?_eq_none (by rw [nV_len]; simp; omega)]
theorem rgC_zero (m : Nat) : rgC (List.replicate m v8z) = nV (List.replicate (m * 8) (false, 0)) := by
  induction m with
  | zero => rfl
  | succ m ih =>
    rw [List.replicate_succ]
    unfold rgC at ih ⊢
    rw [List.flatMap_cons, ih, show (m + 1) * 8 = 8 + m * 8 by omega, ← List.replicate_append_replicate]
    unfold nV v8z
    rw [List.flatMap_append]
theorem made_v8 (m : Nat) : madeCells (Value.agg #[.bool false, .int .u64 0, .bool false, .int .u64 0, .bool false, .int .u64 0, .bool false, .int .u64 0, .bool false, .int .u64 0, .bool false, .int .u64 0, .bool false, .int .u64 0, .bool false, .int .u64 0]).cells (m * 16) = (rgC (List.replicate m v8z)).toArray := by
  rw [rgC_zero]
  have h := made_val (m * 8)
  rw [show m * 8 * 2 = m * 16 by omega] at h
  rw [← h]
  apply Array.ext_getElem?
  intro j
  by_cases hj : j < m * 16
  · have h2 : j % 16 < 16 := Nat.mod_lt _ (by decide)
    have h3 : j % 2 = j % 16 % 2 := by omega
    simp only [madeCells, Value.cells, Array.getElem?_map, Array.getElem?_range, if_pos hj, Option.map_some]
    show some ((#[Value.bool false, .int .u64 0, .bool false, .int .u64 0, .bool false, .int .u64 0, .bool false, .int .u64 0, .bool false, .int .u64 0, .bool false, .int .u64 0, .bool false, .int .u64 0, .bool false, .int .u64 0] : Array Value)[j % 16]!) = some ((#[Value.bool false, .int .u64 0] : Array Value)[j % 2]!)
    rw [h3]
    generalize j % 16 = r at *
    match r, h2 with
    | 0, _ => rfl
    | 1, _ => rfl
    | 2, _ => rfl
    | 3, _ => rfl
    | 4, _ => rfl
    | 5, _ => rfl
    | 6, _ => rfl
    | 7, _ => rfl
    | 8, _ => rfl
    | 9, _ => rfl
    | 10, _ => rfl
    | 11, _ => rfl
    | 12, _ => rfl
    | 13, _ => rfl
    | 14, _ => rfl
    | 15, _ => rfl
    | r + 16, h => exact absurd h (by omega)
  · rw [Array.getElem?_eq_none (by simp [madeCells]; omega), Array.getElem?_eq_none (by simp [madeCells]; omega)]
theorem info_mi : (Try.prog.info? 3).map (fun i => (i.zero, i.size, i.bytes)) = some (some (.int .i64 0), 1, 8) := by kernel_rfl
theorem info_mu : (Try.prog.info? 46).map (fun i => (i.zero, i.size, i.bytes)) = some (some (.int .u64 0), 1, 8) := by kernel_rfl
theorem info_mv : (Try.prog.info? 74).map (fun i => (i.zero, i.size, i.bytes)) = some (some (.agg #[.bool false, .int .u64 0]), 2, 16) := by kernel_rfl
theorem info_m8 : (Try.prog.info? 76).map (fun i => (i.zero, i.size, i.bytes)) = some (some (.agg #[.bool false, .int .u64 0, .bool false, .int .u64 0, .bool false, .int .u64 0, .bool false, .int .u64 0, .bool false, .int .u64 0, .bool false, .int .u64 0, .bool false, .int .u64 0, .bool false, .int .u64 0]), 16, 128) := by kernel_rfl
theorem mk_row {T E : TypeId} {z : Value} {size bytes : Nat} (hT : Try.prog.underlying T = some (.slice E)) (hi : (Try.prog.info? E).map (fun i => (i.zero, i.size, i.bytes)) = some (some z, size, bytes)) (hb : bytes ≤ 128) (n : Nat) (hn : n ≤ 1000000) (W : World) :
    (Instr.makeSlice T (.int .i64 (n : Int)) (.int .i64 (n : Int))).run Try.prog W = .ok (.slice (some ⟨W.heap.size, 0, none⟩) n n) (W.alloc (.cells (madeCells z.cells (n * size)) E)) := by
  obtain ⟨i, h1, h2, h3, h4⟩ := info_parts hi
  have hm : bytes * n ≤ 128 * 1000000 := Nat.mul_le_mul hb hn
  have := run_make W T E i z hT h1 h2 .i64 .i64 (n : Int) (n : Int) (by omega) (by omega) (by rw [h4]; have : ((bytes * n : Nat) : Int) ≤ 128000000 := by omega
                                                                                              rw [Int.natCast_mul] at this; omega) (by omega)
  rw [h3] at this
  simpa using this
def mkLen (n m : Nat) (i : Nat) : Nat := if i < 12 then n else m
def mkObj (n m : Nat) : Nat → Obj
  | 1 => .cells (nI (List.replicate n 0)).toArray 3
  | 3 => .cells (nV (List.replicate n (false, 0))).toArray 74
  | 5 => .cells (nI (List.replicate n 0)).toArray 3
  | 7 => .cells (nU (List.replicate n 0)).toArray 46
  | 9 => .cells (nU (List.replicate n 0)).toArray 46
  | 11 => .cells (nU (List.replicate n 0)).toArray 46
  | 13 => .cells (nU (List.replicate m 0)).toArray 46
  | _ => .cells (rgC (List.replicate m v8z)).toArray 76
/-- rows that are made, in whatever order: what is there so far -/
structure Mk (E W : World) (n m : Nat) (R : Nat → Bool) (v : Nat → Value) (b : Nat → Nat) : Prop where
  bel : Below E.heap.size E W
  at' : ∀ i, R i = false → v i = .slice (some ⟨b i, 0, none⟩) (mkLen n m i) (mkLen n m i) ∧ E.heap.size ≤ b i ∧ W.heap[b i]? = some (mkObj n m i)
  ne : ∀ i j, R i = false → R j = false → i ≠ j → b i ≠ b j
theorem ltOf' {W : World} {b : Nat} {o : Obj} (h : W.heap[b]? = some o) : b < W.heap.size := ltOf h
theorem Mk.step {E W : World} {n m : Nat} {R : Nat → Bool} {v : Nat → Value} {b : Nat → Nat} (h : Mk E W n m R v b) (i : Nat) :
    Mk E (W.alloc (mkObj n m i)) n m (fun j => R j && j != i) (fun j => if j = i then .slice (some ⟨W.heap.size, 0, none⟩) (mkLen n m i) (mkLen n m i) else v j) (fun j => if j = i then W.heap.size else b j) := by
  refine ⟨belA h.bel _, fun j hj => ?_, fun j k hj hk hne => ?_⟩
  · by_cases e : j = i
    · subst e
      simp only [if_true]
      exact ⟨trivial, h.bel.size, heap_alloc_new _ _⟩
    · simp only [if_neg e]
      obtain ⟨x, y, z⟩ := h.at' j (by simpa [e] using hj)
      exact ⟨x, y, ((aset W _).block _ (ltOf' z)).trans z⟩
  · have lt : ∀ q, q ≠ i → (R q && q != i) = false → b q < W.heap.size := fun q hq h1 => by
      obtain ⟨_, _, z⟩ := h.at' q (by simpa [hq] using h1)
      exact ltOf' z
    by_cases e : j = i
    · subst e
      have hk2 : k ≠ j := fun e => hne e.symm
      simp only [if_true, if_neg hk2]
      have := lt k hk2 hk
      omega
    · simp only [if_neg e]
      by_cases e2 : k = i
      · subst e2
        simp only [if_true]
        have := lt j e hj
        omega
      · simp only [if_neg e2]
        exact h.ne j k (by simpa [e] using hj) (by simpa [e2] using hk) hne

set_option maxHeartbeats 6400000 in
theorem blank_any (n m : Nat) (hn : n ≤ 1000000) (hm : m ≤ 1000000) (w : World) :
    Calls Try.prog 23 #[.int .i64 (n : Int), .int .i64 (m : Int)] w fun e w' => ∃ (b : Nat → Nat) (fb : Nat), e = .returned (.pointer (some ⟨fb, 0, none⟩)) ∧ Below w.heap.size w w' ∧ w.heap.size ≤ fb ∧ (∀ i ∈ ([1, 3, 5, 7, 9, 11, 13, 15] : List Nat), w.heap.size ≤ b i ∧ b i ≠ fb ∧ w'.heap[b i]? = some (mkObj n m i)) ∧ (∀ i ∈ ([1, 3, 5, 7, 9, 11, 13, 15] : List Nat), ∀ j ∈ ([1, 3, 5, 7, 9, 11, 13, 15] : List Nat), i ≠ j → b i ≠ b j) ∧
      w'.heap[fb]? = some (.cells #[.slice (some ⟨b 1, 0, none⟩) n n, .slice (some ⟨b 3, 0, none⟩) n n, .slice (some ⟨b 5, 0, none⟩) n n, .slice (some ⟨b 7, 0, none⟩) n n, .slice (some ⟨b 9, 0, none⟩) n n, .slice (some ⟨b 11, 0, none⟩) n n, .slice (some ⟨b 13, 0, none⟩) m m, .slice (some ⟨b 15, 0, none⟩) m m, .bool false] 68 (0, 0)) := by
  have k1 : ∀ W : World, (Instr.makeSlice 64 (.int .i64 (n : Int)) (.int .i64 (n : Int))).run Try.prog W = .ok (.slice (some ⟨W.heap.size, 0, none⟩) n n) (W.alloc (mkObj n m 1)) := fun W => by
    have := mk_row (T := 64) Try.underlying64 info_mi (by decide) n hn W
    rw [made_int] at this; exact this
  have k3 : ∀ W : World, (Instr.makeSlice 27 (.int .i64 (n : Int)) (.int .i64 (n : Int))).run Try.prog W = .ok (.slice (some ⟨W.heap.size, 0, none⟩) n n) (W.alloc (mkObj n m 3)) := fun W => by
    have := mk_row (T := 27) Try.underlying27 info_mv (by decide) n hn W
    rw [made_val] at this; exact this
  have k7 : ∀ W : World, (Instr.makeSlice 65 (.int .i64 (n : Int)) (.int .i64 (n : Int))).run Try.prog W = .ok (.slice (some ⟨W.heap.size, 0, none⟩) n n) (W.alloc (mkObj n m 7)) := fun W => by
    have := mk_row (T := 65) Try.underlying65 info_mu (by decide) n hn W
    rw [made_u64] at this; exact this
  have k13 : ∀ W : World, (Instr.makeSlice 65 (.int .i64 (m : Int)) (.int .i64 (m : Int))).run Try.prog W = .ok (.slice (some ⟨W.heap.size, 0, none⟩) m m) (W.alloc (mkObj n m 13)) := fun W => by
    have := mk_row (T := 65) Try.underlying65 info_mu (by decide) m hm W
    rw [made_u64] at this; exact this
  have k15 : ∀ W : World, (Instr.makeSlice 66 (.int .i64 (m : Int)) (.int .i64 (m : Int))).run Try.prog W = .ok (.slice (some ⟨W.heap.size, 0, none⟩) m m) (W.alloc (mkObj n m 15)) := fun W => by
    have := mk_row (T := 66) Try.underlying66 info_m8 (by decide) m hm W
    rw [made_v8] at this; exact this
  go_enter Try.func23, Try.ntmps23
  go_upto_region 1 with fail
  refine wp_region_held_drew (S := fun W => Below w.heap.size w W) (by kernel_rfl) ((Below.refl _ _).drew) (fun hHeld => ?_)
  generalize hwd : w.drew = wd at *
  have hz : wd.heap.size = w.heap.size := by rw [← hwd]; rfl
  refine wpAnyH_take (i := 0) (v := .int .i64 (n : Int)) rfl (by kernel_rfl) (by kernel_rfl) (by kernel_rfl) (fun _ _ _ h => h) (Or.inl ⟨by rfl, fun w' hw' => by go_simp; try rfl⟩) hHeld ?_
  (try simp only [Act.put, List.getElem_toArray, List.setIfInBounds_toArray])
  refine wpAnyH_take (i := 2) (v := .int .i64 (n : Int)) rfl (by kernel_rfl) (by kernel_rfl) (by kernel_rfl) (fun _ _ _ h => h) (Or.inl ⟨by rfl, fun w' hw' => by go_simp; try rfl⟩) hHeld ?_
  (try simp only [Act.put, List.getElem_toArray])
  refine wpAnyH_take (i := 4) (v := .int .i64 (n : Int)) rfl (by kernel_rfl) (by kernel_rfl) (by kernel_rfl) (fun _ _ _ h => h) (Or.inl ⟨by rfl, fun w' hw' => by go_simp; try rfl⟩) hHeld ?_
  (try simp only [Act.put, List.getElem_toArray])
  refine wpAnyH_take (i := 6) (v := .int .i64 (n : Int)) rfl (by kernel_rfl) (by kernel_rfl) (by kernel_rfl) (fun _ _ _ h => h) (Or.inl ⟨by rfl, fun w' hw' => by go_simp; try rfl⟩) hHeld ?_
  (try simp only [Act.put, List.getElem_toArray])
  refine wpAnyH_take (i := 8) (v := .int .i64 (n : Int)) rfl (by kernel_rfl) (by kernel_rfl) (by kernel_rfl) (fun _ _ _ h => h) (Or.inl ⟨by rfl, fun w' hw' => by go_simp; try rfl⟩) hHeld ?_
  (try simp only [Act.put, List.getElem_toArray])
  refine wpAnyH_take (i := 10) (v := .int .i64 (n : Int)) rfl (by kernel_rfl) (by kernel_rfl) (by kernel_rfl) (fun _ _ _ h => h) (Or.inl ⟨by rfl, fun w' hw' => by go_simp; try rfl⟩) hHeld ?_
  (try simp only [Act.put, List.getElem_toArray])
  refine wpAnyH_take (i := 12) (v := .int .i64 (m : Int)) rfl (by kernel_rfl) (by kernel_rfl) (by kernel_rfl) (fun _ _ _ h => h) (Or.inl ⟨by rfl, fun w' hw' => by go_simp; try rfl⟩) hHeld ?_
  (try simp only [Act.put, List.getElem_toArray])
  refine wpAnyH_take (i := 14) (v := .int .i64 (m : Int)) rfl (by kernel_rfl) (by kernel_rfl) (by kernel_rfl) (fun _ _ _ h => h) (Or.inl ⟨by rfl, fun w' hw' => by go_simp; try rfl⟩) hHeld ?_
  (try simp only [Act.put, List.getElem_toArray])
  refine wpAnyH_batch0 [1, 3, 5, 7, 9, 11, 13, 15] #[true, true, true, true, true, true, true, true, true, true, true, true, true, true, true, true, false, false, false] 3
    (fun R a' W => ∃ (v : Nat → Value) (b : Nat → Nat), a' = ⟨#[.int .i64 (n : Int), .int .i64 (m : Int), undef, undef, .pointer none, .int .i64 (n : Int), v 1, .int .i64 (n : Int), v 3, .int .i64 (n : Int), v 5, .int .i64 (n : Int), v 7, .int .i64 (n : Int), v 9, .int .i64 (n : Int), v 11, .int .i64 (m : Int), v 13, .int .i64 (m : Int), v 15, undef, undef], []⟩ ∧ Mk w W n m R v b) rfl (by kernel_rfl) (by kernel_rfl) (by decide) ⟨fun _ => undef, fun _ => 0, rfl, ⟨hHeld, fun i h => by simp at h, fun i j h => by simp at h⟩⟩ ?_ ?_
  · intro i hi R a' W hJ hR
    obtain ⟨v, b, rfl, hT⟩ := hJ
    simp only [List.mem_cons, List.not_mem_nil, or_false] at hi
    have HT := Bx.mk hT
    have hHd := hT.bel
    clear hT hHeld
    rcases hi with rfl | rfl | rfl | rfl | rfl | rfl | rfl | rfl
    · refine wpOp_stepS rfl (fun K' hK => ?_)
      go_simp
      exact hK.out _ _ ⟨belA hHd _, _, _, rfl, HT.out.step 1⟩
    · refine wpOp_stepS rfl (fun K' hK => ?_)
      go_simp
      exact hK.out _ _ ⟨belA hHd _, _, _, rfl, HT.out.step 3⟩
    · refine wpOp_stepS rfl (fun K' hK => ?_)
      go_simp
      exact hK.out _ _ ⟨belA hHd _, _, _, rfl, HT.out.step 5⟩
    · refine wpOp_stepS rfl (fun K' hK => ?_)
      go_simp
      exact hK.out _ _ ⟨belA hHd _, _, _, rfl, HT.out.step 7⟩
    · refine wpOp_stepS rfl (fun K' hK => ?_)
      go_simp
      exact hK.out _ _ ⟨belA hHd _, _, _, rfl, HT.out.step 9⟩
    · refine wpOp_stepS rfl (fun K' hK => ?_)
      go_simp
      exact hK.out _ _ ⟨belA hHd _, _, _, rfl, HT.out.step 11⟩
    · refine wpOp_stepS rfl (fun K' hK => ?_)
      go_simp
      exact hK.out _ _ ⟨belA hHd _, _, _, rfl, HT.out.step 13⟩
    · refine wpOp_stepS rfl (fun K' hK => ?_)
      go_simp
      exact hK.out _ _ ⟨belA hHd _, _, _, rfl, HT.out.step 15⟩
  · intro R a' W hJ h0
    obtain ⟨v, b, rfl, hT⟩ := hJ
    obtain ⟨hHd, hA, hN⟩ := hT
    obtain ⟨e1, g1, o1⟩ := hA 1 (h0 1 (by simp))
    rw [e1, show mkLen n m 1 = n from rfl]
    obtain ⟨e3, g3, o3⟩ := hA 3 (h0 3 (by simp))
    rw [e3, show mkLen n m 3 = n from rfl]
    obtain ⟨e5, g5, o5⟩ := hA 5 (h0 5 (by simp))
    rw [e5, show mkLen n m 5 = n from rfl]
    obtain ⟨e7, g7, o7⟩ := hA 7 (h0 7 (by simp))
    rw [e7, show mkLen n m 7 = n from rfl]
    obtain ⟨e9, g9, o9⟩ := hA 9 (h0 9 (by simp))
    rw [e9, show mkLen n m 9 = n from rfl]
    obtain ⟨e11, g11, o11⟩ := hA 11 (h0 11 (by simp))
    rw [e11, show mkLen n m 11 = n from rfl]
    obtain ⟨e13, g13, o13⟩ := hA 13 (h0 13 (by simp))
    rw [e13, show mkLen n m 13 = m from rfl]
    obtain ⟨e15, g15, o15⟩ := hA 15 (h0 15 (by simp))
    rw [e15, show mkLen n m 15 = m from rfl]
    have HN : Bx (∀ i ∈ ([1, 3, 5, 7, 9, 11, 13, 15] : List Nat), ∀ j ∈ ([1, 3, 5, 7, 9, 11, 13, 15] : List Nat), i ≠ j → b i ≠ b j) := ⟨fun i hi j hj => hN i j (h0 i hi) (h0 j hj)⟩
    have HA : Bx (∀ i ∈ ([1, 3, 5, 7, 9, 11, 13, 15] : List Nat), w.heap.size ≤ b i ∧ b i < W.heap.size ∧ W.heap[b i]? = some (mkObj n m i)) := ⟨fun i hi => ⟨(hA i (h0 i hi)).2.1, ltOf (hA i (h0 i hi)).2.2, (hA i (h0 i hi)).2.2⟩⟩
    clear hA hN h0 e1 g1 o1 e3 g3 o3 e5 g5 o5 e7 g7 o7 e9 g9 o9 e11 g11 o11 e13 g13 o13 e15 g15 o15 k1 k3 k7 k13 k15
    refine wpAnyH_ready (rs := [16]) (by kernel_rfl) (by simp) ?_
    refine AllReadyH.cons rfl (fun K' hK => ?_) AllReadyH.nil
    go_simp
    refine hK.out _ _ hHd (fun hHeld2 => ?_)
    clear hK K'
    refine wpAnyH_ready (rs := [17]) (by kernel_rfl) (by simp) ?_
    refine AllReadyH.cons rfl (fun K' hK => ?_) AllReadyH.nil
    go_simp
    refine hK.out _ _ (belA hHd _) (fun hHeld3 => ?_)
    clear hK K'
    refine wpAnyH_ready (rs := [18]) (by kernel_rfl) (by simp) ?_
    refine AllReadyH.cons rfl (fun K' hK => ?_) AllReadyH.nil
    go_simp
    refine hK.out _ _ (belA hHd _) (fun hHeld4 => ?_)
    clear hK K'
    refine wpAnyH_done (by kernel_rfl) ?_ _
    go_wp2_with fail
    go_ret
    have hb2 := hHd.size
    refine ⟨b, W.heap.size, rfl, belA hHd _, hHd.size, fun i hi => ⟨(HA.out i hi).1, Nat.ne_of_lt (HA.out i hi).2.1, ((aset W _).block _ (HA.out i hi).2.1).trans (HA.out i hi).2.2⟩, HN.out, heap_alloc_new _ _⟩
end Go.Proofs.Ytccjekgbhablpaa
