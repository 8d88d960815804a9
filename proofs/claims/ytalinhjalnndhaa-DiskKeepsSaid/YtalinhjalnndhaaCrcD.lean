/- The laws of layer 2 (crc): a burst of up to 32 bits is told. -/
import Derived.Test.YtalinhjalnndhaaCrcC
import Derived.RegionTactic
namespace Go.Proofs.Ytalinhjalnndhaa
set_option maxRecDepth 100000
open Go.RowKit M

/-- n cells of block g hold the bytes l and may be written -/
structure RowB (w : World) (g n : Nat) (l : List Nat) : Prop where
  len : l.length = n
  cell : ∀ j, j < n → w.cell? ⟨g, j, none⟩ = some (.int .u8 ((l.getD j 0 : Nat) : Int))
  free : ∀ j, j < n → w.frozen? ⟨g, j, none⟩ = false

theorem frozen_setCell (w : World) (p q : Addr) (u : Value) : (w.setCell p u).frozen? q = w.frozen? q := by
  simp only [World.setCell, World.frozen?, Array.getElem?_modify]
  by_cases h : p.block = q.block
  · simp only [h, if_true]
    cases hh : w.heap[q.block]? with
    | none => simp
    | some x => cases x <;> simp
  · simp [h]

theorem RowB.set {w : World} {g n : Nat} {l : List Nat} (h : RowB w g n l) (p x : Nat) (hp : p < n) : RowB (w.setCell ⟨g, p, none⟩ (.int .u8 (x : Int))) g n (l.set p x) := by
  refine ⟨by simpa using h.len, fun j hj => ?_, fun j hj => by rw [frozen_setCell]; exact h.free j hj⟩
  by_cases e : p = j
  · subst e
    rw [World.cell?_setCell_same _ _ _ (h.cell p hp)]
    simp [List.getD, h.len, hp]
  · have hne : (⟨g, p, none⟩ : Addr) ≠ ⟨g, j, none⟩ := fun h => e (by injection h)
    rw [World.cell?_setCell_other _ _ _ _ hne, h.cell j hj]
    rw [show (l.set p x).getD j 0 = l.getD j 0 by simp [List.getD, List.getElem?_set_ne e]]

theorem RowB.drew {w : World} {g n : Nat} {l : List Nat} (h : RowB w g n l) : RowB w.drew g n l := ⟨h.len, h.cell, h.free⟩

theorem getD_mem {l : List Nat} {p : Nat} (h : p < l.length) : l.getD p 0 ∈ l := by
  have e : l.getD p 0 = l[p] := by simp [List.getD, h]
  rw [e]; exact List.getElem_mem h

/-- a string turned into bytes that may be written -/
theorem str_row (w : World) (s : ByteArray) : ∃ cap W, (convert 9 76 (.string s)).run Try.prog w = .ok (.slice (some ⟨w.heap.size, 0, none⟩) s.size cap) W ∧
    RowB W w.heap.size s.size (sb s) ∧ Below w.heap.size w W ∧ w.heap.size < W.heap.size := by
  refine ⟨_, _, Lib.run_convert_string_bytes (P := Try.prog) w 9 76 5 s Try.underlying9 Try.underlying76 Try.underlying5, ⟨sb_length s, fun j hj => ?_, fun j hj => ?_⟩, ⟨rfl, rfl, rfl, ?_, fun k hk => Lib.bytesWorld_at_old w _ s k hk⟩, ?_⟩
  · rw [Lib.bytesWorld_cell w _ s j hj, sb, bnl_getD _ _ _ hj, ← bn_of hj]
    simp [List.getD, hj, ByteArray.getElem_eq_getElem_data]
  · unfold World.frozen?
    simp only [Lib.bytesWorld_at_new]
    have hsz : s.size ≤ (Lib.bytesCells w 5 s).size := by simp [Lib.bytesCells]
    simp; omega
  · rw [Lib.bytesWorld_size]; omega
  · rw [Lib.bytesWorld_size]; omega

/-- bytes turned into a string -/
theorem conv_row {w : World} {g n cap : Nat} {l : List Nat} (h : RowB w g n l) :
    (convert 76 9 (.slice (some ⟨g, 0, none⟩) n cap)).run Try.prog w = .ok (.string (bs l)) w := by
  refine run_convert_bytes_arg (P := Try.prog) w 76 5 Try.underlying76 Try.underlying5 g 0 n cap (l.map fun n => ((n : Nat) : Int)) (by simp [h.len]) (fun i hi => ?_) 9 Try.underlying9
  rw [Nat.zero_add, h.cell i hi]
  simp [List.getD, h.len, hi]

theorem mul_pow_xor (k x y : Nat) : 2 ^ k * (x ^^^ y) = 2 ^ k * x ^^^ 2 ^ k * y := by
  apply Nat.eq_of_testBit_eq
  intro i
  simp only [Nat.testBit_two_pow_mul, Nat.testBit_xor]
  by_cases h : k ≤ i <;> simp [h]

theorem num_set : ∀ (l : List Nat) (p q : Nat), (∀ d ∈ l, d < 2 ^ 8) → p < l.length → q < 8 → num 8 (l.set p (l.getD p 0 ^^^ 2 ^ q)) = num 8 l ^^^ 2 ^ (8 * p + q)
  | [], p, q, _, hp, _ => by simp at hp
  | d :: l, 0, q, h, _, hq => by
    have hd := h d (by simp)
    have hdq : d ^^^ 2 ^ q < 2 ^ 8 := Nat.xor_lt_two_pow hd (Nat.pow_lt_pow_right (by decide) hq)
    simp only [List.set_cons_zero, num, List.getD_cons_zero, Nat.mul_zero, Nat.zero_add]
    rw [xor_join _ _ _ hd, xor_join _ _ _ hdq, Nat.xor_assoc, Nat.xor_comm (2 ^ q), ← Nat.xor_assoc]
  | d :: l, p + 1, q, h, hp, hq => by
    have hd := h d (by simp)
    have ih := num_set l p q (fun c hc => h c (by simp [hc])) (by simpa using hp) hq
    simp only [List.set_cons_succ, num, List.getD_cons_succ]
    rw [ih, xor_join _ _ _ hd, xor_join _ _ _ hd, mul_pow_xor, ← Nat.xor_assoc, ← Nat.pow_add, show 8 + (8 * p + q) = 8 * (p + 1) + q by omega]
theorem set_lt {l : List Nat} {p x : Nat} (h : ∀ d ∈ l, d < 2 ^ 8) (hx : x < 2 ^ 8) : ∀ d ∈ l.set p x, d < 2 ^ 8 := by
  intro d hd
  rcases List.mem_or_eq_of_mem_set hd with h1 | h1
  · exact h d h1
  · rw [h1]; exact hx

/-- the bits that are turned, up to place k -/
def brN (bits lim k : Nat) : Nat := bits % 2 ^ (min k lim)
theorem brN_step {bits lim k : Nat} (h : k < lim) : brN bits lim (k + 1) = brN bits lim k ^^^ 2 ^ k * (bits / 2 ^ k % 2) := by
  unfold brN
  rw [Nat.min_eq_left (by omega), Nat.min_eq_left (by omega), mod_top, Nat.add_comm, Nat.mul_comm, xor_join _ _ _ (Nat.mod_lt _ (pow_pos' k))]
theorem brN_skip {bits lim k : Nat} (h : ¬ k < lim) : brN bits lim (k + 1) = brN bits lim k := by
  unfold brN
  rw [Nat.min_eq_right (by omega), Nat.min_eq_right (by omega)]
theorem brN_ne {bits lim k : Nat} (h : k < lim) (h1 : bits / 2 ^ k % 2 = 1) : brN bits lim (k + 1) ≠ 0 := by
  unfold brN
  rw [Nat.min_eq_left (by omega), mod_top, h1]
  have := pow_pos' k
  omega

/-- the change is told -/
theorem burst_told {l m : List Nat} {a x : Nat} (hlen : m.length = l.length) (hl : ∀ d ∈ l, d < 2 ^ 8) (hm : ∀ d ∈ m, d < 2 ^ 8) (ha : a < 8 * l.length) (hx : x < 4294967296) (h : num 8 m = num 8 l ^^^ 2 ^ a * x) :
    (ofN m ≠ ofN l) ↔ x ≠ 0 := by
  have h1 := crcF_lt (show 4294967295 < 4294967296 by omega) l hl
  have h2 := crcF_lt (show 4294967295 < 4294967296 by omega) m hm
  have e : crcF 4294967295 m = crcF 4294967295 l ^^^ sti (8 * l.length - a) x := by
    have e2 : sti (8 * l.length) (2 ^ a * x) = sti (8 * l.length - a) x := by
      conv => lhs; rw [show 8 * l.length = a + (8 * l.length - a) by omega, sti_add, sti_pow]
    unfold crcF
    rw [hlen, h, ← Nat.xor_assoc, sti_xor, e2]
  unfold ofN more
  simp only [Nat.sub_zero]
  constructor
  · intro hne h0
    apply hne
    rw [e, h0, sti_zero, Nat.xor_zero]
  · intro h0 he
    have h3 := sti_ne (8 * l.length - a) hx h0
    apply h3
    have h4 : crcF 4294967295 m = crcF 4294967295 l := by omega
    rw [h4] at e
    have := congrArg (fun z => crcF 4294967295 l ^^^ z) e
    simp only [← Nat.xor_assoc, Nat.xor_self, Nat.zero_xor] at this
    exact this.symm

theorem sb_bs (l : List Nat) (h : ∀ d ∈ l, d < 2 ^ 8) : sb (bs l) = l := by
  apply List.ext_getElem
  · simp [sb_length, bs_size]
  · intro i h1 h2
    simp only [sb, bnl, List.getElem_map, List.getElem_range]
    rw [bn_bs l h i h2]; simp [List.getD, h2]
end Go.Proofs.Ytalinhjalnndhaa
