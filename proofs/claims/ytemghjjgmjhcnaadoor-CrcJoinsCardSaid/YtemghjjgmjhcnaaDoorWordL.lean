/- Contracts of ordealref01: numbers that are turned and moved. -/
import Derived.Test.YtemghjjgmjhcnaaDoorWordK
import Derived.RegionTactic
namespace Go.Proofs.YtemghjjgmjhcnaaDoor
open Go.RowKit M

/-- a list of A numbers -/
def flA (A : Nat) (f : Nat → Nat) : List Nat := (List.range A).map f
theorem flA_length (A : Nat) (f : Nat → Nat) : (flA A f).length = A := by simp [flA]
theorem flA_set (A : Nat) (f : Nat → Nat) (j x : Nat) : (flA A f).set j x = flA A fun i => if i = j then x else f i := by
  apply List.ext_getElem
  · simp [flA]
  · intro i h1 h2
    rw [List.getElem_set]
    by_cases h : j = i
    · subst h; simp [flA]
    · rw [if_neg h]; simp [flA, Ne.symm h]
theorem flA_zero (A : Nat) : ints (flA A fun _ => 0) = List.replicate A (.int .i64 0) := by
  apply List.ext_getElem
  · simp [ints, flA]
  · intro i h1 h2; simp [ints, flA]

/-- turned by s of A: bit by bit, up to place i -/
def tnf (v A s i : Nat) : Nat → Nat := fun j => if (j + A - s) % A < i then v / 2 ^ ((j + A - s) % A) % 2 else 0

theorem flA_congr {A : Nat} {f g : Nat → Nat} (h : ∀ i, i < A → f i = g i) : flA A f = flA A g := by
  apply List.map_congr_left; intro i hi; exact h i (by simpa using hi)
theorem flA_le {A : Nat} {f : Nat → Nat} (h : ∀ i, i < A → f i ≤ 1) : ∀ b ∈ flA A f, b ≤ 1 := by
  intro b hb; simp [flA] at hb; obtain ⟨i, hi, rfl⟩ := hb; exact h i hi
theorem flA_getD (A : Nat) (f : Nat → Nat) (i : Nat) : (flA A f).getD i 0 = if i < A then f i else 0 := by
  by_cases h : i < A <;> simp [flA, List.getD, h]

theorem turn_index {A j : Nat} {n : Int} (hA : 1 ≤ A) : ∃ q q2 : Int, ∃ d : Nat, q = n.tmod A ∧ q2 = ((j : Int) + q).tmod A ∧ d < A ∧ (q2 + A).tmod A = d ∧ (q2 + A) % A = d ∧ d = (j + (n % A).toNat) % A ∧ -A < q ∧ q < A ∧ -A < q2 ∧ q2 < A := by
  have hA' : (0 : Int) < A := by omega
  have t1 := Int.lt_tmod_of_pos n hA'
  have t2 := Int.tmod_lt_of_pos n hA'
  have t3 := Int.lt_tmod_of_pos ((j : Int) + n.tmod A) hA'
  have t4 := Int.tmod_lt_of_pos ((j : Int) + n.tmod A) hA'
  have m1 := Int.emod_lt_of_pos n hA'
  have m2 := Int.emod_nonneg n (show (A : Int) ≠ 0 by omega)
  have hk : ∀ x : Int, ∃ k : Int, x.tmod A = x + A * k := fun x => ⟨-(x.tdiv A), by have h := Int.mul_tdiv_add_tmod x A; rw [Int.mul_neg]; omega⟩
  obtain ⟨k1, e1⟩ := hk n
  obtain ⟨k2, e2⟩ := hk ((j : Int) + n.tmod A)
  have hd : (((j + (n % A).toNat) % A : Nat) : Int) = (((j : Int) + n.tmod A).tmod A + A) % A := by
    rw [e2, e1, Int.natCast_emod, Int.natCast_add, Int.toNat_of_nonneg m2]
    have e3 : (j : Int) + (n + A * k1) + A * k2 + A = ((j : Int) + n) + A * (k1 + k2 + 1) := by simp only [Int.mul_add]; omega
    rw [e3, Int.add_mul_emod_self_left, Int.add_emod, Int.emod_emod, ← Int.add_emod]
  refine ⟨_, _, (j + (n % A).toNat) % A, rfl, rfl, Nat.mod_lt _ (by omega), ?_, hd.symm, rfl, t1, t2, t3, t4⟩
  rw [Int.tmod_eq_emod_of_nonneg (by omega)]
  exact hd.symm

/-- places go round -/
theorem turn_back {A j s : Nat} (hj : j < A) (hs : s < A) : ((j + s) % A + A - s) % A = j := by
  rcases Nat.lt_or_ge (j + s) A with h | h
  · rw [Nat.mod_eq_of_lt h, show j + s + A - s = j + A by omega, Nat.add_mod_right, Nat.mod_eq_of_lt hj]
  · have : (j + s) % A = j + s - A := by rw [Nat.mod_eq_sub_mod h, Nat.mod_eq_of_lt (by omega)]
    rw [this, show j + s - A + A - s = j by omega, Nat.mod_eq_of_lt hj]
theorem turn_inj {A i j s : Nat} (hi : i < A) (hs : s < A) (h : (i + A - s) % A = j) : i = (j + s) % A := by
  subst h
  rcases Nat.lt_or_ge i s with h | h
  · rw [Nat.mod_eq_of_lt (show i + A - s < A by omega), show i + A - s + s = i + A by omega, Nat.add_mod_right, Nat.mod_eq_of_lt hi]
  · have : (i + A - s) % A = i - s := by rw [show i + A - s = (i - s) + A by omega, Nat.add_mod_right, Nat.mod_eq_of_lt (by omega)]
    rw [this, show i - s + s = i by omega, Nat.mod_eq_of_lt hi]

theorem tnf_step {v A s j : Nat} (hj : j < A) (hs : s < A) : (flA A fun i => if i = (j + s) % A then v / 2 ^ j % 2 else tnf v A s j i) = flA A (tnf v A s (j + 1)) := by
  apply flA_congr
  intro i hi
  unfold tnf
  by_cases h : i = (j + s) % A
  · subst h; rw [if_pos rfl, turn_back hj hs, if_pos (by omega)]
  · rw [if_neg h]
    have hne : (i + A - s) % A ≠ j := fun e => h (turn_inj hi hs e)
    by_cases h2 : (i + A - s) % A < j
    · rw [if_pos h2, if_pos (by omega)]
    · rw [if_neg h2, if_neg (by omega)]

/-- v's lowest A bits turned left by s -/
def rotA (v A s : Nat) : Nat := (v % 2 ^ A) * 2 ^ s % 2 ^ A ||| (v % 2 ^ A) / 2 ^ (A - s)

theorem rotA_val {v A s : Nat} (hs : s < A) : val (flA A (tnf v A s A)) = rotA v A s := by
  refine val_eq_of (flA_le fun i _ => by unfold tnf; split <;> omega) _ (fun i => ?_)
  rw [flA_getD]
  unfold rotA
  have e2 : ((v % 2 ^ A) / 2 ^ (A - s)).testBit i = (decide (A - s + i < A) && v.testBit (A - s + i)) := by
    rw [Nat.testBit_div_two_pow, Nat.testBit_mod_two_pow, Nat.add_comm i]
  rw [Nat.testBit_or, Nat.testBit_mod_two_pow, Nat.mul_comm, Nat.testBit_two_pow_mul, Nat.testBit_mod_two_pow, e2]
  by_cases hi : i < A
  · rw [if_pos hi]
    have hm : (i + A - s) % A < A := Nat.mod_lt _ (by omega)
    unfold tnf
    rw [if_pos hm, bit_tb]
    rcases Nat.lt_or_ge i s with h | h
    · rw [Nat.mod_eq_of_lt (show i + A - s < A by omega), show A - s + i = i + A - s by omega]
      simp [hi, show ¬ s ≤ i by omega, show i + A - s < A by omega]
    · rw [show (i + A - s) % A = i - s by rw [show i + A - s = (i - s) + A by omega, Nat.add_mod_right, Nat.mod_eq_of_lt (by omega)]]
      simp [hi, h, show ¬ A - s + i < A by omega, show i - s < A by omega]
  · rw [if_neg hi]
    simp [hi, show ¬ A - s + i < A by omega]

set_option maxRecDepth 100000 in
set_option maxHeartbeats 1000000 in
theorem refTurn_any (v : Nat) (n : Int) (A : Nat) (hA : 1 ≤ A) (hA2 : A ≤ 64) (hv : v < 18446744073709551616) (w : World) :
    Calls Tryd.prog 26 #[.int .u64 v, .int .i64 n, .int .i64 A] w fun e w' => e = .returned (.int .u64 (rotA v A (n % A).toNat : Nat)) ∧ Below w.heap.size w w' := by
  obtain ⟨i0, hi, hz0, hz1, hz2⟩ := info_parts info_int
  have hsl : (n % (A : Int)).toNat < A := by have := Int.emod_lt_of_pos n (show (0 : Int) < A by omega); have := Int.emod_nonneg n (show (A : Int) ≠ 0 by omega); omega
  go_enter Tryd.func26, Tryd.ntmps26
  go_wp2_with fail
  refine (bits_any v hv w).mono ?_
  rintro e w1 ⟨g, cap, rfl, hcap, hg, hown, hb⟩
  have HO := Box.mk hown; clear hown
  have HB := Box.mk hb; clear hb
  go_wp2_with (at_make; refine wpList_make_full _ rfl (.tmp 12) (.tmp 12) 53 rfl w1.heap.size 3 i0 (.int .i64 0) 1 Tryd.underlying53 hi hz0 hz1 .i64 .i64 (A : Int) (A : Int) A rfl rfl rfl rfl (by rw [hz2]; omega) (by unfold maxLen; omega) (Nat.le_refl _) ?_; intro w2 hown2 hg2)
  have hown3 : w2.ownsRow w1.heap.size 3 1 (.slice (some ⟨w1.heap.size, 0, none⟩) A A) A (ints (flA A (tnf v A (n % A).toNat 0))) := by
    have h := hown2
    rw [show (Value.int IntKind.i64 0).cells = #[.int .i64 0] from rfl, toList_madeCells_one, Nat.mul_one] at h
    have e : tnf v A (n % A).toNat 0 = fun _ => 0 := by funext j; unfold tnf; rw [if_neg (by omega)]
    rw [e, flA_zero]; exact h
  have hb2 := (Below.refl w1.heap.size w1).grown hg2 (Nat.le_refl _) (fun k h => by cases h)
  have hgl : g < w1.heap.size := ((HO.out).lt g rfl).2
  have hbl : w2.ownsRow w.heap.size 3 1 (.slice (some ⟨g, 0, none⟩) 64 cap) 64 (ints (fl fun i => v / 2 ^ i % 2)) := by rw [← fl_bl]; exact own_below HO.out hb2 hgl
  have HO2 := Box.mk hbl; clear hbl hown2 hg2
  have hlt2 : w1.heap.size < w2.heap.size := (hown3.lt _ rfl).2
  have HLT := Box.mk hlt2; clear hlt2
  go_loopw [9] (fun i wr => ∃ j : Nat, j ≤ A ∧ i = .int .i64 j ∧ wr.ownsRow w1.heap.size 3 1 (.slice (some ⟨w1.heap.size, 0, none⟩) A A) A (ints (flA A (tnf v A (n % A).toNat j))) ∧ Below w1.heap.size w2 wr) (fun i _ => A - (intOf i).toNat)
  case atStart => exact ⟨0, by omega, rfl, hown3, Below.refl _ _⟩
  case round =>
    clear hown3
    obtain ⟨j, hj, rfl, hown, hbr⟩ := hrel
    by_cases hlt : j < A
    · obtain ⟨q, q2, d, e1, e2, hd, e3, e4, e5, b1, b2, b3, b4⟩ := turn_index (j := j) (n := n) hA
      have hs := own_at (own_below HO2.out hbr hgl) j (by omega)
      have hc : wr.cell? ⟨w1.heap.size, d, none⟩ = some (.int .i64 ((tnf v A (n % A).toNat j d : Nat) : Int)) := by
        rw [hown.cellAt d (by omega)]; simp [ints, flA, hd]
      have hfz := hown.frozenAt d
      have hA0 : ((A : Int) == 0) = false := by simp; omega
      have r1 := e1.symm
      have r2 := e2.symm
      have w1' : IntKind.i64.wrap ((j : Int) + q) = (j : Int) + q := IntWalk.i64_in _ (by omega)
      have w2' : IntKind.i64.wrap (q2 + (A : Int)) = q2 + (A : Int) := IntWalk.i64_in _ (by omega)
      have hst := own_store hown d (v / 2 ^ j % 2)
      rw [flA_set, e5, tnf_step hlt hsl, ← e5] at hst
      obtain ⟨y, hy⟩ : ∃ y, y = v / 2 ^ j % 2 := ⟨_, rfl⟩
      rw [← hy] at hst hs
      clear hy
      have HST := Box.mk hst
      clear e1 e2 e5 hown hst
      go_wp2_with fail
      go_region
      go_wp2
      go_roundw
      case rel => exact ⟨j + 1, by omega, by go_num, HST.out, hbr.drew.setCell (Nat.le_refl _) _⟩
      case measure => simp [intOf]; omega
    · have ej : j = A := by omega
      rw [ej] at hown
      have hval := rotA_val (v := v) hsl
      have HV := Box.mk hval
      have HOW := Box.mk hown
      clear hval hown ej
      have hvl : ∀ i, i < A → (tnf v A (n % A).toNat A) i ≤ 1 := fun i _ => by unfold tnf; split <;> omega
      have HVL := Box.mk hvl; clear hvl
      go_wp2_with (go_at_call 53; refine (value_any (flA A (tnf v A (n % A).toNat A)) (flA_le HVL.out) (by rw [flA_length]; omega) w1.heap.size 0 A A (by rw [flA_length]) wr (own_cells HOW.out 0)).mono ?_; rw [HV.out]; rintro e w3 ⟨rfl, rfl⟩)
      go_ret
      exact ⟨rfl, (HB.out.trans (hb2.mono HB.out.size)).trans (hbr.mono HB.out.size)⟩
end Go.Proofs.YtemghjjgmjhcnaaDoor
