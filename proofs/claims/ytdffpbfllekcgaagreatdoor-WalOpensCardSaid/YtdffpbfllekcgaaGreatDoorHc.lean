/- WordJ, WordK, WordL, WordM, WordN, in one text. -/
import Derived.Test.YtdffpbfllekcgaaGreatDoorHb
import Derived.Deep.DeepCutAuto
import Derived.Deep.CutBlock
import Derived.RegionTactic
namespace Go.Proofs.YtdffpbfllekcgaaGreatDoor
set_option maxRecDepth 100000
open Go.RowKit M

/-- bits of v up to k, then (up to i) the number t, then bits of v again -/
def sxf (k v t i : Nat) : Nat → Nat := fun j => if k ≤ j ∧ j < i then t else v / 2 ^ j % 2
theorem sxf_start (k v t : Nat) : fl (sxf k v t k) = bl 64 v := by
  rw [fl_bl]; apply fl_congr; intro i _; unfold sxf; rw [if_neg (by omega)]
theorem sxf_step (k v t i : Nat) (hk : k ≤ i) : (fun j => if j = i then t else sxf k v t i j) = sxf k v t (i + 1) := by
  funext j; unfold sxf
  by_cases h : j = i
  · subst h; rw [if_pos rfl, if_pos (by omega)]
  · rw [if_neg h]
    by_cases h2 : k ≤ j ∧ j < i
    · rw [if_pos h2, if_pos (by omega)]
    · rw [if_neg h2, if_neg (by omega)]
theorem sxf_le {k v t i : Nat} (ht : t ≤ 1) (j : Nat) : sxf k v t i j ≤ 1 := by unfold sxf; split <;> omega

/-- up to i the others -/
def cpf (f : Nat → Nat) (i : Nat) : Nat → Nat := fun j => if j < i then 1 - f j else f j
theorem cpf_start (f : Nat → Nat) : cpf f 0 = f := by funext j; simp [cpf]
theorem cpf_step (f : Nat → Nat) (i : Nat) : (fun j => if j = i then 1 - f i else cpf f i j) = cpf f (i + 1) := by
  funext j; unfold cpf
  by_cases h : j = i
  · subst h; rw [if_pos rfl, if_pos (by omega)]
  · rw [if_neg h]
    by_cases h2 : j < i
    · rw [if_pos h2, if_pos (by omega)]
    · rw [if_neg h2, if_neg (by omega)]

theorem val_sx0 {k v : Nat} (hv : v < 18446744073709551616) (_hk : k ≤ 64) : val (fl (sxf k v 0 64)) = v % 2 ^ k := by
  refine val_fl (fun i _ => sxf_le (by omega) i) (Nat.lt_of_le_of_lt (Nat.mod_le _ _) hv) (fun i hi => ?_)
  rw [Nat.testBit_mod_two_pow, ← bit_tb]
  unfold sxf
  by_cases h : i < k
  · rw [if_neg (by omega)]; simp [h]
  · rw [if_pos (by omega)]; simp [h]
theorem val_sx1 {k v : Nat} (_hk : k ≤ 64) : val (fl (cpf (sxf k v 1 64) 64)) = 2 ^ k - (v % 2 ^ k + 1) := by
  have hp := pow_pos' k
  have h64 : 2 ^ k ≤ 2 ^ 64 := Nat.pow_le_pow_right (by decide) (by omega)
  rw [p64] at h64
  refine val_fl (fun i hi => ?_) (by omega) (fun i hi => ?_)
  · unfold cpf; rw [if_pos hi]; omega
  · rw [Nat.testBit_two_pow_sub_succ (Nat.mod_lt _ hp), Nat.testBit_mod_two_pow, ← bit_tb]
    unfold cpf sxf
    rw [if_pos hi]
    by_cases h : i < k
    · rw [if_neg (by omega)]
      rcases (by omega : v / 2 ^ i % 2 = 0 ∨ v / 2 ^ i % 2 = 1) with e | e <;> simp [h, e]
    · rw [if_pos (by omega)]; simp [h]

theorem sgn0 {k v : Nat} (_hk : 1 ≤ k) (h : v / 2 ^ (k - 1) % 2 = 0) : sgn k v = ((v % 2 ^ k : Nat) : Int) := by
  unfold sgn; rw [if_neg (by omega)]
theorem sgn1 {k v : Nat} (h : v / 2 ^ (k - 1) % 2 = 1) : sgn k v = -(((2 ^ k - (v % 2 ^ k + 1) : Nat)) : Int) - 1 := by
  unfold sgn; rw [if_pos h]
  have hp := pow_pos' k
  have := Nat.mod_lt v hp
  omega
theorem low_small {k v : Nat} (h1 : 1 ≤ k) (h2 : k ≤ 64) (h : v / 2 ^ (k - 1) % 2 = 0) : v % 2 ^ k ≤ 9223372036854775807 := by
  obtain ⟨j, rfl⟩ : ∃ j, k = j + 1 := ⟨k - 1, by omega⟩
  simp only [Nat.add_sub_cancel] at h
  have := mod_top v j
  have := Nat.mod_lt v (pow_pos' j)
  have := pow_lt64 (show j < 64 by omega)
  rw [h] at *
  omega
theorem high_small {k v : Nat} (h1 : 1 ≤ k) (h2 : k ≤ 64) (h : v / 2 ^ (k - 1) % 2 = 1) : 2 ^ k - (v % 2 ^ k + 1) ≤ 9223372036854775807 := by
  obtain ⟨j, rfl⟩ : ∃ j, k = j + 1 := ⟨k - 1, by omega⟩
  simp only [Nat.add_sub_cancel] at h
  have := mod_top v j
  have := Nat.mod_lt v (pow_pos' j)
  have := pow_lt64 (show j < 64 by omega)
  have : 2 ^ (j + 1) = 2 * 2 ^ j := by rw [Nat.pow_succ]; omega
  rw [h] at *
  omega

end Go.Proofs.YtdffpbfllekcgaaGreatDoor
namespace Go.Proofs.YtdffpbfllekcgaaGreatDoor
set_option maxRecDepth 100000
open Go.RowKit M

/-- v's bits, but from a on (so many as i) those of x -/
def lyf (v x a i : Nat) : Nat → Nat := fun j => if a ≤ j ∧ j < a + i then x / 2 ^ (j - a) % 2 else v / 2 ^ j % 2
theorem lyf_zero (v x a : Nat) : fl (lyf v x a 0) = bl 64 v := by
  rw [fl_bl]; apply fl_congr; intro i _; unfold lyf; rw [if_neg (by omega)]
theorem lyf_step (v x a i : Nat) : (fun j => if j = a + i then x / 2 ^ i % 2 else lyf v x a i j) = lyf v x a (i + 1) := by
  funext j; unfold lyf
  by_cases h : j = a + i
  · subst h; rw [if_pos rfl, if_pos (by omega), show a + i - a = i by omega]
  · rw [if_neg h]
    by_cases h2 : a ≤ j ∧ j < a + i
    · rw [if_pos h2, if_pos (by omega)]
    · rw [if_neg h2, if_neg (by omega)]
theorem lyf_le (v x a i j : Nat) : lyf v x a i j ≤ 1 := by unfold lyf; split <;> omega

/-- so many bits are laid -/
def lyc (a n : Int) : Nat := if 0 ≤ a ∧ a < 64 then min (cl n) (64 - a.toNat) else 0

theorem mask_tb {a n i : Nat} (hn : n ≤ 64) (hi : i < 64) : (18446744073709551615 % 2 ^ n * 2 ^ a % 18446744073709551616).testBit i = decide (a ≤ i ∧ i < a + n) := by
  rw [show (18446744073709551616 : Nat) = 2 ^ 64 by rw [p64], Nat.testBit_mod_two_pow, Nat.mul_comm, Nat.testBit_two_pow_mul, Nat.testBit_mod_two_pow, show (18446744073709551615 : Nat) = 2 ^ 64 - 1 by rw [p64], Nat.testBit_two_pow_sub_one]
  by_cases h1 : a ≤ i
  · by_cases h2 : i < a + n
    · simp [hi, h1, h2]; omega
    · simp [hi, h2]; omega
  · simp [h1]

theorem lay_val {v x : Nat} (hv : v < 18446744073709551616) (a n : Int) : val (fl (lyf v x a.toNat (lyc a n))) = layN v a n x := by
  unfold layN lyc
  by_cases ha : 0 ≤ a ∧ a < 64
  · rw [if_pos ha, if_pos ha]
    have hcl : cl n ≤ 64 := by rcases cl_cases n with ⟨_, e⟩ | ⟨_, e⟩ | ⟨k, _, hk, e⟩ <;> omega
    have hm : maskN a n < 18446744073709551616 := Nat.mod_lt _ (by decide)
    have ha' : a.toNat < 64 := by omega
    refine val_fl (fun i _ => lyf_le _ _ _ _ i) ?_ (fun i hi => ?_)
    · rw [← p64]; exact Nat.or_lt_two_pow (Nat.lt_of_le_of_lt Nat.and_le_left (by rw [p64]; exact hv)) (Nat.lt_of_le_of_lt Nat.and_le_right (by rw [p64]; exact hm))
    · have e1 : 18446744073709551615 - maskN a n = 2 ^ 64 - (maskN a n + 1) := by rw [p64]; omega
      rw [Nat.testBit_or, Nat.testBit_and, Nat.testBit_and, e1, Nat.testBit_two_pow_sub_succ (by rw [p64]; exact hm)]
      have e2 : (maskN a n).testBit i = decide (a.toNat ≤ i ∧ i < a.toNat + cl n) := mask_tb hcl hi
      rw [e2]
      unfold lyf
      by_cases h : a.toNat ≤ i ∧ i < a.toNat + cl n
      · rw [if_pos ⟨h.1, by omega⟩]
        have e3 : (x * 2 ^ a.toNat % 18446744073709551616).testBit i = x.testBit (i - a.toNat) := by
          rw [show (18446744073709551616 : Nat) = 2 ^ 64 by rw [p64], Nat.testBit_mod_two_pow, Nat.mul_comm, Nat.testBit_two_pow_mul]
          simp [hi, h.1]
        rw [e3, bit_tb]
        simp [h, hi]
      · rw [if_neg (by omega), bit_tb, decide_eq_false h]
        simp [hi]
  · rw [if_neg ha, if_neg ha]
    rw [show fl (lyf v x a.toNat 0) = bl 64 v from lyf_zero _ _ _, val_bl]
    exact Nat.mod_eq_of_lt (by rw [p64]; exact hv)

/-- what is owned stays owned where only other blocks have turned -/
theorem own_below {w w' : World} {B e z g cap n C : Nat} {xs : List Value} (h : w.ownsRow B e z (.slice (some ⟨g, 0, none⟩) n cap) n xs) (hb : Below C w w') (hg : g < C) : w'.ownsRow B e z (.slice (some ⟨g, 0, none⟩) n cap) n xs := by
  refine ⟨h.1, ?_⟩
  rcases h.2 with hn | ⟨g', cap', cur, hv, hB, hgg, rest⟩
  · exact .inl hn
  · simp only [Value.slice.injEq, Option.some.injEq, Addr.mk.injEq, and_true, true_and] at hv
    obtain ⟨rfl, rfl⟩ := hv
    exact .inr ⟨g, cap, cur, rfl, hB, by rw [hb.block g hg]; exact hgg, rest⟩

/-- where the loop of Lay ends -/
theorem lay_end {b i : Nat} {n : Int} (hb : b < 64) (hi : i ≤ lyc (b : Int) n) (h : ¬ i < lyc (b : Int) n) : (decide ((i : Int) < 64) = false) ∨ (decide ((i : Int) < 64) = true ∧ decide ((i : Int) < n) = false) ∨
    (decide ((i : Int) < 64) = true ∧ decide ((i : Int) < n) = true ∧ decide ((b : Int) < 64 - (i : Int)) = false) := by
  unfold lyc at hi h
  rw [if_pos (by omega)] at hi h
  by_cases h1 : (i : Int) < 64
  · by_cases h2 : (i : Int) < n
    · refine .inr (.inr ⟨by simpa using h1, by simpa using h2, ?_⟩)
      simp
      rcases cl_cases n with ⟨_, e⟩ | ⟨_, e⟩ | ⟨k, _, hk, e⟩ <;> omega
    · exact .inr (.inl ⟨by simpa using h1, by simpa using h2⟩)
  · exact .inl (by simpa using h1)
theorem lay_go {b i : Nat} {n : Int} (hb : b < 64) (h : i < lyc (b : Int) n) : i < 64 ∧ (i : Int) < n ∧ b + i < 64 := by
  unfold lyc at h
  rw [if_pos (by omega)] at h
  rcases cl_cases n with ⟨_, e⟩ | ⟨_, e⟩ | ⟨k, _, hk, e⟩ <;> omega

end Go.Proofs.YtdffpbfllekcgaaGreatDoor
namespace Go.Proofs.YtdffpbfllekcgaaGreatDoor
set_option maxRecDepth 100000
open Go.RowKit M

/-- a list of A numbers -/
def flA (A : Nat) (f : Nat → Nat) : List Nat := (List.range A).map f
theorem flA_length (A : Nat) (f : Nat → Nat) : (flA A f).length = A := by simp [flA]
theorem flA_set (A : Nat) (f : Nat → Nat) (j x : Nat) : (flA A f).set j x = flA A fun i => if i = j then x else f i := by
  apply List.ext_getElem
  · simp [flA]
  · intro i h1 h2
    rw [List.getElem_set]
    by_cases h : j = i
    · subst h; simp [flA]
    · rw [if_neg h]; simp [flA, Ne.symm h]
theorem flA_zero (A : Nat) : ints (flA A fun _ => 0) = List.replicate A (.int .i64 0) := by
  apply List.ext_getElem
  · simp [ints, flA]
  · intro i h1 h2; simp [ints, flA]

/-- turned by s of A: bit by bit, up to place i -/
def tnf (v A s i : Nat) : Nat → Nat := fun j => if (j + A - s) % A < i then v / 2 ^ ((j + A - s) % A) % 2 else 0

theorem flA_congr {A : Nat} {f g : Nat → Nat} (h : ∀ i, i < A → f i = g i) : flA A f = flA A g := by
  apply List.map_congr_left; intro i hi; exact h i (by simpa using hi)
theorem flA_le {A : Nat} {f : Nat → Nat} (h : ∀ i, i < A → f i ≤ 1) : ∀ b ∈ flA A f, b ≤ 1 := by
  intro b hb; simp [flA] at hb; obtain ⟨i, hi, rfl⟩ := hb; exact h i hi
theorem flA_getD (A : Nat) (f : Nat → Nat) (i : Nat) : (flA A f).getD i 0 = if i < A then f i else 0 := by
  by_cases h : i < A <;> simp [flA, List.getD, h]

theorem turn_index {A j : Nat} {n : Int} (hA : 1 ≤ A) : ∃ q q2 : Int, ∃ d : Nat, q = n.tmod A ∧ q2 = ((j : Int) + q).tmod A ∧ d < A ∧ (q2 + A).tmod A = d ∧ (q2 + A) % A = d ∧ d = (j + (n % A).toNat) % A ∧ -A < q ∧ q < A ∧ -A < q2 ∧ q2 < A := by
  have hA' : (0 : Int) < A := by omega
  have t1 := Int.lt_tmod_of_pos n hA'
  have t2 := Int.tmod_lt_of_pos n hA'
  have t3 := Int.lt_tmod_of_pos ((j : Int) + n.tmod A) hA'
  have t4 := Int.tmod_lt_of_pos ((j : Int) + n.tmod A) hA'
  have m1 := Int.emod_lt_of_pos n hA'
  have m2 := Int.emod_nonneg n (show (A : Int) ≠ 0 by omega)
  have hk : ∀ x : Int, ∃ k : Int, x.tmod A = x + A * k := fun x => ⟨-(x.tdiv A), by have h := Int.mul_tdiv_add_tmod x A; rw [Int.mul_neg]; omega⟩
  obtain ⟨k1, e1⟩ := hk n
  obtain ⟨k2, e2⟩ := hk ((j : Int) + n.tmod A)
  have hd : (((j + (n % A).toNat) % A : Nat) : Int) = (((j : Int) + n.tmod A).tmod A + A) % A := by
    rw [e2, e1, Int.natCast_emod, Int.natCast_add, Int.toNat_of_nonneg m2]
    have e3 : (j : Int) + (n + A * k1) + A * k2 + A = ((j : Int) + n) + A * (k1 + k2 + 1) := by simp only [Int.mul_add]; omega
    rw [e3, Int.add_mul_emod_self_left, Int.add_emod, Int.emod_emod, ← Int.add_emod]
  refine ⟨_, _, (j + (n % A).toNat) % A, rfl, rfl, Nat.mod_lt _ (by omega), ?_, hd.symm, rfl, t1, t2, t3, t4⟩
  rw [Int.tmod_eq_emod_of_nonneg (by omega)]
  exact hd.symm

/-- places go round -/
theorem turn_back {A j s : Nat} (hj : j < A) (hs : s < A) : ((j + s) % A + A - s) % A = j := by
  rcases Nat.lt_or_ge (j + s) A with h | h
  · rw [Nat.mod_eq_of_lt h, show j + s + A - s = j + A by omega, Nat.add_mod_right, Nat.mod_eq_of_lt hj]
  · have : (j + s) % A = j + s - A := by rw [Nat.mod_eq_sub_mod h, Nat.mod_eq_of_lt (by omega)]
    rw [this, show j + s - A + A - s = j by omega, Nat.mod_eq_of_lt hj]
theorem turn_inj {A i j s : Nat} (hi : i < A) (hs : s < A) (h : (i + A - s) % A = j) : i = (j + s) % A := by
  subst h
  rcases Nat.lt_or_ge i s with h | h
  · rw [Nat.mod_eq_of_lt (show i + A - s < A by omega), show i + A - s + s = i + A by omega, Nat.add_mod_right, Nat.mod_eq_of_lt hi]
  · have : (i + A - s) % A = i - s := by rw [show i + A - s = (i - s) + A by omega, Nat.add_mod_right, Nat.mod_eq_of_lt (by omega)]
    rw [this, show i - s + s = i by omega, Nat.mod_eq_of_lt hi]

theorem tnf_step {v A s j : Nat} (hj : j < A) (hs : s < A) : (flA A fun i => if i = (j + s) % A then v / 2 ^ j % 2 else tnf v A s j i) = flA A (tnf v A s (j + 1)) := by
  apply flA_congr
  intro i hi
  unfold tnf
  by_cases h : i = (j + s) % A
  · subst h; rw [if_pos rfl, turn_back hj hs, if_pos (by omega)]
  · rw [if_neg h]
    have hne : (i + A - s) % A ≠ j := fun e => h (turn_inj hi hs e)
    by_cases h2 : (i + A - s) % A < j
    · rw [if_pos h2, if_pos (by omega)]
    · rw [if_neg h2, if_neg (by omega)]

/-- v's lowest A bits turned left by s -/
def rotA (v A s : Nat) : Nat := (v % 2 ^ A) * 2 ^ s % 2 ^ A ||| (v % 2 ^ A) / 2 ^ (A - s)

theorem rotA_val {v A s : Nat} (hs : s < A) : val (flA A (tnf v A s A)) = rotA v A s := by
  refine val_eq_of (flA_le fun i _ => by unfold tnf; split <;> omega) _ (fun i => ?_)
  rw [flA_getD]
  unfold rotA
  have e2 : ((v % 2 ^ A) / 2 ^ (A - s)).testBit i = (decide (A - s + i < A) && v.testBit (A - s + i)) := by
    rw [Nat.testBit_div_two_pow, Nat.testBit_mod_two_pow, Nat.add_comm i]
  rw [Nat.testBit_or, Nat.testBit_mod_two_pow, Nat.mul_comm, Nat.testBit_two_pow_mul, Nat.testBit_mod_two_pow, e2]
  by_cases hi : i < A
  · rw [if_pos hi]
    have hm : (i + A - s) % A < A := Nat.mod_lt _ (by omega)
    unfold tnf
    rw [if_pos hm, bit_tb]
    rcases Nat.lt_or_ge i s with h | h
    · rw [Nat.mod_eq_of_lt (show i + A - s < A by omega), show A - s + i = i + A - s by omega]
      simp [hi, show ¬ s ≤ i by omega, show i + A - s < A by omega]
    · rw [show (i + A - s) % A = i - s by rw [show i + A - s = (i - s) + A by omega, Nat.add_mod_right, Nat.mod_eq_of_lt (by omega)]]
      simp [hi, h, show ¬ A - s + i < A by omega, show i - s < A by omega]
  · rw [if_neg hi]
    simp [hi, show ¬ A - s + i < A by omega]

end Go.Proofs.YtdffpbfllekcgaaGreatDoor
namespace Go.Proofs.YtdffpbfllekcgaaGreatDoor
set_option maxRecDepth 100000
open Go.RowKit M

/-- moved by n: bit by bit, up to place i -/
def mvf (v : Nat) (n : Int) (i : Nat) : Nat → Nat := fun j => if 0 ≤ (j : Int) - n ∧ (j : Int) - n < i then v / 2 ^ ((j : Int) - n).toNat % 2 else 0
theorem mvf_zero (v : Nat) (n : Int) : mvf v n 0 = fun _ => 0 := by funext j; unfold mvf; rw [if_neg (by omega)]
theorem mvf_le (v : Nat) (n : Int) (i j : Nat) : mvf v n i j ≤ 1 := by unfold mvf; split <;> omega
theorem mvf_step {v : Nat} {n : Int} {i d : Nat} (hd : (d : Int) = i + n) : (fun j => if j = d then v / 2 ^ i % 2 else mvf v n i j) = mvf v n (i + 1) := by
  funext j; unfold mvf
  by_cases h : j = d
  · subst h
    rw [if_pos rfl, if_pos (by omega), show ((j : Int) - n).toNat = i by omega]
  · rw [if_neg h]
    by_cases h2 : 0 ≤ (j : Int) - n ∧ (j : Int) - n < i
    · rw [if_pos h2, if_pos (by omega)]
    · rw [if_neg h2, if_neg (by omega)]
theorem mvf_skip {v : Nat} {n : Int} {i : Nat} (h : ¬ (0 ≤ (i : Int) + n ∧ (i : Int) + n < 64)) : fl (mvf v n i) = fl (mvf v n (i + 1)) := by
  apply fl_congr
  intro j hj
  unfold mvf
  by_cases h2 : 0 ≤ (j : Int) - n ∧ (j : Int) - n < i
  · rw [if_pos h2, if_pos (by omega)]
  · rw [if_neg h2, if_neg (by omega)]

/-- moved left by n (right, below 0) -/
def movN (v : Nat) (n : Int) : Nat := if 0 ≤ n then v * 2 ^ n.toNat % 18446744073709551616 else v / 2 ^ (-n).toNat

theorem movN_val {v : Nat} (hv : v < 18446744073709551616) (n : Int) : val (fl (mvf v n 64)) = movN v n := by
  have hv' : v < 2 ^ 64 := by rw [p64]; exact hv
  unfold movN
  by_cases hn : 0 ≤ n
  · rw [if_pos hn]
    refine val_fl (fun i _ => mvf_le _ _ _ i) (Nat.mod_lt _ (by decide)) (fun i hi => ?_)
    rw [show (18446744073709551616 : Nat) = 2 ^ 64 by rw [p64], Nat.testBit_mod_two_pow, Nat.mul_comm, Nat.testBit_two_pow_mul]
    unfold mvf
    by_cases h : n.toNat ≤ i
    · rw [if_pos (by omega), bit_tb, show ((i : Int) - n).toNat = i - n.toNat by omega]
      simp [hi, h]
    · rw [if_neg (by omega)]
      simp [h]
  · rw [if_neg hn]
    refine val_fl (fun i _ => mvf_le _ _ _ i) (Nat.lt_of_le_of_lt (Nat.div_le_self _ _) hv) (fun i hi => ?_)
    rw [Nat.testBit_div_two_pow]
    unfold mvf
    by_cases h : i + (-n).toNat < 64
    · rw [if_pos (by omega), bit_tb, show ((i : Int) - n).toNat = i + (-n).toNat by omega]
    · rw [if_neg (by omega)]
      have : v.testBit (i + (-n).toNat) = false := Nat.testBit_lt_two_pow (Nat.lt_of_lt_of_le hv' (Nat.pow_le_pow_right (by decide) (by omega)))
      simp [this]

end Go.Proofs.YtdffpbfllekcgaaGreatDoor
namespace Go.Proofs.YtdffpbfllekcgaaGreatDoor
set_option maxRecDepth 100000
open Go.RowKit M

theorem bch {w a b : World} (h : Below w.heap.size w a) (k : Below a.heap.size a b) : Below w.heap.size w b := h.trans (k.mono h.size)

theorem deBruijn_get : ∀ t, t < 64 → (([0, 1, 56, 2, 57, 49, 28, 3, 61, 58, 42, 50, 38, 29, 17, 4, 62, 47, 59, 36, 45, 43, 51, 22, 53, 39, 33, 30, 24, 18, 12, 5, 63, 55, 48, 27, 60, 41, 37, 16, 46, 35, 44, 21, 52, 32, 23, 11, 54, 26, 40, 15, 34, 20, 31, 10, 25, 14, 19, 9, 13, 8, 7, 6] : List Int).getD t 0) = ((deBruijn.getD t 0 : Nat) : Int) := by decide

theorem tab_below {w w' : World} (h : Tab64 w) (hb : Below w.heap.size w w') : Tab64 w' := fun t ht => by
  have hc := h t ht
  rw [hb.cell (World.block_lt_of_cell? w _ hc)]; exact hc

theorem aSwap (w : World) : Calls Tryz.prog 77 #[.int .u64 1] w fun e w' => e = .returned (.int .u64 72057594037927936) ∧ w = w' := by
  have h := wordSwap_any 1 (by decide) w
  rwa [show revN 8 1 = 72057594037927936 by decide +kernel] at h

theorem rot64_same {v : Nat} (hv : v < 18446744073709551616) (s : Nat) : rotA v 64 s = rotN v s := by
  unfold rotA rotN
  rw [p64, Nat.mod_eq_of_lt hv]
theorem rot32_same (v s : Nat) : rotA v 32 s = rotN32 (v % 4294967296) s := by
  unfold rotA rotN32
  rw [show (2 : Nat) ^ 32 = 4294967296 by decide]

theorem rotN32_lt {x s : Nat} (hx : x < 4294967296) : rotN32 x s < 4294967296 := by
  unfold rotN32
  have e : (4294967296 : Nat) = 2 ^ 32 := by decide
  rw [e]
  exact Nat.or_lt_two_pow (Nat.mod_lt _ (by decide)) (Nat.lt_of_le_of_lt (Nat.div_le_self _ _) (by rw [← e]; exact hx))

theorem cut_any (s : ByteArray) (n : Nat) (w : World) :
    Calls Tryz.prog 6 #[.string s, .int .i64 n] w fun e w' => e = .returned (.string (s.extract 0 n)) ∧ w = w' := by
  by_cases h : n < s.size
  · go_enter Tryz.func6, Tryz.ntmps6
    go_wp2
    go_ret
    exact ⟨rfl, rfl⟩
  · have e : s.extract 0 n = s := by
      apply ByteArray.ext
      simp [ByteArray.data_extract]
      have : s.data.size = s.size := rfl
      omega
    rw [e]
    go_enter Tryz.func6, Tryz.ntmps6
    go_wp2
    go_ret
    exact ⟨rfl, rfl⟩

end Go.Proofs.YtdffpbfllekcgaaGreatDoor
