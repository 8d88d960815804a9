/- WordO, WordP, PackM, PackA, in one text. -/
import Derived.Test.YtdffpbfllekcgaaGreatDoorHc
import Derived.Test.YtdffpbfllekcgaaGreatDoorHd
import Derived.Test.YtdffpbfllekcgaaGreatDoorShelf
import Derived.Lib.AppendStr
namespace Go.Proofs.YtdffpbfllekcgaaGreatDoor
set_option maxRecDepth 100000
open Go.RowKit M

theorem nb_cases (n : Int) : (n = 1 ∧ nb n = 8) ∨ (n = 2 ∧ nb n = 16) ∨ (n = 4 ∧ nb n = 32) ∨ ((n == 1) = false ∧ (n == 2) = false ∧ (n == 4) = false ∧ nb n = 64) := by
  unfold nb
  by_cases h1 : n = 1
  · subst h1; exact .inl ⟨rfl, by simp⟩
  by_cases h2 : n = 2
  · subst h2; exact .inr (.inl ⟨rfl, by simp⟩)
  by_cases h4 : n = 4
  · subst h4; exact .inr (.inr (.inl ⟨rfl, by simp⟩))
  · exact .inr (.inr (.inr ⟨by simpa using h1, by simpa using h2, by simpa using h4, by rw [if_neg (by omega)]⟩))

end Go.Proofs.YtdffpbfllekcgaaGreatDoor
namespace Go.Proofs.YtdffpbfllekcgaaGreatDoor
set_option maxRecDepth 100000
open Go.RowKit M

theorem rotN_tb {v s i : Nat} (hv : v < 18446744073709551616) (hs : s < 64) (hi : i < 64) : (rotN v s).testBit i = v.testBit ((i + 64 - s) % 64) := by
  rw [← rot64_same hv, ← rotA_val hs, testBit_val _ (flA_le fun i _ => by unfold tnf; split <;> omega), flA_getD, if_pos hi]
  unfold tnf
  rw [if_pos (Nat.mod_lt _ (by decide)), bit_tb]
theorem rotN_lt {v s : Nat} (hv : v < 18446744073709551616) : rotN v s < 18446744073709551616 := by
  unfold rotN
  have h1 : v * 2 ^ s % 18446744073709551616 < 2 ^ 64 := by rw [p64]; exact Nat.mod_lt _ (by decide)
  have h2 : v / 2 ^ (64 - s) < 2 ^ 64 := by rw [p64]; exact Nat.lt_of_le_of_lt (Nat.div_le_self _ _) hv
  rw [← p64]; exact Nat.or_lt_two_pow h1 h2
theorem eq_of_tb {a b : Nat} (ha : a < 18446744073709551616) (hb : b < 18446744073709551616) (h : ∀ i, i < 64 → a.testBit i = b.testBit i) : a = b := by
  apply Nat.eq_of_testBit_eq
  intro i
  by_cases hi : i < 64
  · exact h i hi
  · have e : ∀ x : Nat, x < 18446744073709551616 → x.testBit i = false := fun x hx =>
      Nat.testBit_lt_two_pow (Nat.lt_of_lt_of_le (by rw [← p64] at hx; exact hx) (Nat.pow_le_pow_right (by decide) (by omega)))
    rw [e a ha, e b hb]
theorem rot_back {v : Nat} (hv : v < 18446744073709551616) (n : Int) : rotN (rotN v (n % 64).toNat) ((-n) % 64).toNat = v := by
  refine eq_of_tb (rotN_lt (rotN_lt hv)) hv (fun i hi => ?_)
  rw [rotN_tb (rotN_lt hv) (by omega) hi, rotN_tb hv (by omega) (Nat.mod_lt _ (by decide))]
  congr 1
  omega

theorem num_digit : ∀ (l : List Nat) (_ : ∀ d ∈ l, d < 2 ^ 8) (i : Nat), num 8 l / 2 ^ (8 * i) % 256 = l.getD i 0
  | [], _, i => by simp [num]
  | d :: l, h, 0 => by
    have := h d (by simp)
    simp [num]; omega
  | d :: l, h, i + 1 => by
    have h1 := h d (by simp)
    have ih := num_digit l (fun c hc => h c (by simp [hc])) i
    have e : num 8 (d :: l) / 2 ^ (8 * (i + 1)) = num 8 l / 2 ^ (8 * i) := by
      rw [show 8 * (i + 1) = 8 + 8 * i by omega, Nat.pow_add, ← Nat.div_div_eq_div_mul]
      congr 1
      simp only [num]
      omega
    rw [e, ih]
    simp
theorem num_bytesN (k v : Nat) : num 8 (bytesN k v) = v % 2 ^ (8 * k) := by
  induction k with
  | zero => simp [bytesN, num, Nat.mod_one]
  | succ k ih =>
    rw [bytesN_succ, num_append, ih, bytesN_length, show 8 * (k + 1) = 8 * k + 8 by omega, Nat.pow_add, Nat.mod_mul]
    simp [num, byt]
theorem bytesN_num {l : List Nat} (h : ∀ d ∈ l, d < 2 ^ 8) : bytesN l.length (num 8 l) = l := by
  apply List.ext_getElem
  · simp [bytesN]
  · intro i h1 h2
    simp only [bytesN, List.getElem_map, List.getElem_range]
    have := num_digit l h i
    unfold byt
    rw [this]; simp [List.getD, h2]
theorem revN_lt8 (v : Nat) : revN 8 v < 18446744073709551616 := by
  have h1 := num_lt 8 (bytesN 8 v).reverse (fun b hb => bytesN_lt 8 v b (by simpa using hb))
  have e : (bytesN 8 v).reverse.length = 8 := by simp [bytesN]
  rw [e] at h1
  unfold revN; rw [← p64]; exact h1
theorem rev_back {v : Nat} (hv : v < 18446744073709551616) : revN 8 (revN 8 v) = v := by
  have h := bytesN_num (l := (bytesN 8 v).reverse) (fun b hb => bytesN_lt 8 v b (by simpa using hb))
  have e : (bytesN 8 v).reverse.length = 8 := by simp [bytesN]
  rw [e] at h
  show num 8 (bytesN 8 (num 8 (bytesN 8 v).reverse)).reverse = v
  rw [h, List.reverse_reverse, num_bytesN]
  exact Nat.mod_eq_of_lt (by rw [p64]; exact hv)
theorem num_back {v : Nat} (hv : v < 18446744073709551616) : numN (bs (bytesN 8 v)) = v := by
  rw [num_bnl _ (bytesN_length 8 v) (bytesN_lt 8 v), num_bytesN]
  exact Nat.mod_eq_of_lt (by rw [p64]; exact hv)
theorem fold_nonneg (z : Int) : ∃ m : Nat, foldI z = m := ⟨(foldI z).toNat, by unfold foldI; split <;> omega⟩
theorem unfold_fold {z : Int} {m : Nat} (h : foldI z = m) : unfoldI m = z := by
  unfold foldI at h; unfold unfoldI
  split at h <;> split <;> omega
theorem fold_unfold (v : Nat) : foldI (unfoldI v) = v := by
  unfold foldI unfoldI
  split <;> split <;> omega
theorem unfold_bd {v : Nat} (hv : v < 18446744073709551616) : -9223372036854775808 ≤ unfoldI v ∧ unfoldI v ≤ 9223372036854775807 := by
  unfold unfoldI
  split <;> omega

theorem layN_lt {v x : Nat} (hv : v < 18446744073709551616) (a n : Int) : layN v a n x < 18446744073709551616 := by
  rw [← lay_val (x := x) hv a n]
  have := val_lt (fl (lyf v x a.toNat (lyc a n))) (fl_le fun i _ => lyf_le _ _ _ _ i)
  rwa [fl_length, p64] at this
theorem layN_tb {v x a n i : Nat} (hv : v < 18446744073709551616) (hn : n ≤ 64) (han : a + n ≤ 64) (hn1 : 1 ≤ n) (hi : i < 64) :
    (layN v a n x).testBit i = if a ≤ i ∧ i < a + n then x.testBit (i - a) else v.testBit i := by
  have hc : lyc (a : Int) (n : Int) = n := by
    unfold lyc
    rw [if_pos (by omega)]
    rcases cl_cases (n : Int) with ⟨_, e⟩ | ⟨_, e⟩ | ⟨k, h, hk, e⟩ <;> omega
  rw [← lay_val (x := x) hv (a : Int) (n : Int), testBit_val _ (fl_le fun i _ => lyf_le _ _ _ _ i), fl_getD, if_pos hi, hc]
  unfold lyf
  simp only [Int.toNat_natCast]
  split
  · rw [bit_tb]
  · rw [bit_tb]
theorem cl_nat {n : Nat} (h : n ≤ 64) : cl (n : Int) = n := by
  rcases cl_cases (n : Int) with ⟨_, e⟩ | ⟨_, e⟩ | ⟨k, h, hk, e⟩ <;> omega
theorem field_lay {v x a n : Nat} (hv : v < 18446744073709551616) (hn1 : 1 ≤ n) (han : a + n ≤ 64) : fieldN (layN v a n x) a n = x % 2 ^ n := by
  unfold fieldN
  rw [if_pos (by omega), cl_nat (by omega)]
  simp only [Int.toNat_natCast]
  apply Nat.eq_of_testBit_eq
  intro i
  rw [Nat.testBit_mod_two_pow, Nat.testBit_div_two_pow, Nat.testBit_mod_two_pow]
  by_cases h : i < n
  · rw [layN_tb hv (by omega) han hn1 (by omega), if_pos (by omega), show i + a - a = i by omega]
  · simp [h]
theorem lay_back {v x a n : Nat} (hv : v < 18446744073709551616) (hn1 : 1 ≤ n) (han : a + n ≤ 64) : layN (layN v a n x) a n (fieldN v a n) = v := by
  refine eq_of_tb (layN_lt (layN_lt hv _ _) _ _) hv (fun i hi => ?_)
  rw [layN_tb (layN_lt hv _ _) (by omega) han hn1 hi]
  by_cases h : a ≤ i ∧ i < a + n
  · rw [if_pos h]
    unfold fieldN
    rw [if_pos (by omega), cl_nat (by omega)]
    simp only [Int.toNat_natCast]
    rw [Nat.testBit_mod_two_pow, Nat.testBit_div_two_pow, show i - a + a = i by omega]
    simp; omega
  · rw [if_neg h, layN_tb hv (by omega) han hn1 hi, if_neg h]
theorem bit_lay {v x a n i : Nat} (hv : v < 18446744073709551616) (hn1 : 1 ≤ n) (han : a + n ≤ 64) (hi : i < 64) (h : ¬ (a ≤ i ∧ i < a + n)) : bitB (layN v a n x) i = bitB v i := by
  have e := layN_tb (x := x) hv (show n ≤ 64 by omega) han hn1 hi
  rw [if_neg h, ← bit_tb, ← bit_tb] at e
  unfold bitB
  simp only [Int.toNat_natCast]
  rw [Bool.eq_iff_iff] at e ⊢
  simp only [decide_eq_true_eq] at e ⊢
  omega

end Go.Proofs.YtdffpbfllekcgaaGreatDoor
namespace Go.Proofs.YtdffpbfllekcgaaGreatDoor
set_option maxRecDepth 100000
open M

/-- the lowest n bytes of v, the highest first -/
def fx (n v : Nat) : List Nat := (bytesN n v).reverse
/-- the number of bytes, the highest first -/
def un (l : List Nat) : Nat := num 8 l.reverse

theorem fx_length (n v : Nat) : (fx n v).length = n := by simp [fx, bytesN_length]
theorem fx_lt (n v : Nat) : ∀ d ∈ fx n v, d < 2 ^ 8 := fun d hd => bytesN_lt n v d (by simpa [fx] using hd)
theorem un_fx (n v : Nat) : un (fx n v) = v % 2 ^ (8 * n) := by unfold un fx; rw [List.reverse_reverse, num_bytesN]
theorem fx_un {l : List Nat} (h : ∀ d ∈ l, d < 2 ^ 8) : fx l.length (un l) = l := by
  unfold un fx
  have e := bytesN_num (l := l.reverse) (fun d hd => h d (by simpa using hd))
  rw [List.length_reverse] at e
  rw [e, List.reverse_reverse]
theorem un_lt {l : List Nat} (h : ∀ d ∈ l, d < 2 ^ 8) : un l < 2 ^ (8 * l.length) := by
  have e := num_lt 8 l.reverse (fun d hd => h d (by simpa using hd))
  rwa [List.length_reverse] at e
theorem un_nil : un [] = 0 := rfl
theorem un_one (b : Nat) : un [b] = b := by simp [un, num]

theorem bytesN_getElem (k v i : Nat) (h : i < (bytesN k v).length) : (bytesN k v)[i] = byt v i := by simp [bytesN]

theorem byt_num {l : List Nat} (h : ∀ d ∈ l, d < 2 ^ 8) (i : Nat) : byt (num 8 l) i = l.getD i 0 := num_digit l h i

theorem byt_shift {v a b : Nat} (h : 8 * b + a + 8 ≤ 64) (h8 : 8 ∣ a) : byt (v * 2 ^ a % 18446744073709551616) (b + a / 8) = byt v b := by
  unfold byt
  obtain ⟨q, rfl⟩ := h8
  rw [Nat.mul_div_cancel_left _ (by decide)]
  have e : 8 * (b + q) = 8 * q + 8 * b := by omega
  rw [e]
  apply Nat.eq_of_testBit_eq
  intro i
  rw [show (256 : Nat) = 2 ^ 8 by decide, show (18446744073709551616 : Nat) = 2 ^ 64 by decide, Nat.testBit_mod_two_pow, Nat.testBit_mod_two_pow, Nat.testBit_div_two_pow, Nat.testBit_div_two_pow, Nat.testBit_mod_two_pow, Nat.testBit_mul_two_pow]
  by_cases hi : i < 8
  · have h1 : i + (8 * q + 8 * b) < 64 := by omega
    have h2 : 8 * q ≤ i + (8 * q + 8 * b) := by omega
    have h3 : i + (8 * q + 8 * b) - 8 * q = i + 8 * b := by omega
    simp [hi, h1, h2, h3]
  · simp [hi]

theorem rev_getD (n x i : Nat) (h : i < n) : (bytesN n x).reverse.getD i 0 = byt x (n - 1 - i) := by
  rw [List.getD, List.getElem?_reverse (by rw [bytesN_length]; exact h), bytesN_length, List.getElem?_eq_getElem (by rw [bytesN_length]; omega), bytesN_getElem]
  rfl

/-- Bytes(Swap(v << (64 - 8 n)), n) -/
theorem bytes_swap {n v : Nat} (h1 : 1 ≤ n) (h8 : n ≤ 8) : bytesN n (revN 8 (v * 2 ^ (64 - 8 * n) % 18446744073709551616)) = fx n v := by
  apply List.ext_getElem
  · rw [bytesN_length, fx_length]
  · intro i hi1 hi2
    have e2 : (fx n v)[i]'hi2 = byt v (n - 1 - i) := by
      have h := rev_getD n v i (by rwa [fx_length] at hi2)
      rw [← h]
      show _ = (fx n v).getD i 0
      simp [List.getD, hi2]
    rw [bytesN_length] at hi1
    rw [bytesN_getElem, e2]
    unfold revN
    rw [byt_num (fun d hd => bytesN_lt 8 _ d (by simpa using hd)), rev_getD 8 _ i (by omega)]
    have h := byt_shift (v := v) (a := 64 - 8 * n) (b := n - 1 - i) (by omega) (by omega)
    rw [show n - 1 - i + (64 - 8 * n) / 8 = 8 - 1 - i by omega] at h
    exact h

theorem num_zeros (k : Nat) (m : List Nat) : num 8 (List.replicate k 0 ++ m) = 2 ^ (8 * k) * num 8 m := by
  rw [num_append]
  have : num 8 (List.replicate k 0) = 0 := by
    induction k with
    | zero => rfl
    | succ k ih => simp [List.replicate_succ, num, ih]
  rw [this]; simp

theorem bytes_pad {l : List Nat} (h : ∀ d ∈ l, d < 2 ^ 8) (hl : l.length ≤ 8) : bytesN 8 (num 8 l) = l ++ List.replicate (8 - l.length) 0 := by
  apply List.ext_getElem
  · rw [bytesN_length]; simp; omega
  · intro i h1 h2
    rw [bytesN_getElem, byt_num h, List.getElem_append]
    by_cases hi : i < l.length
    · simp [hi, List.getD]
    · simp [hi, List.getD]

/-- Swap(Number(s)) >> (64 - 8 n) -/
theorem swap_num {l : List Nat} (h : ∀ d ∈ l, d < 2 ^ 8) (hl : l.length ≤ 8) : revN 8 (num 8 l) / 2 ^ (64 - 8 * l.length) = un l := by
  unfold revN un
  rw [bytes_pad h hl, List.reverse_append, List.reverse_replicate, num_zeros, show 8 * (8 - l.length) = 64 - 8 * l.length by omega]
  exact Nat.mul_div_cancel_left _ (Nat.pow_pos (by decide))
theorem swap_none (n : Nat) : revN 8 (num 8 []) / 2 ^ n = 0 := by
  have : revN 8 (num 8 []) = 0 := by decide
  rw [this]; simp

/-- how many bytes a number needs -/
def szN (v : Nat) : Nat := if v < 256 then 1 else if v < 65536 then 2 else if v < 16777216 then 3 else if v < 4294967296 then 4 else if v < 1099511627776 then 5 else if v < 281474976710656 then 6 else if v < 72057594037927936 then 7 else 8
theorem szN_bd (v : Nat) : 1 ≤ szN v ∧ szN v ≤ 8 := by unfold szN; (repeat' split) <;> omega
theorem szN_lt {v : Nat} (h : v < 18446744073709551616) : v < 2 ^ (8 * szN v) := by
  unfold szN; (repeat' split) <;> (simp; omega)
theorem szN_mono {a b : Nat} (h : a ≤ b) : szN a ≤ szN b := by unfold szN; (repeat' split) <;> omega
/-- the bytes of a number -/
def numL (v : Nat) : List Nat := if v < 248 then [v] else (247 + szN v) :: fx (szN v) v
/-- the bytes of a text -/
def txtL (s : List Nat) : List Nat := numL s.length ++ s
theorem numL_lt (v : Nat) : ∀ d ∈ numL v, d < 2 ^ 8 := by
  intro d hd
  unfold numL at hd
  have := szN_bd v
  split at hd
  · simp at hd; omega
  · simp only [List.mem_cons] at hd
    rcases hd with rfl | hd
    · omega
    · exact fx_lt _ _ d hd
end Go.Proofs.YtdffpbfllekcgaaGreatDoor
namespace Go.Proofs.YtdffpbfllekcgaaGreatDoor
set_option maxRecDepth 100000
open Go.RowKit M

theorem own_slice {w : World} {B e z : Nat} {v : Value} {n : Nat} {xs : List Value} (h : w.ownsRow B e z v n xs) : ∃ p l c, v = .slice p l c := by
  rcases h.2 with ⟨h2, _⟩ | ⟨g, cap, cur, hv, _⟩
  · exact ⟨_, _, _, h2⟩
  · exact ⟨_, _, _, hv⟩
/-- a writer that holds L lies in block b -/
structure Wr (w : World) (b : Nat) (L : List Nat) (v : Value) : Prop where
  cell : w.cell? ⟨b, 0, none⟩ = some v
  own : w.ownsRow (b + 1) 5 1 v L.length (byts L)
  fr : w.frozen? ⟨b, 0, none⟩ = false

/-- a writer's block and its own row alone of the old blocks may have changed; its row is the old one or a new one -/
structure Ext (b : Nat) (v v' : Value) (w w' : World) : Prop where
  os : w'.os = w.os
  tape : w'.tape = w.tape
  output : w'.output = w.output
  size : w.heap.size ≤ w'.heap.size
  block : ∀ k, k < w.heap.size → k ≠ b → v.ownBlock ≠ some k → w'.heap[k]? = w.heap[k]?
  lies : v'.ownBlock = v.ownBlock ∨ ∀ k, v'.ownBlock = some k → w.heap.size ≤ k
theorem Ext.trans {b : Nat} {v v1 v2 : Value} {w w1 w2 : World} (h : Ext b v v1 w w1) (k : Ext b v1 v2 w1 w2) : Ext b v v2 w w2 := by
  refine ⟨k.os.trans h.os, k.tape.trans h.tape, k.output.trans h.output, Nat.le_trans h.size k.size, fun i hi hb hv => ?_, ?_⟩
  · refine (k.block i (Nat.lt_of_lt_of_le hi h.size) hb ?_).trans (h.block i hi hb hv)
    rcases h.lies with e | e
    · rw [e]; exact hv
    · intro e2; have := e i e2; omega
  · rcases k.lies with e | e
    · rcases h.lies with e2 | e2
      · exact .inl (e.trans e2)
      · exact .inr (fun i hi => e2 i (by rw [← e]; exact hi))
    · exact .inr (fun i hi => Nat.le_trans h.size (e i hi))
theorem Ext.of_below {b : Nat} {v : Value} {w w' : World} (h : Below w.heap.size w w') : Ext b v v w w' :=
  ⟨h.os, h.tape, h.output, h.size, fun k hk _ _ => h.block k hk, .inl rfl⟩
/-- what a call on a writer leaves -/
def WrP (b : Nat) (L : List Nat) (v : Value) (w : World) (e : Ending) (w' : World) : Prop :=
  e = .returned (.tuple #[]) ∧ ∃ v', Wr w' b L v' ∧ Ext b v v' w w'

/-- where the row lies behind an append -/
theorem append_block {P : Program} (w : World) (base : Nat) (t u ty e : TypeId) (i : TypeInfo) (ht : P.underlying t = some (.slice e)) (hu : P.underlying u = some .string) (hi : P.info? e = some i) (hz : i.zero = some (.int .u8 0))
    (hsize : i.size = 1) (hby : i.bytes = 1) (v : Value) (n : Nat) (xs : List Value) (hown : w.ownsRow base e 1 v n xs) (s : ByteArray)
    (h63 : n + s.size ≤ maxLen) (hbytes : n + s.size ≤ 140737488355328) :
    ∃ v' w', (Builtin.append_ #[t, u] ty #[v, .string s]).run P w = .ok v' w' ∧ (v'.ownBlock = v.ownBlock ∨ v'.ownBlock = some w.heap.size) := by
  have hsmall : n + s.size ≤ 9223372036854775807 := by simp only [maxLen] at h63; omega
  have hxl : xs.length = n := by simpa using hown.1
  rcases hown.2 with ⟨rfl, rfl⟩ | ⟨g, cap, cur, rfl, hbg, hg, hnc, hcm, hcs, htake⟩
  · by_cases hm : s.size = 0
    · refine ⟨.slice none 0 0, w, ?_, .inl rfl⟩
      have hf := Lib.run_firstCells_string (P := P) w 1 s
      rw [hm] at hf
      simp [Builtin.append_, run_underlying ht, run_underlying hu, sizeOf, typeInfo, hi, hsize, Builtin.lenOf, hm, hf]
    · exact ⟨_, _, run_append_nil_string (P := P) w t u ty e i (.int .u8 0) ht hu hi hz s (by omega) (by omega) (by rw [hby]; omega), .inr rfl⟩
  · by_cases hroom : n + s.size ≤ cap
    · have hcs' : cur.size = cap := by simpa using hcs
      exact ⟨_, _, Lib.run_append_room_string (P := P) w t u ty e i ht hu hi hsize g n cap cur hg s hroom (by omega), .inl rfl⟩
    · have holds : ∀ j u, xs[j]? = some u → w.cell? ((⟨g, 0, none⟩ : Addr).add j) = some u := hown.cells (g := g) rfl
      exact ⟨_, _, Lib.run_append_grow_string (P := P) w t u ty e i (.int .u8 0) ht hu hi hz ⟨g, 0, none⟩ n cap xs (by rw [hsize]; simpa using hxl) holds s (by omega) (by omega) (by rw [hby]; exact growslice_fits (by omega) (by omega)), .inr rfl⟩
theorem wpList_append_lies_string {P : Program} {w : World} {ops : Array Oper} {rest : List Oper} {o : Oper} {a : Act} {Q : Exit → Act → World → Prop} (hgd : o.guard = none) (sl x : Operand) (t u : TypeId)
    (ho : o.op = .call { callee := .builtin .append, args := #[sl, x], argTypes := #[t, u] })
    (base : Nat) (e : TypeId) (i : TypeInfo) (ht : P.underlying t = some (.slice e)) (hu : P.underlying u = some .string) (hi : P.info? e = some i) (hz : i.zero = some (.int .u8 0))
    (hsize : i.size = 1) (hby : i.bytes = 1)
    (v : Value) (n : Nat) (xs : List Value) (hs : a.eval sl = v) (hown : w.ownsRow base e 1 v n xs) (s : ByteArray) (hx : a.eval x = .string s)
    (h63 : n + s.size ≤ maxLen) (hbytes : n + s.size ≤ 140737488355328) (hbase : base ≤ w.heap.size)
    (h : ∀ v' w', w'.ownsRow base e 1 v' (n + s.size) (xs ++ Lib.strCells s) → w.grownBy w' v.ownBlock → (v'.ownBlock = v.ownBlock ∨ v'.ownBlock = some w.heap.size) → wpList P ops Q rest (a.put o.dst v') w') : wpList P ops Q (o :: rest) a w := by
  refine wpList_plain hgd fun K hK => ?_
  obtain ⟨v', w', hr, h2, h3, _⟩ := Lib.run_append_own_string (P := P) w base t u o.type e i ht hu hi hz hsize hby v n xs hown s h63 hbytes hbase
  obtain ⟨v2, w2, hr2, h4⟩ := append_block (P := P) w base t u o.type e i ht hu hi hz hsize hby v n xs hown s h63 hbytes
  rw [hr] at hr2
  injection hr2 with e1 e2
  subst e1
  unfold Oper.wp execOp
  simp only [ho, resolve, invoke, builtin, Sem.run_bind, Sem.run_pure, Result.andThen_ok, List.map_toArray, List.map_cons, List.map_nil, hs, hx, hr]
  exact hK _ _ (h v' w' h2 h3 h4)

theorem own_keep {w w' : World} {B e z : Nat} {v : Value} {n : Nat} {xs : List Value} (h : w.ownsRow B e z v n xs) (hb : Below w.heap.size w w') : w'.ownsRow B e z v n xs := by
  obtain ⟨h1, h2⟩ := h
  refine ⟨h1, ?_⟩
  rcases h2 with h2 | ⟨g, cap, cur, hv, hg, hh, r⟩
  · exact .inl h2
  · refine .inr ⟨g, cap, cur, hv, hg, ?_, r⟩
    have hgl : g < w.heap.size := by
      rcases Nat.lt_or_ge g w.heap.size with hl | hl
      · exact hl
      · rw [Array.getElem?_eq_none hl] at hh; cases hh
    rw [hb.block g hgl]; exact hh
theorem Wr.below {w w' : World} {b : Nat} {L : List Nat} {v : Value} (h : Wr w b L v) (hb : Below w.heap.size w w') : Wr w' b L v := by
  have hlt := World.block_lt_of_cell? w _ h.cell
  exact ⟨by rw [hb.cell hlt]; exact h.cell, own_keep h.own hb, by rw [hb.frozen hlt]; exact h.fr⟩

theorem Ext.below {b B : Nat} {v v' : Value} {w w' : World} (h : Ext b v v' w w') (hb : B ≤ b) (hB : B ≤ w.heap.size) (hv : ∀ k, v.ownBlock = some k → b + 1 ≤ k) : Below B w w' :=
  ⟨h.os, h.tape, h.output, h.size, fun i hi => h.block i (by omega) (by omega) (fun e => by have := hv i e; omega)⟩
theorem fixedSize_any (n : Int) (w : World) : Calls Tryz.prog 75 #[.int .i64 n] w fun e w' => e = .returned (.int .i64 ((if n < 1 then 1 else if 8 < n then 8 else n.toNat : Nat) : Int)) ∧ w = w' := by
  have main : ∀ k : Nat, ((n < 1 ∧ k = 1) ∨ (8 < n ∧ k = 8) ∨ (n = k ∧ 1 ≤ k ∧ k ≤ 8)) → Calls Tryz.prog 75 #[.int .i64 n] w fun e w' => e = .returned (.int .i64 (k : Int)) ∧ w = w' := by
    intro k hc
    rcases hc with ⟨h, rfl⟩ | ⟨h, rfl⟩ | ⟨rfl, h1, h2⟩
    all_goals
      go_enter Tryz.func75, Tryz.ntmps75
      go_wp2
      go_ret
      first
        | exact ⟨rfl, rfl⟩
        | (refine ⟨congrArg Ending.returned (congrArg (Value.int .i64) ?_), rfl⟩; omega)
  refine main _ ?_
  by_cases h : n < 1
  · exact .inl ⟨h, if_pos h⟩
  · by_cases h2 : 8 < n
    · exact .inr (.inl ⟨h2, by rw [if_neg h, if_pos h2]⟩)
    · exact .inr (.inr ⟨by rw [if_neg h, if_neg h2]; omega, by rw [if_neg h, if_neg h2]; omega, by rw [if_neg h, if_neg h2]; omega⟩)

set_option maxHeartbeats 400000 in
theorem raw_any (b : Nat) (L : List Nat) (v : Value) (s : ByteArray) (w : World) (h : Wr w b L v) (hl : L.length + s.size ≤ 10000000) :
    Calls Tryz.prog 47 #[.pointer (some ⟨b, 0, none⟩), .string s] w (WrP b (L ++ sb s) v w) := by
  obtain ⟨i0, hi, hz0, hz1, hz2⟩ := info_parts info_byte
  have hc := h.cell
  have hf := h.fr
  have hlt := World.block_lt_of_cell? w _ hc
  have hlt : b < w.heap.size := hlt
  have hne : v.ownBlock ≠ some b := fun e => by have := (h.own.lt b e).1; omega
  have HW := Box.mk h; have HNE := Box.mk hne
  clear h hne
  go_enter Tryz.func47, Tryz.ntmps47
  go_wp2_with (at_builtin; (refine wpList_append_lies_string rfl (.tmp 8) (.tmp 9) 52 9 rfl (b + 1) 5 i0 Tryz.underlying52 Tryz.underlying9 hi hz0 hz1 hz2 v L.length (byts L) rfl HW.out.own s rfl (by unfold maxLen; omega) (by omega) (by omega) ?_; intro v' w1 hown hg hn; obtain ⟨p', l', c', rfl⟩ := own_slice hown; have HO := Box.mk hown; have HG := Box.mk hg; have HNL := Box.mk hn; clear hn; have hc1 : w1.cell? ⟨b, 0, none⟩ = some v := hg.cell hc (fun e => HNE.out e.symm); have hf1 : w1.frozen? ⟨b, 0, none⟩ = false := (by rw [World.frozen?_of_block (w := w) (a := ⟨b, 0, none⟩) (hg.block b hlt (fun e => HNE.out e.symm))]; exact hf); clear hown hg))
  go_end0
  have hob : ∀ k, v.ownBlock = some k → b + 1 ≤ k ∧ k < w.heap.size := fun k hk => HW.out.own.lt k hk
  refine ⟨rfl, .slice p' l' c', ⟨World.cell?_setCell_same _ _ _ hc1, ?_, by simpa using hf1⟩, ⟨HG.out.os, HG.out.tape, HG.out.output, by simpa [World.setCell] using HG.out.size, fun k hk hkb hkv => ?_, ?_⟩⟩
  rotate_left
  · rw [Below.heap_setCell _ _ _ _ (by simpa using hkb)]
    exact HG.out.block k hk (fun e => hkv e.symm)
  · rcases HNL.out with e | e
    · exact .inl e
    · exact .inr (fun k hk => by rw [e] at hk; cases hk; exact Nat.le_refl _)
  have ho := HO.out
  rw [strCells_sb, byts_append, ← sb_length s, ← List.length_append] at ho
  exact ownsRow_setCell_below ho (by show b < b + 1; omega) _

end Go.Proofs.YtdffpbfllekcgaaGreatDoor
