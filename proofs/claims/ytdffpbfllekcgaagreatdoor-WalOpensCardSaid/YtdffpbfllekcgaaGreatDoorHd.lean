/- CrcA, CrcB, CrcC, CrcD, Str, in one text. -/
import Derived.Test.YtdffpbfllekcgaaGreatDoorHa
import Derived.Test.YtdffpbfllekcgaaGreatDoorHc
import Derived.Deep.QuietTactic
import Derived.BigQuiet
import Derived.Deep.LoopGhost
import Derived.RegionTactic
import Derived.Lib.AppendStr
namespace Go.Proofs.YtdffpbfllekcgaaGreatDoor
set_option maxRecDepth 100000
open Go.RowKit M

theorem xor32 {a b : Nat} (ha : a < 4294967296) (hb : b < 4294967296) : bits BinOp.xor IntKind.u32 (a : Int) (b : Int) = ((a ^^^ b : Nat) : Int) := u32_xor_nat a b ha hb
theorem and32_1 {a : Nat} (ha : a < 4294967296) : bits BinOp.and IntKind.u32 (a : Int) 1 = ((a % 2 : Nat) : Int) := by
  have h := u32_and_nat a 1 ha (by omega)
  rw [nat_mask1] at h; exact h
theorem and32_15 {a : Nat} (ha : a < 4294967296) : bits BinOp.and IntKind.u32 (a : Int) 15 = ((a % 16 : Nat) : Int) := by
  have h := u32_and_nat a 15 ha (by omega)
  rw [nat_mask4] at h; exact h

theorem refStep_any (c b : Nat) (hc : c < 4294967296) (hb : b < 2) (w : World) :
    Calls Tryz.prog 131 #[.int .u32 c, .int .u32 b] w fun e w' => e = .returned (.int .u32 (st (c ^^^ b) : Nat)) ∧ w = w' := by
  have hd : (c ^^^ b) / 2 = c / 2 := by rw [xor_div2, show b / 2 = 0 by omega, Nat.xor_zero]
  have hm := xor_mod2 c b
  rcases (by omega : (c ^^^ b) % 2 = 0 ∨ (c ^^^ b) % 2 = 1) with h | h
  · have e : st (c ^^^ b) = c / 2 := by unfold st; rw [if_neg (by omega), hd]
    have E := Box.mk e; clear e
    have r1 : (((c : Int) + (b : Int)) % 2 == 1) = false := by rw [beq_eq_false_iff_ne]; omega
    clear hd hm h
    go_enter Tryz.func131, Tryz.ntmps131
    go_wp2
    go_ret
    exact ⟨by rw [E.out]; rfl, rfl⟩
  · have e : st (c ^^^ b) = c / 2 ^^^ 2197175160 := by unfold st; rw [if_pos h, hd]
    have r1 : (((c : Int) + (b : Int)) % 2 == 1) = true := by rw [beq_iff_eq]; omega
    have r3 : bits BinOp.xor IntKind.u32 ((c : Int) / 2) 2197175160 = ((st (c ^^^ b) : Nat) : Int) := by
      rw [e, show ((c : Int) / 2) = ((c / 2 : Nat) : Int) by omega]
      exact xor32 (b := 2197175160) (by omega) (by omega)
    clear hd hm h e
    generalize st (c ^^^ b) = d at *
    go_enter Tryz.func131, Tryz.ntmps131
    go_wp2
    go_ret
    exact ⟨rfl, rfl⟩

theorem sti_byte (c b : Nat) : ∀ k, sti (k + 1) (c ^^^ b) = sti k (st (c ^^^ b % 2) ^^^ b / 2) := by
  intro k
  show sti k (st (c ^^^ b)) = _
  congr 1
  have e : b = b % 2 ^^^ 2 * (b / 2) := by
    have h := xor_join 1 (b % 2) (b / 2) (by omega)
    rw [Nat.pow_one] at h
    rw [← h]; omega
  conv => lhs; rw [e]
  rw [← Nat.xor_assoc, st_xor, st_two]

set_option maxHeartbeats 400000 in
theorem refByte_any (c b : Nat) (hc : c < 4294967296) (hb : b < 256) (w : World) :
    Calls Tryz.prog 120 #[.int .u32 c, .int .u8 b] w fun e w' => e = .returned (.int .u32 (sti 8 (c ^^^ b) : Nat)) ∧ w = w' := by
  go_enter Tryz.func120, Tryz.ntmps120
  go_wp2_with fail
  go_loop [0, 1, 5] (fun x y i => ∃ k c' b' : Nat, i = .int .i64 k ∧ x = .int .u32 c' ∧ y = .int .u8 b' ∧ k ≤ 8 ∧ c' < 4294967296 ∧ b' < 256 ∧ Box (b' < 2 ^ (8 - k) ∧ sti (8 - k) (c' ^^^ b') = sti 8 (c ^^^ b))) (fun _ _ i => 8 - (intOf i).toNat)
  case atStart => exact ⟨0, c, b, rfl, rfl, rfl, by omega, hc, hb, ⟨by omega, rfl⟩⟩
  case round =>
    obtain ⟨k, c', b', rfl, rfl, rfl, hk, hc', hb', hB⟩ := hrel
    by_cases hlt : k < 8
    · have hcs : c' ^^^ b' % 2 < 4294967296 := xor_lt32 hc' (by omega)
      obtain ⟨y, hy⟩ : ∃ y, y = b' % 2 := ⟨_, rfl⟩
      have r1 : (b' : Int) % 2 = (y : Int) := by omega
      have hy2 : y < 2 := by omega
      rw [← hy] at hcs
      have HY := Box.mk hy; clear hy
      have hst := st_lt hcs
      go_wp2_with (go_at_call 131; refine (refStep_any c' y hc' hy2 _).mono ?_; rintro e w' ⟨rfl, rfl⟩)
      go_round
      case rel =>
        refine ⟨k + 1, st (c' ^^^ y), b' / 2, by go_num, rfl, by go_num, by omega, hst, by omega, ⟨?_, ?_⟩⟩
        · have h := hB.out.1
          have e : 2 ^ (8 - k) = 2 * 2 ^ (8 - (k + 1)) := by rw [show 8 - k = (8 - (k + 1)) + 1 by omega, Nat.pow_succ]; omega
          omega
        · rw [← hB.out.2, show 8 - k = (8 - (k + 1)) + 1 by omega, sti_byte, HY.out]
      case measure => simp [intOf]; omega
    · obtain rfl : k = 8 := by omega
      have h1 := hB.out.1
      have hb0 : b' = 0 := by simpa using h1
      subst hb0
      have h2 : c' = sti 8 (c ^^^ b) := by
        have h := hB.out.2
        rw [Nat.xor_zero] at h
        exact h
      have H2 := Box.mk h2
      clear h1 h2 hB
      go_wp2
      go_ret
      exact ⟨by rw [← H2.out]; rfl, rfl⟩

theorem awake_text : bs [49, 50, 51, 52, 53, 54, 55, 56, 57] = ⟨#[49, 50, 51, 52, 53, 54, 55, 56, 57]⟩ := by decide

/-- a string's bytes -/
def sb (s : ByteArray) : List Nat := bnl s s.size
theorem sb_lt (s : ByteArray) : ∀ d ∈ sb s, d < 2 ^ 8 := bnl_lt s s.size
theorem sb_length (s : ByteArray) : (sb s).length = s.size := bnl_length s s.size

set_option maxHeartbeats 400000 in
theorem refMore_any (sum : Nat) (s : ByteArray) (hsum : sum < 4294967296) (hs : s.size ≤ 9223372036854775807) (w : World) :
    Calls Tryz.prog 107 #[.int .u32 sum, .string s] w fun e w' => e = .returned (.int .u32 (more sum (sb s) : Nat)) ∧ Below w.heap.size w w' := by
  obtain ⟨cap, W, hcv, hcell, hbW, hlt⟩ := str_bytes w s
  have HCL := Box.mk hcell; clear hcell
  have r0 : (4294967295 : Int) - (sum : Int) = ((4294967295 - sum : Nat) : Int) := by omega
  obtain ⟨c, hc⟩ : ∃ c, c = 4294967295 - sum := ⟨_, rfl⟩
  rw [← hc] at r0
  have hc32 : c < 4294967296 := by omega
  have HC := Box.mk hc; clear hc
  go_enter Tryz.func107, Tryz.ntmps107
  go_wp2_with fail
  go_loop [5, 7, 13] (fun x _ i => ∃ k : Nat, k ≤ s.size ∧ i = .int .i64 k ∧ x = .int .u32 (crcF c (bnl s k) : Nat)) (fun _ _ i => s.size - (intOf i).toNat)
  case atStart => exact ⟨0, by omega, rfl, by rw [show bnl s 0 = [] from rfl, crcF_nil]⟩
  case round =>
    obtain ⟨k, hk, rfl, rfl⟩ := hrel
    by_cases hlt2 : k < s.size
    · have hcell := HCL.out k hlt2
      have hle := bn_le s k
      have hr := crcF_lt hc32 (bnl s k) (bnl_lt s k)
      have hst := crcF_snoc c (bnl s k) (bn s k) (bnl_lt s k)
      rw [← bnl_succ] at hst
      have HST := Box.mk hst; clear hst
      generalize crcF c (bnl s k) = r at *
      generalize bn s k = b at *
      go_wp2_with (go_at_call 120; refine (refByte_any r b hr (by omega) _).mono ?_; rintro e w' ⟨rfl, rfl⟩)
      go_round
      case rel => exact ⟨k + 1, by omega, by go_num, by rw [HST.out]⟩
      case measure => simp [intOf]; omega
    · obtain rfl : s.size = k := by omega
      have hr := crcF_lt hc32 (bnl s s.size) (bnl_lt s s.size)
      have hfin : more sum (sb s) = 4294967295 - crcF c (bnl s s.size) := by unfold more sb; rw [HC.out]
      have HF := Box.mk hfin; clear hfin
      generalize crcF c (bnl s s.size) = r at *
      have r2 : (4294967295 : Int) - (r : Int) = ((4294967295 - r : Nat) : Int) := by omega
      obtain ⟨y, hy⟩ : ∃ y, y = 4294967295 - r := ⟨_, rfl⟩
      rw [← hy] at r2
      have HY := Box.mk hy; clear hy
      go_wp2
      go_ret
      exact ⟨by rw [HF.out, ← HY.out]; rfl, hbW⟩

/-- the table of crc lies in its cells -/
def Halves (w : World) : Prop := ∀ t, t < 16 → w.cell? ⟨0, t, none⟩ = some (.int .u32 ((halvesN.getD t 0 : Nat) : Int))
theorem halves_get : ∀ t, t < 16 → (([0, 274646895, 549293790, 820201905, 1098587580, 1361435347, 1640403810, 1905808397, 2197175160, 2460548119, 2722870694, 2987750089, 3280807620, 3553878443, 3811616794, 4084100981] : List Int).getD t 0) = ((halvesN.getD t 0 : Nat) : Int) := by decide
theorem halves_lt : ∀ t, t < 16 → halvesN.getD t 0 < 4294967296 := by decide
theorem halves_below {w w' : World} (h : Halves w) (hb : Below w.heap.size w w') : Halves w' := fun t ht => by
  have hc := h t ht
  rw [hb.cell (World.block_lt_of_cell? w _ hc)]; exact hc

theorem not32 {a : Nat} (ha : a < 4294967296) : bits BinOp.xor IntKind.u32 IntKind.u32.max (a : Int) = ((4294967295 - a : Nat) : Int) := by
  rw [show IntKind.u32.max = ((4294967295 : Nat) : Int) by decide, xor32 (by omega) ha, compl32 ha, Nat.xor_comm]

/-- four steps, as the code does them -/
theorem four_steps {x : Nat} (hx : x < 4294967296) : ∃ i h y : Nat, i < 16 ∧ h = halvesN.getD i 0 ∧ y = sti 4 x ∧ y < 4294967296 ∧ bits BinOp.and IntKind.u32 (x : Int) 15 = (i : Int) ∧ bits BinOp.xor IntKind.u32 ((x : Int) / 16) (h : Int) = (y : Int) := by
  refine ⟨x % 16, _, _, Nat.mod_lt _ (by decide), rfl, rfl, sti_lt 4 hx, and32_15 hx, ?_⟩
  rw [show ((x : Int) / 16) = ((x / 16 : Nat) : Int) by omega, xor32 (by omega) (halves_lt _ (Nat.mod_lt _ (by decide))), sti4 x]

set_option maxHeartbeats 1000000 in
theorem crcMore_any (sum : Nat) (s : ByteArray) (hsum : sum < 4294967296) (hs : s.size ≤ 9223372036854775807) (w : World) (hH : Halves w) :
    Calls Tryz.prog 78 #[.int .u32 sum, .string s] w fun e w' => e = .returned (.int .u32 (more sum (sb s) : Nat)) ∧ w = w' := by
  have HH := Box.mk hH; clear hH
  have r0 := not32 hsum
  obtain ⟨c, hc⟩ : ∃ c, c = 4294967295 - sum := ⟨_, rfl⟩
  rw [← hc] at r0
  have hc32 : c < 4294967296 := by omega
  have HC := Box.mk hc; clear hc
  go_enter Tryz.func78, Tryz.ntmps78
  go_wp2_with fail
  go_loop [5, 6, 11] (fun x _ i => ∃ k : Nat, k ≤ s.size ∧ i = .int .i64 k ∧ x = .int .u32 (crcF c (bnl s k) : Nat)) (fun _ _ i => s.size - (intOf i).toNat)
  case atStart => exact ⟨0, by omega, rfl, by rw [show bnl s 0 = [] from rfl, crcF_nil]⟩
  case round =>
    obtain ⟨k, hk, rfl, rfl⟩ := hrel
    by_cases hlt2 : k < s.size
    · have hr := crcF_lt hc32 (bnl s k) (bnl_lt s k)
      have hst := crcF_snoc c (bnl s k) (bn s k) (bnl_lt s k)
      rw [← bnl_succ] at hst
      have hle := bn_le s k
      rw [← bn_of hlt2] at hst hle
      have hx := xor_lt32 hr (show (s[k]'hlt2).toNat < 4294967296 by omega)
      have r1 := xor32 hr (show (s[k]'hlt2).toNat < 4294967296 by omega)
      have hxx : ∃ x, x = crcF c (bnl s k) ^^^ (s[k]'hlt2).toNat := ⟨_, rfl⟩
      obtain ⟨x, hxe⟩ := hxx
      rw [← hxe] at r1 hx hst
      obtain ⟨i1, h1, y1, p1, p2, p3, p4, p5, p6⟩ := four_steps hx
      obtain ⟨i2, h2, y2, q1, q2, q3, q4, q5, q6⟩ := four_steps p4
      have hc1 := HH.out i1 p1
      rw [← p2] at hc1
      have hc2 := HH.out i2 q1
      rw [← q2] at hc2
      have hfin : y2 = crcF c (bnl s (k + 1)) := by rw [hst, q3, p3, ← sti_add]
      have HF := Box.mk hfin
      clear hst hfin p2 p3 q2 q3 hxe
      generalize crcF c (bnl s k) = r at *
      go_wp2
      go_round
      case rel => exact ⟨k + 1, by omega, by go_num, by rw [← HF.out]⟩
      case measure => simp [intOf]; omega
    · obtain rfl : s.size = k := by omega
      have hr := crcF_lt hc32 (bnl s s.size) (bnl_lt s s.size)
      have hfin : more sum (sb s) = 4294967295 - crcF c (bnl s s.size) := by unfold more sb; rw [HC.out]
      have HF := Box.mk hfin; clear hfin
      generalize crcF c (bnl s s.size) = r at *
      have r2 := not32 hr
      obtain ⟨y, hy⟩ : ∃ y, y = 4294967295 - r := ⟨_, rfl⟩
      rw [← hy] at r2
      have HY := Box.mk hy; clear hy
      go_wp2
      go_ret
      exact ⟨by rw [HF.out, ← HY.out]; rfl, rfl⟩

/-- the sum of bytes -/
def ofN (l : List Nat) : Nat := more 0 l

theorem crcOf_any (s : ByteArray) (hs : s.size ≤ 9223372036854775807) (w : World) (hH : Halves w) :
    Calls Tryz.prog 79 #[.string s] w fun e w' => e = .returned (.int .u32 (ofN (sb s) : Nat)) ∧ w = w' := by
  have HH := Box.mk hH; clear hH
  go_enter Tryz.func79, Tryz.ntmps79
  go_wp2_with (go_at_call 78; refine (crcMore_any 0 s (by omega) hs _ HH.out).mono ?_; rintro e w' ⟨rfl, rfl⟩)
  go_ret
  exact ⟨rfl, rfl⟩

theorem text_sb : sb ⟨#[49, 50, 51, 52, 53, 54, 55, 56, 57]⟩ = [49, 50, 51, 52, 53, 54, 55, 56, 57] := by decide
theorem text_of : ofN [49, 50, 51, 52, 53, 54, 55, 56, 57] = 3808858755 := by decide +kernel
theorem none_of : ofN (sb ⟨#[]⟩) = 0 := by decide +kernel

end Go.Proofs.YtdffpbfllekcgaaGreatDoor
namespace Go.Proofs.YtdffpbfllekcgaaGreatDoor
set_option maxRecDepth 100000
open Go.RowKit M

theorem dbl_math (a i : Nat) : a * 2 ^ i % 4294967296 * 2 % 4294967296 = a * 2 ^ (i + 1) % 4294967296 := by
  rw [Nat.pow_succ, ← Nat.mul_assoc, Nat.mod_mul_mod]
theorem top_math {a i : Nat} (hi : i < 32) : a * 2 ^ i % 4294967296 / 2147483648 = (a.testBit (31 - i)).toNat := by
  have h := Nat.testBit_mod_two_pow (a * 2 ^ i) 32 31
  rw [Nat.mul_comm a, Nat.testBit_two_pow_mul, show (2 : Nat) ^ 32 = 4294967296 by decide, Nat.mul_comm _ a] at h
  have hlt : a * 2 ^ i % 4294967296 < 4294967296 := Nat.mod_lt _ (by decide)
  rw [Nat.testBit_eq_decide_div_mod_eq, show (2 : Nat) ^ 31 = 2147483648 by decide] at h
  simp only [show i ≤ 31 by omega, decide_true, Bool.true_and, show (31 : Nat) < 32 by decide] at h
  cases hb : a.testBit (31 - i)
  · rw [hb] at h; simp at h ⊢; omega
  · rw [hb] at h; simp at h ⊢; omega

theorem and64_1 {a : Nat} (ha : a < 9223372036854775808) : bits BinOp.and IntKind.i64 (a : Int) 1 = ((a % 2 : Nat) : Int) := by
  show IntKind.i64.wrap ((BitVec.ofInt 64 (a : Int) &&& BitVec.ofInt 64 1).toNat : Int) = _
  rw [BitVec.toNat_and, ofInt_u64 a (by omega), show (BitVec.ofInt 64 1).toNat = 1 by decide, nat_mask1, IntKind.wrap_i64]
  omega

theorem unit8 : sti 8 2147483648 = 8388608 := by decide

end Go.Proofs.YtdffpbfllekcgaaGreatDoor
namespace Go.Proofs.YtdffpbfllekcgaaGreatDoor
set_option maxRecDepth 100000
open Go.RowKit M

theorem cut_size (s : ByteArray) (n : Nat) : (s.extract 0 n).size ≤ n := by simp; omega

theorem compl_compl {x : Nat} (h : x < 4294967296) : 4294967295 - (4294967295 - x) = x := by omega
theorem more_append (sum : Nat) (l m : List Nat) (hl : ∀ d ∈ l, d < 2 ^ 8) : more (more sum l) m = more sum (l ++ m) := by
  have h := crcF_lt (show 4294967295 - sum < 4294967296 by omega) l hl
  unfold more
  rw [compl_compl h, crcF_append _ _ _ hl]
theorem join_math (l m : List Nat) (hl : ∀ d ∈ l, d < 2 ^ 8) (hm : ∀ d ∈ m, d < 2 ^ 8) : sti (8 * m.length) (ofN l) ^^^ ofN m = ofN (l ++ m) := by
  have h1 := crcF_lt (show 4294967295 < 4294967296 by omega) l hl
  have h2 := crcF_lt (show 4294967295 < 4294967296 by omega) m hm
  have h3 := crcF_lt (show 4294967295 < 4294967296 by omega) (l ++ m) (fun d hd => by rcases List.mem_append.1 hd with h | h; exact hl d h; exact hm d h)
  unfold ofN more
  simp only [Nat.sub_zero]
  rw [compl32 h3, compl32 h2, compl32 h1, crcF_append _ _ _ hl]
  have e : crcF 4294967295 l = 4294967295 ^^^ (crcF 4294967295 l ^^^ 4294967295) := by
    rw [Nat.xor_comm 4294967295, Nat.xor_assoc, Nat.xor_self, Nat.xor_zero]
  conv => rhs; rw [e]
  rw [crcF_xor, ← Nat.xor_assoc, Nat.xor_comm (sti _ _)]

theorem sb_append (s t : ByteArray) : sb (s ++ t) = sb s ++ sb t := by
  apply List.ext_getElem
  · simp [sb, bnl_length]
  · intro i h1 h2
    simp only [sb, bnl_length] at h1
    have hs : i < (s ++ t).size := h1
    rw [List.getElem_append]
    split
    · rename_i h
      simp only [sb, bnl_length] at h
      simp only [sb, bnl, List.getElem_map, List.getElem_range]
      rw [← bn_of hs, ← bn_of h, ByteArray.getElem_append_left h]
    · rename_i h
      simp only [sb, bnl_length] at h
      simp only [sb, bnl, List.getElem_map, List.getElem_range, List.length_map, List.length_range]
      have ht : i - s.size < t.size := by simp at hs; omega
      rw [← bn_of hs, ← bn_of ht, ByteArray.getElem_append_right (by omega)]

end Go.Proofs.YtdffpbfllekcgaaGreatDoor
namespace Go.Proofs.YtdffpbfllekcgaaGreatDoor
set_option maxRecDepth 100000
open Go.RowKit M

/-- n cells of block g hold the bytes l and may be written -/
structure RowB (w : World) (g n : Nat) (l : List Nat) : Prop where
  len : l.length = n
  cell : ∀ j, j < n → w.cell? ⟨g, j, none⟩ = some (.int .u8 ((l.getD j 0 : Nat) : Int))
  free : ∀ j, j < n → w.frozen? ⟨g, j, none⟩ = false

theorem frozen_setCell (w : World) (p q : Addr) (u : Value) : (w.setCell p u).frozen? q = w.frozen? q := by
  simp only [World.setCell, World.frozen?, Array.getElem?_modify]
  by_cases h : p.block = q.block
  · simp only [h, if_true]
    cases hh : w.heap[q.block]? with
    | none => simp
    | some x => cases x <;> simp
  · simp [h]

theorem RowB.set {w : World} {g n : Nat} {l : List Nat} (h : RowB w g n l) (p x : Nat) (hp : p < n) : RowB (w.setCell ⟨g, p, none⟩ (.int .u8 (x : Int))) g n (l.set p x) := by
  refine ⟨by simpa using h.len, fun j hj => ?_, fun j hj => by rw [frozen_setCell]; exact h.free j hj⟩
  by_cases e : p = j
  · subst e
    rw [World.cell?_setCell_same _ _ _ (h.cell p hp)]
    simp [List.getD, h.len, hp]
  · have hne : (⟨g, p, none⟩ : Addr) ≠ ⟨g, j, none⟩ := fun h => e (by injection h)
    rw [World.cell?_setCell_other _ _ _ _ hne, h.cell j hj]
    rw [show (l.set p x).getD j 0 = l.getD j 0 by simp [List.getD, List.getElem?_set_ne e]]

theorem RowB.drew {w : World} {g n : Nat} {l : List Nat} (h : RowB w g n l) : RowB w.drew g n l := ⟨h.len, h.cell, h.free⟩

theorem getD_mem {l : List Nat} {p : Nat} (h : p < l.length) : l.getD p 0 ∈ l := by
  have e : l.getD p 0 = l[p] := by simp [List.getD, h]
  rw [e]; exact List.getElem_mem h

/-- a string turned into bytes that may be written -/
theorem str_row (w : World) (s : ByteArray) : ∃ cap W, (convert 9 52 (.string s)).run Tryz.prog w = .ok (.slice (some ⟨w.heap.size, 0, none⟩) s.size cap) W ∧
    RowB W w.heap.size s.size (sb s) ∧ Below w.heap.size w W ∧ w.heap.size < W.heap.size := by
  refine ⟨_, _, Lib.run_convert_string_bytes (P := Tryz.prog) w 9 52 5 s Tryz.underlying9 Tryz.underlying52 Tryz.underlying5, ⟨sb_length s, fun j hj => ?_, fun j hj => ?_⟩, ⟨rfl, rfl, rfl, ?_, fun k hk => Lib.bytesWorld_at_old w _ s k hk⟩, ?_⟩
  · rw [Lib.bytesWorld_cell w _ s j hj, sb, bnl_getD _ _ _ hj, ← bn_of hj]
    simp [List.getD, hj, ByteArray.getElem_eq_getElem_data]
  · unfold World.frozen?
    simp only [Lib.bytesWorld_at_new]
    have hsz : s.size ≤ (Lib.bytesCells w 5 s).size := by simp [Lib.bytesCells]
    simp; omega
  · rw [Lib.bytesWorld_size]; omega
  · rw [Lib.bytesWorld_size]; omega

/-- bytes turned into a string -/
theorem conv_row {w : World} {g n cap : Nat} {l : List Nat} (h : RowB w g n l) :
    (convert 52 9 (.slice (some ⟨g, 0, none⟩) n cap)).run Tryz.prog w = .ok (.string (bs l)) w := by
  refine run_convert_bytes_arg (P := Tryz.prog) w 52 5 Tryz.underlying52 Tryz.underlying5 g 0 n cap (l.map fun n => ((n : Nat) : Int)) (by simp [h.len]) (fun i hi => ?_) 9 Tryz.underlying9
  rw [Nat.zero_add, h.cell i hi]
  simp [List.getD, h.len, hi]

theorem mul_pow_xor (k x y : Nat) : 2 ^ k * (x ^^^ y) = 2 ^ k * x ^^^ 2 ^ k * y := by
  apply Nat.eq_of_testBit_eq
  intro i
  simp only [Nat.testBit_two_pow_mul, Nat.testBit_xor]
  by_cases h : k ≤ i <;> simp [h]

theorem num_set : ∀ (l : List Nat) (p q : Nat), (∀ d ∈ l, d < 2 ^ 8) → p < l.length → q < 8 → num 8 (l.set p (l.getD p 0 ^^^ 2 ^ q)) = num 8 l ^^^ 2 ^ (8 * p + q)
  | [], p, q, _, hp, _ => by simp at hp
  | d :: l, 0, q, h, _, hq => by
    have hd := h d (by simp)
    have hdq : d ^^^ 2 ^ q < 2 ^ 8 := Nat.xor_lt_two_pow hd (Nat.pow_lt_pow_right (by decide) hq)
    simp only [List.set_cons_zero, num, List.getD_cons_zero, Nat.mul_zero, Nat.zero_add]
    rw [xor_join _ _ _ hd, xor_join _ _ _ hdq, Nat.xor_assoc, Nat.xor_comm (2 ^ q), ← Nat.xor_assoc]
  | d :: l, p + 1, q, h, hp, hq => by
    have hd := h d (by simp)
    have ih := num_set l p q (fun c hc => h c (by simp [hc])) (by simpa using hp) hq
    simp only [List.set_cons_succ, num, List.getD_cons_succ]
    rw [ih, xor_join _ _ _ hd, xor_join _ _ _ hd, mul_pow_xor, ← Nat.xor_assoc, ← Nat.pow_add, show 8 + (8 * p + q) = 8 * (p + 1) + q by omega]
theorem set_lt {l : List Nat} {p x : Nat} (h : ∀ d ∈ l, d < 2 ^ 8) (hx : x < 2 ^ 8) : ∀ d ∈ l.set p x, d < 2 ^ 8 := by
  intro d hd
  rcases List.mem_or_eq_of_mem_set hd with h1 | h1
  · exact h d h1
  · rw [h1]; exact hx

/-- the bits that are turned, up to place k -/
def brN (bits lim k : Nat) : Nat := bits % 2 ^ (min k lim)
theorem brN_step {bits lim k : Nat} (h : k < lim) : brN bits lim (k + 1) = brN bits lim k ^^^ 2 ^ k * (bits / 2 ^ k % 2) := by
  unfold brN
  rw [Nat.min_eq_left (by omega), Nat.min_eq_left (by omega), mod_top, Nat.add_comm, Nat.mul_comm, xor_join _ _ _ (Nat.mod_lt _ (pow_pos' k))]
theorem brN_skip {bits lim k : Nat} (h : ¬ k < lim) : brN bits lim (k + 1) = brN bits lim k := by
  unfold brN
  rw [Nat.min_eq_right (by omega), Nat.min_eq_right (by omega)]
theorem brN_ne {bits lim k : Nat} (h : k < lim) (h1 : bits / 2 ^ k % 2 = 1) : brN bits lim (k + 1) ≠ 0 := by
  unfold brN
  rw [Nat.min_eq_left (by omega), mod_top, h1]
  have := pow_pos' k
  omega

/-- the change is told -/
theorem burst_told {l m : List Nat} {a x : Nat} (hlen : m.length = l.length) (hl : ∀ d ∈ l, d < 2 ^ 8) (hm : ∀ d ∈ m, d < 2 ^ 8) (ha : a < 8 * l.length) (hx : x < 4294967296) (h : num 8 m = num 8 l ^^^ 2 ^ a * x) :
    (ofN m ≠ ofN l) ↔ x ≠ 0 := by
  have h1 := crcF_lt (show 4294967295 < 4294967296 by omega) l hl
  have h2 := crcF_lt (show 4294967295 < 4294967296 by omega) m hm
  have e : crcF 4294967295 m = crcF 4294967295 l ^^^ sti (8 * l.length - a) x := by
    have e2 : sti (8 * l.length) (2 ^ a * x) = sti (8 * l.length - a) x := by
      conv => lhs; rw [show 8 * l.length = a + (8 * l.length - a) by omega, sti_add, sti_pow]
    unfold crcF
    rw [hlen, h, ← Nat.xor_assoc, sti_xor, e2]
  unfold ofN more
  simp only [Nat.sub_zero]
  constructor
  · intro hne h0
    apply hne
    rw [e, h0, sti_zero, Nat.xor_zero]
  · intro h0 he
    have h3 := sti_ne (8 * l.length - a) hx h0
    apply h3
    have h4 : crcF 4294967295 m = crcF 4294967295 l := by omega
    rw [h4] at e
    have := congrArg (fun z => crcF 4294967295 l ^^^ z) e
    simp only [← Nat.xor_assoc, Nat.xor_self, Nat.zero_xor] at this
    exact this.symm

theorem sb_bs (l : List Nat) (h : ∀ d ∈ l, d < 2 ^ 8) : sb (bs l) = l := by
  apply List.ext_getElem
  · simp [sb_length, bs_size]
  · intro i h1 h2
    simp only [sb, bnl, List.getElem_map, List.getElem_range]
    rw [bn_bs l h i h2]; simp [List.getD, h2]
end Go.Proofs.YtdffpbfllekcgaaGreatDoor
namespace Go.Proofs.YtdffpbfllekcgaaGreatDoor
set_option maxRecDepth 100000
open Go.RowKit M

theorem bch' {B : Nat} {w a b : World} (h : Below B w a) (k : Below B a b) : Below B w b := h.trans k
theorem sb_data (s : ByteArray) : sb s = s.data.toList.map UInt8.toNat := by
  apply List.ext_getElem
  · rw [sb_length, List.length_map, Array.length_toList]; rfl
  · intro j h1 h2
    rw [sb_length] at h1
    have e := bn_of h1
    simp only [sb, bnl, List.getElem_map, List.getElem_range]
    rw [← e]; rfl
theorem bs_list (s : ByteArray) : bs (sb s) = s := by
  apply ByteArray.ext
  apply Array.ext'
  have h : (sb s).map (fun n => ((n : Nat) : Int)) = s.data.toList.map fun b => ((b.toNat : Nat) : Int) := by
    rw [sb_data, List.map_map]; rfl
  show ((strOfNums ((sb s).map fun n => ((n : Nat) : Int))).data).toList = _
  rw [h]
  simp [strOfNums]
  conv => rhs; rw [← List.map_id s.data.toList]
  apply List.map_congr_left
  intro b _
  show UInt8.ofNat ((b.toNat : Nat) : Int).toNat = b
  rw [Int.toNat_natCast, UInt8.ofNat_toNat]
theorem strCells_sb (s : ByteArray) : Lib.strCells s = byts (sb s) := by
  rw [sb_data]
  simp only [byts, List.map_map, Lib.strCells]
  rfl
theorem byts_append (l m : List Nat) : byts l ++ byts m = byts (l ++ m) := by simp [byts]

end Go.Proofs.YtdffpbfllekcgaaGreatDoor
