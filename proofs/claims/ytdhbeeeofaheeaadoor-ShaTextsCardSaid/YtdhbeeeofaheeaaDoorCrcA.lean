/- Contracts of crc. -/
import Derived.Test.YtdhbeeeofaheeaaDoorCrcM
import Derived.Test.YtdhbeeeofaheeaaDoorWordN
import Derived.Deep.QuietTactic
import Derived.BigQuiet
namespace Go.Proofs.YtdhbeeeofaheeaaDoor
set_option maxRecDepth 100000
open Go.RowKit M

theorem xor32 {a b : Nat} (ha : a < 4294967296) (hb : b < 4294967296) : bits BinOp.xor IntKind.u32 (a : Int) (b : Int) = ((a ^^^ b : Nat) : Int) := u32_xor_nat a b ha hb
theorem and32_1 {a : Nat} (ha : a < 4294967296) : bits BinOp.and IntKind.u32 (a : Int) 1 = ((a % 2 : Nat) : Int) := by
  have h := u32_and_nat a 1 ha (by omega)
  rw [nat_mask1] at h; exact h
theorem and32_15 {a : Nat} (ha : a < 4294967296) : bits BinOp.and IntKind.u32 (a : Int) 15 = ((a % 16 : Nat) : Int) := by
  have h := u32_and_nat a 15 ha (by omega)
  rw [nat_mask4] at h; exact h

theorem refStep_any (c b : Nat) (hc : c < 4294967296) (hb : b < 2) (w : World) :
    Calls Tryd.prog 94 #[.int .u32 c, .int .u32 b] w fun e w' => e = .returned (.int .u32 (st (c ^^^ b) : Nat)) ∧ w = w' := by
  have hd : (c ^^^ b) / 2 = c / 2 := by rw [xor_div2, show b / 2 = 0 by omega, Nat.xor_zero]
  have hm := xor_mod2 c b
  rcases (by omega : (c ^^^ b) % 2 = 0 ∨ (c ^^^ b) % 2 = 1) with h | h
  · have e : st (c ^^^ b) = c / 2 := by unfold st; rw [if_neg (by omega), hd]
    have E := Box.mk e; clear e
    have r1 : (((c : Int) + (b : Int)) % 2 == 1) = false := by rw [beq_eq_false_iff_ne]; omega
    clear hd hm h
    go_enter Tryd.func94, Tryd.ntmps94
    go_wp2
    go_ret
    exact ⟨by rw [E.out]; rfl, rfl⟩
  · have e : st (c ^^^ b) = c / 2 ^^^ 2197175160 := by unfold st; rw [if_pos h, hd]
    have r1 : (((c : Int) + (b : Int)) % 2 == 1) = true := by rw [beq_iff_eq]; omega
    have r3 : bits BinOp.xor IntKind.u32 ((c : Int) / 2) 2197175160 = ((st (c ^^^ b) : Nat) : Int) := by
      rw [e, show ((c : Int) / 2) = ((c / 2 : Nat) : Int) by omega]
      exact xor32 (b := 2197175160) (by omega) (by omega)
    clear hd hm h e
    generalize st (c ^^^ b) = d at *
    go_enter Tryd.func94, Tryd.ntmps94
    go_wp2
    go_ret
    exact ⟨rfl, rfl⟩

theorem sti_byte (c b : Nat) : ∀ k, sti (k + 1) (c ^^^ b) = sti k (st (c ^^^ b % 2) ^^^ b / 2) := by
  intro k
  show sti k (st (c ^^^ b)) = _
  congr 1
  have e : b = b % 2 ^^^ 2 * (b / 2) := by
    have h := xor_join 1 (b % 2) (b / 2) (by omega)
    rw [Nat.pow_one] at h
    rw [← h]; omega
  conv => lhs; rw [e]
  rw [← Nat.xor_assoc, st_xor, st_two]

set_option maxHeartbeats 400000 in
theorem refByte_any (c b : Nat) (hc : c < 4294967296) (hb : b < 256) (w : World) :
    Calls Tryd.prog 84 #[.int .u32 c, .int .u8 b] w fun e w' => e = .returned (.int .u32 (sti 8 (c ^^^ b) : Nat)) ∧ w = w' := by
  go_enter Tryd.func84, Tryd.ntmps84
  go_wp2_with fail
  go_loop [0, 1, 5] (fun x y i => ∃ k c' b' : Nat, i = .int .i64 k ∧ x = .int .u32 c' ∧ y = .int .u8 b' ∧ k ≤ 8 ∧ c' < 4294967296 ∧ b' < 256 ∧ Box (b' < 2 ^ (8 - k) ∧ sti (8 - k) (c' ^^^ b') = sti 8 (c ^^^ b))) (fun _ _ i => 8 - (intOf i).toNat)
  case atStart => exact ⟨0, c, b, rfl, rfl, rfl, by omega, hc, hb, ⟨by omega, rfl⟩⟩
  case round =>
    obtain ⟨k, c', b', rfl, rfl, rfl, hk, hc', hb', hB⟩ := hrel
    by_cases hlt : k < 8
    · have hcs : c' ^^^ b' % 2 < 4294967296 := xor_lt32 hc' (by omega)
      obtain ⟨y, hy⟩ : ∃ y, y = b' % 2 := ⟨_, rfl⟩
      have r1 : (b' : Int) % 2 = (y : Int) := by omega
      have hy2 : y < 2 := by omega
      rw [← hy] at hcs
      have HY := Box.mk hy; clear hy
      have hst := st_lt hcs
      go_wp2_with (go_at_call 94; refine (refStep_any c' y hc' hy2 _).mono ?_; rintro e w' ⟨rfl, rfl⟩)
      go_round
      case rel =>
        refine ⟨k + 1, st (c' ^^^ y), b' / 2, by go_num, rfl, by go_num, by omega, hst, by omega, ⟨?_, ?_⟩⟩
        · have h := hB.out.1
          have e : 2 ^ (8 - k) = 2 * 2 ^ (8 - (k + 1)) := by rw [show 8 - k = (8 - (k + 1)) + 1 by omega, Nat.pow_succ]; omega
          omega
        · rw [← hB.out.2, show 8 - k = (8 - (k + 1)) + 1 by omega, sti_byte, HY.out]
      case measure => simp [intOf]; omega
    · obtain rfl : k = 8 := by omega
      have h1 := hB.out.1
      have hb0 : b' = 0 := by simpa using h1
      subst hb0
      have h2 : c' = sti 8 (c ^^^ b) := by
        have h := hB.out.2
        rw [Nat.xor_zero] at h
        exact h
      have H2 := Box.mk h2
      clear h1 h2 hB
      go_wp2
      go_ret
      exact ⟨by rw [← H2.out]; rfl, rfl⟩

theorem awake_text : bs [49, 50, 51, 52, 53, 54, 55, 56, 57] = ⟨#[49, 50, 51, 52, 53, 54, 55, 56, 57]⟩ := by decide

/-- a string's bytes -/
def sb (s : ByteArray) : List Nat := bnl s s.size
theorem sb_lt (s : ByteArray) : ∀ d ∈ sb s, d < 2 ^ 8 := bnl_lt s s.size
theorem sb_length (s : ByteArray) : (sb s).length = s.size := bnl_length s s.size

set_option maxHeartbeats 400000 in
theorem refMore_any (sum : Nat) (s : ByteArray) (hsum : sum < 4294967296) (hs : s.size ≤ 9223372036854775807) (w : World) :
    Calls Tryd.prog 70 #[.int .u32 sum, .string s] w fun e w' => e = .returned (.int .u32 (more sum (sb s) : Nat)) ∧ Below w.heap.size w w' := by
  obtain ⟨cap, W, hcv, hcell, hbW, hlt⟩ := str_bytes w s
  have HCL := Box.mk hcell; clear hcell
  have r0 : (4294967295 : Int) - (sum : Int) = ((4294967295 - sum : Nat) : Int) := by omega
  obtain ⟨c, hc⟩ : ∃ c, c = 4294967295 - sum := ⟨_, rfl⟩
  rw [← hc] at r0
  have hc32 : c < 4294967296 := by omega
  have HC := Box.mk hc; clear hc
  go_enter Tryd.func70, Tryd.ntmps70
  go_wp2_with fail
  go_loop [5, 7, 13] (fun x _ i => ∃ k : Nat, k ≤ s.size ∧ i = .int .i64 k ∧ x = .int .u32 (crcF c (bnl s k) : Nat)) (fun _ _ i => s.size - (intOf i).toNat)
  case atStart => exact ⟨0, by omega, rfl, by rw [show bnl s 0 = [] from rfl, crcF_nil]⟩
  case round =>
    obtain ⟨k, hk, rfl, rfl⟩ := hrel
    by_cases hlt2 : k < s.size
    · have hcell := HCL.out k hlt2
      have hle := bn_le s k
      have hr := crcF_lt hc32 (bnl s k) (bnl_lt s k)
      have hst := crcF_snoc c (bnl s k) (bn s k) (bnl_lt s k)
      rw [← bnl_succ] at hst
      have HST := Box.mk hst; clear hst
      generalize crcF c (bnl s k) = r at *
      generalize bn s k = b at *
      go_wp2_with (go_at_call 84; refine (refByte_any r b hr (by omega) _).mono ?_; rintro e w' ⟨rfl, rfl⟩)
      go_round
      case rel => exact ⟨k + 1, by omega, by go_num, by rw [HST.out]⟩
      case measure => simp [intOf]; omega
    · obtain rfl : s.size = k := by omega
      have hr := crcF_lt hc32 (bnl s s.size) (bnl_lt s s.size)
      have hfin : more sum (sb s) = 4294967295 - crcF c (bnl s s.size) := by unfold more sb; rw [HC.out]
      have HF := Box.mk hfin; clear hfin
      generalize crcF c (bnl s s.size) = r at *
      have r2 : (4294967295 : Int) - (r : Int) = ((4294967295 - r : Nat) : Int) := by omega
      obtain ⟨y, hy⟩ : ∃ y, y = 4294967295 - r := ⟨_, rfl⟩
      rw [← hy] at r2
      have HY := Box.mk hy; clear hy
      go_wp2
      go_ret
      exact ⟨by rw [HF.out, ← HY.out]; rfl, hbW⟩

/-- the table of crc lies in its cells -/
def Halves (w : World) : Prop := ∀ t, t < 16 → w.cell? ⟨0, t, none⟩ = some (.int .u32 ((halvesN.getD t 0 : Nat) : Int))
theorem halves_get : ∀ t, t < 16 → (([0, 274646895, 549293790, 820201905, 1098587580, 1361435347, 1640403810, 1905808397, 2197175160, 2460548119, 2722870694, 2987750089, 3280807620, 3553878443, 3811616794, 4084100981] : List Int).getD t 0) = ((halvesN.getD t 0 : Nat) : Int) := by decide
theorem halves_lt : ∀ t, t < 16 → halvesN.getD t 0 < 4294967296 := by decide
theorem halves_below {w w' : World} (h : Halves w) (hb : Below w.heap.size w w') : Halves w' := fun t ht => by
  have hc := h t ht
  rw [hb.cell (World.block_lt_of_cell? w _ hc)]; exact hc

theorem not32 {a : Nat} (ha : a < 4294967296) : bits BinOp.xor IntKind.u32 IntKind.u32.max (a : Int) = ((4294967295 - a : Nat) : Int) := by
  rw [show IntKind.u32.max = ((4294967295 : Nat) : Int) by decide, xor32 (by omega) ha, compl32 ha, Nat.xor_comm]

/-- four steps, as the code does them -/
theorem four_steps {x : Nat} (hx : x < 4294967296) : ∃ i h y : Nat, i < 16 ∧ h = halvesN.getD i 0 ∧ y = sti 4 x ∧ y < 4294967296 ∧ bits BinOp.and IntKind.u32 (x : Int) 15 = (i : Int) ∧ bits BinOp.xor IntKind.u32 ((x : Int) / 16) (h : Int) = (y : Int) := by
  refine ⟨x % 16, _, _, Nat.mod_lt _ (by decide), rfl, rfl, sti_lt 4 hx, and32_15 hx, ?_⟩
  rw [show ((x : Int) / 16) = ((x / 16 : Nat) : Int) by omega, xor32 (by omega) (halves_lt _ (Nat.mod_lt _ (by decide))), sti4 x]

set_option maxHeartbeats 1000000 in
theorem crcMore_any (sum : Nat) (s : ByteArray) (hsum : sum < 4294967296) (hs : s.size ≤ 9223372036854775807) (w : World) (hH : Halves w) :
    Calls Tryd.prog 38 #[.int .u32 sum, .string s] w fun e w' => e = .returned (.int .u32 (more sum (sb s) : Nat)) ∧ w = w' := by
  have HH := Box.mk hH; clear hH
  have r0 := not32 hsum
  obtain ⟨c, hc⟩ : ∃ c, c = 4294967295 - sum := ⟨_, rfl⟩
  rw [← hc] at r0
  have hc32 : c < 4294967296 := by omega
  have HC := Box.mk hc; clear hc
  go_enter Tryd.func38, Tryd.ntmps38
  go_wp2_with fail
  go_loop [5, 6, 11] (fun x _ i => ∃ k : Nat, k ≤ s.size ∧ i = .int .i64 k ∧ x = .int .u32 (crcF c (bnl s k) : Nat)) (fun _ _ i => s.size - (intOf i).toNat)
  case atStart => exact ⟨0, by omega, rfl, by rw [show bnl s 0 = [] from rfl, crcF_nil]⟩
  case round =>
    obtain ⟨k, hk, rfl, rfl⟩ := hrel
    by_cases hlt2 : k < s.size
    · have hr := crcF_lt hc32 (bnl s k) (bnl_lt s k)
      have hst := crcF_snoc c (bnl s k) (bn s k) (bnl_lt s k)
      rw [← bnl_succ] at hst
      have hle := bn_le s k
      rw [← bn_of hlt2] at hst hle
      have hx := xor_lt32 hr (show (s[k]'hlt2).toNat < 4294967296 by omega)
      have r1 := xor32 hr (show (s[k]'hlt2).toNat < 4294967296 by omega)
      have hxx : ∃ x, x = crcF c (bnl s k) ^^^ (s[k]'hlt2).toNat := ⟨_, rfl⟩
      obtain ⟨x, hxe⟩ := hxx
      rw [← hxe] at r1 hx hst
      obtain ⟨i1, h1, y1, p1, p2, p3, p4, p5, p6⟩ := four_steps hx
      obtain ⟨i2, h2, y2, q1, q2, q3, q4, q5, q6⟩ := four_steps p4
      have hc1 := HH.out i1 p1
      rw [← p2] at hc1
      have hc2 := HH.out i2 q1
      rw [← q2] at hc2
      have hfin : y2 = crcF c (bnl s (k + 1)) := by rw [hst, q3, p3, ← sti_add]
      have HF := Box.mk hfin
      clear hst hfin p2 p3 q2 q3 hxe
      generalize crcF c (bnl s k) = r at *
      go_wp2
      go_round
      case rel => exact ⟨k + 1, by omega, by go_num, by rw [← HF.out]⟩
      case measure => simp [intOf]; omega
    · obtain rfl : s.size = k := by omega
      have hr := crcF_lt hc32 (bnl s s.size) (bnl_lt s s.size)
      have hfin : more sum (sb s) = 4294967295 - crcF c (bnl s s.size) := by unfold more sb; rw [HC.out]
      have HF := Box.mk hfin; clear hfin
      generalize crcF c (bnl s s.size) = r at *
      have r2 := not32 hr
      obtain ⟨y, hy⟩ : ∃ y, y = 4294967295 - r := ⟨_, rfl⟩
      rw [← hy] at r2
      have HY := Box.mk hy; clear hy
      go_wp2
      go_ret
      exact ⟨by rw [HF.out, ← HY.out]; rfl, rfl⟩

/-- the sum of bytes -/
def ofN (l : List Nat) : Nat := more 0 l

theorem crcOf_any (s : ByteArray) (hs : s.size ≤ 9223372036854775807) (w : World) (hH : Halves w) :
    Calls Tryd.prog 30 #[.string s] w fun e w' => e = .returned (.int .u32 (ofN (sb s) : Nat)) ∧ w = w' := by
  have HH := Box.mk hH; clear hH
  go_enter Tryd.func30, Tryd.ntmps30
  go_wp2_with (go_at_call 38; refine (crcMore_any 0 s (by omega) hs _ HH.out).mono ?_; rintro e w' ⟨rfl, rfl⟩)
  go_ret
  exact ⟨rfl, rfl⟩

theorem text_sb : sb ⟨#[49, 50, 51, 52, 53, 54, 55, 56, 57]⟩ = [49, 50, 51, 52, 53, 54, 55, 56, 57] := by decide
theorem text_of : ofN [49, 50, 51, 52, 53, 54, 55, 56, 57] = 3808858755 := by decide +kernel
theorem none_of : ofN (sb ⟨#[]⟩) = 0 := by decide +kernel

end Go.Proofs.YtdhbeeeofaheeaaDoor
