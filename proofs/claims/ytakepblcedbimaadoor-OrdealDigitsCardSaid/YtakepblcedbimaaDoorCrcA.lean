/- Contracts of crc. -/
import Derived.Test.YtakepblcedbimaaDoorCrcM
import Derived.Test.YtakepblcedbimaaDoorWordN
import Derived.Deep.QuietTactic
import Derived.BigQuiet
namespace Go.Proofs.YtakepblcedbimaaDoor
open Go.RowKit M

theorem xor32 {a b : Nat} (ha : a < 4294967296) (hb : b < 4294967296) : bits BinOp.xor IntKind.u32 (a : Int) (b : Int) = ((a ^^^ b : Nat) : Int) := u32_xor_nat a b ha hb
theorem and32_1 {a : Nat} (ha : a < 4294967296) : bits BinOp.and IntKind.u32 (a : Int) 1 = ((a % 2 : Nat) : Int) := by
  have h := u32_and_nat a 1 ha (by omega)
  rw [nat_mask1] at h; exact h
theorem and32_15 {a : Nat} (ha : a < 4294967296) : bits BinOp.and IntKind.u32 (a : Int) 15 = ((a % 16 : Nat) : Int) := by
  have h := u32_and_nat a 15 ha (by omega)
  rw [nat_mask4] at h; exact h

theorem sti_byte (c b : Nat) : ∀ k, sti (k + 1) (c ^^^ b) = sti k (st (c ^^^ b % 2) ^^^ b / 2) := by
  intro k
  show sti k (st (c ^^^ b)) = _
  congr 1
  have e : b = b % 2 ^^^ 2 * (b / 2) := by
    have h := xor_join 1 (b % 2) (b / 2) (by omega)
    rw [Nat.pow_one] at h
    rw [← h]; omega
  conv => lhs; rw [e]
  rw [← Nat.xor_assoc, st_xor, st_two]

theorem awake_text : bs [49, 50, 51, 52, 53, 54, 55, 56, 57] = ⟨#[49, 50, 51, 52, 53, 54, 55, 56, 57]⟩ := by decide

/-- a string's bytes -/
def sb (s : ByteArray) : List Nat := bnl s s.size
theorem sb_lt (s : ByteArray) : ∀ d ∈ sb s, d < 2 ^ 8 := bnl_lt s s.size
theorem sb_length (s : ByteArray) : (sb s).length = s.size := bnl_length s s.size

/-- the table of crc lies in its cells -/
def Halves (w : World) : Prop := ∀ t, t < 16 → w.cell? ⟨0, t, none⟩ = some (.int .u32 ((halvesN.getD t 0 : Nat) : Int))
theorem halves_get : ∀ t, t < 16 → (([0, 274646895, 549293790, 820201905, 1098587580, 1361435347, 1640403810, 1905808397, 2197175160, 2460548119, 2722870694, 2987750089, 3280807620, 3553878443, 3811616794, 4084100981] : List Int).getD t 0) = ((halvesN.getD t 0 : Nat) : Int) := by decide
theorem halves_lt : ∀ t, t < 16 → halvesN.getD t 0 < 4294967296 := by decide
theorem halves_below {w w' : World} (h : Halves w) (hb : Below w.heap.size w w') : Halves w' := fun t ht => by
  have hc := h t ht
  rw [hb.cell (World.block_lt_of_cell? w _ hc)]; exact hc

theorem not32 {a : Nat} (ha : a < 4294967296) : bits BinOp.xor IntKind.u32 IntKind.u32.max (a : Int) = ((4294967295 - a : Nat) : Int) := by
  rw [show IntKind.u32.max = ((4294967295 : Nat) : Int) by decide, xor32 (by omega) ha, compl32 ha, Nat.xor_comm]

/-- four steps, as the code does them -/
theorem four_steps {x : Nat} (hx : x < 4294967296) : ∃ i h y : Nat, i < 16 ∧ h = halvesN.getD i 0 ∧ y = sti 4 x ∧ y < 4294967296 ∧ bits BinOp.and IntKind.u32 (x : Int) 15 = (i : Int) ∧ bits BinOp.xor IntKind.u32 ((x : Int) / 16) (h : Int) = (y : Int) := by
  refine ⟨x % 16, _, _, Nat.mod_lt _ (by decide), rfl, rfl, sti_lt 4 hx, and32_15 hx, ?_⟩
  rw [show ((x : Int) / 16) = ((x / 16 : Nat) : Int) by omega, xor32 (by omega) (halves_lt _ (Nat.mod_lt _ (by decide))), sti4 x]

set_option maxHeartbeats 1000000 in
theorem crcMore_any (sum : Nat) (s : ByteArray) (hsum : sum < 4294967296) (hs : s.size ≤ 9223372036854775807) (w : World) (hH : Halves w) :
    Calls Tryd.prog 34 #[.int .u32 sum, .string s] w fun e w' => e = .returned (.int .u32 (more sum (sb s) : Nat)) ∧ w = w' := by
  have HH := Box.mk hH; clear hH
  have r0 := not32 hsum
  obtain ⟨c, hc⟩ : ∃ c, c = 4294967295 - sum := ⟨_, rfl⟩
  rw [← hc] at r0
  have hc32 : c < 4294967296 := by omega
  have HC := Box.mk hc; clear hc
  go_enter Tryd.func34, Tryd.ntmps34
  go_wp2_with fail
  go_loop [5, 6, 11] (fun x _ i => ∃ k : Nat, k ≤ s.size ∧ i = .int .i64 k ∧ x = .int .u32 (crcF c (bnl s k) : Nat)) (fun _ _ i => s.size - (intOf i).toNat)
  case atStart => exact ⟨0, by omega, rfl, by rw [show bnl s 0 = [] from rfl, crcF_nil]⟩
  case round =>
    obtain ⟨k, hk, rfl, rfl⟩ := hrel
    by_cases hlt2 : k < s.size
    · have hr := crcF_lt hc32 (bnl s k) (bnl_lt s k)
      have hst := crcF_snoc c (bnl s k) (bn s k) (bnl_lt s k)
      rw [← bnl_succ] at hst
      have hle := bn_le s k
      rw [← bn_of hlt2] at hst hle
      have hx := xor_lt32 hr (show (s[k]'hlt2).toNat < 4294967296 by omega)
      have r1 := xor32 hr (show (s[k]'hlt2).toNat < 4294967296 by omega)
      have hxx : ∃ x, x = crcF c (bnl s k) ^^^ (s[k]'hlt2).toNat := ⟨_, rfl⟩
      obtain ⟨x, hxe⟩ := hxx
      rw [← hxe] at r1 hx hst
      obtain ⟨i1, h1, y1, p1, p2, p3, p4, p5, p6⟩ := four_steps hx
      obtain ⟨i2, h2, y2, q1, q2, q3, q4, q5, q6⟩ := four_steps p4
      have hc1 := HH.out i1 p1
      rw [← p2] at hc1
      have hc2 := HH.out i2 q1
      rw [← q2] at hc2
      have hfin : y2 = crcF c (bnl s (k + 1)) := by rw [hst, q3, p3, ← sti_add]
      have HF := Box.mk hfin
      clear hst hfin p2 p3 q2 q3 hxe
      generalize crcF c (bnl s k) = r at *
      go_wp2
      go_round
      case rel => exact ⟨k + 1, by omega, by go_num, by rw [← HF.out]⟩
      case measure => simp [intOf]; omega
    · obtain rfl : s.size = k := by omega
      have hr := crcF_lt hc32 (bnl s s.size) (bnl_lt s s.size)
      have hfin : more sum (sb s) = 4294967295 - crcF c (bnl s s.size) := by unfold more sb; rw [HC.out]
      have HF := Box.mk hfin; clear hfin
      generalize crcF c (bnl s s.size) = r at *
      have r2 := not32 hr
      obtain ⟨y, hy⟩ : ∃ y, y = 4294967295 - r := ⟨_, rfl⟩
      rw [← hy] at r2
      have HY := Box.mk hy; clear hy
      go_wp2
      go_ret
      exact ⟨by rw [HF.out, ← HY.out]; rfl, rfl⟩

/-- the sum of bytes -/
def ofN (l : List Nat) : Nat := more 0 l

theorem crcOf_any (s : ByteArray) (hs : s.size ≤ 9223372036854775807) (w : World) (hH : Halves w) :
    Calls Tryd.prog 26 #[.string s] w fun e w' => e = .returned (.int .u32 (ofN (sb s) : Nat)) ∧ w = w' := by
  have HH := Box.mk hH; clear hH
  go_enter Tryd.func26, Tryd.ntmps26
  go_wp2_with (go_at_call 34; refine (crcMore_any 0 s (by omega) hs _ HH.out).mono ?_; rintro e w' ⟨rfl, rfl⟩)
  go_ret
  exact ⟨rfl, rfl⟩

theorem text_sb : sb ⟨#[49, 50, 51, 52, 53, 54, 55, 56, 57]⟩ = [49, 50, 51, 52, 53, 54, 55, 56, 57] := by decide
theorem text_of : ofN [49, 50, 51, 52, 53, 54, 55, 56, 57] = 3808858755 := by decide +kernel
theorem none_of : ofN (sb ⟨#[]⟩) = 0 := by decide +kernel

end Go.Proofs.YtakepblcedbimaaDoor
