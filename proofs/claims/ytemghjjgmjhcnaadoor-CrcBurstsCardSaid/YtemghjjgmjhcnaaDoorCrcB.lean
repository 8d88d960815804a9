/- Contracts of crc: products of registers, zero bytes, sums of two texts. -/
import Derived.Test.YtemghjjgmjhcnaaDoorCrcA
import Derived.Deep.LoopGhost
namespace Go.Proofs.YtemghjjgmjhcnaaDoor
open Go.RowKit M

theorem dbl_math (a i : Nat) : a * 2 ^ i % 4294967296 * 2 % 4294967296 = a * 2 ^ (i + 1) % 4294967296 := by
  rw [Nat.pow_succ, ← Nat.mul_assoc, Nat.mod_mul_mod]
theorem top_math {a i : Nat} (hi : i < 32) : a * 2 ^ i % 4294967296 / 2147483648 = (a.testBit (31 - i)).toNat := by
  have h := Nat.testBit_mod_two_pow (a * 2 ^ i) 32 31
  rw [Nat.mul_comm a, Nat.testBit_two_pow_mul, show (2 : Nat) ^ 32 = 4294967296 by decide, Nat.mul_comm _ a] at h
  have hlt : a * 2 ^ i % 4294967296 < 4294967296 := Nat.mod_lt _ (by decide)
  rw [Nat.testBit_eq_decide_div_mod_eq, show (2 : Nat) ^ 31 = 2147483648 by decide] at h
  simp only [show i ≤ 31 by omega, decide_true, Bool.true_and, show (31 : Nat) < 32 by decide] at h
  cases hb : a.testBit (31 - i)
  · rw [hb] at h; simp at h ⊢; omega
  · rw [hb] at h; simp at h ⊢; omega

set_option maxHeartbeats 1000000 in
theorem crcMul_any (a b : Nat) (ha : a < 4294967296) (hb : b < 4294967296) (w : World) :
    Calls Tryd.prog 61 #[.int .u32 a, .int .u32 b] w fun e w' => e = .returned (.int .u32 (mulI a b 32 : Nat)) ∧ w = w' := by
  go_enter Tryd.func61, Tryd.ntmps61
  go_wp2_with fail
  go_loopg [0, 1, 5] 32 (fun g x y z wx => w = wx ∧ ∃ i a' b' s : Nat, i ≤ 32 ∧ g = 32 - i ∧ x = .int .u32 a' ∧ y = .int .u32 b' ∧ z = .int .u32 s ∧ a' < 4294967296 ∧ b' < 4294967296 ∧ s < 4294967296 ∧ Box (a' = a * 2 ^ i % 4294967296 ∧ b' = sti i b ∧ s = mulI a b i))
  case atStart => exact ⟨rfl, 0, a, b, 0, by omega, by omega, rfl, rfl, rfl, ha, hb, by omega, ⟨by rw [Nat.pow_zero, Nat.mul_one, Nat.mod_eq_of_lt ha], rfl, rfl⟩⟩
  case round =>
    obtain ⟨rfl, i, a', b', s, hi, rfl, rfl, rfl, rfl, ha', hb', hs', hB⟩ := hrel
    by_cases h0 : a' = 0
    · have hfin : mulI a b 32 = s := by
        rw [hB.out.2.2, mulI_end a b i hi (by rw [← hB.out.1]; exact h0)]
      have HF := Box.mk hfin; clear hfin
      have hz : ((a' : Int) != 0) = false := by simp; omega
      clear h0 hB
      go_wp2
      go_ret
      exact ⟨by rw [HF.out]; rfl, rfl⟩
    · have hz : ((a' : Int) != 0) = true := by simp; omega
      have hi32 : i < 32 := by
        rcases Nat.lt_or_ge i 32 with h | h
        · exact h
        · exfalso
          apply h0
          rw [hB.out.1, show i = 32 by omega, show (2 : Nat) ^ 32 = 4294967296 by decide, Nat.mul_mod_left]
      have ht := top_math (a := a) hi32
      rw [← hB.out.1] at ht
      have hd := dbl_math a i
      rw [← hB.out.1] at hd
      have r1 : IntKind.u32.wrap ((a' : Int) * 2) = ((a' * 2 % 4294967296 : Nat) : Int) := by rw [IntKind.wrap_u32]; omega
      obtain ⟨a2, ha2⟩ : ∃ a2, a2 = a' * 2 % 4294967296 := ⟨_, rfl⟩
      have ha2l : a2 < 4294967296 := by omega
      rw [← ha2] at r1 hd
      clear ha2
      have hm : mulI a b (i + 1) = s ^^^ (if a.testBit (31 - i) then b' else 0) := by rw [mulI, hB.out.2.1, hB.out.2.2]
      have hst : st b' = sti (i + 1) b := by rw [hB.out.2.1, sti_add i 1]; rfl
      have HS := Box.mk hst; clear hst
      have HD := Box.mk hd; clear hd
      cases hb2 : a.testBit (31 - i)
      · rw [hb2] at ht hm
        have t1 : (((a' : Int) / 2147483648) == 1) = false := by
          simp at ht
          rw [beq_eq_false_iff_ne]; omega
        simp at hm
        have HM := Box.mk hm
        clear ht hm hb2 h0 hB
        go_wp2_with (go_at_call 63; refine (crcStep_any b' hb' _).mono ?_; rintro e w' ⟨rfl, rfl⟩)
        go_roundg (32 - (i + 1))
        case rel => exact ⟨rfl, i + 1, a2, st b', s, by omega, by omega, rfl, rfl, rfl, ha2l, st_lt hb', hs', ⟨HD.out, HS.out, HM.out.symm⟩⟩
        case measure => omega
      · rw [hb2] at ht hm
        have t1 : (((a' : Int) / 2147483648) == 1) = true := by
          simp at ht
          rw [beq_iff_eq]; omega
        simp at hm
        have r2 := xor32 hs' hb'
        rw [← hm] at r2
        have hml : mulI a b (i + 1) < 4294967296 := by rw [hm]; exact xor_lt32 hs' hb'
        generalize hq : mulI a b (i + 1) = q at *
        have HQ := Box.mk hq
        clear ht hm hb2 h0 hB hq
        go_wp2_with (go_at_call 63; refine (crcStep_any b' hb' _).mono ?_; rintro e w' ⟨rfl, rfl⟩)
        go_roundg (32 - (i + 1))
        case rel => exact ⟨rfl, i + 1, a2, st b', q, by omega, by omega, rfl, rfl, rfl, ha2l, st_lt hb', hml, ⟨HD.out, HS.out, HQ.out.symm⟩⟩
        case measure => omega

theorem and64_1 {a : Nat} (ha : a < 9223372036854775808) : bits BinOp.and IntKind.i64 (a : Int) 1 = ((a % 2 : Nat) : Int) := by
  show IntKind.i64.wrap ((BitVec.ofInt 64 (a : Int) &&& BitVec.ofInt 64 1).toNat : Int) = _
  rw [BitVec.toNat_and, ofInt_u64 a (by omega), show (BitVec.ofInt 64 1).toNat = 1 by decide, nat_mask1, IntKind.wrap_i64]
  omega

theorem unit8 : sti 8 2147483648 = 8388608 := by decide

set_option maxHeartbeats 1000000 in
theorem crcPass_pos (v n : Nat) (hv : v < 4294967296) (hn : n < 9223372036854775808) (w : World) :
    Calls Tryd.prog 50 #[.int .u32 v, .int .i64 n] w fun e w' => e = .returned (.int .u32 (sti (8 * n) v : Nat)) ∧ w = w' := by
  obtain ⟨R, hR⟩ : ∃ R, R = sti (8 * n) v := ⟨_, rfl⟩
  rw [← hR]
  have HR := Box.mk hR; clear hR
  go_enter Tryd.func50, Tryd.ntmps50
  go_wp2_with fail
  go_loop [0, 1, 5] (fun x y z => ∃ v' n' f : Nat, x = .int .u32 v' ∧ y = .int .i64 n' ∧ z = .int .u32 f ∧ v' < 4294967296 ∧ n' < 9223372036854775808 ∧ f < 4294967296 ∧ Box (∃ m, f = sti m 2147483648 ∧ sti (m * n') v' = R)) (fun _ y _ => (intOf y).toNat)
  case atStart => exact ⟨v, n, 8388608, rfl, rfl, rfl, hv, hn, by omega, ⟨8, unit8.symm, HR.out.symm⟩⟩
  case round =>
    obtain ⟨v', n', f, rfl, rfl, rfl, hv', hn', hf, hB⟩ := hrel
    rcases Nat.eq_zero_or_pos n' with h0 | h0
    · have hfin : v' = R := by
        obtain ⟨m, _, h2⟩ := hB.out
        rw [h0, Nat.mul_zero] at h2
        exact h2
      have HF := Box.mk hfin
      have hz : (n' : Int) ≤ 0 := by omega
      clear hfin h0 hB
      go_wp2
      go_ret
      exact ⟨by rw [← HF.out]; rfl, rfl⟩
    · have hz : decide (0 < (n' : Int)) = true := by simp; omega
      obtain ⟨m, hf1, hf2⟩ := hB.out
      have HF1 := Box.mk hf1
      have HF2 := Box.mk hf2
      have r1 := and64_1 hn'
      have hsq : mulI f f 32 = sti (m + m) 2147483648 := by
        conv => lhs; rw [hf1]
        rw [mul_unit (sti_lt m (by omega)) m, ← sti_add]
      have hsl : mulI f f 32 < 4294967296 := mulI_lt hf 32
      have HSQ := Box.mk hsq
      clear hf1 hf2 hsq hB
      rcases (by omega : n' % 2 = 0 ∨ n' % 2 = 1) with h2 | h2
      · rw [h2] at r1
        have hh : m * n' = (m + m) * (n' / 2) := by
          rw [← Nat.two_mul, Nat.mul_comm 2 m, Nat.mul_assoc]; congr 1; omega
        have HH := Box.mk hh; clear hh h2
        go_wp2_with (go_at_call 61; refine (crcMul_any f f hf hf _).mono ?_; rintro e w' ⟨rfl, rfl⟩)
        go_round
        case rel => exact ⟨v', n' / 2, mulI f f 32, rfl, by go_num, rfl, hv', by omega, hsl, ⟨m + m, HSQ.out, by rw [← HH.out]; exact HF2.out⟩⟩
        case measure => simp [intOf]; omega
      · rw [h2] at r1
        have hh : m * n' = m + (m + m) * (n' / 2) := by
          have e : n' = 1 + 2 * (n' / 2) := by omega
          conv => lhs; rw [e]
          rw [Nat.mul_add, Nat.mul_one, ← Nat.mul_assoc, Nat.mul_comm m 2, Nat.two_mul]
        have hmv : mulI v' f 32 = sti m v' := by rw [HF1.out, mul_unit hv' m]
        have hml : mulI v' f 32 < 4294967296 := mulI_lt hf 32
        have HMV := Box.mk hmv
        have HH := Box.mk hh
        clear hh h2 hmv
        have c1 := fun w => crcMul_any f f hf hf w
        have c2 := fun w => crcMul_any v' f hv' hf w
        have C1 := Box.mk c1
        have C2 := Box.mk c2
        clear c1 c2
        go_wp2_with (go_at_call 61; first | ((with_reducible refine (C2.out _).mono ?_); rintro e w' ⟨rfl, rfl⟩) | ((with_reducible refine (C1.out _).mono ?_); rintro e w' ⟨rfl, rfl⟩))
        go_round
        case rel => exact ⟨mulI v' f 32, n' / 2, mulI f f 32, rfl, by go_num, rfl, hml, by omega, hsl, ⟨m + m, HSQ.out, by rw [HMV.out, ← sti_add, ← HH.out]; exact HF2.out⟩⟩
        case measure => simp [intOf]; omega

theorem crcPass_any (v : Nat) (n : Int) (hv : v < 4294967296) (hn : n ≤ 9223372036854775807) (w : World) :
    Calls Tryd.prog 50 #[.int .u32 v, .int .i64 n] w fun e w' => e = .returned (.int .u32 (sti (8 * n.toNat) v : Nat)) ∧ w = w' := by
  rcases (by omega : n < 0 ∨ 0 ≤ n) with h | h
  · have e : sti (8 * n.toNat) v = v := by rw [show n.toNat = 0 by omega]; rfl
    rw [e]
    clear e
    go_enter Tryd.func50, Tryd.ntmps50
    go_wp2_with fail
    go_loop [0, 1] (fun x y => x = .int .u32 v ∧ y = .int .i64 n) (fun _ _ => 0)
    case atStart => exact ⟨rfl, rfl⟩
    case round =>
      obtain ⟨rfl, rfl⟩ := hrel
      go_wp2
      go_ret
      exact ⟨rfl, rfl⟩
  · obtain ⟨k, rfl⟩ := Int.eq_ofNat_of_zero_le h
    exact crcPass_pos v k hv (by omega) w

theorem crcJoin_any (a b : Nat) (n : Int) (ha : a < 4294967296) (hb : b < 4294967296) (hn : n ≤ 9223372036854775807) (w : World) :
    Calls Tryd.prog 52 #[.int .u32 a, .int .u32 b, .int .i64 n] w fun e w' => e = .returned (.int .u32 (sti (8 * n.toNat) a ^^^ b : Nat)) ∧ w = w' := by
  have hl := sti_lt (8 * n.toNat) ha
  have r := xor32 hl hb
  obtain ⟨q, hq⟩ : ∃ q, q = sti (8 * n.toNat) a ^^^ b := ⟨_, rfl⟩
  rw [← hq] at r ⊢
  have c := fun w => crcPass_any a n ha hn w
  generalize sti (8 * n.toNat) a = p at *
  have C := Box.mk c
  clear c hq
  go_enter Tryd.func52, Tryd.ntmps52
  go_wp2_with (go_at_call 50; refine (C.out _).mono ?_; rintro e w' ⟨rfl, rfl⟩)
  go_ret
  exact ⟨rfl, rfl⟩

set_option maxHeartbeats 1000000 in
theorem refPass_any (v : Nat) (n : Int) (hv : v < 4294967296) (hn : n ≤ 9223372036854775807) (w : World) :
    Calls Tryd.prog 51 #[.int .u32 v, .int .i64 n] w fun e w' => e = .returned (.int .u32 (sti (8 * n.toNat) v : Nat)) ∧ w = w' := by
  go_enter Tryd.func51, Tryd.ntmps51
  go_wp2_with fail
  go_loop [0, 5] (fun x i => ∃ k v' : Nat, i = .int .i64 k ∧ x = .int .u32 v' ∧ k ≤ n.toNat ∧ v' < 4294967296 ∧ Box (v' = sti (8 * k) v)) (fun _ i => n.toNat - (intOf i).toNat)
  case atStart => exact ⟨0, v, rfl, rfl, by omega, hv, ⟨rfl⟩⟩
  case round =>
    obtain ⟨k, v', rfl, rfl, hk, hv', hB⟩ := hrel
    by_cases hlt : (k : Int) < n
    · have hz : decide ((k : Int) < n) = true := by simpa using hlt
      have c : ∀ w, Calls Tryd.prog 60 #[.int .u32 v', .int .u8 0] w fun e w' => e = .returned (.int .u32 (sti 8 v' : Nat)) ∧ w = w' := fun w => by
        have h := refByte_any v' 0 hv' (by omega) w
        rw [Nat.xor_zero] at h; exact h
      have hst : sti 8 v' = sti (8 * (k + 1)) v := by rw [hB.out, Nat.mul_add, sti_add (8 * k) (8 * 1)]
      have hl := sti_lt 8 hv'
      have HS := Box.mk hst
      clear hst hB
      generalize sti 8 v' = q at *
      have C := Box.mk c
      clear c
      go_wp2_with (go_at_call 60; refine (C.out _).mono ?_; rintro e w' ⟨rfl, rfl⟩)
      go_round
      case rel => exact ⟨k + 1, q, by go_num, rfl, by omega, hl, ⟨HS.out⟩⟩
      case measure => simp [intOf]; omega
    · have hz : decide ((k : Int) < n) = false := by simpa using hlt
      have e : sti (8 * n.toNat) v = v' := by rw [hB.out, show n.toNat = k by omega]
      have E := Box.mk e
      clear e hB
      go_wp2
      go_ret
      exact ⟨by rw [E.out]; rfl, rfl⟩
end Go.Proofs.YtemghjjgmjhcnaaDoor
