/- Contracts of ordealref06: number, Write, Read. -/
import Derived.Test.YtdffpbfllekcgaaGreatDoorFrameF
import Derived.Test.YtdffpbfllekcgaaGreatDoorHn
namespace Go.Proofs.YtdffpbfllekcgaaGreatDoor
set_option maxRecDepth 100000
open Go.RowKit M

theorem un_snoc (l : List Nat) (d : Nat) : un (l ++ [d]) = d + 256 * un l := by
  unfold un
  rw [List.reverse_append]
  rfl

theorem refNum6_any (s : ByteArray) (hs : s.size ≤ 8) (w : World) :
    Calls Tryz.prog 73 #[.string s] w fun e w' => e = .returned (.int .u64 ((un (sb s) : Nat) : Int)) ∧ w = w' := by
  have hbl := sb_lt s
  have hl := sb_length s
  obtain ⟨L, hL⟩ : ∃ L, L = sb s := ⟨_, rfl⟩
  rw [← hL] at hbl hl ⊢
  have hget : ∀ k, k < s.size → L.take (k + 1) = L.take k ++ [bn s k] := fun k hk => by
    rw [List.take_succ_eq_append_getElem (by omega)]
    have : L[k]'(by omega) = bn s k := by subst hL; simp [sb, bnl]
    rw [this]
  have hun : ∀ k, un (L.take k) < 256 ^ k := fun k => by
    have h := un_lt (l := L.take k) (fun d hd => hbl d (List.mem_of_mem_take hd))
    refine Nat.lt_of_lt_of_le h ?_
    rw [show (256 : Nat) = 2 ^ 8 by decide, ← Nat.pow_mul]
    exact Nat.pow_le_pow_right (by decide) (by rw [List.length_take]; omega)
  have HG := Box.mk hget; have HU := Box.mk hun; have HL := Box.mk hl
  clear hget hun hbl hL hl
  go_enter Tryz.func73, Tryz.ntmps73
  go_wp2_with fail
  go_loop [3, 4] (fun x i => ∃ k : Nat, k ≤ s.size ∧ i = .int .i64 (k : Int) ∧ x = .int .u64 ((un (L.take k) : Nat) : Int)) (fun _ i => s.size - (intOf i).toNat)
  case atStart => exact ⟨0, by omega, rfl, by simp [un_nil]⟩
  case round =>
    obtain ⟨k, hk, rfl, rfl⟩ := hrel
    by_cases hlt : k < s.size
    · have hu := HU.out k
      have hu7 : un (L.take k) < 256 ^ 7 := Nat.lt_of_lt_of_le hu (Nat.pow_le_pow_right (by decide) (by omega))
      have hu7 : un (L.take k) < 72057594037927936 := hu7
      have hsn := un_snoc (L.take k) (bn s k)
      rw [← HG.out k hlt] at hsn
      have hle := bn_le s k
      have HSN := Box.mk hsn
      rw [← bn_of hlt] at hle
      clear hsn hu
      generalize un (L.take k) = x at *
      go_wp2
      go_round
      case rel => exact ⟨k + 1, by omega, by go_num, by rw [HSN.out, ← bn_of hlt]; go_num⟩
      case measure => simp [intOf]; omega
    · obtain rfl : k = s.size := by omega
      have e : L.take s.size = L := List.take_of_length_le (by rw [HL.out]; omega)
      rw [e]
      go_wp2
      go_ret
      exact ⟨rfl, rfl⟩

set_option maxHeartbeats 400000 in
theorem refWrite6_any (q : Nat) (s : ByteArray) (hq : q < 18446744073709551616) (hs : s.size ≤ 4194304) (w : World) :
    Calls Tryz.prog 74 #[.int .u64 q, .string s] w fun e w' => e = .returned (.string (bs (frN q (sb s)))) ∧ Below w.heap.size w w' := by
  have hsl := sb_length s
  have c1 : ∀ w, Calls Tryz.prog 106 #[.int .u64 (s.size : Int), .int .i64 4] w fun e w' => e = .returned (.string (bs (fx 4 s.size))) ∧ Below w.heap.size w w' := fun w => refFixed_any s.size 4 (by omega) (by omega) (by omega) w
  have c2 : ∀ w, Calls Tryz.prog 106 #[.int .u64 (q : Int), .int .i64 8] w fun e w' => e = .returned (.string (bs (fx 8 q))) ∧ Below w.heap.size w w' := fun w => refFixed_any q 8 hq (by omega) (by omega) w
  have hhd : bs (fx 4 s.size) ++ bs (fx 8 q) = bs (hdN q s.size) := by rw [bs_append]; rfl
  have hZl := smN_lt q (sb s)
  have c3 : ∀ w, Calls Tryz.prog 107 #[.int .u32 0, .string (bs (fx 4 s.size) ++ bs (fx 8 q) ++ s)] w fun e w' => e = .returned (.int .u32 ((smN q (sb s) : Nat) : Int)) ∧ Below w.heap.size w w' := fun w => by
    have h := refMore_any 0 (bs (fx 4 s.size) ++ bs (fx 8 q) ++ s) (by omega) (by simp [bs_size, fx_length]; omega) w
    rw [hhd, sb_append, sb_bs _ (hdN_lt _ _)] at h
    rw [hhd]
    unfold smN
    rw [hsl]
    exact h
  have c4 : ∀ w, Calls Tryz.prog 106 #[.int .u64 ((smN q (sb s) : Nat) : Int), .int .i64 4] w fun e w' => e = .returned (.string (bs (fx 4 (smN q (sb s))))) ∧ Below w.heap.size w w' := fun w => refFixed_any _ 4 (by omega) (by omega) (by omega) w
  have hfin : (⟨#[79, 74]⟩ : ByteArray) ++ (bs (fx 4 s.size) ++ bs (fx 8 q)) ++ bs (fx 4 (smN q (sb s))) ++ s = bs (frN q (sb s)) := by
    have e0 : (⟨#[79, 74]⟩ : ByteArray) = bs [79, 74] := by decide
    have es : s = bs (sb s) := (bs_list s).symm
    rw [e0, hhd, bs_append, bs_append]
    conv => lhs; arg 2; rw [es]
    rw [bs_append]
    congr 1
    simp [frN, hsl, List.append_assoc]
  have s1 : (bs (fx 4 s.size)).size = 4 := by rw [bs_size, fx_length]
  have s2 : (bs (fx 8 q)).size = 8 := by rw [bs_size, fx_length]
  have s3 : (bs (fx 4 (smN q (sb s)))).size = 4 := by rw [bs_size, fx_length]
  generalize smN q (sb s) = Z at *
  generalize bs (frN q (sb s)) = R at *
  generalize bs (fx 4 Z) = S3 at *
  generalize bs (fx 4 s.size) = S1 at *
  generalize bs (fx 8 q) = S2 at *
  have n1 : IntKind.u64.wrap (s.size : Int) = (s.size : Int) := u64small (by omega)
  have n2 : IntKind.u64.wrap (Z : Int) = (Z : Int) := u64small (by omega)
  have d1 : decide (4194304 < (s.size : Int)) = false := by simp; omega
  have C1 := Box.mk c1; have C2 := Box.mk c2; have C3 := Box.mk c3; have C4 := Box.mk c4; have HF := Box.mk hfin
  clear c1 c2 c3 c4 hfin hhd hsl
  go_enter Tryz.func74, Tryz.ntmps74
  go_wp2_with (first
    | (go_at_call 106; ((with_reducible refine (C1.out _).mono ?_); rintro e w1 ⟨rfl, b1⟩; have B1 := Box.mk b1; clear b1))
    | (go_at_call 106; ((with_reducible refine (C2.out _).mono ?_); rintro e w2 ⟨rfl, b2⟩; have B2 := Box.mk (bch B1.out b2); clear b2))
    | (go_at_call 107; ((with_reducible refine (C3.out _).mono ?_); rintro e w3 ⟨rfl, b3⟩; have B3 := Box.mk (bch B2.out b3); clear b3))
    | (go_at_call 106; ((with_reducible refine (C4.out _).mono ?_); rintro e w4 ⟨rfl, b4⟩; have B4 := Box.mk (bch B3.out b4); clear b4)))
  go_ret
  exact ⟨by rw [← HF.out]; rfl, B4.out⟩
end Go.Proofs.YtdffpbfllekcgaaGreatDoor
