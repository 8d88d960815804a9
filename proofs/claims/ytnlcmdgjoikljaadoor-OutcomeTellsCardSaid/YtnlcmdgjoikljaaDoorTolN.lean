/- The reference's number as text. -/
import Derived.Test.YtnlcmdgjoikljaaDoorOutF
namespace Go.Proofs.YtnlcmdgjoikljaaDoor
set_option maxRecDepth 100000
open Go.RowKit

/-- the digits of a number that has some, none for 0 -/
def preD (v : Nat) : List UInt8 := if v = 0 then [] else Lib.decDigits v
theorem dec_step (v : Nat) : Lib.decDigits v = preD (v / 10) ++ [UInt8.ofNat (48 + v % 10)] := by
  rw [Lib.decDigits]
  by_cases h : v < 10
  · rw [dif_pos h]
    have h1 : v / 10 = 0 := by omega
    have h2 : v % 10 = v := by omega
    rw [h1, h2]; rfl
  · rw [dif_neg h]
    have h1 : v / 10 ≠ 0 := by omega
    unfold preD
    rw [if_neg h1]
theorem digit_small (v : Nat) : ((UInt8.ofNat (48 + v % 10)).toNat : Int) = 48 + (v : Int) % 10 := by
  have : 48 + v % 10 < 256 := by omega
  rw [UInt8.toNat_ofNat_of_lt' (by simpa using this)]
  omega
theorem conv_one (w : World) (c : UInt8) : (convert 109 9 (.slice (some ⟨w.heap.size, 0, none⟩) 1 1)).run Tryd.prog (w.alloc (.cells #[.int .u8 (c.toNat : Int)] 5)) = .ok (.string (st [c])) (w.alloc (.cells #[.int .u8 (c.toNat : Int)] 5)) :=
  run_convert_bytes_back (P := Tryd.prog) (w.alloc (.cells #[.int .u8 (c.toNat : Int)] 5)) 109 9 5 ⟨w.heap.size, 0, none⟩ 1 [c] (by kernel_rfl) (by kernel_rfl) (by kernel_rfl) (fun j hj => by
    have h0 : j = 0 := by simpa using hj
    subst h0
    rw [Lib.add_plain, cOf (heap_alloc_new _ _)]; rfl)
set_option maxHeartbeats 1600000 in
theorem num_any (u : Nat) (h : u < 18446744073709551616) (w : World) :
    Calls Tryd.prog 33 #[.int .u64 (u : Int)] w fun e w' => e = .returned (.string (st (Lib.decDigits u))) ∧ Below w.heap.size w w' := by
  go_enter Tryd.func33, Tryd.ntmps33
  go_wp2_with fail
  go_loopw [0, 3, 4] (fun v s i wr => ∃ (k V : Nat) (S : List UInt8), i = .int .i64 (k : Int) ∧ k ≤ 20 ∧ v = .int .u64 (V : Int) ∧ V ≤ u ∧ V < 10 ^ (20 - k) ∧ s = .string (st S) ∧ S.length = k ∧ Bx ((k = 0 ∧ V = u) ∨ (0 < k ∧ Lib.decDigits u = preD V ++ S)) ∧ Bx (Below w.heap.size w wr)) (fun _ _ i _ => 20 - (intOf i).toNat)
  case atStart => exact ⟨0, u, [], rfl, by omega, rfl, by omega, by have : (10 : Nat) ^ (20 - 0) = 100000000000000000000 := rfl; omega, rfl, rfl, ⟨.inl ⟨rfl, rfl⟩⟩, ⟨Below.refl _ _⟩⟩
  case round =>
    obtain ⟨k, V, S, rfl, hk, rfl, hVu, hV, rfl, hS, hinv, hb⟩ := hrel
    have hV2 : V < 10 ^ 20 := Nat.lt_of_lt_of_le hV (Nat.pow_le_pow_right (by decide) (by omega))
    have hVb : V < 18446744073709551616 := by omega
    have hVi : (V : Int) < 18446744073709551616 := by omega
    by_cases hk20 : k < 20
    · have hpow : 10 ^ (20 - k) = 10 ^ (20 - (k + 1)) * 10 := by rw [← Nat.pow_succ]; congr 1; omega
      have hV3 : V / 10 < 10 ^ (20 - (k + 1)) := by omega
      have HV3 := Bx.mk hV3
      clear hV hV2 hpow hV3
      by_cases hgo : k = 0 ∨ 0 < V
      · have hinv2 : Lib.decDigits u = preD (V / 10) ++ (UInt8.ofNat (48 + V % 10) :: S) := by
          rcases hinv.out with ⟨hk0, rfl⟩ | ⟨_, he⟩
          · have hS0 : S = [] := List.eq_nil_of_length_eq_zero (by omega)
            rw [hS0, ← dec_step]
          · by_cases hV0 : V = 0
            · omega
            · rw [he]
              unfold preD
              rw [if_neg hV0, dec_step V]
              unfold preD
              simp
        have HI := Bx.mk hinv2
        have hc := digit_small V
        obtain ⟨c, hcd⟩ : ∃ c, c = UInt8.ofNat (48 + V % 10) := ⟨_, rfl⟩
        rw [← hcd] at hc HI
        have hcv := fun W => conv_one W c
        have hst : st [c] ++ st S = st (c :: S) := st_app [c] S
        have HST := Bx.mk hst
        have z1 : (st [c]).size = 1 := rfl
        have z2 : (st S).size ≤ 20 := by rw [st_size]; omega
        clear hinv hcd hinv2 hst
        have HQ : Bx ((V : Int) / 10 = ((V / 10 : Nat) : Int)) := ⟨by omega⟩
        rw [hc] at hcv
        have h10 : (0 : Int) ≤ (V : Int) % 10 := by omega
        have h11 : (V : Int) % 10 < 10 := by omega
        have h20 : (k : Int) < 20 := by omega
        clear hc
        rcases Nat.eq_zero_or_pos k with hk0 | hk0
        · subst hk0
          have hb1 : Bx (Below w.heap.size w (wr.alloc (.cells #[.int .u8 (48 + (V : Int) % 10)] 5))) := ⟨hb.out.alloc hb.out.size _⟩
          clear hgo
          go_wp2_with fail
          go_roundw
          case rel => exact ⟨1, V / 10, c :: S, rfl, by omega, by rw [HQ.out], by omega, HV3.out, by rw [HST.out], by simp [hS], ⟨.inr ⟨by omega, HI.out⟩⟩, hb1⟩
          case measure => simp [intOf] <;> omega
        · have hV0 : 0 < V := by omega
          have hke : ((k : Int) == 0) = false := by rw [beq_eq_false_iff_ne]; omega
          have hb1 : Bx (Below w.heap.size w (wr.alloc (.cells #[.int .u8 (48 + (V : Int) % 10)] 5))) := ⟨hb.out.alloc hb.out.size _⟩
          clear hgo
          go_wp2_with fail
          go_roundw
          case rel => exact ⟨k + 1, V / 10, c :: S, by go_num, by omega, by rw [HQ.out], by omega, HV3.out, by rw [HST.out], by simp [hS], ⟨.inr ⟨by omega, HI.out⟩⟩, hb1⟩
          case measure => simp [intOf] <;> omega
      · have hV0 : V = 0 := by omega
        have hk0 : 0 < k := by omega
        subst hV0
        have hS2 : Lib.decDigits u = S := by
          rcases hinv.out with ⟨hk1, _⟩ | ⟨_, he⟩
          · omega
          · rw [he]; rfl
        have HS2 := Bx.mk hS2
        have hke : ((k : Int) == 0) = false := by rw [beq_eq_false_iff_ne]; omega
        clear hS2 hinv hgo
        go_wp2_with fail
        go_ret
        exact ⟨by rw [HS2.out]; rfl, hb.out⟩
    · obtain rfl : k = 20 := by omega
      have hV0 : V = 0 := by simpa using hV
      subst hV0
      have hS2 : Lib.decDigits u = S := by
        rcases hinv.out with ⟨hk1, _⟩ | ⟨_, he⟩
        · omega
        · rw [he]; rfl
      have HS2 := Bx.mk hS2
      clear hS2 hinv
      go_wp2_with fail
      go_ret
      exact ⟨by rw [HS2.out]; rfl, hb.out⟩
end Go.Proofs.YtnlcmdgjoikljaaDoor
