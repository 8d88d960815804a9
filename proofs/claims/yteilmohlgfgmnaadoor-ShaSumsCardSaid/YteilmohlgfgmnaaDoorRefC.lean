/- The reference of layer 3: Root, primes. -/
import Derived.Test.YteilmohlgfgmnaaDoorRefB
namespace Go.Proofs.YteilmohlgfgmnaaDoor
set_option maxRecDepth 100000
open Go.RowKit

/-- the bit that is tried next, r are left -/
def bitV : Nat → Nat
  | 0 => 0
  | r + 1 => 2 ^ r
theorem bitV_half (k : Nat) : bitV (k + 1) / 2 = bitV k := by
  cases k with
  | zero => rfl
  | succ j => show 2 ^ (j + 1) / 2 = 2 ^ j; rw [Nat.pow_succ]; omega
theorem powB {s i : Nat} (hs : s < 68719476736) (hi : i ≤ 3) : s ^ i < 4294967296 ^ 8 := by
  have h1 : s ^ i ≤ 68719476736 ^ i := Nat.pow_le_pow_left (by omega) i
  have h2 : (68719476736 : Nat) ^ i ≤ 68719476736 ^ 3 := Nat.pow_le_pow_right (by decide) hi
  have h3 : (68719476736 : Nat) ^ 3 < 4294967296 ^ 8 := by decide +kernel
  omega
theorem cellsThere (w : World) (Z : Array Value) (T : TypeId) : (w.alloc (.cells Z T)).there w.heap.size 0 Z.size := fun j hj => by
  have hh := heap_alloc_new w (.cells Z T)
  exact ⟨by rw [cellR hh, Nat.zero_add]; simp [hj], frozR hh _⟩
theorem bigC_size (l : List Nat) : (bigC l).size = l.length := by simp [bigC]
set_option maxHeartbeats 6400000 in
theorem root_any (p d : Nat) (hp : p < 4294967296) (hd2 : 2 ≤ d) (hd3 : d ≤ 3) (w : World) :
    Calls Tryd.prog 23 #[.int .u64 (p : Int), .int .i64 (d : Int)] w fun e w' => e = .returned (.int .u32 ((M.rootM p d : Nat) : Int)) ∧ Below w.heap.size w w' := by
  have hu := Tryd.underlying89
  go_enter Tryd.func23, Tryd.ntmps23
  go_wp2_with fail
  go_loopw [5, 6] (fun xv bv wr => ∃ (r X : Nat), xv = .int .u64 (X : Int) ∧ bv = .int .u64 ((bitV r : Nat) : Int) ∧ r ≤ 36 ∧ Bx (X + 2 ^ r ≤ 68719476736) ∧ Bx (M.rootGo p d 36 0 = M.rootGo p d r X) ∧ Bx (Below w.heap.size w wr)) (fun _ bv _ => (intOf bv).toNat)
  case atStart => exact ⟨36, 0, rfl, rfl, by omega, ⟨by decide⟩, ⟨rfl⟩, ⟨Below.refl _ _⟩⟩
  case round =>
    obtain ⟨r, X, rfl, rfl, hr, hX, hgo, hb⟩ := hrel
    obtain ⟨wo, rfl⟩ : ∃ wo : World, wo = wr := ⟨_, rfl⟩
    cases r with
    | zero =>
      have hX1 : X < 68719476736 := by have := hX.out; simp at this; omega
      have e0 : ((bitV 0 : Nat) : Int) = 0 := rfl
      rw [e0]
      have hm : (X : Int) % 4294967296 = ((X % 4294967296 : Nat) : Int) := by omega
      obtain ⟨m, hmm⟩ : ∃ m, m = X % 4294967296 := ⟨_, rfl⟩
      rw [← hmm] at hm
      have hml : m < 4294967296 := by omega
      have HR : Bx (M.rootM p d = m) := ⟨by unfold M.rootM; rw [hgo.out, hmm]; rfl⟩
      clear hmm
      go_wp2_with fail
      go_ret
      exact ⟨by rw [HR.out]; rfl, hb.out⟩
    | succ k =>
      obtain ⟨b, hbk⟩ : ∃ b, b = bitV (k + 1) := ⟨_, rfl⟩
      have hbp : 0 < b := by rw [hbk]; exact Nat.pow_pos (by decide)
      obtain ⟨s, hs⟩ : ∃ s, s = X + b := ⟨_, rfl⟩
      have hsum : X + b + b ≤ 68719476736 := by
        have h1 := hX.out
        have h2 : 2 ^ (k + 1) = b + b := by rw [hbk]; show 2 ^ (k + 1) = 2 ^ k + 2 ^ k; rw [Nat.pow_succ]; omega
        omega
      have hsl : s < 68719476736 := by omega
      have hh : b / 2 = bitV k := by rw [hbk]; exact bitV_half k
      have hstep : M.rootGo p d 36 0 = M.rootGo p d k (if M.overM (s ^ d) p d = true then X else s) := by rw [hgo.out, hs, hbk]; rfl
      have hbnd : b = 2 ^ k := hbk
      rw [← hbk]
      obtain ⟨b2, hb2⟩ : ∃ b2, b2 = bitV k := ⟨_, rfl⟩
      have hdiv : (b : Int) / 2 = (b2 : Int) := by rw [hb2, ← hh]; omega
      have hs2 : (X : Int) + (b : Int) = (s : Int) := by rw [hs]; push_cast; rfl
      have HST := Bx.mk hstep; have HBD := Bx.mk hbnd; have HB2 := Bx.mk hb2; have HS := Bx.mk hs; have HSUM := Bx.mk hsum
      have hbl : b ≤ 68719476736 := by omega
      have hXl : X < 68719476736 := by omega
      have hb2l : b2 < b := by rw [hb2, ← hh]; omega
      clear hbk hs hh hstep hbnd hb2 hsum
      have R0 : Bx ((wo.alloc (.cells #[.int .u64 1, .int .u64 0, .int .u64 0, .int .u64 0, .int .u64 0, .int .u64 0, .int .u64 0, .int .u64 0] 89)).rangeAt wo.heap.size 0 (bigC [1, 0, 0, 0, 0, 0, 0, 0]).toList) := ⟨bigR (heap_alloc_new _ _)⟩
      have T0 : Bx ((wo.alloc (.cells #[.int .u64 1, .int .u64 0, .int .u64 0, .int .u64 0, .int .u64 0, .int .u64 0, .int .u64 0, .int .u64 0] 89)).there wo.heap.size 0 8) := ⟨cellsThere _ _ _⟩
      go_wp2_with fail
      go_loopw [8] (fun t wr => ∃ (i : Nat) (l : List Nat), t = .int .i64 (i : Int) ∧ i ≤ d ∧ l.length = 8 ∧ (∀ z ∈ l, z < 4294967296) ∧ Bx (M.valB l = s ^ i) ∧ Bx (Below w.heap.size w wr) ∧ Bx (wr.rangeAt wo.heap.size 0 (bigC l).toList) ∧ Bx (wr.there wo.heap.size 0 8) ∧ w.heap.size ≤ wo.heap.size) (fun t _ => d - (intOf t).toNat)
      case atStart => exact ⟨0, [1, 0, 0, 0, 0, 0, 0, 0], rfl, by omega, rfl, by decide, ⟨by rw [Nat.pow_zero]; decide⟩, ⟨hb.out.alloc hb.out.size _⟩, R0, T0, hb.out.size⟩
      case round =>
        obtain ⟨i, l, rfl, hid, hl8, hls, hV, hbw, hR, hT, hwo⟩ := hrel
        obtain ⟨wi, rfl⟩ : ∃ wi : World, wi = wr := ⟨_, rfl⟩
        have I1 : Bx ((Tryd.prog.info? 89).map (·.size) = some (bigC l).toList.length) := ⟨by rw [info_big]; simp [bigC, hl8]⟩
        have I2 : ∀ o : List Nat, o.length = 8 → (Tryd.prog.info? 89).map (·.size) = some (bigC o).size := fun o ho => by rw [info_big]; simp [bigC, ho]
        by_cases hi : i < d
        · have hii : (i : Int) < (d : Int) := by omega
          go_wp2_with (first
            | ((with_reducible refine ldR 89 (.tmp 7) ?_); refine wpList_load_mid rfl 89 (.tmp 7) (by rfl) wo.heap.size 0 (by rfl) (bigC l).toList _ hR.out hu rfl I1.out ?_)
            | (go_at_call 40; (refine (times_any l s hl8 hls hsl _).mono ?_); rintro e w1 ⟨⟨o, rfl, ho8, hos, hov⟩, hb1⟩)
            | ((with_reducible refine stR 89 (.tmp 7) (.tmp 23) ?_); refine wpList_store_mid rfl 89 (.tmp 7) (.tmp 23) (by rfl) wo.heap.size 0 (bigC o) (by rfl) (by rfl) (by rw [bigC_size, ho8]; exact there_below hb1 hT.out) (I2 o ho8) (bigC_one o) ?_))
          go_roundw
          case rel =>
            refine ⟨i + 1, o, by go_num, by omega, ho8, hos, ⟨?_⟩, ⟨belowC hwo _ _ _ _ (bel hbw.out hb1)⟩, ⟨World.rangeAt_setCells_same _ _ _ _ ?_⟩, ⟨World.there_setCells (there_below hb1 hT.out) _ _ _⟩, hwo⟩
            · rw [hov, hV.out]
              have e9 := powB hsl (i := i + 1) (by omega)
              rw [show s ^ (i + 1) = s ^ i * s from Nat.pow_succ _ _] at e9
              rw [Nat.mod_eq_of_lt e9]; rfl
            · have e8 : (bigC o).toList.length = 8 := by simp [bigC, ho8]
              rw [e8]; exact there_below hb1 hT.out
          case measure => simp [intOf] <;> omega
        · obtain rfl : i = d := by omega
          by_cases hov : M.overM (s ^ i) p i = true
          · have HOV := Bx.mk hov
            have HG : Bx (M.rootGo p i 36 0 = M.rootGo p i k X) := ⟨by rw [HST.out, if_pos hov]⟩
            clear hov
            go_wp2_with (first
              | ((with_reducible refine ldR 89 (.tmp 7) ?_); refine wpList_load_mid rfl 89 (.tmp 7) (by rfl) wo.heap.size 0 (by rfl) (bigC l).toList _ hR.out hu rfl I1.out ?_)
              | (go_at_call 41; (refine (over_any l p i hl8 hls hp (by omega) _).mono ?_); rintro e w1 ⟨he, hb1⟩; rw [hV.out, HOV.out] at he; subst he))
            go_roundw
            case rel => exact ⟨k, X, rfl, by rw [HB2.out], by omega, ⟨by have := HBD.out; have := HSUM.out; omega⟩, HG, ⟨bel hbw.out hb1⟩⟩
            case measure => simp [intOf] <;> omega
          · have HOV : Bx (M.overM (s ^ i) p i = false) := ⟨by simpa using hov⟩
            have HG : Bx (M.rootGo p i 36 0 = M.rootGo p i k s) := ⟨by rw [HST.out, if_neg hov]⟩
            clear hov
            go_wp2_with (first
              | ((with_reducible refine ldR 89 (.tmp 7) ?_); refine wpList_load_mid rfl 89 (.tmp 7) (by rfl) wo.heap.size 0 (by rfl) (bigC l).toList _ hR.out hu rfl I1.out ?_)
              | (go_at_call 41; (refine (over_any l p i hl8 hls hp (by omega) _).mono ?_); rintro e w1 ⟨he, hb1⟩; rw [hV.out, HOV.out] at he; subst he))
            go_roundw
            case rel => exact ⟨k, s, by first | rfl | rw [hs2], by rw [HB2.out], by omega, ⟨by have := HBD.out; have := HSUM.out; have := HS.out; omega⟩, HG, ⟨bel hbw.out hb1⟩⟩
            case measure => simp [intOf] <;> omega
end Go.Proofs.YteilmohlgfgmnaaDoor
