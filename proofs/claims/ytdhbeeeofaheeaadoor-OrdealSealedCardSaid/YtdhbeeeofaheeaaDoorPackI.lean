/- Contracts of ordealref04: numbers and texts. -/
import Derived.Test.YtdhbeeeofaheeaaDoorPackH
import Derived.Deep.RegionWith
import Derived.Deep.RegionHeld3
namespace Go.Proofs.YtdhbeeeofaheeaaDoor
set_option maxRecDepth 100000
open Go.RowKit M

set_option maxRecDepth 100000 in
set_option maxHeartbeats 600000 in
theorem refFixed_any (v n : Nat) (hv : v < 18446744073709551616) (h1 : 1 ≤ n) (h8 : n ≤ 8) (w : World) :
    Calls Tryd.prog 69 #[.int .u64 v, .int .i64 n] w fun e w' => e = .returned (.string (bs (fx n v))) ∧ Below w.heap.size w w' := by
  obtain ⟨l, hl⟩ : ∃ l, l = bytesN n v := ⟨_, rfl⟩
  have hll : l.length = n := by rw [hl, bytesN_length]
  have hlt : ∀ d ∈ l, d < 2 ^ 8 := by rw [hl]; exact bytesN_lt n v
  have cb := refBytes_any v (n : Int) hv w
  rw [show cl8 (n : Int) = n by unfold cl8; rw [if_neg (by omega), if_neg (by omega), Int.toNat_natCast], ← hl] at cb
  obtain ⟨S, hS⟩ : ∃ S, S = bs l := ⟨_, rfl⟩
  have hSs : S.size = n := by rw [hS, bs_size, hll]
  have hbn : ∀ j, j < n → bn S j = l.getD j 0 := fun j hj => by rw [hS]; exact bn_bs l hlt j (by omega)
  have hfin : bs (fx n v) = bs l.reverse := by rw [hl]; rfl
  rw [← hS] at cb
  rw [hfin]
  have CB := Box.mk cb; have HL := Box.mk hll; have HLT := Box.mk hlt; have HBN := Box.mk hbn; have HSS := Box.mk hSs
  clear cb hl hll hlt hS hSs hbn hfin
  go_enter Tryd.func69, Tryd.ntmps69
  go_wp2_with (go_at_call 83; refine CB.out.mono ?_; rintro e w1 ⟨rfl, b1⟩; obtain ⟨cap, W, hcv, hcell, hbW, hltW⟩ := str_bytes w1 S; rw [HSS.out] at hcv hcell; have HCL := Box.mk hcell; have HB := Box.mk (bch b1 hbW); have HLW := Box.mk hltW; clear hcell b1 hbW hltW)
  clear hcv
  obtain ⟨g, hg⟩ : ∃ g, g = w1.heap.size := ⟨_, rfl⟩
  rw [← hg]
  have hc2 := HCL.out
  have hlw := HLW.out
  rw [← hg] at hc2 hlw
  have HC2 := Box.mk hc2; have HLW2 := Box.mk hlw
  clear hc2 hlw HCL HLW hg
  go_loopw [5, 7, 13] (fun x _ i wr => ∃ k : Nat, k ≤ n ∧ i = .int .i64 k ∧ x = .string (bs (l.take k).reverse) ∧ Box (∀ j, j < n → wr.cell? ⟨g, j, none⟩ = some (.int .u8 ((bn S j : Nat) : Int))) ∧ Box (Below w.heap.size w wr)) (fun _ _ i _ => n - (intOf i).toNat)
  case atStart => exact ⟨0, by omega, rfl, rfl, HC2, HB⟩
  case round =>
    obtain ⟨k, hk, rfl, rfl, hc, hb⟩ := hrel
    clear HC2 HB HLW2
    by_cases hlt2 : k < n
    · have hcell := hc.out k hlt2
      rw [HBN.out k hlt2] at hcell
      have hsn : (l.take (k + 1)).reverse = l.getD k 0 :: (l.take k).reverse := by
        rw [List.take_succ_eq_append_getElem (by rw [HL.out]; exact hlt2)]
        simp [List.getD, HL.out, hlt2]
      have hd : l.getD k 0 < 256 := HLT.out _ (getD_mem (by rw [HL.out]; exact hlt2))
      generalize l.getD k 0 = d at *
      have hconv := conv_one wr d
      have s1 : (bs (l.take k).reverse).size ≤ 8 := by rw [bs_size]; simp; omega
      have s2 : (bs [d]).size ≤ 1 := by rw [bs_size]; simp
      have HSN := Box.mk hsn; clear hsn
      go_wp2
      go_roundw
      case rel =>
        refine ⟨k + 1, by omega, by go_num, by rw [bs_append, HSN.out]; rfl, ⟨fun j hj => ?_⟩, ⟨hb.out.alloc hb.out.size _⟩⟩
        have h := hc.out j hj
        rw [World.cell?_alloc_lt _ _ _ (World.block_lt_of_cell? wr _ h)]
        exact h
      case measure => simp [intOf]; omega
    · obtain rfl : n = k := by omega
      have e : l.take n = l := List.take_of_length_le (by rw [HL.out]; omega)
      go_wp2
      go_ret
      exact ⟨by rw [e]; rfl, hb.out⟩

theorem conv_cell (w : World) (g b : Nat) (h : w.cell? ⟨g, 0, none⟩ = some (.int .u8 (b : Int))) : (convert 38 9 (.slice (some ⟨g, 0, none⟩) 1 1)).run Tryd.prog w = .ok (.string (bs [b])) w := by
  refine run_convert_bytes_arg (P := Tryd.prog) _ 38 5 Tryd.underlying38 Tryd.underlying5 g 0 1 1 [(b : Int)] rfl (fun i hi => ?_) 9 Tryd.underlying9
  obtain rfl : i = 0 := by omega
  exact h
theorem field_some {v k : Nat} (hv : v < 18446744073709551616) (h1 : 1 ≤ k) (h7 : k ≤ 7) : (0 < fieldN v (8 * (k : Int)) 64) ↔ k < szN v := by
  have e : fieldN v (8 * (k : Int)) 64 = v / 2 ^ (8 * k) := by
    unfold fieldN
    rw [if_pos (by omega), show cl 64 = 64 by decide, show (8 * (k : Int)).toNat = 8 * k by omega]
    refine Nat.mod_eq_of_lt (Nat.lt_of_le_of_lt (Nat.div_le_self _ _) ?_)
    have h3 : (2 : Nat) ^ 64 = 18446744073709551616 := by decide
    omega
  rw [e]
  rcases (by omega : k = 1 ∨ k = 2 ∨ k = 3 ∨ k = 4 ∨ k = 5 ∨ k = 6 ∨ k = 7) with rfl | rfl | rfl | rfl | rfl | rfl | rfl
  all_goals
    unfold szN
    constructor
    · intro h
      have := Nat.pos_of_ne_zero (fun e => by rw [e] at h; omega : v / _ ≠ 0)
      simp at h
      (repeat' split) <;> omega
    · intro h
      simp
      (repeat' split at h) <;> omega

end Go.Proofs.YtdhbeeeofaheeaaDoor
