/- Contracts of ordealref01: signed fields. -/
import Derived.Test.YtemghjjgmjhcnaaDoorWordI
import Derived.Deep.DeepCutAuto
import Derived.Deep.CutBlock
namespace Go.Proofs.YtemghjjgmjhcnaaDoor
open Go.RowKit M

/-- bits of v up to k, then (up to i) the number t, then bits of v again -/
def sxf (k v t i : Nat) : Nat → Nat := fun j => if k ≤ j ∧ j < i then t else v / 2 ^ j % 2
theorem sxf_start (k v t : Nat) : fl (sxf k v t k) = bl 64 v := by
  rw [fl_bl]; apply fl_congr; intro i _; unfold sxf; rw [if_neg (by omega)]
theorem sxf_step (k v t i : Nat) (hk : k ≤ i) : (fun j => if j = i then t else sxf k v t i j) = sxf k v t (i + 1) := by
  funext j; unfold sxf
  by_cases h : j = i
  · subst h; rw [if_pos rfl, if_pos (by omega)]
  · rw [if_neg h]
    by_cases h2 : k ≤ j ∧ j < i
    · rw [if_pos h2, if_pos (by omega)]
    · rw [if_neg h2, if_neg (by omega)]
theorem sxf_le {k v t i : Nat} (ht : t ≤ 1) (j : Nat) : sxf k v t i j ≤ 1 := by unfold sxf; split <;> omega

/-- up to i the others -/
def cpf (f : Nat → Nat) (i : Nat) : Nat → Nat := fun j => if j < i then 1 - f j else f j
theorem cpf_start (f : Nat → Nat) : cpf f 0 = f := by funext j; simp [cpf]
theorem cpf_step (f : Nat → Nat) (i : Nat) : (fun j => if j = i then 1 - f i else cpf f i j) = cpf f (i + 1) := by
  funext j; unfold cpf
  by_cases h : j = i
  · subst h; rw [if_pos rfl, if_pos (by omega)]
  · rw [if_neg h]
    by_cases h2 : j < i
    · rw [if_pos h2, if_pos (by omega)]
    · rw [if_neg h2, if_neg (by omega)]

theorem val_sx0 {k v : Nat} (hv : v < 18446744073709551616) (_hk : k ≤ 64) : val (fl (sxf k v 0 64)) = v % 2 ^ k := by
  refine val_fl (fun i _ => sxf_le (by omega) i) (Nat.lt_of_le_of_lt (Nat.mod_le _ _) hv) (fun i hi => ?_)
  rw [Nat.testBit_mod_two_pow, ← bit_tb]
  unfold sxf
  by_cases h : i < k
  · rw [if_neg (by omega)]; simp [h]
  · rw [if_pos (by omega)]; simp [h]
theorem val_sx1 {k v : Nat} (_hk : k ≤ 64) : val (fl (cpf (sxf k v 1 64) 64)) = 2 ^ k - (v % 2 ^ k + 1) := by
  have hp := pow_pos' k
  have h64 : 2 ^ k ≤ 2 ^ 64 := Nat.pow_le_pow_right (by decide) (by omega)
  rw [p64] at h64
  refine val_fl (fun i hi => ?_) (by omega) (fun i hi => ?_)
  · unfold cpf; rw [if_pos hi]; omega
  · rw [Nat.testBit_two_pow_sub_succ (Nat.mod_lt _ hp), Nat.testBit_mod_two_pow, ← bit_tb]
    unfold cpf sxf
    rw [if_pos hi]
    by_cases h : i < k
    · rw [if_neg (by omega)]
      rcases (by omega : v / 2 ^ i % 2 = 0 ∨ v / 2 ^ i % 2 = 1) with e | e <;> simp [h, e]
    · rw [if_pos (by omega)]; simp [h]

theorem sgn0 {k v : Nat} (_hk : 1 ≤ k) (h : v / 2 ^ (k - 1) % 2 = 0) : sgn k v = ((v % 2 ^ k : Nat) : Int) := by
  unfold sgn; rw [if_neg (by omega)]
theorem sgn1 {k v : Nat} (h : v / 2 ^ (k - 1) % 2 = 1) : sgn k v = -(((2 ^ k - (v % 2 ^ k + 1) : Nat)) : Int) - 1 := by
  unfold sgn; rw [if_pos h]
  have hp := pow_pos' k
  have := Nat.mod_lt v hp
  omega
theorem low_small {k v : Nat} (h1 : 1 ≤ k) (h2 : k ≤ 64) (h : v / 2 ^ (k - 1) % 2 = 0) : v % 2 ^ k ≤ 9223372036854775807 := by
  obtain ⟨j, rfl⟩ : ∃ j, k = j + 1 := ⟨k - 1, by omega⟩
  simp only [Nat.add_sub_cancel] at h
  have := mod_top v j
  have := Nat.mod_lt v (pow_pos' j)
  have := pow_lt64 (show j < 64 by omega)
  rw [h] at *
  omega
theorem high_small {k v : Nat} (h1 : 1 ≤ k) (h2 : k ≤ 64) (h : v / 2 ^ (k - 1) % 2 = 1) : 2 ^ k - (v % 2 ^ k + 1) ≤ 9223372036854775807 := by
  obtain ⟨j, rfl⟩ : ∃ j, k = j + 1 := ⟨k - 1, by omega⟩
  simp only [Nat.add_sub_cancel] at h
  have := mod_top v j
  have := Nat.mod_lt v (pow_pos' j)
  have := pow_lt64 (show j < 64 by omega)
  have : 2 ^ (j + 1) = 2 * 2 ^ j := by rw [Nat.pow_succ]; omega
  rw [h] at *
  omega

set_option maxRecDepth 100000 in
set_option maxHeartbeats 1000000 in
theorem refSigned_main (v : Nat) (hv : v < 18446744073709551616) (k : Nat) (h1 : 1 ≤ k) (h2 : k ≤ 64) (n : Int) (hc : (n < 1 ∧ k = 1) ∨ (64 < n ∧ k = 64) ∨ n = k) (w : World) :
    Calls Tryd.prog 16 #[.int .u64 v, .int .i64 n] w fun e w' => e = .returned (.int .i64 (sgn k v)) ∧ Below w.heap.size w w' := by
  obtain ⟨t, ht⟩ : ∃ t, t = v / 2 ^ (k - 1) % 2 := ⟨_, rfl⟩
  have HT := Box.mk ht; clear ht
  have HCC := Box.mk hc; clear hc
  go_enter Tryd.func16, Tryd.ntmps16
  go_upto_region 1 with fail
  go_cut [1] (fun s1 wx => s1 = .int .i64 (k : Int) ∧ w = wx)
  case first =>
    go_wp2
    all_goals (go_meet; have hc := HCC.out; exact ⟨congrArg (Value.int .i64) (by omega), rfl⟩)
  case rest =>
    obtain ⟨rfl, rfl⟩ := hcut
    go_upto_block 0 with (first
      | (go_at_call 54; refine (bits_any v hv w).mono ?_; rintro e w1 ⟨g, cap, rfl, hcap, hg, hown, hb⟩; rw [fl_bl] at hown; have hcell := own_at hown (k - 1) (by omega); rw [← HT.out] at hcell; have HO := Box.mk hown; clear hown))
    go_cut [7] (fun _ wr => wr.ownsRow w.heap.size 3 1 (.slice (some ⟨g, 0, none⟩) 64 cap) 64 (ints (fl (sxf k v t 64))) ∧ Below w.heap.size w wr)
    case first =>
      have hown := HO.out
      rw [← fl_bl, ← sxf_start k v t] at hown
      go_wp2_with fail
      go_loopw [7] (fun i wr => ∃ j : Nat, k ≤ j ∧ j ≤ 64 ∧ i = .int .i64 j ∧ wr.ownsRow w.heap.size 3 1 (.slice (some ⟨g, 0, none⟩) 64 cap) 64 (ints (fl (sxf k v t j))) ∧ Below w.heap.size w wr) (fun i _ => 64 - (intOf i).toNat)
      case atStart => exact ⟨k, by omega, h2, rfl, hown, hb⟩
      case round =>
        clear hown hcell
        obtain ⟨j, hkj, hj, rfl, hown, hb⟩ := hrel
        by_cases hlt : j < 64
        · have hcell := own_at hown j hlt
          have hfz := hown.frozenAt j
          have hst := own_store hown j t
          rw [fl_set, sxf_step _ _ _ _ hkj] at hst
          have HST := Box.mk hst; clear hst hown
          go_wp2
          go_roundw
          case rel => exact ⟨j + 1, by omega, by omega, by go_num, HST.out, hb.setCell hg _⟩
          case measure => simp [intOf]; omega
        · obtain rfl : j = 64 := by omega
          go_wp2_with fail
          go_meet
          exact ⟨hown, hb⟩
    case rest =>
      clear hcell
      obtain ⟨hown, hb⟩ := hcut
      have ht := HT.out
      rcases (by omega : t = 0 ∨ t = 1) with et | et
      · rw [et] at ht hown
        have hs := sgn0 h1 ht.symm
        have hsm := low_small h1 h2 ht.symm
        have htb : ((t : Int) == 0) = true := by simp; omega
        clear et
        have hval := val_sx0 hv h2
        obtain ⟨r, hr⟩ : ∃ r, r = v % 2 ^ k := ⟨_, rfl⟩
        rw [← hr] at hs hsm hval
        clear hr
        have HOW := Box.mk hown; clear hown
        have HS := Box.mk hs; clear hs ht
        have HV := Box.mk hval; clear hval
        go_wp2_with (go_at_call 53; refine (value_own _ (fun i _ => sxf_le (by omega) i) HOW.out).mono ?_; rw [HV.out]; rintro e w2 ⟨rfl, rfl⟩)
        go_ret
        refine ⟨?_, hb⟩
        rw [HS.out]; rfl
      · rw [et] at ht hown
        have hs := sgn1 ht.symm
        have hsm := high_small h1 h2 ht.symm
        have htb : ((t : Int) == 0) = false := by simp; omega
        clear et
        have hval := val_sx1 (v := v) h2
        obtain ⟨r, hr⟩ : ∃ r, r = 2 ^ k - (v % 2 ^ k + 1) := ⟨_, rfl⟩
        rw [← hr] at hs hsm hval
        clear hr
        have HS := Box.mk hs; clear hs ht
        have HV := Box.mk hval; clear hval
        rw [← cpf_start (sxf k v 1 64)] at hown
        have HOW := Box.mk hown; clear hown
        go_wp2_with fail
        go_loopw [8, 35] (fun _ i wq => ∃ j : Nat, j ≤ 64 ∧ i = .int .i64 j ∧ wq.ownsRow w.heap.size 3 1 (.slice (some ⟨g, 0, none⟩) 64 cap) 64 (ints (fl (cpf (sxf k v 1 64) j))) ∧ Below w.heap.size w wq) (fun _ i _ => 64 - (intOf i).toNat)
        case atStart => exact ⟨0, by omega, rfl, HOW.out, hb⟩
        case round =>
          obtain ⟨j, hj, rfl, hown, hb⟩ := hrel
          by_cases hlt : j < 64
          · have hcell := own_at hown j hlt
            have ex : cpf (sxf k v 1 64) j j = sxf k v 1 64 j := by unfold cpf; rw [if_neg (by omega)]
            rw [ex] at hcell
            have hle : sxf k v 1 64 j ≤ 1 := sxf_le (by omega) j
            have hfz := hown.frozenAt j
            have hst := own_store hown j (1 - sxf k v 1 64 j)
            rw [fl_set, cpf_step] at hst
            have e1 : (((1 - sxf k v 1 64 j : Nat)) : Int) = 1 - ((sxf k v 1 64 j : Nat) : Int) := by omega
            rw [e1] at hst
            clear ex e1
            obtain ⟨y, hy⟩ : ∃ y, y = sxf k v 1 64 j := ⟨_, rfl⟩
            rw [← hy] at hcell hle hst
            clear hy
            have HST := Box.mk hst; clear hst hown
            go_wp2
            go_roundw
            case rel => exact ⟨j + 1, by omega, by go_num, HST.out, hb.setCell hg _⟩
            case measure => simp [intOf]; omega
          · obtain rfl : j = 64 := by omega
            have HOW2 := Box.mk hown; clear hown
            go_wp2_with (go_at_call 53; refine (value_own _ (fun i hi => by unfold cpf; rw [if_pos hi]; omega) HOW2.out).mono ?_; rw [HV.out]; rintro e w2 ⟨rfl, rfl⟩)
            go_ret
            refine ⟨?_, hb⟩
            rw [HS.out]; rfl

theorem refSigned_any (v : Nat) (n : Int) (hv : v < 18446744073709551616) (w : World) :
    Calls Tryd.prog 16 #[.int .u64 v, .int .i64 n] w fun e w' => e = .returned (.int .i64 (sgn (cl1 n) v)) ∧ Below w.heap.size w w' := by
  rcases cl1_cases n with ⟨h, e⟩ | ⟨h, e⟩ | ⟨k, h, hk1, hk, e⟩
  · rw [e]; exact refSigned_main v hv 1 (by omega) (by omega) n (.inl ⟨h, rfl⟩) w
  · rw [e]; exact refSigned_main v hv 64 (by omega) (by omega) n (.inr (.inl ⟨h, rfl⟩)) w
  · rw [e]; exact refSigned_main v hv k hk1 hk n (.inr (.inr h)) w
end Go.Proofs.YtemghjjgmjhcnaaDoor
