/- Contracts of word: counting bits, the lowest bit. -/
import Derived.Test.YtemghjjgmjhcnaaDoorWordC
import Derived.Test.YtemghjjgmjhcnaaDoorCount
import Derived.Lib.LaidTab
namespace Go.Proofs.YtemghjjgmjhcnaaDoor
open Go.RowKit M

/-- the table of math/bits lies in its cells -/
def Tab64 (w : World) : Prop := ∀ t, t < 64 → w.cell? ⟨1, t, none⟩ = some (.int .u8 ((deBruijn.getD t 0 : Nat) : Int))

theorem and_int {a b : Nat} (ha : a < 18446744073709551616) (hb : b < 18446744073709551616) {x : Int} {y : Int} (hx : x = a) (hy : y = b) : bits BinOp.and IntKind.u64 x y = ((a &&& b : Nat) : Int) := by
  rw [hx, hy]; exact u64_and_nat _ _ ha hb

theorem and127 {a : Nat} (ha : a < 9223372036854775808) : bits BinOp.and IntKind.i64 (a : Int) 127 = ((a % 128 : Nat) : Int) := by
  show IntKind.i64.wrap ((BitVec.ofInt 64 (a : Int) &&& BitVec.ofInt 64 127).toNat : Int) = _
  rw [BitVec.toNat_and, ofInt_u64 a (by omega), show (BitVec.ofInt 64 127).toNat = 127 by decide, nat_mask7, IntKind.wrap_i64]
  omega

set_option maxHeartbeats 400000 in
theorem ones_any (v : Nat) (hv : v < 18446744073709551616) (w : World) :
    Calls Tryd.prog 58 #[.int .u64 v] w fun e w' => e = .returned (.int .i64 (((bl 64 v).sum : Nat) : Int)) ∧ w = w' := by
  obtain ⟨p1, q1, p2, q2, x3, e1, e2, e3, e4, e5, b1, b2, b3, b4, b5, hfin, hle⟩ := ones_math v hv
  have r1 : bits BinOp.and IntKind.u64 ((v : Int) / 2) 6148914691236517205 = (p1 : Int) := by rw [e1]; exact and_int (b := 6148914691236517205) (by omega) (by omega) (by omega) rfl
  have r2 : bits BinOp.and IntKind.u64 (v : Int) 6148914691236517205 = (q1 : Int) := by rw [e2]; exact and_int (b := 6148914691236517205) (by omega) (by omega) (by omega) rfl
  have r3 : bits BinOp.and IntKind.u64 (((p1 : Int) + (q1 : Int)) / 4) 3689348814741910323 = (p2 : Int) := by rw [e3]; exact and_int (b := 3689348814741910323) (by omega) (by omega) (by omega) rfl
  have r4 : bits BinOp.and IntKind.u64 ((p1 : Int) + (q1 : Int)) 3689348814741910323 = (q2 : Int) := by rw [e4]; exact and_int (b := 3689348814741910323) (by omega) (by omega) (by omega) rfl
  have r5 : bits BinOp.and IntKind.u64 (((p2 : Int) + (q2 : Int)) / 16 + ((p2 : Int) + (q2 : Int))) 1085102592571150095 = (x3 : Int) := by rw [e5]; exact and_int (b := 1085102592571150095) (by omega) (by omega) (by omega) rfl
  have r6 : bits BinOp.and IntKind.i64 ((x3 : Int) + (x3 : Int) / 256 + ((x3 : Int) + (x3 : Int) / 256) / 65536 + ((x3 : Int) + (x3 : Int) / 256 + ((x3 : Int) + (x3 : Int) / 256) / 65536) / 4294967296) 127 = (((bl 64 v).sum : Nat) : Int) := by
    rw [← hfin]
    refine Eq.trans ?_ (and127 (a := x3 + x3 / 256 + (x3 + x3 / 256) / 65536 + (x3 + x3 / 256 + (x3 + x3 / 256) / 65536) / 4294967296) ?_)
    · congr 1
    · omega
  generalize (bl 64 v).sum = S at *
  clear e1 e2 e3 e4 e5 hfin
  go_enter Tryd.func58, Tryd.ntmps58
  go_wp2
  go_ret
  exact ⟨rfl, rfl⟩

theorem wordCount_any (v : Nat) (hv : v < 18446744073709551616) (w : World) :
    Calls Tryd.prog 31 #[.int .u64 v] w fun e w' => e = .returned (.int .i64 (((bl 64 v).sum : Nat) : Int)) ∧ w = w' := by
  go_enter Tryd.func31, Tryd.ntmps31
  go_wp2_with (go_at_call 58; refine (ones_any v hv _).mono ?_; rintro e w' ⟨rfl, rfl⟩)
  go_ret
  exact ⟨rfl, rfl⟩

set_option maxHeartbeats 400000 in
theorem zeros_any (v : Nat) (hv : v < 18446744073709551616) (w : World) (hT : v ≠ 0 → Tab64 w) :
    Calls Tryd.prog 59 #[.int .u64 v] w fun e w' => e = .returned (.int .i64 ((ctz v : Nat) : Int)) ∧ w = w' := by
  rcases Nat.eq_zero_or_pos v with rfl | h0
  · rw [ctz_zero]
    clear hT
    go_enter Tryd.func59, Tryd.ntmps59
    go_wp2
    go_ret
    exact ⟨rfl, rfl⟩
  · obtain ⟨p, m, j, e1, e2, e3, b1, b2, b3, hd, b4⟩ := zeros_math v hv h0
    have hcell := hT (by omega) j b3
    rw [hd] at hcell
    clear hT hd
    obtain ⟨nv, hnv⟩ : ∃ nv, nv = 18446744073709551616 - v := ⟨_, rfl⟩
    have r1 : IntKind.u64.wrap (-(v : Int)) = (nv : Int) := by rw [IntKind.wrap_u64]; omega
    have r2 : bits BinOp.and IntKind.u64 (v : Int) (nv : Int) = (p : Int) := by rw [e1, ← hnv]; exact u64_and_nat _ _ hv (by omega)
    have r3 : IntKind.u64.wrap ((p : Int) * 285870213051353865) = (m : Int) := by rw [e2, ← u64w]; congr 1
    have r4 : (m : Int) / 288230376151711744 = (j : Int) := by omega
    have hz : ((v : Int) == 0) = false := by simp; omega
    generalize ctz v = t at *
    clear e1 e2 e3 hnv
    go_enter Tryd.func59, Tryd.ntmps59
    go_wp2
    go_ret
    exact ⟨rfl, rfl⟩

theorem wordFirst_any (v : Nat) (hv : v < 18446744073709551616) (w : World) (hT : v ≠ 0 → Tab64 w) :
    Calls Tryd.prog 33 #[.int .u64 v] w fun e w' => e = .returned (.int .i64 ((ctz v : Nat) : Int)) ∧ w = w' := by
  have HT := Box.mk hT; clear hT
  go_enter Tryd.func33, Tryd.ntmps33
  go_wp2_with (go_at_call 59; refine (zeros_any v hv _ HT.out).mono ?_; rintro e w' ⟨rfl, rfl⟩)
  go_ret
  exact ⟨rfl, rfl⟩

theorem sum_take_succ (l : List Nat) (k : Nat) (h : k < l.length) : (l.take (k + 1)).sum = (l.take k).sum + l.getD k 0 := by
  have e : l.getD k 0 = l[k] := by simp [List.getD, h]
  rw [List.take_succ_eq_append_getElem h, List.sum_append, e]; simp

theorem sum_take_le (l : List Nat) (h : ∀ b ∈ l, b ≤ 1) (k : Nat) : (l.take k).sum ≤ k := by
  induction k generalizing l with
  | zero => simp
  | succ k ih =>
    cases l with
    | nil => simp
    | cons b l =>
      have h1 := h b (by simp)
      have h2 := ih l (fun c hc => h c (by simp [hc]))
      simp; omega

set_option maxHeartbeats 400000 in
theorem refCount_any (v : Nat) (hv : v < 18446744073709551616) (w : World) :
    Calls Tryd.prog 32 #[.int .u64 v] w fun e w' => e = .returned (.int .i64 (((bl 64 v).sum : Nat) : Int)) ∧ Below w.heap.size w w' := by
  go_enter Tryd.func32, Tryd.ntmps32
  go_wp2_with fail
  refine (bits_any v hv w).mono ?_
  rintro e w1 ⟨g, cap, rfl, hcap, hg, hown, hb⟩
  have hc := own_cells hown 0
  simp only [List.drop_zero, Nat.zero_add] at hc
  have HC := Box.mk hc; clear hc
  have HO := Box.mk hown; clear hown
  go_wp2_with fail
  go_loop [3, 9] (fun n i => ∃ k : Nat, k ≤ 64 ∧ i = .int .i64 k ∧ n = .int .i64 ((((bl 64 v).take k).sum : Nat) : Int)) (fun _ i => 64 - (intOf i).toNat)
  case atStart => exact ⟨0, by omega, rfl, by simp⟩
  case round =>
    obtain ⟨k, hk, rfl, rfl⟩ := hrel
    by_cases hlt : k < 64
    · have hcell := HC.out k (by omega)
      have hs := sum_take_succ (bl 64 v) k (by rw [bl_length]; exact hlt)
      have hle := sum_take_le _ (bl_le 64 v) k
      have hb1 : (bl 64 v).getD k 0 ≤ 1 := by rw [bl_getD _ _ _ hlt]; omega
      have HS := Box.mk hs; clear hs
      generalize (bl 64 v).getD k 0 = b at *
      generalize hx : ((bl 64 v).take k).sum = x at *
      have HX := Box.mk hx; clear hx
      go_wp2
      go_round
      case rel => exact ⟨k + 1, by omega, by go_num, by rw [HS.out]; go_num⟩
      case measure => simp [intOf]; omega
    · obtain rfl : k = 64 := by omega
      have e : (bl 64 v).take 64 = bl 64 v := List.take_of_length_le (by rw [bl_length]; omega)
      have E := Box.mk e; clear e
      go_wp2
      go_ret
      exact ⟨by rw [E.out]; rfl, hb⟩

theorem ctz_eq {v k : Nat} (hk : k < 64) (h1 : (bl 64 v).getD k 0 = 1) (h2 : ∀ i, i < k → (bl 64 v).getD i 0 ≠ 1) : ctz v = k := findIdx_of (by rw [bl_length]; exact hk) h1 h2
def NoOne (v k : Nat) : Prop := ∀ i, i < k → (bl 64 v).getD i 0 ≠ 1
theorem ctz_none {v : Nat} (h2 : ∀ i, i < 64 → (bl 64 v).getD i 0 ≠ 1) : ctz v = 64 := by
  unfold ctz
  rw [List.findIdx_eq_length_of_false]
  · exact bl_length 64 v
  · intro x hx
    obtain ⟨i, hi, rfl⟩ := List.getElem_of_mem hx
    rw [bl_length] at hi
    have := h2 i hi
    simp [List.getD, bl_length, hi] at this
    simpa using this

set_option maxHeartbeats 400000 in
theorem refFirst_any (v : Nat) (hv : v < 18446744073709551616) (w : World) :
    Calls Tryd.prog 34 #[.int .u64 v] w fun e w' => e = .returned (.int .i64 ((ctz v : Nat) : Int)) ∧ Below w.heap.size w w' := by
  go_enter Tryd.func34, Tryd.ntmps34
  go_wp2_with fail
  refine (bits_any v hv w).mono ?_
  rintro e w1 ⟨g, cap, rfl, hcap, hg, hown, hb⟩
  have hc := own_cells hown 0
  simp only [List.drop_zero, Nat.zero_add] at hc
  have HC := Box.mk hc; clear hc
  have HO := Box.mk hown; clear hown
  go_wp2_with fail
  go_loop [8] (fun i => ∃ k : Nat, k ≤ 64 ∧ i = .int .i64 k ∧ NoOne v k) (fun i => 64 - (intOf i).toNat)
  case atStart => exact ⟨0, by omega, rfl, fun i hi => by omega⟩
  case round =>
    obtain ⟨k, hk, rfl, hno⟩ := hrel
    by_cases hlt : k < 64
    · have hcell := HC.out k (by omega)
      have hb1 : (bl 64 v).getD k 0 ≤ 1 := by rw [bl_getD _ _ _ hlt]; omega
      by_cases h1 : (bl 64 v).getD k 0 = 1
      · have e := ctz_eq hlt h1 hno
        have E := Box.mk e
        rw [h1] at hcell
        clear e hno h1 hb1
        go_wp2
        go_ret
        exact ⟨by rw [E.out]; rfl, hb⟩
      · have h0 : (bl 64 v).getD k 0 = 0 := by omega
        rw [h0] at hcell
        have HN := Box.mk h1; clear h1 h0 hb1
        go_wp2
        go_round
        case rel =>
          refine ⟨k + 1, by omega, by go_num, fun i hi => ?_⟩
          by_cases e : i = k
          · subst e; exact HN.out
          · exact hno i (by omega)
        case measure => simp [intOf]; omega
    · obtain rfl : k = 64 := by omega
      have e := ctz_none hno
      have E := Box.mk e; clear e
      go_wp2
      go_ret
      exact ⟨by rw [E.out]; rfl, hb⟩
end Go.Proofs.YtemghjjgmjhcnaaDoor
