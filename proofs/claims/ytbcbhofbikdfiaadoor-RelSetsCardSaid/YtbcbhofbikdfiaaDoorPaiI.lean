/- Count; With out of bounds; Grow. -/
import Derived.Test.YtbcbhofbikdfiaaDoorPaiH
namespace Go.Proofs.YtbcbhofbikdfiaaDoor
set_option maxRecDepth 100000
open Go.RowKit M

theorem i64_in {a : Int} (h1 : -9223372036854775808 ≤ a) (h2 : a ≤ 9223372036854775807) : IntKind.i64.wrap a = a := IntWalk.i64_in _ (by omega)
theorem sum_bits (v : Nat) : ∀ n, ((List.range n).map fun i => v / 2 ^ i % 2).sum = ((List.range n).filter fun i => v.testBit i).length
  | 0 => rfl
  | n + 1 => by
    rw [List.range_succ, List.map_append, List.sum_append, List.filter_append, List.length_append, sum_bits v n]
    congr 1
    have h : v.testBit n = decide (v / 2 ^ n % 2 = 1) := Nat.testBit_eq_decide_div_mod_eq
    by_cases e : v / 2 ^ n % 2 = 1
    · simp [h, e]
    · have e' : v / 2 ^ n % 2 = 0 := by omega
      simp [h, e']
theorem sum_els {v : Nat} (hv : v < 65536) : (bl 64 v).sum = (R.els v).length := by
  unfold bl
  rw [sum_bits, show List.range 64 = List.range 16 ++ List.range' 16 48 by decide, List.filter_append]
  have : (List.range' 16 48).filter (fun i => v.testBit i) = [] := by
    rw [List.filter_eq_nil_iff]
    intro i hi
    have h1 := (List.mem_range'_1.1 hi).1
    have h2 : 2 ^ 16 ≤ 2 ^ i := Nat.pow_le_pow_right (by decide) h1
    rw [Nat.testBit_lt_two_pow (by omega)]; simp
  rw [this, List.append_nil]
  rfl
def countTo (r : List Nat) (k : Nat) : Nat := ((List.range k).map fun a => (R.els (R.g r a)).length).sum
theorem countTo_succ (r : List Nat) (k : Nat) : countTo r (k + 1) = countTo r k + (R.els (R.g r k)).length := by unfold countTo; rw [List.range_succ, List.map_append, List.sum_append]; simp
theorem countTo_le (r : List Nat) : ∀ k, countTo r k ≤ k * 16
  | 0 => by simp [countTo]
  | k + 1 => by rw [countTo_succ, Nat.succ_mul]; have := countTo_le r k; have := R.els_len (R.g r k); omega
set_option maxRecDepth 100000 in
set_option maxHeartbeats 4000000 in
theorem count16_any (r : List Nat) (hr : R.Wf r) (w : World) :
    Calls Tryd.prog 11 #[.agg (w16 r).toArray] w fun e w' => e = .returned (.int .i64 ((countTo r 16 : Nat) : Int)) ∧ Below w.heap.size w w' := by
  have HR := Box.mk hr
  have IR := Box.mk (infoL hr)
  have RB0 := Box.mk (RB.new w r)
  have BB := Box.mk (aset w (.cells (w16 r).toArray 25))
  clear hr
  go_enter Tryd.func11, Tryd.ntmps11
  go_wp2_with (first
    | ((with_reducible refine at_load 25 (.tmp 1) ?_); refine wpList_load_mid rfl 25 (.tmp 1) (by rfl) w.heap.size 0 (by rfl) (w16 r) _ RB0.out.range undR rfl IR.out ?_))
  generalize (w.alloc (.cells (w16 r).toArray 25)) = W at *
  go_loopw [3, 7] (fun nv iv wr => ∃ k : Nat, k ≤ 16 ∧ iv = .int .i64 (k : Int) ∧ nv = .int .i64 ((countTo r k : Nat) : Int) ∧ Box (Below w.heap.size w wr)) (fun _ iv _ => 16 - (intOf iv).toNat)
  case atStart => exact ⟨0, by omega, rfl, rfl, BB⟩
  case round =>
    clear BB RB0
    obtain ⟨k, hk, rfl, rfl, BB⟩ := hrel
    by_cases hlt : k < 16
    · have ix := fun w => index_rel HR.out w hlt
      have i1 : (0 : Int) ≤ (k : Int) := by omega
      have i2 : (k : Int) < 16 := by omega
      have hs := HR.out.lt k
      have hc := fun w => wordCount_any (R.g r k) (by omega) w
      rw [sum_els hs] at hc
      have HC := Box.mk hc
      have hle := countTo_le r k
      have hl2 := R.els_len (R.g r k)
      have HX := Box.mk (countTo_succ r k)
      clear hc
      generalize R.g r k = v at *
      generalize countTo r k = n at *
      generalize (R.els v).length = d at *
      have hw : IntKind.i64.wrap ((n : Int) + (d : Int)) = ((n + d : Nat) : Int) := by rw [i64_in (by omega) (by omega)]; omega
      go_wp2_with (go_at_call 35; ((with_reducible refine (HC.out _).mono ?_); rintro e w' ⟨rfl, rfl⟩))
      go_roundw
      case rel => exact ⟨k + 1, by omega, by go_num, by rw [HX.out]; go_num, BB⟩
      case measure => simp [intOf]; omega
    · obtain rfl : k = 16 := by omega
      have i5 : ((16 : Int) < 16) = False := by simp
      go_wp2_with fail
      go_ret
      exact ⟨rfl, BB.out⟩

set_option maxRecDepth 100000 in
set_option maxHeartbeats 2000000 in
theorem with_out (r : List Nat) (hr : R.Wf r) (a b : Int) (hab : ¬ ((0 ≤ a ∧ a < 16) ∧ (0 ≤ b ∧ b < 16))) (w : World) :
    Calls Tryd.prog 14 #[.agg (w16 r).toArray, .int .i64 a, .int .i64 b] w fun e w' => e = .returned (.agg (w16 r).toArray) ∧ Below w.heap.size w w' := by
  have HR := Box.mk hr
  have rb0 := Box.mk ((RB.new w r).alloc (.cells (w16 R.zeroM).toArray 25))
  have rb1 := Box.mk (RB.new (w.alloc (.cells (w16 r).toArray 25)) R.zeroM)
  have b1 := Box.mk (bel (aset w (.cells (w16 r).toArray 25)) (aset _ (.cells (w16 R.zeroM).toArray 25)))
  rw [sum_zero] at rb0 rb1 b1
  rw [World.size_alloc] at rb1
  clear hr
  have C1 := Box.mk (fun w => isElement_any a w)
  have C2 := Box.mk (fun w => isElement_any b w)
  by_cases ha : 0 ≤ a ∧ a < 16
  · have hb : ¬ (0 ≤ b ∧ b < 16) := fun h => hab ⟨ha, h⟩
    rw [decide_eq_true ha] at C1
    rw [decide_eq_false hb] at C2
    clear hab ha hb
    go_enter Tryd.func14, Tryd.ntmps14
    go_wp2_with (first
      | (go_at_call 36; ((with_reducible refine (C1.out _).mono ?_); rintro e w' ⟨rfl, rfl⟩))
      | (go_at_call 36; ((with_reducible refine (C2.out _).mono ?_); rintro e w' ⟨rfl, rfl⟩))
      | ((with_reducible refine at_load 25 (.tmp 3) ?_); refine wpList_load_mid rfl 25 (.tmp 3) (by rfl) w.heap.size 0 (by rfl) (w16 r) _ rb0.out.range undR rfl (infoL HR.out) ?_)
      | ((with_reducible refine at_store 25 (.tmp 6) (.tmp 20) ?_); refine wpList_store_mid rfl 25 (.tmp 6) (.tmp 20) (by rfl) (w.heap.size + 1) 0 (w16 r).toArray (by rfl) (by rfl) (thereL rb1.out HR.out) (infoA HR.out) (all_oneCell_toArray (w16_one r)) ?_))
    refine bodyPost_ret (v := .agg (w16 r).toArray) (results_one rfl (by rfl) (loadR (rb1.out.all R.zero_wf HR.out) HR.out)) rfl ⟨rfl, bsets (by omega) _ _ _ b1.out⟩
  · rw [decide_eq_false ha] at C1
    clear hab ha
    go_enter Tryd.func14, Tryd.ntmps14
    go_wp2_with (first
      | (go_at_call 36; ((with_reducible refine (C1.out _).mono ?_); rintro e w' ⟨rfl, rfl⟩))
      | ((with_reducible refine at_load 25 (.tmp 3) ?_); refine wpList_load_mid rfl 25 (.tmp 3) (by rfl) w.heap.size 0 (by rfl) (w16 r) _ rb0.out.range undR rfl (infoL HR.out) ?_)
      | ((with_reducible refine at_store 25 (.tmp 6) (.tmp 20) ?_); refine wpList_store_mid rfl 25 (.tmp 6) (.tmp 20) (by rfl) (w.heap.size + 1) 0 (w16 r).toArray (by rfl) (by rfl) (thereL rb1.out HR.out) (infoA HR.out) (all_oneCell_toArray (w16_one r)) ?_))
    refine bodyPost_ret (v := .agg (w16 r).toArray) (results_one rfl (by rfl) (loadR (rb1.out.all R.zero_wf HR.out) HR.out)) rfl ⟨rfl, bsets (by omega) _ _ _ b1.out⟩

/-- one pair more, whatever the numbers -/
def withI (r : List Nat) (a b : Int) : List Nat := if (0 ≤ a ∧ a < 16) ∧ (0 ≤ b ∧ b < 16) then R.withM r a.toNat b.toNat else r
theorem withI_any (r : List Nat) (hr : R.Wf r) (a b : Int) (w : World) :
    Calls Tryd.prog 14 #[.agg (w16 r).toArray, .int .i64 a, .int .i64 b] w fun e w' => e = .returned (.agg (w16 (withI r a b)).toArray) ∧ Below w.heap.size w w' := by
  by_cases hab : (0 ≤ a ∧ a < 16) ∧ (0 ≤ b ∧ b < 16)
  · have e : withI r a b = R.withM r a.toNat b.toNat := if_pos hab
    rw [e]
    obtain ⟨⟨h1, h2⟩, h3, h4⟩ := hab
    obtain ⟨x, rfl⟩ := Int.eq_ofNat_of_zero_le h1
    obtain ⟨y, rfl⟩ := Int.eq_ofNat_of_zero_le h3
    exact with_any r hr x y (by omega) (by omega) w
  · have e : withI r a b = r := if_neg hab
    rw [e]
    exact with_out r hr a b hab w
end Go.Proofs.YtbcbhofbikdfiaaDoor
