/- Contracts of ordealref06: Read. -/
import Derived.Test.YtdffpbfllekcgaaGreatDoorFrameJ
import Derived.Deep.RegionWith
namespace Go.Proofs.YtdffpbfllekcgaaGreatDoor
set_option maxRecDepth 100000
open Go.RowKit M

/-- what the reference's Read answers -/
def frV (T : ByteArray) : Value := if rdX (sb T) = 0 then .agg #[.int .u64 (pQ (sb T) : Nat), .string (bs (pR (sb T))), .int .i64 ((18 + pN (sb T) : Nat) : Int), .int .i64 0] else .agg #[.int .u64 0, .string ⟨#[]⟩, .int .i64 0, .int .i64 (rdX (sb T) : Nat)]

theorem refRead_short (T : ByteArray) (h : T.size < 2) (w : World) :
    Calls Tryz.prog 46 #[.string T] w fun e w' => e = .returned (frV T) ∧ Below w.heap.size w w' := by
  have hx : rdX (sb T) = 2 := by unfold rdX; rw [sb_length, if_pos h]
  have hV : frV T = .agg #[.int .u64 0, .string ⟨#[]⟩, .int .i64 0, .int .i64 2] := by unfold frV; rw [hx]; rfl
  rw [hV]
  have d1 : decide ((T.size : Int) < 2) = true := by simp; omega
  clear hx hV
  go_enter Tryz.func46, Tryz.ntmps46
  go_wp2
  refine bodyPost_ret (v := .agg #[.int .u64 0, .string ⟨#[]⟩, .int .i64 0, .int .i64 2]) (by simp [results, go_sem]) rfl ⟨rfl, ?_⟩
  exact (Below.refl _ _).alloc (Nat.le_refl _) _

theorem take_is (T : ByteArray) (h2 : 2 ≤ T.size) : (T.extract 0 2 = ⟨#[79, 74]⟩) ↔ (sb T).take 2 = [79, 74] := by
  have e := sb_part T 0 2 h2
  rw [List.drop_zero] at e
  constructor
  · intro h; rw [← show (sb T).take (2 - 0) = (sb T).take 2 by rfl, ← e, h]; decide
  · intro h
    have e2 : sb (T.extract 0 2) = [79, 74] := by rw [e]; exact h
    rw [← bs_list (T.extract 0 2), e2]; decide
theorem num_at (T : ByteArray) (a k : Nat) (hk : k ≤ 8) (h : a + k ≤ T.size) (w : World) :
    Calls Tryz.prog 73 #[.string (T.extract a (a + k))] w fun e w' => e = .returned (.int .u64 ((un (((sb T).drop a).take k) : Nat) : Int)) ∧ w = w' := by
  have c := refNum6_any (T.extract a (a + k)) (by simp; omega) w
  rw [sb_part _ _ _ h, Nat.add_sub_cancel_left] at c
  exact c
theorem pN_lt {l : List Nat} (h : ∀ d ∈ l, d < 2 ^ 8) : pN l < 4294967296 := by
  have e := un_lt (l := (l.drop 2).take 4) (fun d hd => h d (List.mem_of_mem_drop (List.mem_of_mem_take hd)))
  have e2 : ((l.drop 2).take 4).length ≤ 4 := by simp; omega
  have e3 : 2 ^ (8 * ((l.drop 2).take 4).length) ≤ 2 ^ 32 := Nat.pow_le_pow_right (by decide) (by omega)
  have e4 : (2 : Nat) ^ 32 = 4294967296 := by decide
  unfold pN
  omega

set_option maxHeartbeats 400000 in
theorem refRead_form (T : ByteArray) (hT : T.size ≤ 1000000) (h2 : 2 ≤ T.size) (hm : ¬ (sb T).take 2 = [79, 74]) (w : World) :
    Calls Tryz.prog 46 #[.string T] w fun e w' => e = .returned (frV T) ∧ Below w.heap.size w w' := by
  have hlen := sb_length T
  have hx : rdX (sb T) = 3 := by
    unfold rdX
    rw [hlen]
    rw [if_neg (by omega), if_pos hm]
  have hV : frV T = .agg #[.int .u64 0, .string ⟨#[]⟩, .int .i64 0, .int .i64 3] := by unfold frV; rw [hx]; rfl
  rw [hV]
  have d1 : decide ((T.size : Int) < 2) = false := by simp; omega
  have d2 : (!(T.extract 0 2).toList == [79, 74]) = true := by
    have e := take_is T (by omega)
    rw [show [79, 74] = (⟨#[79, 74]⟩ : ByteArray).toList from by decide +kernel, str_beq, decide_eq_false (fun hh => hm (e.1 hh))]; rfl
  clear hx hV hlen
  go_enter Tryz.func46, Tryz.ntmps46
  go_wp2_with (fail)
  refine bodyPost_ret (v := .agg #[.int .u64 0, .string ⟨#[]⟩, .int .i64 0, .int .i64 3]) (by simp [results, go_sem]) rfl ⟨rfl, ?_⟩
  exact (Below.refl _ _).alloc (Nat.le_refl _) _

set_option maxHeartbeats 400000 in
theorem refRead_head (T : ByteArray) (hT : T.size ≤ 1000000) (h2 : 2 ≤ T.size) (hm : (sb T).take 2 = [79, 74]) (h18 : T.size < 18) (w : World) :
    Calls Tryz.prog 46 #[.string T] w fun e w' => e = .returned (frV T) ∧ Below w.heap.size w w' := by
  have hlen := sb_length T
  have hx : rdX (sb T) = 2 := by
    unfold rdX
    rw [hlen]
    rw [if_neg (by omega), if_neg (fun h => h hm), if_pos h18]
  have hV : frV T = .agg #[.int .u64 0, .string ⟨#[]⟩, .int .i64 0, .int .i64 2] := by unfold frV; rw [hx]; rfl
  rw [hV]
  have d1 : decide ((T.size : Int) < 2) = false := by simp; omega
  have d2 : (!(T.extract 0 2).toList == [79, 74]) = false := by
    have e := take_is T (by omega)
    rw [show [79, 74] = (⟨#[79, 74]⟩ : ByteArray).toList from by decide +kernel, str_beq, decide_eq_true (e.2 hm)]; rfl
  have d3 : decide ((T.size : Int) < 18) = true := by simp; omega
  clear hx hV hlen
  go_enter Tryz.func46, Tryz.ntmps46
  go_wp2_with (fail)
  refine bodyPost_ret (v := .agg #[.int .u64 0, .string ⟨#[]⟩, .int .i64 0, .int .i64 2]) (by simp [results, go_sem]) rfl ⟨rfl, ?_⟩
  exact (Below.refl _ _).alloc (Nat.le_refl _) _

set_option maxHeartbeats 400000 in
theorem refRead_many (T : ByteArray) (hT : T.size ≤ 1000000) (hm : (sb T).take 2 = [79, 74]) (h18 : 18 ≤ T.size) (hn : 4194304 < pN (sb T)) (w : World) :
    Calls Tryz.prog 46 #[.string T] w fun e w' => e = .returned (frV T) ∧ Below w.heap.size w w' := by
  have hlen := sb_length T
  have hx : rdX (sb T) = 12 := by
    unfold rdX
    rw [hlen]
    rw [if_neg (by omega), if_neg (fun h => h hm), if_neg (by omega), if_pos hn]
  have hV : frV T = .agg #[.int .u64 0, .string ⟨#[]⟩, .int .i64 0, .int .i64 12] := by unfold frV; rw [hx]; rfl
  rw [hV]
  have d1 : decide ((T.size : Int) < 2) = false := by simp; omega
  have d2 : (!(T.extract 0 2).toList == [79, 74]) = false := by
    have e := take_is T (by omega)
    rw [show [79, 74] = (⟨#[79, 74]⟩ : ByteArray).toList from by decide +kernel, str_beq, decide_eq_true (e.2 hm)]; rfl
  have d3 : decide ((T.size : Int) < 18) = false := by simp; omega
  have c1 : ∀ w, Calls Tryz.prog 73 #[.string (T.extract 2 6)] w fun e w' => e = .returned (.int .u64 ((pN (sb T) : Nat) : Int)) ∧ w = w' := fun w => num_at T 2 4 (by omega) (by omega) w
  have hnl := pN_lt (sb_lt T)
  have nn : IntKind.i64.wrap (pN (sb T) : Int) = (pN (sb T) : Int) := IntWalk.i64_in _ (by omega)
  have d4 : decide (4194304 < (pN (sb T) : Int)) = true := by simp; omega
  generalize pN (sb T) = N at *
  have C1 := Box.mk c1
  clear c1
  clear hx hV hlen
  go_enter Tryz.func46, Tryz.ntmps46
  go_wp2_with ((go_at_call 73; ((with_reducible refine (C1.out _).mono ?_); rintro e w' ⟨rfl, rfl⟩)))
  refine bodyPost_ret (v := .agg #[.int .u64 0, .string ⟨#[]⟩, .int .i64 0, .int .i64 12]) (by simp [results, go_sem]) rfl ⟨rfl, ?_⟩
  exact (Below.refl _ _).alloc (Nat.le_refl _) _

set_option maxHeartbeats 400000 in
theorem refRead_end (T : ByteArray) (hT : T.size ≤ 1000000) (hm : (sb T).take 2 = [79, 74]) (h18 : 18 ≤ T.size) (hn : ¬ 4194304 < pN (sb T)) (he : T.size < 18 + pN (sb T)) (w : World) :
    Calls Tryz.prog 46 #[.string T] w fun e w' => e = .returned (frV T) ∧ Below w.heap.size w w' := by
  have hlen := sb_length T
  have hx : rdX (sb T) = 2 := by
    unfold rdX
    rw [hlen]
    rw [if_neg (by omega), if_neg (fun h => h hm), if_neg (by omega), if_neg hn, if_pos he]
  have hV : frV T = .agg #[.int .u64 0, .string ⟨#[]⟩, .int .i64 0, .int .i64 2] := by unfold frV; rw [hx]; rfl
  rw [hV]
  have d1 : decide ((T.size : Int) < 2) = false := by simp; omega
  have d2 : (!(T.extract 0 2).toList == [79, 74]) = false := by
    have e := take_is T (by omega)
    rw [show [79, 74] = (⟨#[79, 74]⟩ : ByteArray).toList from by decide +kernel, str_beq, decide_eq_true (e.2 hm)]; rfl
  have d3 : decide ((T.size : Int) < 18) = false := by simp; omega
  have c1 : ∀ w, Calls Tryz.prog 73 #[.string (T.extract 2 6)] w fun e w' => e = .returned (.int .u64 ((pN (sb T) : Nat) : Int)) ∧ w = w' := fun w => num_at T 2 4 (by omega) (by omega) w
  have hnl := pN_lt (sb_lt T)
  have nn : IntKind.i64.wrap (pN (sb T) : Int) = (pN (sb T) : Int) := IntWalk.i64_in _ (by omega)
  have d4 : decide (4194304 < (pN (sb T) : Int)) = false := by simp; omega
  have d5 : decide ((T.size : Int) < 18 + (pN (sb T) : Int)) = true := by simp; omega
  generalize pN (sb T) = N at *
  have C1 := Box.mk c1
  clear c1
  clear hx hV hlen
  go_enter Tryz.func46, Tryz.ntmps46
  go_wp2_with ((go_at_call 73; ((with_reducible refine (C1.out _).mono ?_); rintro e w' ⟨rfl, rfl⟩)))
  refine bodyPost_ret (v := .agg #[.int .u64 0, .string ⟨#[]⟩, .int .i64 0, .int .i64 2]) (by simp [results, go_sem]) rfl ⟨rfl, ?_⟩
  exact (Below.refl _ _).alloc (Nat.le_refl _) _
end Go.Proofs.YtdffpbfllekcgaaGreatDoor
