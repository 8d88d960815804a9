/- Contracts of the reference of sha: Hex and Digits. -/
import Derived.Test.YtdhbeeeofaheeaaDoorShaN
import Derived.Deep.QuietTactic
import Derived.BigQuiet
import Derived.Laws.Strings2
namespace Go.Proofs.YtdhbeeeofaheeaaDoor
set_option maxRecDepth 100000
open Go.RowKit M

theorem hex_slice {q p : Nat} (h : q < 16) (hp : p = q + 1) (w : World) : (Instr.slice 9 (.string ⟨#[48, 49, 50, 51, 52, 53, 54, 55, 56, 57, 97, 98, 99, 100, 101, 102]⟩) (some (.int .u8 (q : Int))) (some (.int .u8 (p : Int))) none).run Tryd.prog w = .ok (.string (bs [hexd q])) w := by
  have e : ∀ q : Fin 16, (⟨#[48, 49, 50, 51, 52, 53, 54, 55, 56, 57, 97, 98, 99, 100, 101, 102]⟩ : ByteArray).extract q.val (q.val + 1) = bs [hexd q.val] := by decide
  have hs : (⟨#[48, 49, 50, 51, 52, 53, 54, 55, 56, 57, 97, 98, 99, 100, 101, 102]⟩ : ByteArray).size = 16 := by decide
  have := run_slice_string (P := Tryd.prog) w 9 (⟨#[48, 49, 50, 51, 52, 53, 54, 55, 56, 57, 97, 98, 99, 100, 101, 102]⟩ : ByteArray) .u8 .u8 (q : Int) (p : Int) Tryd.underlying9 (by omega) (by omega) (by rw [hs]; omega)
  rw [this, hp]
  have e1 := e ⟨q, h⟩
  simp only at e1
  simp [e1]

set_option maxHeartbeats 400000 in
theorem refHex_any (T : ByteArray) (hT : T.size ≤ 1000) (w : World) :
    Calls Tryd.prog 22 #[.string T] w fun e w' => e = .returned (.string (bs (hexL (sb T)))) ∧ Below w.heap.size w w' := by
  have hlt := sb_lt T
  have hL := sb_length T
  have HL := Box.mk hL; have HLT := Box.mk hlt
  clear hL hlt
  go_enter Tryd.func22, Tryd.ntmps22
  go_wp2_with fail
  go_loopw [4, 5] (fun o i wr => ∃ k : Nat, k ≤ T.size ∧ i = .int .i64 k ∧ o = .string (bs (hexL ((sb T).take k))) ∧ Box (Below w.heap.size w wr))
    (fun _ i _ => T.size - (intOf i).toNat)
  case atStart => exact ⟨0, by omega, rfl, rfl, ⟨Below.refl _ _⟩⟩
  case round =>
    obtain ⟨k, hk, rfl, rfl, hb⟩ := hrel
    by_cases hlt : k < T.size
    · obtain ⟨v, hv⟩ : ∃ v, v = (sb T).getD k 0 := ⟨_, rfl⟩
      have hv256 : v < 256 := by rw [hv]; exact HLT.out _ (getD_mem (by rw [HL.out]; exact hlt))
      have ix := fun w => str_index hlt w
      rw [← hv] at ix
      obtain ⟨q, hq⟩ : ∃ q, q = v / 16 := ⟨_, rfl⟩
      obtain ⟨r, hr⟩ : ∃ r, r = v % 16 := ⟨_, rfl⟩
      obtain ⟨q1, hq1⟩ : ∃ q1, q1 = q + 1 := ⟨_, rfl⟩
      obtain ⟨r1, hr1⟩ : ∃ r1, r1 = r + 1 := ⟨_, rfl⟩
      have e1 : (v : Int).tdiv 16 = (q : Int) := by rw [Int.tdiv_eq_ediv_of_nonneg (by omega)]; omega
      have e2 : (v : Int).tmod 16 = (r : Int) := by rw [Int.tmod_eq_emod_of_nonneg (by omega)]; omega
      have e5 : IntKind.u8.wrap (q : Int) = (q : Int) := by rw [u8w]; omega
      have e6 : IntKind.u8.wrap (r : Int) = (r : Int) := by rw [u8w]; omega
      have e3 : IntKind.u8.wrap ((q : Int) + 1) = (q1 : Int) := by rw [show (q : Int) + 1 = ((q + 1 : Nat) : Int) by omega, u8w]; omega
      have e4 : IntKind.u8.wrap ((r : Int) + 1) = (r1 : Int) := by rw [show (r : Int) + 1 = ((r + 1 : Nat) : Int) by omega, u8w]; omega
      have hx1 := fun w => hex_slice (q := q) (by omega) hq1 w
      have hx2 := fun w => hex_slice (q := r) (by omega) hr1 w
      have hsn : hexL ((sb T).take (k + 1)) = hexL ((sb T).take k) ++ ([hexd q] ++ [hexd r]) := by
        rw [List.take_succ_eq_append_getElem (by rw [HL.out]; exact hlt), hexL_append, hq, hr, hv]
        simp [hexL, List.getD, HL.out, hlt]
      obtain ⟨D1, hd1⟩ : ∃ d, d = bs [hexd q] := ⟨_, rfl⟩
      obtain ⟨D2, hd2⟩ : ∃ d, d = bs [hexd r] := ⟨_, rfl⟩
      rw [← hd1] at hx1
      rw [← hd2] at hx2
      obtain ⟨O, hO⟩ : ∃ d, d = bs (hexL ((sb T).take k)) := ⟨_, rfl⟩
      have hfin : bs (hexL ((sb T).take (k + 1))) = O ++ (D1 ++ D2) := by rw [hsn, hO, hd1, hd2, bs_append, bs_append]
      rw [← hO]
      have ad1 : ∀ w, (Op.stringOp .add D1 D2).run Tryd.prog w = .ok (.string (D1 ++ D2)) w := fun w => run_string_add_sum w D1 D2 (by rw [hd1, hd2, bs_size, bs_size]; simp)
      have ad2 : ∀ w, (Op.stringOp .add O (D1 ++ D2)).run Tryd.prog w = .ok (.string (O ++ (D1 ++ D2))) w := fun w => run_string_add_sum w O (D1 ++ D2) (by rw [hO, hd1, hd2, bs_append, bs_size, bs_size, hexL_length, List.length_take]; simp; omega)
      have HF := Box.mk hfin
      clear hsn hq hr hq1 hr1 hv hd1 hd2 hO hfin
      go_wp2_with fail
      go_quiet (fail)
      have hb2 : Box (Below w.heap.size w (wr.drewN nq)) := ⟨below_drewN hb.out _⟩
      generalize wr.drewN nq = wz at hb2 ⊢
      go_wp2_with fail
      go_roundw
      case rel => exact ⟨k + 1, by omega, by go_num, by rw [HF.out], hb2⟩
      case measure => simp [intOf]; omega
    · obtain rfl : T.size = k := by omega
      rw [List.take_of_length_le (by rw [HL.out]; omega)]
      go_wp2
      go_ret
      exact ⟨rfl, hb.out⟩

set_option maxHeartbeats 400000 in
theorem refDigits_any (T : ByteArray) (hT : T.size ≤ 1000) (w : World) :
    Calls Tryd.prog 21 #[.string T] w fun e w' => e = .returned (.bool (digsB (sb T))) ∧ w = w' := by
  have hlt := sb_lt T
  have hL := sb_length T
  have HL := Box.mk hL; have HLT := Box.mk hlt
  clear hL hlt
  go_enter Tryd.func21, Tryd.ntmps21
  go_wp2_with fail
  go_loopw [3] (fun i wr => ∃ k : Nat, k ≤ T.size ∧ i = .int .i64 k ∧ Box (((sb T).take k).all dgB = true) ∧ w = wr)
    (fun i _ => T.size - (intOf i).toNat)
  case atStart => exact ⟨0, by omega, rfl, ⟨by simp⟩, rfl⟩
  case round =>
    obtain ⟨k, hk, rfl, hall, rfl⟩ := hrel
    by_cases hlt : k < T.size
    · obtain ⟨c, hc⟩ : ∃ v, v = (sb T).getD k 0 := ⟨_, rfl⟩
      have hc256 : c < 256 := by rw [hc]; exact HLT.out _ (getD_mem (by rw [HL.out]; exact hlt))
      have ix := fun w => str_index hlt w
      rw [← hc] at ix
      have hsn : ((sb T).take (k + 1)).all dgB = dgB c := by
        rw [List.take_succ_eq_append_getElem (by rw [HL.out]; exact hlt), List.all_append, hall.out, hc]
        simp [List.getD, HL.out, hlt]
      have hno : dgB c = false → digsB (sb T) = false := fun h => by
        unfold digsB
        have : (sb T).all dgB = false := by
          rw [List.all_eq_false]
          exact ⟨c, by rw [hc]; exact getD_mem (by rw [HL.out]; exact hlt), by simp [h]⟩
        rw [this, Bool.and_false]
      have HSN := Box.mk hsn; have HNO := Box.mk hno
      clear hsn hno hc
      rcases (by omega : (48 ≤ c ∧ c ≤ 57) ∨ (97 ≤ c ∧ c ≤ 102) ∨ (c < 48) ∨ (57 < c ∧ c < 97) ∨ 102 < c) with h | h | h | h | h
      · have e2 : dgB c = true := by unfold dgB; simp; omega
        have E2 := Box.mk e2; clear e2
        go_wp2_with fail
        go_roundw
        case rel => exact ⟨k + 1, by omega, by go_num, ⟨by rw [HSN.out, E2.out]⟩, by trivial⟩
        case measure => simp [intOf]; omega
      · have e2 : dgB c = true := by unfold dgB; simp; omega
        have E2 := Box.mk e2; clear e2
        go_wp2_with fail
        go_roundw
        case rel => exact ⟨k + 1, by omega, by go_num, ⟨by rw [HSN.out, E2.out]⟩, by trivial⟩
        case measure => simp [intOf]; omega
      all_goals
        have e2 : dgB c = false := by unfold dgB; simp; omega
        have e3 := HNO.out e2
        have E3 := Box.mk e3; clear e2 e3
        go_wp2_with fail
        go_ret
        exact ⟨congrArg (fun b => Ending.returned (.bool b)) E3.out.symm, rfl⟩
    · obtain rfl : T.size = k := by omega
      have e : digsB (sb T) = decide (T.size = 64) := by
        have := hall.out
        rw [List.take_of_length_le (by rw [HL.out]; omega)] at this
        unfold digsB
        rw [this, HL.out, Bool.and_true]
      have E := Box.mk e; clear e
      by_cases h64 : T.size = 64
      · have e1 : ((T.size : Int) == 64) = true := by simp; omega
        have E4 := Box.mk (E.out.trans (decide_eq_true h64)); clear E
        go_wp2_with fail
        go_ret
        exact ⟨congrArg (fun b => Ending.returned (.bool b)) E4.out.symm, rfl⟩
      · have e1 : ((T.size : Int) == 64) = false := by simp; omega
        have E4 := Box.mk (E.out.trans (decide_eq_false h64)); clear E
        go_wp2_with fail
        go_ret
        exact ⟨congrArg (fun b => Ending.returned (.bool b)) E4.out.symm, rfl⟩

theorem hexd_dgV : ∀ c : Fin 256, dgB c.val = true → hexd (dgV c.val) = c.val := by decide +kernel
theorem hex_prs : ∀ (l : List Nat), l.length % 2 = 0 → l.all dgB = true → (∀ d ∈ l, d < 256) → hexL (prsL l) = l
  | [], _, _, _ => rfl
  | [_], h, _, _ => by simp at h
  | a :: b :: l, h, hd, hlt => by
    simp only [List.all_cons, Bool.and_eq_true] at hd
    have ih := hex_prs l (by simp at h; omega) hd.2.2 (fun d m => hlt d (by simp [m]))
    have ha := hexd_dgV ⟨a, hlt a (by simp)⟩ hd.1
    have hb := hexd_dgV ⟨b, hlt b (by simp)⟩ hd.2.1
    simp only at ha hb
    have v1 := dgV_lt a
    have v2 := dgV_lt b
    simp only [prsL, hexL, ih]
    rw [show (16 * dgV a + dgV b) / 16 = dgV a by omega, show (16 * dgV a + dgV b) % 16 = dgV b by omega, ha, hb]
theorem hex_prsD {l : List Nat} (h : digsB l = true) (hlt : ∀ d ∈ l, d < 256) : hexL (prsD l) = l := by
  rw [prsD, if_pos h]
  unfold digsB at h
  simp only [Bool.and_eq_true, decide_eq_true_eq] at h
  exact hex_prs l (by omega) h.2 hlt
theorem cmp_less : ∀ (a b : List Nat), a.length = b.length → (∀ d ∈ a, d < 256) → (∀ d ∈ b, d < 256) →
    Op.bytesLess (a.map UInt8.ofNat) (b.map UInt8.ofNat) = decide (Lib.compareBytes (u8l a) (u8l b) < 0)
  | [], [], _, _, _ => rfl
  | [], _ :: _, h, _, _ => by simp at h
  | _ :: _, [], h, _, _ => by simp at h
  | u :: a, v :: b, h, ha, hb => by
    have hu := ha u (by simp)
    have hv := hb v (by simp)
    have ih := cmp_less a b (by simpa using h) (fun d hd => ha d (by simp [hd])) (fun d hd => hb d (by simp [hd]))
    simp only [List.map_cons, Op.bytesLess, u8l, Lib.compareBytes, u8_lt hu hv, u8_lt hv hu]
    rw [ih]
    have e : (UInt8.ofNat u == UInt8.ofNat v) = decide (u = v) := by
      by_cases q : u = v
      · subst q; simp
      · have : UInt8.ofNat u ≠ UInt8.ofNat v := fun x => q (by
          have := congrArg UInt8.toNat x
          simpa [Nat.mod_eq_of_lt hu, Nat.mod_eq_of_lt hv] using this)
        simp [q, this]
    rw [e]
    rcases Nat.lt_trichotomy u v with hc | hc | hc
    · simp [hc]
    · subst hc
      simp [u8l]
      first | rfl | exact decide_eq_decide.2 Iff.rfl
    · simp [show ¬ u < v by omega, hc, show ¬ u = v by omega]
end Go.Proofs.YtdhbeeeofaheeaaDoor
