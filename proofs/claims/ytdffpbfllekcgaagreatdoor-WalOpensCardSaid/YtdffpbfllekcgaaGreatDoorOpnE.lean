/- Contracts of ordealref07: value, Number. -/
import Derived.Test.YtdffpbfllekcgaaGreatDoorOpnA
import Derived.Test.YtdffpbfllekcgaaGreatDoorFrameN
namespace Go.Proofs.YtdffpbfllekcgaaGreatDoor
set_option maxRecDepth 100000
open Go.RowKit M

theorem logValue_any (c : Nat) (hc : c < 256) (w : World) :
    Calls Tryz.prog 45 #[.int .u8 (c : Int)] w fun e w' => e = .returned (.int .u64 ((wval c : Nat) : Int)) ∧ w = w' := by
  obtain ⟨v, hv⟩ : ∃ v, v = wval c := ⟨_, rfl⟩
  rw [← hv]
  unfold wval at hv
  have HV := Box.mk hv
  clear hv
  by_cases h1 : 48 ≤ c
  · have d1 : decide ((48 : Int) ≤ (c : Int)) = true := decide_eq_true (by omega)
    by_cases h2 : c ≤ 57
    · have d2 : decide ((c : Int) ≤ 57) = true := decide_eq_true (by omega)
      have w1 : IntKind.u64.wrap ((c : Int) - 48) = (v : Int) := by rw [show (c : Int) - 48 = ((c - 48 : Nat) : Int) by omega, u64small (by omega), HV.out, if_pos ⟨h1, h2⟩]
      have w2 : IntKind.u64.wrap (c : Int) = (c : Int) := u64small (by omega)
      go_enter Tryz.func45, Tryz.ntmps45
      go_wp2
      go_ret
      exact ⟨rfl, rfl⟩
    · have d2 : decide ((c : Int) ≤ 57) = false := decide_eq_false (by omega)
      by_cases h3 : 97 ≤ c
      · have d3 : decide ((97 : Int) ≤ (c : Int)) = true := decide_eq_true (by omega)
        by_cases h4 : c ≤ 102
        · have d4 : decide ((c : Int) ≤ 102) = true := decide_eq_true (by omega)
          have w1 : IntKind.u64.wrap ((c : Int) - 87) = (v : Int) := by rw [show (c : Int) - 87 = ((c - 87 : Nat) : Int) by omega, u64small (by omega), HV.out, if_neg (fun e => h2 e.2), if_pos ⟨h3, h4⟩]
          have w2 : IntKind.u64.wrap (c : Int) = (c : Int) := u64small (by omega)
          go_enter Tryz.func45, Tryz.ntmps45
          go_wp2
          go_ret
          exact ⟨rfl, rfl⟩
        · have d4 : decide ((c : Int) ≤ 102) = false := decide_eq_false (by omega)
          have hv : v = 16 := by rw [HV.out, if_neg (fun e => h2 e.2), if_neg (fun e => h4 e.2)]
          subst hv
          clear HV
          go_enter Tryz.func45, Tryz.ntmps45
          go_wp2
          go_ret
          exact ⟨rfl, rfl⟩
      · have d3 : decide ((97 : Int) ≤ (c : Int)) = false := decide_eq_false (by omega)
        have hv : v = 16 := by rw [HV.out, if_neg (fun e => h2 e.2), if_neg (fun e => h3 e.1)]
        subst hv
        clear HV
        go_enter Tryz.func45, Tryz.ntmps45
        go_wp2
        go_ret
        exact ⟨rfl, rfl⟩
  · have d1 : decide ((48 : Int) ≤ (c : Int)) = false := decide_eq_false (by omega)
    have d3 : decide ((97 : Int) ≤ (c : Int)) = false := decide_eq_false (by omega)
    have hv : v = 16 := by rw [HV.out, if_neg (fun e => h1 e.1), if_neg (fun e => by omega)]
    subst hv
    clear HV
    go_enter Tryz.func45, Tryz.ntmps45
    go_wp2
    go_ret
    exact ⟨rfl, rfl⟩

theorem otoList_ne {a b : ByteArray} (h : a ≠ b) : (a.toList == b.toList) = false := by
  rw [beq_eq_false_iff_ne]
  intro e
  apply h
  rw [ByteArray.toList_eq, ByteArray.toList_eq] at e
  exact ByteArray.ext (Array.toList_inj.1 e)
theorem sb_name {x : ByteArray} {q : Nat} (h : IsLog x q) : sb x = 119 :: 97 :: 108 :: 45 :: whex q 16 := by
  rw [h.2]
  unfold nameM
  rw [sb_bs _ (nameL_lt q)]
  rfl
def NumQ (x : ByteArray) (w : World) (e : Ending) (w' : World) : Prop := (∃ v : Nat, e = .returned (.tuple #[.int .u64 (v : Int), .bool (logN x).isSome]) ∧ ∀ q, logN x = some q → v = q) ∧ w = w'
set_option maxHeartbeats 1000000 in
theorem logNumber_any (x : ByteArray) (_hs : x.size ≤ 1000000) (w : World) : Calls Tryz.prog 28 #[.string x] w (NumQ x w) := by
  unfold NumQ
  by_cases h20 : x.size = 20
  · have hi : (x.size : Int) = 20 := by omega
    have hi4 : (4 : Int) ≤ (x.size : Int) := by omega
    by_cases hp : x.extract 0 4 = ⟨#[119, 97, 108, 45]⟩
    · have hsb : (sb x).take 4 = [119, 97, 108, 45] := by
        have e := sb_part x 0 4 (by omega)
        rw [hp, show sb ⟨#[119, 97, 108, 45]⟩ = [119, 97, 108, 45] by decide] at e
        simpa using e.symm
      obtain ⟨R, hR⟩ : ∃ R, R = (sb x).drop 4 := ⟨_, rfl⟩
      have hx : sb x = 119 :: 97 :: 108 :: 45 :: R := by rw [hR, ← List.take_append_drop 4 (sb x), hsb]; rfl
      have hRl : R.length = 16 := by rw [hR, List.length_drop, sb_length]; omega
      have hget : ∀ k, k < 16 → R[k]? = some (bn x (4 + k)) := fun k hk => by
        rw [hR, List.getElem?_drop]
        unfold sb bnl
        rw [List.getElem?_map, List.getElem?_range (by omega)]
        rfl
      have hn : ∀ s, s < 16 ^ 16 → whex s 16 = R → IsLog x s := fun s hs e => by
        refine ⟨hs, ?_⟩
        unfold nameM nameL
        rw [e, ← hx, bs_list]
      have hz : ∀ k, k < 16 → ¬ wval (bn x (4 + k)) < 16 → logN x = none := fun k hk hv => logN_none fun q hq => by
        have e := sb_name hq
        rw [hx] at e
        have e2 : R = whex q 16 := by simpa using e
        refine hv (whex_val q 16 _ ?_)
        rw [← e2]
        exact List.mem_of_getElem? (hget k hk)
      have cv := fun c hc W => logValue_any c hc W
      have e1 : ((x.extract 0 4).toList == [119, 97, 108, 45]) = true := by rw [hp, ByteArray.toList_eq]; decide
      have HG := Box.mk hget; have HN := Box.mk hn; have HZ := Box.mk hz; have CV := Box.mk cv; have HP := Box.mk hp; have RL := Box.mk hRl
      clear hget hn hz cv hx hR hsb hRl hi4 hp
      go_enter Tryz.func28, Tryz.ntmps28
      go_wp2_with fail
      go_loop [4, 5] (fun s i => ∃ k v : Nat, k ≤ 16 ∧ i = .int .i64 ((4 + k : Nat) : Int) ∧ s = .int .u64 (v : Int) ∧ v < 16 ^ k ∧ Box (whex v k = R.take k)) (fun _ i => 20 - (intOf i).toNat)
      case atStart => exact ⟨0, 0, by omega, rfl, rfl, by decide, ⟨rfl⟩⟩
      case round =>
        obtain ⟨k, v, hk, rfl, rfl, hv, hw⟩ := hrel
        by_cases hlt : k < 16
        · have hlt2 : 4 + k < x.size := by omega
          have hlt3 : ((4 + k : Nat) : Int) < 20 := by omega
          have hg := HG.out k hlt
          have hbl := bn_le x (4 + k)
          have hz := HZ.out k hlt
          have ho := bn_of hlt2
          have hle := wval_le (bn x (4 + k))
          have hwd := wdig_wval (c := bn x (4 + k))
          obtain ⟨z, hz0⟩ : ∃ z, z = wval (bn x (4 + k)) := ⟨_, rfl⟩
          have cv2 : ∀ W, Calls Tryz.prog 45 #[.int .u8 ((x[4 + k].toNat : Nat) : Int)] W fun e w' => e = .returned (.int .u64 (z : Int)) ∧ W = w' := fun W => by
            rw [ho, hz0]; exact CV.out _ (by omega) W
          rw [← hz0] at hz hle hwd
          have p16 : (16 : Nat) ^ k ≤ 16 ^ 15 := Nat.pow_le_pow_right (by decide) (by omega)
          have p15 : (16 : Nat) ^ 15 = 1152921504606846976 := by decide
          clear hz0
          generalize bn x (4 + k) = c at hg hwd hbl ho
          have CV2 := Box.mk cv2
          by_cases h15 : z < 16
          · have d1 : decide ((15 : Int) < (z : Int)) = false := decide_eq_false (by omega)
            have d2 : decide (15 < z) = false := decide_eq_false (by omega)
            have st := whex_snoc v z h15 k
            rw [hwd h15, hw.out] at st
            have tk : R.take k ++ [c] = R.take (k + 1) := by rw [List.take_add_one, hg]; rfl
            rw [tk] at st
            have ST := Box.mk st
            have wm : IntKind.u64.wrap (16 * (v : Int)) = ((16 * v : Nat) : Int) := by rw [show 16 * (v : Int) = ((16 * v : Nat) : Int) by omega]; exact u64small (by omega)
            have wa : IntKind.u64.wrap (((16 * v : Nat) : Int) + (z : Int)) = ((16 * v + z : Nat) : Int) := by rw [show ((16 * v : Nat) : Int) + (z : Int) = ((16 * v + z : Nat) : Int) by omega]; exact u64small (by omega)
            have pk : 16 * v + z < 16 ^ (k + 1) := by rw [Nat.pow_succ]; omega
            obtain ⟨m, hm⟩ : ∃ m, m = 16 * v := ⟨_, rfl⟩
            obtain ⟨y, hy⟩ : ∃ y, y = m + z := ⟨_, rfl⟩
            rw [← hm] at wm wa ST pk
            rw [← hy] at wa ST pk
            have PK := Box.mk pk
            clear st tk hz hwd hg hw cv2 ho hbl p16 p15 hm hy pk
            go_wp2_with (go_at_call 45; ((with_reducible refine (CV2.out _).mono ?_); rintro e w' ⟨rfl, rfl⟩))
            go_round
            case rel => exact ⟨k + 1, y, by omega, by go_num, rfl, PK.out, ST⟩
            case measure => simp [intOf]; omega
          · have d1 : decide ((15 : Int) < (z : Int)) = true := decide_eq_true (by omega)
            have d2 : decide (15 < z) = true := decide_eq_true (by omega)
            have LN := Box.mk (hz h15)
            clear hz hwd hg hw cv2 ho hbl p16 p15
            go_wp2_with (go_at_call 45; ((with_reducible refine (CV2.out _).mono ?_); rintro e w' ⟨rfl, rfl⟩))
            go_ret2
            rw [LN.out]
            exact ⟨⟨0, rfl, fun q hq => nomatch hq⟩, rfl⟩
        · obtain rfl : k = 16 := by omega
          have hw2 := hw.out
          rw [List.take_of_length_le (by rw [RL.out]; omega)] at hw2
          have is := HN.out v hv hw2
          have LN := Box.mk (logN_some is)
          have hlt3 : ¬ ((4 + 16 : Nat) : Int) < 20 := by omega
          clear is hw2 hw hv
          go_wp2
          go_ret2
          rw [LN.out]
          exact ⟨⟨v, rfl, fun q hq => Option.some.inj hq⟩, rfl⟩
    · have ln : logN x = none := logN_none fun q hq => hp (by
        have e := sb_part x 0 4 (by omega)
        rw [sb_name hq] at e
        have e2 : sb (x.extract 0 4) = [119, 97, 108, 45] := by simpa using e
        rw [← bs_list (x.extract 0 4), e2]
        rfl)
      have e1 : ((x.extract 0 4).toList == [119, 97, 108, 45]) = false := by
        rw [show ([119, 97, 108, 45] : List UInt8) = (⟨#[119, 97, 108, 45]⟩ : ByteArray).toList by rw [ByteArray.toList_eq]]
        exact otoList_ne hp
      have LN := Box.mk ln
      clear ln hp
      go_enter Tryz.func28, Tryz.ntmps28
      go_wp2
      go_ret2
      rw [LN.out]
      exact ⟨⟨0, rfl, fun q hq => nomatch hq⟩, rfl⟩
  · have ln : logN x = none := logN_none fun q hq => h20 (by rw [hq.2]; exact nameM_size q)
    have hi : ((x.size : Int) != 20) = true := by simp; omega
    have hi2 : ((x.size : Int) == 20) = false := by simp; omega
    have LN := Box.mk ln
    clear ln
    go_enter Tryz.func28, Tryz.ntmps28
    go_wp2
    go_ret2
    rw [LN.out]
    exact ⟨⟨0, rfl, fun q hq => nomatch hq⟩, rfl⟩
end Go.Proofs.YtdffpbfllekcgaaGreatDoor
