/- Contracts of ordealref09: letters, digits, numbers. -/
import Derived.Test.YtmgipjkdeoelgaaDoorLexF
import Derived.Test.YtmgipjkdeoelgaaDoorLexR
namespace Go.Proofs.YtmgipjkdeoelgaaDoor
set_option maxRecDepth 100000
open Go.RowKit

theorem rletter_any (c : UInt8) (w : World) :
    Calls Tryd.prog 19 #[.int .u8 (c.toNat : Nat)] w fun e w' => e = .returned (.bool (isL c)) ∧ w = w' := by
  unfold isL
  have hc := c.toNat_lt
  generalize c.toNat = n at *
  go_enter Tryd.func19, Tryd.ntmps19
  go_wp2
  · go_ret
    have h : 97 ≤ n := by omega
    exact ⟨by simp [h]; omega, rfl⟩
  · go_ret
    have h : ¬ 97 ≤ n := by omega
    exact ⟨by simp [h], rfl⟩
theorem rdigit_any (c : UInt8) (w : World) :
    Calls Tryd.prog 20 #[.int .u8 (c.toNat : Nat)] w fun e w' => e = .returned (.bool (isD c)) ∧ w = w' := by
  unfold isD
  have hc := c.toNat_lt
  generalize c.toNat = n at *
  go_enter Tryd.func20, Tryd.ntmps20
  go_wp2
  · go_ret
    have h : 48 ≤ n := by omega
    exact ⟨by simp [h]; omega, rfl⟩
  · go_ret
    have h : ¬ 48 ≤ n := by omega
    exact ⟨by simp [h], rfl⟩

/-- n times b, and v -/
def timV (n b v : Nat) : Value := if v + b * n < 18446744073709551616 then .tuple #[.int .u64 ((v + b * n : Nat) : Int), .bool true] else .tuple #[.int .u64 0, .bool false]
set_option maxHeartbeats 800000 in
theorem times_any (n b v : Nat) (hn : n < 18446744073709551616) (hb : b < 18446744073709551616) (hv : v < 18446744073709551616) (w : World) :
    Calls Tryd.prog 35 #[.int .u64 (n : Nat), .int .u64 (b : Nat), .int .u64 (v : Nat)] w fun e w' => e = .returned (timV n b v) ∧ w = w' := by
  go_enter Tryd.func35, Tryd.ntmps35
  go_wp2_with fail
  go_loop [8, 9] (fun s i => ∃ k y : Nat, s = .int .u64 (y : Nat) ∧ i = .int .u64 (k : Nat) ∧ k ≤ b ∧ y < 18446744073709551616 ∧ Bx (y = v + k * n)) (fun _ i => b - (intOf i).toNat)
  case atStart => exact ⟨0, v, rfl, rfl, by omega, hv, ⟨by simp⟩⟩
  case round =>
    obtain ⟨k, y, rfl, rfl, hk, hy, hyk⟩ := hrel
    by_cases hkb : k < b
    · by_cases ho : 18446744073709551616 ≤ y + n
      · have hw : IntKind.u64.wrap ((y : Int) + (n : Int)) = (y : Int) + (n : Int) - 18446744073709551616 := by
          rw [IntKind.wrap_u64]; omega
        have hle : (k + 1) * n ≤ b * n := Nat.mul_le_mul_right _ hkb
        have HV : Bx (timV n b v = .tuple #[.int .u64 0, .bool false]) := ⟨by
          have := hyk.out
          rw [Nat.succ_mul] at hle
          unfold timV; rw [if_neg (by omega)]⟩
        clear hle hyk
        go_wp2
        go_ret2
        rw [HV.out]; exact ⟨rfl, rfl⟩
      · have hw : IntKind.u64.wrap ((y : Int) + (n : Int)) = ((y + n : Nat) : Int) := by
          rw [IntKind.wrap_u64]; omega
        have hy2 : Bx (y + n = v + (k + 1) * n) := ⟨by have := hyk.out; rw [Nat.succ_mul]; omega⟩
        have hlt : y + n < 18446744073709551616 := by omega
        have hge : (y : Int) ≤ ((y + n : Nat) : Int) := by omega
        clear hyk
        obtain ⟨z, hz⟩ : ∃ z, z = y + n := ⟨_, rfl⟩
        rw [← hz] at hw hy2 hlt hge
        clear hz ho
        go_wp2
        go_round
        case rel => exact ⟨k + 1, z, rfl, by go_num, by omega, hlt, hy2⟩
        case measure => simp [intOf]; omega
    · obtain rfl : k = b := by omega
      have HV : Bx (timV n k v = .tuple #[.int .u64 (y : Nat), .bool true]) := ⟨by
        have := hyk.out
        unfold timV; rw [if_pos (by omega), ← this]⟩
      clear hyk
      go_wp2
      go_ret2
      rw [HV.out]; exact ⟨rfl, rfl⟩

/-- what Number answers -/
def refV (r : Nat × Nat) : Value := if r.1 = 0 then .tuple #[.int .u64 (r.2 : Nat), .bool true] else .tuple #[.int .u64 0, .bool false]

set_option maxHeartbeats 6400000 in
theorem rnumber_any (T : ByteArray) (hT : T.size ≤ 1000000) (hA : ∀ c ∈ by' T, isA c = true) (w : World) :
    Calls Tryd.prog 21 #[.string T] w fun e w' => e = .returned (refV (numR (by' T))) ∧ w = w' := by
  obtain ⟨l0, hl0⟩ : ∃ l0, l0 = by' T := ⟨_, rfl⟩
  rw [← hl0]
  by_cases hp : [48, 120].isPrefixOf l0 = true
  · obtain ⟨l, hl⟩ : ∃ l, l0 = 48 :: 120 :: l := by
      match l0, hp with
      | a :: b :: r, hp =>
        simp [List.isPrefixOf] at hp
        exact ⟨r, by rw [← hp.1, ← hp.2]⟩
      | [a], hp => simp [List.isPrefixOf] at hp
      | [], hp => simp [List.isPrefixOf] at hp
    have hR : numR l0 = puX 16 l := by unfold numR; rw [if_pos hp, hl]; rfl
    have hsz : 2 ≤ T.size := by rw [← by_size, ← hl0, hl]; simp
    have hix0 : ∀ W, (Instr.index 9 (.string T) (.int .i64 0)).run Tryd.prog W = .ok (.int .u8 48) W := fun W => by
      have e := str_at (i := 0) (show 0 < T.size by omega) W
      rw [← hl0, hl] at e; exact e
    have hix1 : ∀ W, (Instr.index 9 (.string T) (.int .i64 1)).run Tryd.prog W = .ok (.int .u8 120) W := fun W => by
      have e := str_at (i := 1) (show 1 < T.size by omega) W
      rw [← hl0, hl] at e; exact e
    obtain ⟨S, hS⟩ : ∃ S, S = T.extract 2 T.size := ⟨_, rfl⟩
    have hSl : by' S = l := by rw [hS, drop_size, ← hl0, hl]; rfl
    have hSz : S.size ≤ 1000000 := by rw [hS]; simp; omega
    have hA2 : ∀ c ∈ l, isA c = true := fun c h => hA c (by rw [← hl0, hl]; simp [h])
    have HA := Bx.mk hA2; have HS := Bx.mk hSl
    have hS' := hS.symm
    clear hA hA2 hp hS hl hl0
    by_cases h0 : S.size = 0
    · have hln : l = [] := List.length_eq_zero_iff.1 (by rw [← hSl, by_size]; exact h0)
      have HD : Bx (refV (numR l0) = .tuple #[.int .u64 0, .bool false]) := ⟨by rw [hR, hln]; rfl⟩
      clear hR hSl hln
      go_enter Tryd.func21, Tryd.ntmps21
      go_wp2
      go_ret2
      rw [HD.out]
      exact ⟨rfl, rfl⟩
    · have hpos : 0 < S.size := by omega
      have hq : ((S.size : Int) == 0) = false := by rw [beq_eq_false_iff_ne]; omega
      have HR : Bx (numR l0 = pu 16 0 l) := ⟨by
        rw [hR]; unfold puX
        rw [if_neg (fun e => h0 (by rw [← by_size, hSl, e]; rfl))]⟩
      clear hR hSl h0
      go_enter Tryd.func21, Tryd.ntmps21
      go_wp2
      go_loop [5, 6] (fun vn vi => ∃ k acc : Nat, vn = .int .u64 (acc : Nat) ∧ vi = .int .i64 (k : Int) ∧ k ≤ S.size ∧ Bx (acc < 18446744073709551616 ∧ pu 16 0 l = pu 16 acc (l.drop k))) (fun _ vi => S.size - (intOf vi).toNat)
      case atStart => exact ⟨0, 0, rfl, rfl, by omega, ⟨by decide, rfl⟩⟩
      case round =>
        obtain ⟨k, acc, rfl, rfl, hk, hh⟩ := hrel
        obtain ⟨hacc, hdec⟩ := hh.out
        clear hh
        by_cases hkn : k < S.size
        · have hix := fun W => str_at hkn W
          rw [HS.out] at hix
          obtain ⟨c, hc⟩ : ∃ c, l[k]? = some c := ⟨_, List.getElem?_eq_getElem (show k < l.length by rw [← HS.out, by_size]; exact hkn)⟩
          have hA := HA.out c (List.mem_of_getElem? hc)
          have hg : l.getD k 0 = c := by simp [List.getD, hc]
          rw [hg] at hix
          rw [dropAt hc, pu] at hdec
          have hds := dig_same hA 16 (by decide)
          have cd := fun W => rdigit_any c W
          have hxr : digR c = if isD c then c.toNat - 48 else if 97 ≤ c.toNat ∧ c.toNat ≤ 102 then c.toNat - 87 else 16 := rfl
          have hdd : isD c = true ↔ 48 ≤ c.toNat ∧ c.toNat ≤ 57 := by simp [isD]
          have hc256 : c.toNat < 256 := c.toNat_lt
          have CD := Bx.mk cd
          have e1 : (if 16 ≤ digP c then ((2, 0) : Nat × Nat) else if 18446744073709551616 ≤ acc * 16 + digP c then (1, 18446744073709551615) else pu 16 (acc * 16 + digP c) (l.drop (k + 1))) = if 16 ≤ digR c then (2, 0) else if 18446744073709551616 ≤ acc * 16 + digR c then (1, 18446744073709551615) else pu 16 (acc * 16 + digR c) (l.drop (k + 1)) := by
            by_cases h : 16 ≤ digR c
            · rw [if_pos h, if_pos (hds.1.2 h)]
            · rw [if_neg h, if_neg (fun h2 => h (hds.1.1 h2)), hds.2 (by omega)]
          rw [e1] at hdec
          clear cd hc hg hds e1 hA
          generalize digR c = x at *
          generalize isD c = f at *
          generalize c.toNat = n at *
          cases f
          · have hnd : ¬ (48 ≤ n ∧ n ≤ 57) := fun h => by have := hdd.2 h; cases this
            rw [if_neg (by decide)] at hxr
            by_cases hl : 97 ≤ n ∧ n ≤ 102
            · rw [if_pos hl] at hxr
              obtain ⟨h97, h102⟩ := hl
              have hx := hxr
              clear hxr hdd hnd
              by_cases hbx : 16 ≤ x
              · rw [if_pos hbx] at hdec
                have HD : Bx (refV (numR l0) = .tuple #[.int .u64 0, .bool false]) := ⟨by rw [HR.out, hdec]; rfl⟩
                have ix : (16 : Int) ≤ ((n : Int) - 87) := by omega
                clear hdec hx hbx
                go_wp2_with (first
                            | (go_at_call 20; ((with_reducible refine (CD.out _).mono ?_); rintro e w' ⟨rfl, rfl⟩))
                            | (go_at_call 35; ((with_reducible refine (CT.out _).mono ?_); rintro e w' ⟨rfl, rfl⟩)))
                all_goals go_ret2
                all_goals (rw [HD.out]; exact ⟨rfl, rfl⟩)
              · rw [if_neg hbx] at hdec
                have ix : ((n : Int) - 87) < (16 : Int) := by omega
                have ct := fun W => times_any acc 16 x hacc (by decide) (by omega) W
                rw [show ((x : Nat) : Int) = ((n : Int) - 87) by omega] at ct
                simp only [show ((16 : Nat) : Int) = 16 from rfl] at ct
                by_cases hov : 18446744073709551616 ≤ acc * 16 + x
                · rw [if_pos hov] at hdec
                  rw [show timV acc 16 x = .tuple #[.int .u64 0, .bool false] by unfold timV; rw [if_neg (by omega)]] at ct
                  have HD : Bx (refV (numR l0) = .tuple #[.int .u64 0, .bool false]) := ⟨by rw [HR.out, hdec]; rfl⟩
                  have CT := Bx.mk ct
                  clear hdec hx hbx hov ct hacc
                  go_wp2_with (first
                            | (go_at_call 20; ((with_reducible refine (CD.out _).mono ?_); rintro e w' ⟨rfl, rfl⟩))
                            | (go_at_call 35; ((with_reducible refine (CT.out _).mono ?_); rintro e w' ⟨rfl, rfl⟩)))
                  all_goals go_ret2
                  all_goals (rw [HD.out]; exact ⟨rfl, rfl⟩)
                · rw [if_neg hov] at hdec
                  obtain ⟨y, hy⟩ : ∃ y, y = acc * 16 + x := ⟨_, rfl⟩
                  rw [← hy] at hdec hov
                  rw [show timV acc 16 x = .tuple #[.int .u64 (y : Nat), .bool true] by unfold timV; rw [if_pos (by omega), hy, Nat.mul_comm acc, Nat.add_comm]] at ct
                  have CT := Bx.mk ct
                  have HN : Bx (y < 18446744073709551616 ∧ pu 16 0 l = pu 16 y (l.drop (k + 1))) := ⟨by omega, hdec⟩
                  clear hdec hx hbx hov ct hacc hy
                  go_wp2_with (first
                            | (go_at_call 20; ((with_reducible refine (CD.out _).mono ?_); rintro e w' ⟨rfl, rfl⟩))
                            | (go_at_call 35; ((with_reducible refine (CT.out _).mono ?_); rintro e w' ⟨rfl, rfl⟩)))
                  go_round
                  case rel => exact ⟨k + 1, y, rfl, by go_num, by omega, HN⟩
                  case measure => simp [intOf]; omega
            · rw [if_neg hl] at hxr
              have hd2 : 16 ≤ x := by omega
              rw [if_pos hd2] at hdec
              have HD : Bx (refV (numR l0) = .tuple #[.int .u64 0, .bool false]) := ⟨by rw [HR.out, hdec]; rfl⟩
              have hn2 : n < 97 ∨ 103 ≤ n := by omega
              clear hdec hxr hdd hnd hd2 hl hacc
              rcases hn2 with h97 | h97
              · go_wp2_with (first
                    | (go_at_call 20; ((with_reducible refine (CD.out _).mono ?_); rintro e w' ⟨rfl, rfl⟩))
                    | (go_at_call 35; ((with_reducible refine (CT.out _).mono ?_); rintro e w' ⟨rfl, rfl⟩)))
                all_goals go_ret2
                all_goals (rw [HD.out]; exact ⟨rfl, rfl⟩)
              · go_wp2_with (first
                    | (go_at_call 20; ((with_reducible refine (CD.out _).mono ?_); rintro e w' ⟨rfl, rfl⟩))
                    | (go_at_call 35; ((with_reducible refine (CT.out _).mono ?_); rintro e w' ⟨rfl, rfl⟩)))
                all_goals go_ret2
                all_goals (rw [HD.out]; exact ⟨rfl, rfl⟩)
          · have hd2 := hdd.1 rfl
            rw [if_pos rfl] at hxr
            obtain ⟨h48, h57⟩ := hd2
            have hx := hxr
            clear hxr hdd
            by_cases hbx : 16 ≤ x
            · rw [if_pos hbx] at hdec
              have HD : Bx (refV (numR l0) = .tuple #[.int .u64 0, .bool false]) := ⟨by rw [HR.out, hdec]; rfl⟩
              have ix : (16 : Int) ≤ ((n : Int) - 48) := by omega
              clear hdec hx hbx
              go_wp2_with (first
                          | (go_at_call 20; ((with_reducible refine (CD.out _).mono ?_); rintro e w' ⟨rfl, rfl⟩))
                          | (go_at_call 35; ((with_reducible refine (CT.out _).mono ?_); rintro e w' ⟨rfl, rfl⟩)))
              all_goals go_ret2
              all_goals (rw [HD.out]; exact ⟨rfl, rfl⟩)
            · rw [if_neg hbx] at hdec
              have ix : ((n : Int) - 48) < (16 : Int) := by omega
              have ct := fun W => times_any acc 16 x hacc (by decide) (by omega) W
              rw [show ((x : Nat) : Int) = ((n : Int) - 48) by omega] at ct
              simp only [show ((16 : Nat) : Int) = 16 from rfl] at ct
              by_cases hov : 18446744073709551616 ≤ acc * 16 + x
              · rw [if_pos hov] at hdec
                rw [show timV acc 16 x = .tuple #[.int .u64 0, .bool false] by unfold timV; rw [if_neg (by omega)]] at ct
                have HD : Bx (refV (numR l0) = .tuple #[.int .u64 0, .bool false]) := ⟨by rw [HR.out, hdec]; rfl⟩
                have CT := Bx.mk ct
                clear hdec hx hbx hov ct hacc
                go_wp2_with (first
                          | (go_at_call 20; ((with_reducible refine (CD.out _).mono ?_); rintro e w' ⟨rfl, rfl⟩))
                          | (go_at_call 35; ((with_reducible refine (CT.out _).mono ?_); rintro e w' ⟨rfl, rfl⟩)))
                all_goals go_ret2
                all_goals (rw [HD.out]; exact ⟨rfl, rfl⟩)
              · rw [if_neg hov] at hdec
                obtain ⟨y, hy⟩ : ∃ y, y = acc * 16 + x := ⟨_, rfl⟩
                rw [← hy] at hdec hov
                rw [show timV acc 16 x = .tuple #[.int .u64 (y : Nat), .bool true] by unfold timV; rw [if_pos (by omega), hy, Nat.mul_comm acc, Nat.add_comm]] at ct
                have CT := Bx.mk ct
                have HN : Bx (y < 18446744073709551616 ∧ pu 16 0 l = pu 16 y (l.drop (k + 1))) := ⟨by omega, hdec⟩
                clear hdec hx hbx hov ct hacc hy
                go_wp2_with (first
                          | (go_at_call 20; ((with_reducible refine (CD.out _).mono ?_); rintro e w' ⟨rfl, rfl⟩))
                          | (go_at_call 35; ((with_reducible refine (CT.out _).mono ?_); rintro e w' ⟨rfl, rfl⟩)))
                go_round
                case rel => exact ⟨k + 1, y, rfl, by go_num, by omega, HN⟩
                case measure => simp [intOf]; omega
        · obtain rfl : k = S.size := by omega
          rw [List.drop_eq_nil_of_le (by rw [← HS.out, by_size]; exact Nat.le_refl _)] at hdec
          have HD : Bx (refV (numR l0) = .tuple #[.int .u64 (acc : Nat), .bool true]) := ⟨by rw [HR.out, hdec]; rfl⟩
          clear hdec hacc
          go_wp2
          go_ret2
          rw [HD.out]
          exact ⟨rfl, rfl⟩
  · have hR : numR l0 = puX 10 l0 := by unfold numR; rw [if_neg hp]
    by_cases h0 : T.size = 0
    · have hln : l0 = [] := List.length_eq_zero_iff.1 (by rw [hl0, by_size]; exact h0)
      have HD : Bx (refV (numR l0) = .tuple #[.int .u64 0, .bool false]) := ⟨by rw [hR, hln]; rfl⟩
      clear hR hln hp hA hl0
      go_enter Tryd.func21, Tryd.ntmps21
      go_wp2
      go_ret2
      rw [HD.out]
      exact ⟨rfl, rfl⟩
    · have hpos : 0 < T.size := by omega
      have hq : ((T.size : Int) == 0) = false := by rw [beq_eq_false_iff_ne]; omega
      obtain ⟨l, hl⟩ : ∃ l, l = l0 := ⟨_, rfl⟩
      have HR : Bx (numR l0 = pu 10 0 l) := ⟨by
        rw [hR, hl]; unfold puX
        rw [if_neg (fun e => h0 (by rw [← by_size, ← hl0, e]; rfl))]⟩
      have HS : Bx (by' T = l) := ⟨by rw [hl, hl0]⟩
      have HA : Bx (∀ c ∈ l, isA c = true) := ⟨fun c h => hA c (by rw [← hl0, ← hl]; exact h)⟩
      have hway : T.size ≤ 1 ∨ (2 ≤ T.size ∧ ∃ n : Nat, ((n : Int) == 48) = false ∧ ∀ W, (Instr.index 9 (.string T) (.int .i64 0)).run Tryd.prog W = .ok (.int .u8 (n : Nat)) W) ∨ (2 ≤ T.size ∧ (∀ W, (Instr.index 9 (.string T) (.int .i64 0)).run Tryd.prog W = .ok (.int .u8 48) W) ∧ ∃ n : Nat, ((n : Int) == 120) = false ∧ ∀ W, (Instr.index 9 (.string T) (.int .i64 1)).run Tryd.prog W = .ok (.int .u8 (n : Nat)) W) := by
        by_cases h1 : T.size ≤ 1
        · exact .inl h1
        · refine .inr ?_
          have e0 := fun W => str_at (i := 0) (show 0 < T.size by omega) W
          have e1 := fun W => str_at (i := 1) (show 1 < T.size by omega) W
          rw [← hl0] at e0 e1
          match l0, hp, (show 2 ≤ l0.length by rw [hl0, by_size]; omega), e0, e1 with
          | a :: b :: r, hp, _, e0, e1 =>
            by_cases ha : a.toNat = 48
            · have hpre : b.toNat = 120 → ([48, 120] : List UInt8).isPrefixOf (a :: b :: r) = true := fun hb => by
                have ea : a = 48 := UInt8.toNat_inj.1 ha
                have eb : b = 120 := UInt8.toNat_inj.1 hb
                subst ea eb
                simp [List.isPrefixOf]
              refine .inr ⟨by omega, fun W => by have := e0 W; rw [show (a :: b :: r).getD 0 0 = a from rfl, ha] at this; exact this, b.toNat, (by rw [beq_eq_false_iff_ne]; exact fun hb => hp (hpre (by omega))), fun W => e1 W⟩
            · exact .inl ⟨by omega, a.toNat, (by rw [beq_eq_false_iff_ne]; omega), fun W => e0 W⟩
      clear hR hp hA hl0 h0 hl
      obtain ⟨S, hS⟩ : ∃ S, S = T := ⟨_, rfl⟩
      subst hS
      rcases hway with h1 | ⟨h2, n0, hn, hix0⟩ | ⟨h2, hix0, n0, hn, hix1⟩
      all_goals
        go_enter Tryd.func21, Tryd.ntmps21
        go_wp2
        go_loop [5, 6] (fun vn vi => ∃ k acc : Nat, vn = .int .u64 (acc : Nat) ∧ vi = .int .i64 (k : Int) ∧ k ≤ S.size ∧ Bx (acc < 18446744073709551616 ∧ pu 10 0 l = pu 10 acc (l.drop k))) (fun _ vi => S.size - (intOf vi).toNat)
        case atStart => exact ⟨0, 0, rfl, rfl, by omega, ⟨by decide, rfl⟩⟩
        case round =>
          obtain ⟨k, acc, rfl, rfl, hk, hh⟩ := hrel
          obtain ⟨hacc, hdec⟩ := hh.out
          clear hh
          by_cases hkn : k < S.size
          · have hix := fun W => str_at hkn W
            rw [HS.out] at hix
            obtain ⟨c, hc⟩ : ∃ c, l[k]? = some c := ⟨_, List.getElem?_eq_getElem (show k < l.length by rw [← HS.out, by_size]; exact hkn)⟩
            have hA := HA.out c (List.mem_of_getElem? hc)
            have hg : l.getD k 0 = c := by simp [List.getD, hc]
            rw [hg] at hix
            rw [dropAt hc, pu] at hdec
            have hds := dig_same hA 10 (by decide)
            have cd := fun W => rdigit_any c W
            have hxr : digR c = if isD c then c.toNat - 48 else if 97 ≤ c.toNat ∧ c.toNat ≤ 102 then c.toNat - 87 else 16 := rfl
            have hdd : isD c = true ↔ 48 ≤ c.toNat ∧ c.toNat ≤ 57 := by simp [isD]
            have hc256 : c.toNat < 256 := c.toNat_lt
            have CD := Bx.mk cd
            have e1 : (if 10 ≤ digP c then ((2, 0) : Nat × Nat) else if 18446744073709551616 ≤ acc * 10 + digP c then (1, 18446744073709551615) else pu 10 (acc * 10 + digP c) (l.drop (k + 1))) = if 10 ≤ digR c then (2, 0) else if 18446744073709551616 ≤ acc * 10 + digR c then (1, 18446744073709551615) else pu 10 (acc * 10 + digR c) (l.drop (k + 1)) := by
              by_cases h : 10 ≤ digR c
              · rw [if_pos h, if_pos (hds.1.2 h)]
              · rw [if_neg h, if_neg (fun h2 => h (hds.1.1 h2)), hds.2 (by omega)]
            rw [e1] at hdec
            clear cd hc hg hds e1 hA
            generalize digR c = x at *
            generalize isD c = f at *
            generalize c.toNat = n at *
            cases f
            · have hnd : ¬ (48 ≤ n ∧ n ≤ 57) := fun h => by have := hdd.2 h; cases this
              rw [if_neg (by decide)] at hxr
              by_cases hl : 97 ≤ n ∧ n ≤ 102
              · rw [if_pos hl] at hxr
                obtain ⟨h97, h102⟩ := hl
                have hx := hxr
                clear hxr hdd hnd
                by_cases hbx : 10 ≤ x
                · rw [if_pos hbx] at hdec
                  have HD : Bx (refV (numR l0) = .tuple #[.int .u64 0, .bool false]) := ⟨by rw [HR.out, hdec]; rfl⟩
                  have ix : (10 : Int) ≤ ((n : Int) - 87) := by omega
                  clear hdec hx hbx
                  go_wp2_with (first
                              | (go_at_call 20; ((with_reducible refine (CD.out _).mono ?_); rintro e w' ⟨rfl, rfl⟩))
                              | (go_at_call 35; ((with_reducible refine (CT.out _).mono ?_); rintro e w' ⟨rfl, rfl⟩)))
                  all_goals go_ret2
                  all_goals (rw [HD.out]; exact ⟨rfl, rfl⟩)
                · exfalso; omega
              · rw [if_neg hl] at hxr
                have hd2 : 10 ≤ x := by omega
                rw [if_pos hd2] at hdec
                have HD : Bx (refV (numR l0) = .tuple #[.int .u64 0, .bool false]) := ⟨by rw [HR.out, hdec]; rfl⟩
                have hn2 : n < 97 ∨ 103 ≤ n := by omega
                clear hdec hxr hdd hnd hd2 hl hacc
                rcases hn2 with h97 | h97
                · go_wp2_with (first
                      | (go_at_call 20; ((with_reducible refine (CD.out _).mono ?_); rintro e w' ⟨rfl, rfl⟩))
                      | (go_at_call 35; ((with_reducible refine (CT.out _).mono ?_); rintro e w' ⟨rfl, rfl⟩)))
                  all_goals go_ret2
                  all_goals (rw [HD.out]; exact ⟨rfl, rfl⟩)
                · go_wp2_with (first
                      | (go_at_call 20; ((with_reducible refine (CD.out _).mono ?_); rintro e w' ⟨rfl, rfl⟩))
                      | (go_at_call 35; ((with_reducible refine (CT.out _).mono ?_); rintro e w' ⟨rfl, rfl⟩)))
                  all_goals go_ret2
                  all_goals (rw [HD.out]; exact ⟨rfl, rfl⟩)
            · have hd2 := hdd.1 rfl
              rw [if_pos rfl] at hxr
              obtain ⟨h48, h57⟩ := hd2
              have hx := hxr
              clear hxr hdd
              by_cases hbx : 10 ≤ x
              · rw [if_pos hbx] at hdec
                have HD : Bx (refV (numR l0) = .tuple #[.int .u64 0, .bool false]) := ⟨by rw [HR.out, hdec]; rfl⟩
                have ix : (10 : Int) ≤ ((n : Int) - 48) := by omega
                clear hdec hx hbx
                go_wp2_with (first
                            | (go_at_call 20; ((with_reducible refine (CD.out _).mono ?_); rintro e w' ⟨rfl, rfl⟩))
                            | (go_at_call 35; ((with_reducible refine (CT.out _).mono ?_); rintro e w' ⟨rfl, rfl⟩)))
                all_goals go_ret2
                all_goals (rw [HD.out]; exact ⟨rfl, rfl⟩)
              · rw [if_neg hbx] at hdec
                have ix : ((n : Int) - 48) < (10 : Int) := by omega
                have ct := fun W => times_any acc 10 x hacc (by decide) (by omega) W
                rw [show ((x : Nat) : Int) = ((n : Int) - 48) by omega] at ct
                simp only [show ((10 : Nat) : Int) = 10 from rfl] at ct
                by_cases hov : 18446744073709551616 ≤ acc * 10 + x
                · rw [if_pos hov] at hdec
                  rw [show timV acc 10 x = .tuple #[.int .u64 0, .bool false] by unfold timV; rw [if_neg (by omega)]] at ct
                  have HD : Bx (refV (numR l0) = .tuple #[.int .u64 0, .bool false]) := ⟨by rw [HR.out, hdec]; rfl⟩
                  have CT := Bx.mk ct
                  clear hdec hx hbx hov ct hacc
                  go_wp2_with (first
                            | (go_at_call 20; ((with_reducible refine (CD.out _).mono ?_); rintro e w' ⟨rfl, rfl⟩))
                            | (go_at_call 35; ((with_reducible refine (CT.out _).mono ?_); rintro e w' ⟨rfl, rfl⟩)))
                  all_goals go_ret2
                  all_goals (rw [HD.out]; exact ⟨rfl, rfl⟩)
                · rw [if_neg hov] at hdec
                  obtain ⟨y, hy⟩ : ∃ y, y = acc * 10 + x := ⟨_, rfl⟩
                  rw [← hy] at hdec hov
                  rw [show timV acc 10 x = .tuple #[.int .u64 (y : Nat), .bool true] by unfold timV; rw [if_pos (by omega), hy, Nat.mul_comm acc, Nat.add_comm]] at ct
                  have CT := Bx.mk ct
                  have HN : Bx (y < 18446744073709551616 ∧ pu 10 0 l = pu 10 y (l.drop (k + 1))) := ⟨by omega, hdec⟩
                  clear hdec hx hbx hov ct hacc hy
                  go_wp2_with (first
                            | (go_at_call 20; ((with_reducible refine (CD.out _).mono ?_); rintro e w' ⟨rfl, rfl⟩))
                            | (go_at_call 35; ((with_reducible refine (CT.out _).mono ?_); rintro e w' ⟨rfl, rfl⟩)))
                  go_round
                  case rel => exact ⟨k + 1, y, rfl, by go_num, by omega, HN⟩
                  case measure => simp [intOf]; omega
          · obtain rfl : k = S.size := by omega
            rw [List.drop_eq_nil_of_le (by rw [← HS.out, by_size]; exact Nat.le_refl _)] at hdec
            have HD : Bx (refV (numR l0) = .tuple #[.int .u64 (acc : Nat), .bool true]) := ⟨by rw [HR.out, hdec]; rfl⟩
            clear hdec hacc
            go_wp2
            go_ret2
            rw [HD.out]
            exact ⟨rfl, rfl⟩
end Go.Proofs.YtmgipjkdeoelgaaDoor
