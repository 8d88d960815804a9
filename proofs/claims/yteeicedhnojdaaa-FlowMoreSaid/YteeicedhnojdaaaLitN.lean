/- Contracts of litmus: Name. -/
import Derived.Test.YteeicedhnojdaaaLexM
import Derived.Test.YteeicedhnojdaaaLitC
namespace Go.Proofs.Yteeicedhnojdaaa
set_option maxRecDepth 100000
open Go.RowKit

/-- may it be the name of a location? -/
def nameM (l : List UInt8) : Bool := decide (1 ≤ l.length) && decide (l.length ≤ 16) && isL (l.getD 0 0) && l.all isA && !(decide (l.length = 2) && decide (l.getD 0 0 = 114) && isD (l.getD 1 0))

theorem letter8_any (c : UInt8) (w : World) :
    Calls Try.prog 60 #[.int .u8 (c.toNat : Nat)] w fun e w' => e = .returned (.bool (isL c)) ∧ w = w' := by
  unfold isL
  have hc := c.toNat_lt
  generalize c.toNat = n at *
  go_enter Try.func60, Try.ntmps60
  go_wp2
  · go_ret
    have h : 97 ≤ n := by omega
    exact ⟨by simp [h]; omega, rfl⟩
  · go_ret
    have h : ¬ 97 ≤ n := by omega
    exact ⟨by simp [h], rfl⟩
theorem digit8_any (c : UInt8) (w : World) :
    Calls Try.prog 61 #[.int .u8 (c.toNat : Nat)] w fun e w' => e = .returned (.bool (isD c)) ∧ w = w' := by
  unfold isD
  have hc := c.toNat_lt
  generalize c.toNat = n at *
  go_enter Try.func61, Try.ntmps61
  go_wp2
  · go_ret
    have h : 48 ≤ n := by omega
    exact ⟨by simp [h]; omega, rfl⟩
  · go_ret
    have h : ¬ 48 ≤ n := by omega
    exact ⟨by simp [h], rfl⟩
theorem sAt {T : ByteArray} {i : Nat} (h : i < T.size) (w : World) : (Instr.index 9 (.string T) (.int .i64 (i : Int))).run Try.prog w = .ok (.int .u8 (((by' T).getD i 0).toNat : Nat)) w := by
  have e : (by' T).getD i 0 = T[i]'h := by
    have h' : i < T.data.size := h
    simp [by', List.getD, ByteArray.getElem_eq_getElem_data, Array.getElem?_eq_getElem h']
  rw [e]
  simp [Instr.index, run_underlying Try.underlying9, asIntOf, go_sem, h]
theorem all_drop {p : UInt8 → Bool} {l : List UInt8} {k : Nat} {c : UInt8} (h : l[k]? = some c) : (l.drop k).all p = (p c && (l.drop (k + 1)).all p) := by
  obtain ⟨h', rfl⟩ := List.getElem?_eq_some_iff.1 h
  rw [List.drop_eq_getElem_cons h', List.all_cons]

set_option maxHeartbeats 3200000 in
theorem name_any (T : ByteArray) (hT : T.size ≤ 1000000000) (w : World) :
    Calls Try.prog 42 #[.string T] w fun e w' => e = .returned (.bool (nameM (by' T))) ∧ w = w' := by
  obtain ⟨l, hl⟩ : ∃ l, l = by' T := ⟨_, rfl⟩
  have hll : l.length = T.size := by rw [hl, by_size]
  rw [← hl]
  have HS : Bx (by' T = l) := ⟨hl.symm⟩
  clear hl
  by_cases h0 : T.size = 0
  · have e : nameM l = false := by unfold nameM; rw [hll, h0]; rfl
    rw [e]
    have hT2 : T = ⟨#[]⟩ := by
      rw [← st_by T, HS.out, List.length_eq_zero_iff.1 (hll.trans h0)]; rfl
    subst hT2
    go_enter Try.func42, Try.ntmps42
    go_wp2
    go_ret
    exact ⟨rfl, rfl⟩
  have hemp : T.toList.isEmpty = false := by
    rw [Lib.toList_data]
    show (by' T).isEmpty = false
    rw [HS.out]
    cases h : l with
    | nil => rw [h] at hll; exact absurd hll.symm h0
    | cons _ _ => rfl
  by_cases hbig : 16 < T.size
  · have e : nameM l = false := by
      unfold nameM
      have : decide (l.length ≤ 16) = false := by simp; omega
      rw [this]; simp
    rw [e]
    go_enter Try.func42, Try.ntmps42
    go_wp2
    go_ret
    exact ⟨rfl, rfl⟩
  have hpos : 0 < T.size := by omega
  have hix0 : ∀ W, (Instr.index 9 (.string T) (.int .i64 0)).run Try.prog W = .ok (.int .u8 ((l.getD 0 0).toNat : Nat)) W := fun W => by
    have e := sAt (i := 0) hpos W
    rw [HS.out] at e; exact e
  have CL0 := Bx.mk (fun W => letter8_any (l.getD 0 0) W)
  have hnm : nameM l = (isL (l.getD 0 0) && l.all isA && !(decide (l.length = 2) && decide (l.getD 0 0 = 114) && isD (l.getD 1 0))) := by
    unfold nameM
    have h1 : decide (1 ≤ l.length) = true := by simp; omega
    have h2 : decide (l.length ≤ 16) = true := by simp; omega
    rw [h1, h2]; simp
  have h114 : decide (l.getD 0 0 = 114) = (((l.getD 0 0).toNat : Int) == 114) := by
    by_cases h : l.getD 0 0 = 114
    · rw [h]; rfl
    · have h2 : (((l.getD 0 0).toNat : Int) == 114) = false := by
        rw [beq_eq_false_iff_ne]; exact fun e => h (UInt8.toNat_inj.1 (by show (l.getD 0 0).toNat = 114; omega))
      rw [h2, decide_eq_false h]
  cases hL0 : isL (l.getD 0 0)
  · rw [hL0] at hnm CL0
    rw [hnm]
    clear hnm h114 hL0
    generalize (l.getD 0 0).toNat = n0 at *
    go_enter Try.func42, Try.ntmps42
    go_wp2_with (go_at_call 60; ((with_reducible refine (CL0.out _).mono ?_); rintro e w' ⟨rfl, rfl⟩))
    go_ret
    exact ⟨rfl, rfl⟩
  · rw [hL0, Bool.true_and] at hnm
    rw [hL0] at CL0
    have HN := Bx.mk hnm; have H114 := Bx.mk h114; have HLL := Bx.mk hll
    have hix1 : 2 ≤ T.size → ∀ W, (Instr.index 9 (.string T) (.int .i64 1)).run Try.prog W = .ok (.int .u8 ((l.getD 1 0).toNat : Nat)) W := fun h W => by
      have e := sAt (i := 1) (show 1 < T.size by omega) W
      rw [HS.out] at e; exact e
    have CD1 := Bx.mk (fun W => digit8_any (l.getD 1 0) W)
    have HX1 := Bx.mk hix1
    clear hnm h114 hL0 hix1 hll
    generalize hn0 : (l.getD 0 0).toNat = n0 at *
    have HN0 := Bx.mk hn0; clear hn0
    go_enter Try.func42, Try.ntmps42
    go_wp2_with (go_at_call 60; ((with_reducible refine (CL0.out _).mono ?_); rintro e w' ⟨rfl, rfl⟩))
    go_loop [20] (fun i => ∃ k : Nat, i = .int .i64 (k : Int) ∧ k ≤ T.size ∧ Bx (l.all isA = (l.drop k).all isA)) (fun i => T.size - (intOf i).toNat)
    case atStart => exact ⟨0, rfl, by omega, ⟨rfl⟩⟩
    case round =>
      obtain ⟨k, rfl, hk, hall⟩ := hrel
      by_cases hkn : k < T.size
      · have hix := fun W => sAt hkn W
        obtain ⟨c, hc⟩ : ∃ c, l[k]? = some c := ⟨_, List.getElem?_eq_getElem (show k < l.length by rw [HLL.out]; exact hkn)⟩
        have hg : l.getD k 0 = c := by simp [List.getD, hc]
        rw [HS.out, hg] at hix
        have e := hall.out
        rw [all_drop hc] at e
        have CL := Bx.mk (fun W => letter8_any c W)
        have CD := Bx.mk (fun W => digit8_any c W)
        have hor : isA c = (isL c || isD c) := rfl
        cases h1 : isL c <;> cases h2 : isD c
        all_goals
          rw [h1] at CL
          rw [h2] at CD
          rw [hor, h1, h2] at e
          simp only [Bool.or_true, Bool.or_false, Bool.true_and, Bool.false_and] at e
          have E := Bx.mk e
          clear e hor h1 h2 hc hg hall
          generalize c.toNat = n at *
          go_wp2_with (first
            | (go_at_call 60; ((with_reducible refine (CL.out _).mono ?_); rintro e w' ⟨rfl, rfl⟩))
            | (go_at_call 61; ((with_reducible refine (CD.out _).mono ?_); rintro e w' ⟨rfl, rfl⟩)))
        · go_ret
          rw [HN.out, E.out]
          exact ⟨rfl, rfl⟩
        all_goals
          go_round
          case rel => exact ⟨k + 1, by go_num, by omega, E⟩
          case measure => simp [intOf] <;> omega
      · obtain rfl : k = T.size := by omega
        have e : l.all isA = true := by rw [hall.out, List.drop_eq_nil_of_le (by rw [HLL.out]; exact Nat.le_refl _)]; rfl
        have hnm := HN.out
        rw [e, Bool.true_and, HLL.out, H114.out] at hnm
        clear e hall
        by_cases h2 : T.size = 2
        · have hx := HX1.out (by omega)
          rw [decide_eq_true h2, Bool.true_and] at hnm
          generalize isD (l.getD 1 0) = d1 at *
          generalize (l.getD 1 0).toNat = n1 at *
          cases h3 : ((n0 : Int) == 114)
          · rw [h3] at hnm
            have HNM := Bx.mk hnm
            clear hnm
            go_wp2
            go_ret
            rw [HNM.out]
            exact ⟨rfl, rfl⟩
          · rw [h3] at hnm
            have HNM := Bx.mk hnm
            clear hnm
            go_wp2_with (go_at_call 61; ((with_reducible refine (CD1.out _).mono ?_); rintro e w' ⟨rfl, rfl⟩))
            go_ret
            rw [HNM.out]
            exact ⟨by simp, rfl⟩
        · rw [decide_eq_false h2] at hnm
          have HNM := Bx.mk hnm
          clear hnm
          go_wp2
          go_ret
          rw [HNM.out]
          exact ⟨rfl, rfl⟩
end Go.Proofs.Yteeicedhnojdaaa
