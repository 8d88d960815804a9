/- Contracts of lex: letters, digits, and the library's numbers. -/
import Derived.Test.YtdffpbfllekcgaaGreatDoorHy
import Derived.Test.YtdffpbfllekcgaaGreatDoorShelf
import Derived.Shelf.Strings.SlTrimAscii
import Derived.PlainAid
import Derived.Laws.BitsAllLaws
namespace Go.Proofs.YtdffpbfllekcgaaGreatDoor
set_option maxRecDepth 100000
open Go.RowKit

theorem or8 (n : Nat) (h : n < 256) : bits .or .u8 (n : Int) 32 = ((n ||| 32 : Nat) : Int) := u8_or_nat n 32 h (by decide)
theorem or8_lt (n : Nat) (h : n < 256) : n ||| 32 < 256 := Nat.or_lt_two_pow (n := 8) (by omega) (by decide)

/-- what ParseUint within hands back -/
def puV (r : Nat × Nat) : Value := if r.1 = 0 then .tuple #[.int .u64 (r.2 : Nat), .nilIface] else .tuple #[.int .u64 (r.2 : Nat), .iface 144 (.int .i64 (r.1 : Nat))]

theorem lower_any (n : Nat) (h : n < 256) (w : World) :
    Calls Tryz.prog 98 #[.int .u8 (n : Nat)] w fun e w' => e = .returned (.int .u8 ((n ||| 32 : Nat) : Int)) ∧ w = w' := by
  have c := Tryz.internal_strconv_lower (n : Int) w
  rw [or8 n h] at c
  exact c.mono fun e w' ⟨h1, h2⟩ => ⟨h1, h2.symm⟩

theorem puV_ok (v : Nat) : puV (0, v) = .tuple #[.int .u64 (v : Nat), .nilIface] := rfl
theorem puV_syn : puV (2, 0) = .tuple #[.int .u64 0, .iface 144 (.int .i64 2)] := rfl
theorem puV_rng : puV (1, 18446744073709551615) = .tuple #[.int .u64 18446744073709551615, .iface 144 (.int .i64 1)] := rfl

set_option maxHeartbeats 4000000 in
theorem iparse_any (b : Nat) (hb : b = 10 ∨ b = 16) (t : ByteArray) (ht : t.size ≤ 1000000) (w : World) :
    Calls Tryz.prog 65 #[.string t, .int .i64 (b : Nat), .int .i64 64] w fun e w' => e = .returned (puV (puX b (by' t))) ∧ Below w.heap.size w w' := by
  by_cases h0 : t.size = 0
  · have ht : t = ⟨#[]⟩ := by
      have e := st_by t
      have h : by' t = [] := List.length_eq_zero_iff.1 (by rw [by_size]; exact h0)
      rw [← e, h]; rfl
    subst ht
    have e : puX b (by' ⟨#[]⟩) = (2, 0) := rfl
    rw [e, puV_syn]
    go_enter Tryz.func65, Tryz.ntmps65
    go_wp2
    go_ret2
    exact ⟨rfl, Below.refl _ _⟩
  have hne : by' t ≠ [] := fun h => h0 (by rw [← by_size, h]; rfl)
  have hpx : puX b (by' t) = pu b 0 (by' t) := by unfold puX; rw [if_neg hne]
  rw [hpx]
  have hemp : t.toList.isEmpty = false := by
    rw [Lib.toList_data]
    show (by' t).isEmpty = false
    cases h : by' t with
    | nil => exact absurd h hne
    | cons _ _ => rfl
  have hcv := Lib.run_convert_string_bytes (P := Tryz.prog) w 9 52 5 t Tryz.underlying9 Tryz.underlying52 Tryz.underlying5
  have hB : ∀ j, j < t.size → (Lib.bytesWorld w 5 t).cell? ⟨w.heap.size, j, none⟩ = some (.int .u8 (((by' t).getD j 0).toNat : Nat)) := fun j hj => Lib.bytesWorld_cell w 5 t j hj
  have hbel : Below w.heap.size w (Lib.bytesWorld w 5 t) := ⟨rfl, rfl, rfl, by rw [Lib.bytesWorld_size]; omega, fun k hk => Lib.bytesWorld_at_old w _ t k hk⟩
  obtain ⟨W1, hW1⟩ : ∃ W1, W1 = Lib.bytesWorld w 5 t := ⟨_, rfl⟩
  rw [← hW1] at hcv hB hbel
  clear hW1
  obtain ⟨l, hl⟩ : ∃ l, l = by' t := ⟨_, rfl⟩
  have hln : l.length = t.size := by rw [hl, by_size]
  rw [← hl] at hB ⊢
  have HB := Bx.mk hbel; have BB := Bx.mk hB
  clear hl hne hpx hbel hB
  have hmv : IntKind.u64.wrap (IntKind.u64.wrap 18446744073709551616 - 1) = 18446744073709551615 := by
    rw [IntKind.wrap_u64, IntKind.wrap_u64]; decide
  have main : ∀ cut : Int, (b = 10 ∧ cut = 1844674407370955162 ∨ b = 16 ∧ cut = 1152921504606846976) →
      Calls Tryz.prog 65 #[.string t, .int .i64 (b : Nat), .int .i64 64] w fun e w' => e = .returned (puV (pu b 0 l)) ∧ Below w.heap.size w w' := by
    intro cut hcut
    rcases hcut with ⟨rfl, rfl⟩ | ⟨rfl, rfl⟩
    · go_enter Tryz.func65, Tryz.ntmps65
      go_wp2
      go_loop [12, 13, 101] (fun vu vn vi => ∃ (k acc : Nat) (a : Int), vu = .bool false ∧ vn = .int .u64 a ∧ vi = .int .i64 (k : Int) ∧ k ≤ t.size ∧ Bx (a = (acc : Int) ∧ acc < 18446744073709551616 ∧ pu 10 0 l = pu 10 acc (l.drop k)))
        (fun _ _ vi => t.size - (intOf vi).toNat)
      case atStart => exact ⟨0, 0, 0, rfl, rfl, rfl, by omega, ⟨rfl, by omega, rfl⟩⟩
      case round =>
        obtain ⟨k, acc, a, rfl, rfl, rfl, hk, hh⟩ := hrel
        obtain ⟨ha, hacc, hdec⟩ := hh.out
        clear hh
        have a0 : 0 ≤ a := by omega
        have a1 : a < 18446744073709551616 := by omega
        by_cases hkn : k < t.size
        · have hc := BB.out k hkn
          have hdrop : l.drop k = l[k]'(by omega) :: l.drop (k + 1) := List.drop_eq_getElem_cons (by omega)
          have hget : l.getD k 0 = l[k]'(by omega) := by simp [List.getD, List.getElem?_eq_getElem (show k < l.length by omega)]
          rw [hdrop] at hdec
          rw [hget] at hc
          obtain ⟨c, hcc⟩ : ∃ c, c = l[k]'(by omega) := ⟨_, rfl⟩
          rw [← hcc] at hc hdec
          have hc256 : c.toNat < 256 := c.toNat_lt
          clear hcc hdrop hget
          rw [pu] at hdec
          have hx : digP c = if 48 ≤ c.toNat ∧ c.toNat ≤ 57 then c.toNat - 48 else if 97 ≤ c.toNat ||| 32 ∧ c.toNat ||| 32 ≤ 122 then (c.toNat ||| 32) - 87 else 99 := rfl
          have LOW := Bx.mk (fun W => lower_any c.toNat hc256 W)
          have ho := or8_lt c.toNat hc256
          have h95 : c.toNat = 95 → c.toNat ||| 32 = 127 := fun e => by rw [e]; decide
          generalize c.toNat = n at *
          generalize n ||| 32 = o at *
          generalize digP c = x at *
          by_cases hdig : 48 ≤ n ∧ n ≤ 57
          · obtain ⟨hd0, hd1⟩ := hdig
            rw [if_pos ⟨hd0, hd1⟩] at hx
            rw [if_neg (show ¬ 10 ≤ x by omega)] at hdec
            by_cases hcut : 1844674407370955162 ≤ acc
            · rw [if_pos (show 18446744073709551616 ≤ acc * 10 + x by omega)] at hdec
              have icut : 1844674407370955162 ≤ a := by omega
              have HD := Bx.mk hdec
              clear hcut hacc ha hdec hx
              go_wp2_with (go_at_call 98; ((with_reducible refine (LOW.out _).mono ?_); rintro e w' ⟨rfl, rfl⟩))
              all_goals go_ret2
              all_goals (rw [HD.out]; exact ⟨rfl, HB.out⟩)
            · by_cases hov : 18446744073709551616 ≤ acc * 10 + x
              · rw [if_pos hov] at hdec
                have icut : a < 1844674407370955162 := by omega
                have iov : 18446744073709551616 ≤ a * 10 + ((n : Int) - 48) := by omega
                have hwr : IntKind.u64.wrap (a * 10 + ((n : Int) - 48)) = a * 10 + ((n : Int) - 48) - 18446744073709551616 := by
                  rw [IntKind.wrap_u64]; omega
                have HD := Bx.mk hdec
                clear hcut hacc hov ha hdec hx
                go_wp2_with (go_at_call 98; ((with_reducible refine (LOW.out _).mono ?_); rintro e w' ⟨rfl, rfl⟩))
                all_goals go_ret2
                all_goals (rw [HD.out]; exact ⟨rfl, HB.out⟩)
              · rw [if_neg hov] at hdec
                have HN : Bx (a * 10 + ((n : Int) - 48) = ((acc * 10 + x : Nat) : Int) ∧ acc * 10 + x < 18446744073709551616 ∧ pu 10 0 l = pu 10 (acc * 10 + x) (l.drop (k + 1))) := ⟨by omega, by omega, hdec⟩
                have icut : a < 1844674407370955162 := by omega
                have iov : a * 10 + ((n : Int) - 48) < 18446744073709551616 := by omega
                clear hcut hacc hov hdec ha hx
                go_wp2_with (go_at_call 98; ((with_reducible refine (LOW.out _).mono ?_); rintro e w' ⟨rfl, rfl⟩))
                all_goals refine ⟨⟨k + 1, acc * 10 + x, a * 10 + ((n : Int) - 48), rfl, (by first | rfl | (congr 1; omega)), (by first | rfl | (congr 1; omega)), by omega, HN⟩, by simp [intOf]; omega⟩
          · rw [if_neg hdig] at hx
            by_cases hu : n = 95
            · obtain rfl := h95 hu
              subst hu
              rw [if_neg (by decide)] at hx
              rw [if_pos (show 10 ≤ x by omega)] at hdec
              have HD := Bx.mk hdec
              have LOW2 : Bx (∀ W, Calls Tryz.prog 98 #[.int .u8 95] W fun e w' => e = .returned (.int .u8 127) ∧ W = w') := ⟨LOW.out⟩
              clear hacc ha hdec hx LOW h95
              go_wp2_with (go_at_call 98; ((with_reducible refine (LOW2.out _).mono ?_); rintro e w' ⟨rfl, rfl⟩))
              all_goals go_ret2
              all_goals (rw [HD.out]; exact ⟨rfl, HB.out⟩)
            clear h95
            by_cases hlet : 97 ≤ o ∧ o ≤ 122
            · obtain ⟨hd0, hd1⟩ := hlet
              rw [if_pos ⟨hd0, hd1⟩] at hx
              by_cases hbx : 10 ≤ x
              · rw [if_pos hbx] at hdec
                have hx2 : 10 + 87 ≤ o := by omega
                have HD := Bx.mk hdec
                clear hacc ha hdec hx hbx
                go_wp2_with (go_at_call 98; ((with_reducible refine (LOW.out _).mono ?_); rintro e w' ⟨rfl, rfl⟩))
                all_goals go_ret2
                all_goals (rw [HD.out]; exact ⟨rfl, HB.out⟩)
              · exfalso; omega
            · rw [if_neg hlet] at hx
              rw [if_pos (show 10 ≤ x by omega)] at hdec
              have HD := Bx.mk hdec
              clear hacc ha hdec hx
              go_wp2_with (go_at_call 98; ((with_reducible refine (LOW.out _).mono ?_); rintro e w' ⟨rfl, rfl⟩))
              all_goals go_ret2
              all_goals (rw [HD.out]; exact ⟨rfl, HB.out⟩)
        · have hkk : k = t.size := by omega
          subst hkk
          rw [List.drop_eq_nil_of_le (by omega)] at hdec
          subst ha
          have HD := Bx.mk hdec
          clear hacc hdec a0 a1
          go_wp2
          go_ret2
          rw [HD.out]
          exact ⟨rfl, HB.out⟩
    · go_enter Tryz.func65, Tryz.ntmps65
      go_wp2
      go_loop [12, 13, 101] (fun vu vn vi => ∃ (k acc : Nat) (a : Int), vu = .bool false ∧ vn = .int .u64 a ∧ vi = .int .i64 (k : Int) ∧ k ≤ t.size ∧ Bx (a = (acc : Int) ∧ acc < 18446744073709551616 ∧ pu 16 0 l = pu 16 acc (l.drop k)))
        (fun _ _ vi => t.size - (intOf vi).toNat)
      case atStart => exact ⟨0, 0, 0, rfl, rfl, rfl, by omega, ⟨rfl, by omega, rfl⟩⟩
      case round =>
        obtain ⟨k, acc, a, rfl, rfl, rfl, hk, hh⟩ := hrel
        obtain ⟨ha, hacc, hdec⟩ := hh.out
        clear hh
        have a0 : 0 ≤ a := by omega
        have a1 : a < 18446744073709551616 := by omega
        by_cases hkn : k < t.size
        · have hc := BB.out k hkn
          have hdrop : l.drop k = l[k]'(by omega) :: l.drop (k + 1) := List.drop_eq_getElem_cons (by omega)
          have hget : l.getD k 0 = l[k]'(by omega) := by simp [List.getD, List.getElem?_eq_getElem (show k < l.length by omega)]
          rw [hdrop] at hdec
          rw [hget] at hc
          obtain ⟨c, hcc⟩ : ∃ c, c = l[k]'(by omega) := ⟨_, rfl⟩
          rw [← hcc] at hc hdec
          have hc256 : c.toNat < 256 := c.toNat_lt
          clear hcc hdrop hget
          rw [pu] at hdec
          have hx : digP c = if 48 ≤ c.toNat ∧ c.toNat ≤ 57 then c.toNat - 48 else if 97 ≤ c.toNat ||| 32 ∧ c.toNat ||| 32 ≤ 122 then (c.toNat ||| 32) - 87 else 99 := rfl
          have LOW := Bx.mk (fun W => lower_any c.toNat hc256 W)
          have ho := or8_lt c.toNat hc256
          have h95 : c.toNat = 95 → c.toNat ||| 32 = 127 := fun e => by rw [e]; decide
          generalize c.toNat = n at *
          generalize n ||| 32 = o at *
          generalize digP c = x at *
          by_cases hdig : 48 ≤ n ∧ n ≤ 57
          · obtain ⟨hd0, hd1⟩ := hdig
            rw [if_pos ⟨hd0, hd1⟩] at hx
            rw [if_neg (show ¬ 16 ≤ x by omega)] at hdec
            by_cases hcut : 1152921504606846976 ≤ acc
            · rw [if_pos (show 18446744073709551616 ≤ acc * 16 + x by omega)] at hdec
              have icut : 1152921504606846976 ≤ a := by omega
              have HD := Bx.mk hdec
              clear hcut hacc ha hdec hx
              go_wp2_with (go_at_call 98; ((with_reducible refine (LOW.out _).mono ?_); rintro e w' ⟨rfl, rfl⟩))
              all_goals go_ret2
              all_goals (rw [HD.out]; exact ⟨rfl, HB.out⟩)
            · by_cases hov : 18446744073709551616 ≤ acc * 16 + x
              · rw [if_pos hov] at hdec
                have icut : a < 1152921504606846976 := by omega
                have iov : 18446744073709551616 ≤ a * 16 + ((n : Int) - 48) := by omega
                have hwr : IntKind.u64.wrap (a * 16 + ((n : Int) - 48)) = a * 16 + ((n : Int) - 48) - 18446744073709551616 := by
                  rw [IntKind.wrap_u64]; omega
                have HD := Bx.mk hdec
                clear hcut hacc hov ha hdec hx
                go_wp2_with (go_at_call 98; ((with_reducible refine (LOW.out _).mono ?_); rintro e w' ⟨rfl, rfl⟩))
                all_goals go_ret2
                all_goals (rw [HD.out]; exact ⟨rfl, HB.out⟩)
              · rw [if_neg hov] at hdec
                have HN : Bx (a * 16 + ((n : Int) - 48) = ((acc * 16 + x : Nat) : Int) ∧ acc * 16 + x < 18446744073709551616 ∧ pu 16 0 l = pu 16 (acc * 16 + x) (l.drop (k + 1))) := ⟨by omega, by omega, hdec⟩
                have icut : a < 1152921504606846976 := by omega
                have iov : a * 16 + ((n : Int) - 48) < 18446744073709551616 := by omega
                clear hcut hacc hov hdec ha hx
                go_wp2_with (go_at_call 98; ((with_reducible refine (LOW.out _).mono ?_); rintro e w' ⟨rfl, rfl⟩))
                all_goals refine ⟨⟨k + 1, acc * 16 + x, a * 16 + ((n : Int) - 48), rfl, (by first | rfl | (congr 1; omega)), (by first | rfl | (congr 1; omega)), by omega, HN⟩, by simp [intOf]; omega⟩
          · rw [if_neg hdig] at hx
            by_cases hu : n = 95
            · obtain rfl := h95 hu
              subst hu
              rw [if_neg (by decide)] at hx
              rw [if_pos (show 16 ≤ x by omega)] at hdec
              have HD := Bx.mk hdec
              have LOW2 : Bx (∀ W, Calls Tryz.prog 98 #[.int .u8 95] W fun e w' => e = .returned (.int .u8 127) ∧ W = w') := ⟨LOW.out⟩
              clear hacc ha hdec hx LOW h95
              go_wp2_with (go_at_call 98; ((with_reducible refine (LOW2.out _).mono ?_); rintro e w' ⟨rfl, rfl⟩))
              all_goals go_ret2
              all_goals (rw [HD.out]; exact ⟨rfl, HB.out⟩)
            clear h95
            by_cases hlet : 97 ≤ o ∧ o ≤ 122
            · obtain ⟨hd0, hd1⟩ := hlet
              rw [if_pos ⟨hd0, hd1⟩] at hx
              by_cases hbx : 16 ≤ x
              · rw [if_pos hbx] at hdec
                have hx2 : 16 + 87 ≤ o := by omega
                have HD := Bx.mk hdec
                clear hacc ha hdec hx hbx
                go_wp2_with (go_at_call 98; ((with_reducible refine (LOW.out _).mono ?_); rintro e w' ⟨rfl, rfl⟩))
                all_goals go_ret2
                all_goals (rw [HD.out]; exact ⟨rfl, HB.out⟩)
              · have hx2 : o < 16 + 87 := by omega
                rw [if_neg hbx] at hdec
                by_cases hcut : 1152921504606846976 ≤ acc
                · rw [if_pos (show 18446744073709551616 ≤ acc * 16 + x by omega)] at hdec
                  have icut : 1152921504606846976 ≤ a := by omega
                  have HD := Bx.mk hdec
                  clear hcut hacc ha hdec hx
                  go_wp2_with (go_at_call 98; ((with_reducible refine (LOW.out _).mono ?_); rintro e w' ⟨rfl, rfl⟩))
                  all_goals go_ret2
                  all_goals (rw [HD.out]; exact ⟨rfl, HB.out⟩)
                · by_cases hov : 18446744073709551616 ≤ acc * 16 + x
                  · rw [if_pos hov] at hdec
                    have icut : a < 1152921504606846976 := by omega
                    have iov : 18446744073709551616 ≤ a * 16 + ((o : Int) - 97 + 10) := by omega
                    have hwr : IntKind.u64.wrap (a * 16 + ((o : Int) - 97 + 10)) = a * 16 + ((o : Int) - 97 + 10) - 18446744073709551616 := by
                      rw [IntKind.wrap_u64]; omega
                    have HD := Bx.mk hdec
                    clear hcut hacc hov ha hdec hx
                    go_wp2_with (go_at_call 98; ((with_reducible refine (LOW.out _).mono ?_); rintro e w' ⟨rfl, rfl⟩))
                    all_goals go_ret2
                    all_goals (rw [HD.out]; exact ⟨rfl, HB.out⟩)
                  · rw [if_neg hov] at hdec
                    have HN : Bx (a * 16 + ((o : Int) - 97 + 10) = ((acc * 16 + x : Nat) : Int) ∧ acc * 16 + x < 18446744073709551616 ∧ pu 16 0 l = pu 16 (acc * 16 + x) (l.drop (k + 1))) := ⟨by omega, by omega, hdec⟩
                    have icut : a < 1152921504606846976 := by omega
                    have iov : a * 16 + ((o : Int) - 97 + 10) < 18446744073709551616 := by omega
                    clear hcut hacc hov hdec ha hx
                    go_wp2_with (go_at_call 98; ((with_reducible refine (LOW.out _).mono ?_); rintro e w' ⟨rfl, rfl⟩))
                    all_goals refine ⟨⟨k + 1, acc * 16 + x, a * 16 + ((o : Int) - 97 + 10), rfl, (by first | rfl | (congr 1; omega)), (by first | rfl | (congr 1; omega)), by omega, HN⟩, by simp [intOf]; omega⟩
            · rw [if_neg hlet] at hx
              rw [if_pos (show 16 ≤ x by omega)] at hdec
              have HD := Bx.mk hdec
              clear hacc ha hdec hx
              go_wp2_with (go_at_call 98; ((with_reducible refine (LOW.out _).mono ?_); rintro e w' ⟨rfl, rfl⟩))
              all_goals go_ret2
              all_goals (rw [HD.out]; exact ⟨rfl, HB.out⟩)
        · have hkk : k = t.size := by omega
          subst hkk
          rw [List.drop_eq_nil_of_le (by omega)] at hdec
          subst ha
          have HD := Bx.mk hdec
          clear hacc hdec a0 a1
          go_wp2
          go_ret2
          rw [HD.out]
          exact ⟨rfl, HB.out⟩
  rcases hb with rfl | rfl
  · exact main _ (.inl ⟨rfl, rfl⟩)
  · exact main _ (.inr ⟨rfl, rfl⟩)
end Go.Proofs.YtdffpbfllekcgaaGreatDoor
