/- The laws of layer 9 (lex): LexJoined. -/
import Derived.Test.YtmgipjkdeoelgaaDoorLexF
import Derived.Test.YtmgipjkdeoelgaaDoorLexJ
namespace Go.Proofs.YtmgipjkdeoelgaaDoor
set_option maxRecDepth 100000
open Go.RowKit

/-- what Lines of no more than 2000 bytes answers, whatever they say -/
theorem lines_some (T : ByteArray) (hT : T.size ≤ 2000) (w : World) (hL : LibW w) :
    Calls Tryd.prog 6 #[.string T] w fun e w' => (∃ v n c, e = .returned (.tuple #[v, .int .i64 n, .int .i64 c])) ∧ Below w.heap.size w w' := by
  refine (lines_any T (by omega) w hL).mono fun e w' ⟨h1, h2⟩ => ⟨?_, h2⟩
  rw [by_size, if_neg (by omega)] at h1
  split at h1
  · obtain ⟨v, he, _⟩ := h1; exact ⟨_, _, _, he⟩
  · exact ⟨_, _, _, h1⟩

theorem count_take (l : List UInt8) (k : Nat) (h : k < l.length) : (l.take (k + 1)).count 10 = (l.take k).count 10 + if l.getD k 0 = 10 then 1 else 0 := by
  have e : l.take (k + 1) = l.take k ++ [l.getD k 0] := by
    have h2 : l.getD k 0 = l[k] := by simp [List.getD, h]
    rw [List.take_add_one, List.getElem?_eq_getElem h, h2]; rfl
  rw [e, List.count_append, List.count_singleton]
  by_cases h2 : l.getD k 0 = 10
  · rw [if_pos h2, if_pos (by rw [h2]; rfl)]
  · rw [if_neg h2, if_neg (by simpa using h2)]
theorem linL_le : ∀ (P : List (List UInt8)) (n : Nat), ∀ l ∈ (linL n P).2, l.1 < n + P.length
  | [], n, l, h => by cases h
  | p :: P, n, l, h => by
    have ih := linL_le P (n + 1)
    cases ht : toks (bareL p) with
    | none => rw [linL_bad ht] at h; cases h
    | some ts =>
      rw [linL_good ht] at h
      unfold pre at h
      split at h
      · rcases List.mem_append.1 h with h | h
        · split at h
          · cases h
          · simp at h; subst h; simp
        · have := ih l h; simp; omega
      · cases h
theorem linL_len : ∀ (P : List (List UInt8)) (n : Nat), (linL n P).2.length ≤ P.length
  | [], n => Nat.le_refl _
  | p :: P, n => by
    have ih := linL_len P (n + 1)
    cases ht : toks (bareL p) with
    | none => rw [linL_bad ht]; simp
    | some ts =>
      rw [linL_good ht]
      unfold pre
      split
      · show ((if ts = [] then [] else [(n, ts)]) ++ (linL (n + 1) P).2).length ≤ _
        rw [List.length_append]
        split <;> (simp; omega)
      · simp
theorem lines_len (s : List UInt8) : (linesL s).2.length ≤ 1 + s.length := by
  have h := linL_len (pcs s) 1
  rw [pcs_length] at h
  have h2 := List.count_le_length (a := (10 : UInt8)) (l := s)
  unfold linesL; omega
theorem by_cat (a b : ByteArray) : by' (a ++ b) = by' a ++ by' b := by
  rw [← st_by a, ← st_by b, st_app, by_st, by_st, by_st]

set_option maxHeartbeats 6400000 in
theorem lexJoined_walk (a b : ByteArray) (w : World) (hL : LibW w) :
    Calls Tryd.prog 4 #[.string a, .string b] w fun e w' => e = .returned (.bool true) ∧ Below w.heap.size w w' := by
  have ca0 := fun W => cut9_any a 300 W
  have cb0 := fun W => cut9_any b 300 W
  have hA : (a.extract 0 300).size ≤ 300 := by simp; omega
  have hB : (b.extract 0 300).size ≤ 300 := by simp; omega
  generalize a.extract 0 300 = A at *
  generalize b.extract 0 300 = B at *
  have ca : ∀ W, Calls Tryd.prog 5 #[.string a, .int .i64 300] W fun e w' => e = .returned (.string A) ∧ W = w' := ca0
  have cb : ∀ W, Calls Tryd.prog 5 #[.string b, .int .i64 300] W fun e w' => e = .returned (.string B) ∧ W = w' := cb0
  have CA := Bx.mk ca; have CB := Bx.mk cb; clear ca cb ca0 cb0
  have HL := Bx.mk hL; clear hL
  obtain ⟨J, hJ⟩ : ∃ J, J = A ++ ⟨#[10]⟩ ++ B := ⟨_, rfl⟩
  have hJb : by' J = by' A ++ 10 :: by' B := by
    rw [hJ, by_cat, by_cat]
    show (by' A ++ [10]) ++ by' B = _
    simp
  have hJs : J.size ≤ 2000 := by rw [← by_size, hJb, List.length_append, List.length_cons, by_size, by_size]; omega
  have hj := linesL_join (by' A) (by' B)
  rw [← hJb] at hj
  obtain ⟨hj1, hj2⟩ := hj
  have hadd : A ++ ⟨#[10]⟩ ++ B = J := hJ.symm
  have s1 : (A ++ ⟨#[10]⟩).size ≤ 301 := by
    rw [← by_size, by_cat, List.length_append, by_size]
    show A.size + 1 ≤ 301
    omega
  have ea := fun W h => lines_some A (by omega) W h
  have eb := fun W h => lines_some B (by omega) W h
  by_cases ra : (linesL (by' A)).1 = 0
  · by_cases rb : (linesL (by' B)).1 = 0
    · obtain ⟨La, hLa⟩ : ∃ La, La = (linesL (by' A)).2 := ⟨_, rfl⟩
      obtain ⟨Lb, hLb⟩ : ∃ Lb, Lb = (linesL (by' B)).2 := ⟨_, rfl⟩
      obtain ⟨m, hm⟩ : ∃ m, m = 1 + (by' A).count 10 := ⟨_, rfl⟩
      obtain ⟨Lj, hLj⟩ : ∃ Lj, Lj = La ++ shiftL m Lb := ⟨_, rfl⟩
      have hj3 := hj2 ra rb
      rw [← hLa, ← hLb, ← hm, ← hLj] at hj3
      have la := fun W h => lines_ok A (by omega) (L := La) (Prod.ext ra hLa.symm) W h
      have lb := fun W h => lines_ok B (by omega) (L := Lb) (Prod.ext rb hLb.symm) W h
      have lj := fun W h => lines_ok J hJs (L := Lj) (Prod.ext (hj1.2 ⟨ra, rb⟩) hj3) W h
      have hlb : ∀ l ∈ Lb, l.1 < 1000 := fun l hl => by
        rw [hLb] at hl
        have h1 := linL_le _ _ l hl
        rw [pcs_length] at h1
        have h2 := List.count_le_length (a := (10 : UInt8)) (l := by' B)
        rw [by_size] at h2; omega
      have hm1 : m ≤ 301 := by
        have h2 := List.count_le_length (a := (10 : UInt8)) (l := by' A)
        rw [by_size] at h2; omega
      have hjl : Lj.length = La.length + Lb.length := by rw [hLj]; simp [shiftL]
      have hjA : ∀ k (l : Ln), La[k]? = some l → Lj[k]? = some l := fun k l h => by
        obtain ⟨h1, h2⟩ := List.getElem?_eq_some_iff.1 h
        rw [hLj, List.getElem?_append_left h1]; exact h
      have hjB : ∀ k (l : Ln), Lb[k]? = some l → Lj[La.length + k]? = some (l.1 + m, l.2) := fun k l h => by
        rw [hLj, List.getElem?_append_right (by omega), show La.length + k - La.length = k by omega, shiftL, List.getElem?_map, h]; rfl
      have hlla : La.length ≤ 1000 := by
        have := lines_len (by' A)
        rw [by_size] at this; rw [hLa]; omega
      have hllb : Lb.length ≤ 1000 := by
        have := lines_len (by' B)
        rw [by_size] at this; rw [hLb]; omega
      have LA := Bx.mk la; have LB := Bx.mk lb; have LJ := Bx.mk lj; have HLB := Bx.mk hlb; have HJA := Bx.mk hjA; have HJB := Bx.mk hjB
      have HM := Bx.mk hm; have HJL := Bx.mk hjl
      clear la lb lj hlb hjA hjB hj1 hj2 hj3 ea eb hJb hJ hLa hLb hLj ra rb hm hjl hJs
      go_enter Tryd.func4, Tryd.ntmps4
      go_wp2_with (first
        | (go_at_call 5; first
          | ((with_reducible refine (CA.out _).mono ?_); rintro e w' ⟨rfl, rfl⟩)
          | ((with_reducible refine (CB.out _).mono ?_); rintro e w' ⟨rfl, rfl⟩))
        | (go_at_call 6; first
          | ((with_reducible refine (LA.out _ HL.out).mono ?_); rintro e w1 ⟨⟨v, rfl, r1⟩, b1⟩; obtain ⟨pa, ca, rfl⟩ := r1.slice; have R1 := Bx.mk r1; have B1 := Bx.mk b1; clear b1 r1)
          | ((with_reducible refine (LB.out _ (HL.out.below B1.out)).mono ?_); rintro e w2 ⟨⟨v, rfl, r2⟩, b2⟩; obtain ⟨pb, cb, rfl⟩ := r2.slice; have R2 := Bx.mk r2; have R1 := Bx.mk (R1.out.bel b2); have B2 := Bx.mk (bel B1.out b2); clear b2 r2)
          | ((with_reducible refine (LJ.out _ (HL.out.below B2.out)).mono ?_); rintro e w3 ⟨⟨v, rfl, r3⟩, b3⟩; obtain ⟨pj, cj, rfl⟩ := r3.slice; have R3 := Bx.mk r3; have R1 := Bx.mk (R1.out.bel b3); have R2 := Bx.mk (R2.out.bel b3); have B3 := Bx.mk (bel B2.out b3); clear b3 r3)))
      go_loop [14, 15] (fun x i => ∃ k : Nat, i = .int .i64 (k : Int) ∧ k ≤ A.size ∧ x = .int .i64 ((1 + ((by' A).take k).count 10 : Nat) : Int)) (fun _ i => A.size - (intOf i).toNat)
      case atStart => exact ⟨0, rfl, by omega, rfl⟩
      case round =>
        obtain ⟨k, rfl, hk, rfl⟩ := hrel
        by_cases hkn : k < A.size
        · have hix := fun W => str_at hkn W
          have hct := count_take (by' A) k (by rw [by_size]; exact hkn)
          have hcl := List.count_le_length (a := (10 : UInt8)) (l := (by' A).take k)
          rw [List.length_take] at hcl
          generalize (by' A).getD k 0 = c at *
          obtain ⟨y, hy⟩ : ∃ y, y = 1 + ((by' A).take k).count 10 := ⟨_, rfl⟩
          by_cases h10 : c = 10
          · subst h10
            rw [if_pos rfl] at hct
            have hn : 1 + ((by' A).take (k + 1)).count 10 = y + 1 := by omega
            have hy1 : y ≤ 1000 := by omega
            rw [← hy]
            have HN := Bx.mk hn; clear hn hct hcl hy
            have hix2 : ∀ W, (Instr.index 9 (.string A) (.int .i64 (k : Int))).run Tryd.prog W = .ok (.int .u8 10) W := hix
            clear hix
            go_wp2
            go_round
            case rel => exact ⟨k + 1, by go_num, by omega, by rw [HN.out]; go_num⟩
            case measure => simp [intOf]; omega
          · rw [if_neg h10] at hct
            have hn : 1 + ((by' A).take (k + 1)).count 10 = y := by omega
            have hy1 : y ≤ 1000 := by omega
            rw [← hy]
            have q1 : ((c.toNat : Int) == 10) = false := by
              rw [beq_eq_false_iff_ne]
              exact fun e => h10 (UInt8.toNat_inj.1 (by show c.toNat = 10; omega))
            have HN := Bx.mk hn; clear hn hct hcl hy h10
            generalize c.toNat = cn at *
            go_wp2
            go_round
            case rel => exact ⟨k + 1, by go_num, by omega, by rw [HN.out]⟩
            case measure => simp [intOf]; omega
        · obtain rfl : k = A.size := by omega
          rw [List.take_of_length_le (by rw [by_size]; exact Nat.le_refl _), ← HM.out]
          have hsum : (La.length : Int) + (Lb.length : Int) = (Lj.length : Int) := by have := HJL.out; omega
          go_wp2
          clear hsum
          go_loopw [80] (fun i wr => ∃ k : Nat, i = .int .i64 (k : Int) ∧ k ≤ Lj.length ∧ Bx (Below w3.heap.size w3 wr)) (fun i _ => Lj.length - (intOf i).toNat)
          case atStart => exact ⟨0, rfl, by omega, ⟨Below.refl _ _⟩⟩
          case round =>
            obtain ⟨k, rfl, hkj, hb⟩ := hrel
            have hjl := HJL.out
            by_cases hkn2 : k < Lj.length
            · obtain ⟨gj, cpj, hvj, hgj, _, atj⟩ := R3.out.at (by omega)
              obtain ⟨rfl, _, rfl⟩ := Value.slice.inj hvj
              by_cases hka : k < La.length
              · obtain ⟨ga, cpa, hva, hga, _, ata⟩ := R1.out.at (by omega)
                obtain ⟨rfl, _, rfl⟩ := Value.slice.inj hva
                obtain ⟨l, hl⟩ : ∃ l, La[k]? = some l := ⟨_, List.getElem?_eq_getElem hka⟩
                obtain ⟨ua, a0, a1, _, ⟨pu, cu, rfl⟩⟩ := ata k l hl
                obtain ⟨uj, j0, j1, _, ⟨pv, cv, rfl⟩⟩ := atj k l (HJA.out k l hl)
                have a0 : wr.cell? ⟨ga, k * 2, none⟩ = some (.int .i64 (l.1 : Nat)) := by rw [hb.out.cell hga]; exact a0
                have a1 : wr.cell? ⟨ga, k * 2 + 1, none⟩ = some (.slice pu l.2.length cu) := by rw [hb.out.cell hga]; exact a1
                have j0 : wr.cell? ⟨gj, k * 2, none⟩ = some (.int .i64 (l.1 : Nat)) := by rw [hb.out.cell hgj]; exact j0
                have j1 : wr.cell? ⟨gj, k * 2 + 1, none⟩ = some (.slice pv l.2.length cv) := by rw [hb.out.cell hgj]; exact j1
                have hgr : ga < wr.heap.size ∧ gj < wr.heap.size := ⟨by have := hb.out.size; omega, by have := hb.out.size; omega⟩
                obtain ⟨hg1, hg2⟩ := hgr
                generalize l.1 = x at *
                generalize l.2.length = y at *
                clear ata atj hl hva hvj hjl
                go_wp2
                go_quiet (fail)
                go_wp2
                go_roundw
                case rel => exact ⟨k + 1, by go_num, by omega, ⟨belDrewN (hb.out.alloc hb.out.size _) _⟩⟩
                case measure => simp [intOf]; omega
              · obtain ⟨j, hj⟩ : ∃ j, j = k - La.length := ⟨_, rfl⟩
                have hjb : j < Lb.length := by omega
                obtain ⟨gb, cpb, hvb, hgb, _, atb⟩ := R2.out.at (by omega)
                obtain ⟨rfl, _, rfl⟩ := Value.slice.inj hvb
                obtain ⟨l, hl⟩ : ∃ l, Lb[j]? = some l := ⟨_, List.getElem?_eq_getElem hjb⟩
                have hl1 := HLB.out l (List.mem_of_getElem? hl)
                obtain ⟨ua, a0, a1, _, ⟨pu, cu, rfl⟩⟩ := atb j l hl
                obtain ⟨uj, j0, j1, _, ⟨pv, cv, rfl⟩⟩ := atj k _ (by have := HJB.out j l hl; rwa [show La.length + j = k by omega] at this)
                have a0 : wr.cell? ⟨gb, j * 2, none⟩ = some (.int .i64 (l.1 : Nat)) := by rw [hb.out.cell hgb]; exact a0
                have a1 : wr.cell? ⟨gb, j * 2 + 1, none⟩ = some (.slice pu l.2.length cu) := by rw [hb.out.cell hgb]; exact a1
                have j0 : wr.cell? ⟨gj, k * 2, none⟩ = some (.int .i64 ((l.1 : Int) + (m : Int))) := by rw [hb.out.cell hgj, show (l.1 : Int) + (m : Int) = ((l.1 + m : Nat) : Int) by omega]; exact j0
                have j1 : wr.cell? ⟨gj, k * 2 + 1, none⟩ = some (.slice pv l.2.length cv) := by rw [hb.out.cell hgj]; exact j1
                obtain ⟨hg1, hg2⟩ : gb < wr.heap.size ∧ gj < wr.heap.size := ⟨by have := hb.out.size; omega, by have := hb.out.size; omega⟩
                have hsub : (k : Int) - (La.length : Int) = (j : Int) := by omega
                generalize l.1 = x at *
                generalize l.2.length = y at *
                clear atb atj hl hvb hvj hjl hj
                go_wp2
                go_quiet (fail)
                go_wp2
                go_roundw
                case rel => exact ⟨k + 1, by go_num, by omega, ⟨belDrewN (hb.out.alloc hb.out.size _) _⟩⟩
                case measure => simp [intOf]; omega
            · obtain rfl : k = Lj.length := by omega
              clear hjl
              go_wp2_with (go_at_call 8; ((with_reducible refine (awake9_any _ (HL.out.below (bel B3.out hb.out))).mono ?_); rintro e w4 ⟨rfl, b4⟩; have B4 := Bx.mk (bel (bel B3.out hb.out) b4); clear b4))
              go_ret
              exact ⟨rfl, B4.out⟩
    · have la := fun W h => lines_ok A (by omega) (L := (linesL (by' A)).2) (Prod.ext ra rfl) W h
      have lb := fun W h => lines_bad B (by omega) rb W h
      have lj := fun W h => lines_bad J hJs (fun h => rb (hj1.1 h).2) W h
      generalize (linesL (by' J)).1 = nj at *
      generalize (linesL (by' B)).1 = nb at *
      generalize (linesL (by' A)).2 = la2 at *
      have LA := Bx.mk la; have LB := Bx.mk lb; have LJ := Bx.mk lj
      clear la lb lj hj1 hj2 ea eb hJb ra rb hJ
      go_enter Tryd.func4, Tryd.ntmps4
      go_wp2_with (first
        | (go_at_call 5; first
          | ((with_reducible refine (CA.out _).mono ?_); rintro e w' ⟨rfl, rfl⟩)
          | ((with_reducible refine (CB.out _).mono ?_); rintro e w' ⟨rfl, rfl⟩))
        | (go_at_call 8; ((with_reducible refine (awake9_any _ (HL.out.below B3.out)).mono ?_); rintro e w4 ⟨rfl, b4⟩; have B4 := Bx.mk (bel B3.out b4); clear b4))
        | (go_at_call 6; first
          | ((with_reducible refine (LA.out _ HL.out).mono ?_); rintro e w1 ⟨⟨v, rfl, _⟩, b1⟩; have B1 := Bx.mk b1; clear b1)
          | ((with_reducible refine (LB.out _ (HL.out.below B1.out)).mono ?_); rintro e w2 ⟨rfl, b2⟩; have B2 := Bx.mk (bel B1.out b2); clear b2)
          | ((with_reducible refine (LJ.out _ (HL.out.below B2.out)).mono ?_); rintro e w3 ⟨rfl, b3⟩; have B3 := Bx.mk (bel B2.out b3); clear b3)))
      go_ret
      exact ⟨rfl, B4.out⟩
  · have la := fun W h => lines_bad A (by omega) ra W h
    have lj := fun W h => lines_bad J hJs (fun h => ra (hj1.1 h).1) W h
    generalize (linesL (by' J)).1 = nj at *
    generalize (linesL (by' A)).1 = na at *
    have LA := Bx.mk la; have EB := Bx.mk eb; have LJ := Bx.mk lj
    clear la lj hj1 hj2 ea eb hJb ra hJ
    go_enter Tryd.func4, Tryd.ntmps4
    go_wp2_with (first
      | (go_at_call 5; first
        | ((with_reducible refine (CA.out _).mono ?_); rintro e w' ⟨rfl, rfl⟩)
        | ((with_reducible refine (CB.out _).mono ?_); rintro e w' ⟨rfl, rfl⟩))
      | (go_at_call 8; ((with_reducible refine (awake9_any _ (HL.out.below B3.out)).mono ?_); rintro e w4 ⟨rfl, b4⟩; have B4 := Bx.mk (bel B3.out b4); clear b4))
      | (go_at_call 6; first
        | ((with_reducible refine (LA.out _ HL.out).mono ?_); rintro e w1 ⟨rfl, b1⟩; have B1 := Bx.mk b1; clear b1)
        | ((with_reducible refine (EB.out _ (HL.out.below B1.out)).mono ?_); rintro e w2 ⟨⟨v, n, c, rfl⟩, b2⟩; have B2 := Bx.mk (bel B1.out b2); clear b2)
        | ((with_reducible refine (LJ.out _ (HL.out.below B2.out)).mono ?_); rintro e w3 ⟨rfl, b3⟩; have B3 := Bx.mk (bel B2.out b3); clear b3)))
    go_ret
    exact ⟨rfl, B4.out⟩
end Go.Proofs.YtmgipjkdeoelgaaDoor
