/- RtbE, RtbF, in one text. -/
import Derived.Test.YtacfdnjdjgdbcaaGreatDoorSa
import Derived.Test.YtacfdnjdjgdbcaaGreatDoorRa
import Derived.Test.YtacfdnjdjgdbcaaGreatDoorTg
import Derived.Test.YtacfdnjdjgdbcaaGreatDoorSe
import Derived.BigQuiet
import Derived.Test.YtacfdnjdjgdbcaaGreatDoorSb
import Derived.Test.YtacfdnjdjgdbcaaGreatDoorTj
namespace Go.Proofs.YtacfdnjdjgdbcaaGreatDoor
set_option maxRecDepth 100000
open Go.RowKit Go.Maps Go.Sort M

/-- what the reference's Parse leaves of any bytes -/
def RParE (s : ByteArray) (w : World) (e : Ending) (w' : World) : Prop :=
  Below w.heap.size w w' ∧ ∃ (k : Nat) (l : List Ent), SaysT s k l ∧ ((k ≠ 0 ∧ e = .returned (.tuple #[.slice none 0 0, .int .i64 (k : Int)])) ∨ (k = 0 ∧ ∃ v, e = .returned (.tuple #[v, .int .i64 0]) ∧ RefIn w' v l))
theorem Cur.keep {w W : World} {b : Nat} {T : ByteArray} {a x : Nat} (h : Cur w b T a x) (e : W.heap[b]? = w.heap[b]?) : Cur W b T a x :=
  ⟨(tcell_keep (a := ⟨b, 0, none⟩) e).trans h.c0, (tcell_keep (a := ⟨b, 1, none⟩) e).trans h.c1, (tcell_keep (a := ⟨b, 2, none⟩) e).trans h.c2, (World.frozen?_of_block (a := ⟨b, 0, none⟩) e).trans h.f0, (World.frozen?_of_block (a := ⟨b, 1, none⟩) e).trans h.f1, (World.frozen?_of_block (a := ⟨b, 2, none⟩) e).trans h.f2⟩
theorem Cur.lt {w : World} {b : Nat} {T : ByteArray} {a x : Nat} (h : Cur w b T a x) : b < w.heap.size := World.block_lt_of_cell? w _ h.c0
theorem bdrT {B : Nat} {w0 w : World} (h : Below B w0 w) (n : Nat) : Below B w0 (w.drewN n) := ⟨h.os, h.tape, h.output, h.size, h.block⟩
/-- an error is stored -/
theorem Cur.err {w : World} {b : Nat} {T : ByteArray} {a x : Nat} (h : Cur w b T a x) (y : Nat) : Cur (w.setCell ⟨b, 2, none⟩ (.int .i64 (y : Int))) b T a y :=
  ⟨by rw [World.cell?_setCell_other _ _ _ _ (by simp)]; exact h.c0, by rw [World.cell?_setCell_other _ _ _ _ (by simp)]; exact h.c1, World.cell?_setCell_same _ _ _ h.c2, by rw [frozen_setCell]; exact h.f0, by rw [frozen_setCell]; exact h.f1, by rw [frozen_setCell]; exact h.f2⟩
theorem lessC (x y : Ent) : Op.bytesLess (bs x.key).toList (bs y.key).toList = decide (cfE x y < 0) := ent_less x y

set_option maxRecDepth 100000 in
set_option maxHeartbeats 4000000 in
theorem refParse_any (s : ByteArray) (w : World) (hs : s.size ≤ 900) (gs cs gk ck : Nat) (hS : Row32 w gs 8 (v8l iV)) (hK : Row32 w gk 64 kN) :
    Calls Tryz.prog 8 #[.agg #[.slice (some ⟨gs, 0, none⟩) 8 cs, .slice (some ⟨gk, 0, none⟩) 64 ck], .string s] w (RParE s w) := by
  obtain ⟨m, hm⟩ : ∃ m, m = s.size := ⟨_, rfl⟩
  have hsl : ∀ W, (Builtin.len_ #[9] 3 #[.string s]).run Tryz.prog W = .ok (.int .i64 (m : Int)) W := fun W => by
    rw [hm]
    simp [Builtin.len_, run_underlying Tryz.underlying9, Result.andThen]
    rfl
  have hmz : ((s.size : Nat) : Int) = (m : Int) := by rw [hm]
  by_cases h40 : m < 40
  · have qw : IntKind.i64.wrap ((m : Int) - 32) = (m : Int) - 32 := IntWalk.i64_in _ (by omega)
    have d40 : decide ((m : Int) - 32 < 8) = true := decide_eq_true (by omega)
    have d40p : ((m : Int) - 32 < 8) = True := eq_true (by omega)
    have s40 : s.size < 40 := by omega
    have S40 := Box.mk s40
    clear hm s40
    go_enter Tryz.func8, Tryz.ntmps8
    go_wp2
    exact bodyPost_ret (v := .tuple #[.slice none 0 0, .int .i64 2]) (by simp [results, go_sem]) rfl ⟨aset22 _ _, 2, [], .inl ⟨S40.out, rfl⟩, .inl ⟨by omega, rfl⟩⟩
  · obtain ⟨q, hq⟩ : ∃ q, q = m - 32 := ⟨_, rfl⟩
    have d40 : decide ((q : Int) < 8) = false := decide_eq_false (by omega)
    have d40p : ((q : Int) < 8) = False := eq_false (by omega)
    have qw : IntKind.i64.wrap ((m : Int) - 32) = (q : Int) := by rw [IntWalk.i64_in _ (by omega)]; omega
    have hq1 : (0 : Int) ≤ (q : Int) := by omega
    have hq2 : (q : Int) ≤ (m : Int) := by omega
    have hq3 : q ≤ m := by omega
    have hq4 : q ≤ s.size := by omega
    have h81 : (8 : Int) ≤ (m : Int) := by omega
    have h82 : 8 ≤ m := by omega
    have h83 : 8 ≤ s.size := by omega
    have hq5 : q = s.size - 32 := by omega
    have s40 : 40 ≤ s.size := by omega
    obtain ⟨T, hT⟩ : ∃ T, T = s.extract 0 q := ⟨_, rfl⟩
    obtain ⟨SL, hSL⟩ : ∃ SL, SL = s.extract q s.size := ⟨_, rfl⟩
    obtain ⟨S8, hS8⟩ : ∃ S8, S8 = s.extract 0 8 := ⟨_, rfl⟩
    have hTz : T.size = q := by rw [hT, ByteArray.size_extract]; omega
    have hT8 : T.extract 0 8 = S8 := by
      have a1 : sb (T.extract 0 8) = sb S8 := by
        rw [sb_part _ _ _ (by omega), hT, hS8, sb_part _ _ _ (by omega), sb_part _ _ _ (by omega)]
        simp only [List.drop_zero, Nat.sub_zero, List.take_take]
        rw [Nat.min_eq_left (by omega)]
      rw [← bs_list (T.extract 0 8), a1, bs_list]
    have co := fun (W : World) (h : Row32 W gs 8 (v8l iV) ∧ Row32 W gk 64 kN) => refOf_any T (by omega) gs cs gk ck W h.1 h.2
    obtain ⟨D, hD⟩ : ∃ D, D = shaN (sb T) := ⟨_, rfl⟩
    have hDb : ∀ d ∈ D, d < 2 ^ 8 := by rw [hD]; exact shaN_lt _
    unfold OfP at co
    rw [← hD] at co
    obtain ⟨S2, hS2⟩ : ∃ S, S = bs D := ⟨_, rfl⟩
    rw [← hS2] at co
    obtain ⟨E, hE⟩ : ∃ E, E = (S2.toList == SL.toList) := ⟨_, rfl⟩
    have hEs : E = decide (S2 = SL) := by rw [hE]; exact str_beq S2 SL
    have hEq : (S2.toList == SL.toList) = E := hE.symm
    have fin : (E = true → shaN (sb T) = sb SL) ∧ (E = false → shaN (sb T) ≠ sb SL) := by
      constructor
      · intro h
        rw [hEs] at h
        have e := of_decide_eq_true h
        rw [← hD, ← e, hS2, sb_bs _ hDb]
      · intro h hh
        rw [hEs] at h
        have e := of_decide_eq_false h
        exact e (by rw [hS2, hD, hh, bs_list])
    have sy4 : shaN (sb T) ≠ sb SL → SaysT s 4 [] := fun h => .inr ⟨s40, .inl ⟨by rw [← hq5, ← hT, ← hSL]; exact h, rfl⟩⟩
    have syo : shaN (sb T) = sb SL → ∀ x a l, OutT T x a l → SaysT s (if x = 0 ∧ a < T.size then 3 else x) l := fun h x a l ho => .inr ⟨s40, .inr ⟨by rw [← hq5, ← hT, ← hSL]; exact h, x, a, by rw [← hq5, ← hT]; exact ho, by rw [← hq5, ← hT]⟩⟩
    obtain ⟨B, hB⟩ : ∃ B, B = decide (sb S8 = magL) := ⟨_, rfl⟩
    have hm8 : (S8.toList == [79, 82, 68, 69, 65, 76, 84, 49]) = B := by
      have e : (⟨#[79, 82, 68, 69, 65, 76, 84, 49]⟩ : ByteArray).toList = [79, 82, 68, 69, 65, 76, 84, 49] := by rw [ByteArray.toList_eq]
      have h := str_beq S8 ⟨#[79, 82, 68, 69, 65, 76, 84, 49]⟩
      rw [e] at h
      rw [h, hB]
      by_cases z : sb S8 = magL
      · rw [decide_eq_true z]
        refine decide_eq_true ?_
        rw [← bs_list S8, z]; decide
      · rw [decide_eq_false z]
        refine decide_eq_false fun e => z ?_
        rw [e]; exact s8
    have T8 : 8 ≤ T.size := by omega
    have ou3 : sb S8 ≠ magL → OutT T 3 0 [] := fun h => out3 T8 (by rw [hT8]; exact h)
    have ou0 : sb S8 = magL → ∀ x a l, (numX T 8 0 ≠ 0 ∧ x = numX T 8 0) ∨ (numX T 8 0 = 0 ∧ ((x = 0 ∧ ReadsT T (numA T 8 0) (numV T 8 0) a l) ∨ (x ≠ 0 ∧ FailsT T (numA T 8 0) (numV T 8 0) x))) → OutT T x a l := fun h x a l ho => out0 T8 (by rw [hT8]; exact h) x a l ho
    have cn : ∀ W, Calls Tryz.prog 24 #[.agg #[.string T, .int .i64 8, .int .i64 0]] W fun e w' => e = .returned (.tuple #[.agg #[.string T, .int .i64 (numA T 8 0 : Nat), .int .i64 (numX T 8 0 : Nat)], .int .u64 (numV T 8 0 : Nat)]) ∧ Below W.heap.size W w' := fun W => cnum_any T 8 0 T8 (by omega) W
    have hA0 : numA T 8 0 ≤ T.size := numA_le T8
    have hV0 := numV_lt T 8 0
    have hXV : numX T 8 0 ≠ 0 → numV T 8 0 = 0 := fun h => numV_bad h
    obtain ⟨A0, hA0e⟩ : ∃ A, A = numA T 8 0 := ⟨_, rfl⟩
    obtain ⟨X0, hX0e⟩ : ∃ A, A = numX T 8 0 := ⟨_, rfl⟩
    obtain ⟨n, hne⟩ : ∃ A, A = numV T 8 0 := ⟨_, rfl⟩
    rw [← hA0e] at hA0
    rw [← hne] at hV0
    simp only [← hA0e, ← hX0e, ← hne] at ou0 cn hXV
    have hxe : s.extract 0 q = T := hT.symm
    have hxl : s.extract q s.size = SL := hSL.symm
    have hxm : s.extract q m = SL := by rw [hm]; exact hxl
    have hx8 : s.extract 0 8 = S8 := hS8.symm
    have hTm : T.size ≤ 900 := by omega
    have HB := Box.mk hB
    have FI := Box.mk fin; have SY4 := Box.mk sy4; have SYO := Box.mk syo; have OU3 := Box.mk ou3; have OU0 := Box.mk ou0; have CN := Box.mk cn; have CO := Box.mk co; have XV := Box.mk hXV; have TM := Box.mk hTm; have HA0 := Box.mk hA0
    obtain ⟨W0, hW0⟩ : ∃ W, W = w.alloc (.cells #[.slice (some ⟨gs, 0, none⟩) 8 cs, .slice (some ⟨gk, 0, none⟩) 64 ck] 36) := ⟨_, rfl⟩
    have b0 : Below w.heap.size w W0.drew := by rw [hW0]; exact (aset22 _ _).drew
    have t0 : W0.drew.heap[w.heap.size]? = some (.cells #[.slice (some ⟨gs, 0, none⟩) 8 cs, .slice (some ⟨gk, 0, none⟩) 64 ck] 36 (0, 0)) := by rw [hW0]; exact heap_alloc_new w _
    have q0 : W0.drew.cell? ⟨w.heap.size, 0, none⟩ = some (.slice (some ⟨gs, 0, none⟩) 8 cs) := by simp only [World.cell?, t0]; rfl
    have q1 : W0.drew.cell? ⟨w.heap.size, 1, none⟩ = some (.slice (some ⟨gk, 0, none⟩) 64 ck) := by simp only [World.cell?, t0]; rfl
    have K0 := Box.mk (And.intro (hS.below b0 (hS.lt (by decide))) (hK.below b0 (hK.lt (by decide))))
    have B0 := Box.mk b0
    have HW0 := Box.mk hW0
    clear b0 t0 fin sy4 syo ou3 ou0 cn co hXV hTm hB hA0 hA0e hX0e hne hT hSL hS8 hTz hT8 hD hDb hS2 hE hEs T8 hS hK hq5 s40 h40 hW0 hm hq
    go_enter Tryz.func8, Tryz.ntmps8
    go_upto_region 4 with fail
    rw [← HW0.out]
    obtain ⟨tb, htb⟩ : ∃ tb, tb = w.heap.size := ⟨_, rfl⟩
    rw [← htb] at q0 q1
    rw [← htb]
    have HTB := Box.mk htb
    clear htb
    go_region_held3 (fun W => W.cell? ⟨tb, 0, none⟩ = some (.slice (some ⟨gs, 0, none⟩) 8 cs) ∧ W.cell? ⟨tb, 1, none⟩ = some (.slice (some ⟨gk, 0, none⟩) 64 ck))
      (first | exact ⟨q0, q1⟩ | exact ⟨p0, p1⟩ | assumption)
      ((go_at_call 14; (with_reducible refine (CO.out _ K0.out).mono ?_); rintro e w1 ⟨rfl, b1⟩; have p0 := pcell_keep q0 b1; have p1 := pcell_keep q1 b1; have B1 := Box.mk (B0.out.trans (b1.mono B0.out.size)); clear b1))
    all_goals
      cases E with
      | false =>
        go_wp2_with fail
        exact bodyPost_ret (v := .tuple #[.slice none 0 0, .int .i64 4]) (by simp [results, go_sem]) rfl ⟨B1.out, 4, [], SY4.out (FI.out.2 (by simp)), .inl ⟨by omega, rfl⟩⟩
      | true =>
        have hsh := FI.out.1 (by simp)
        have SH := Box.mk (SYO.out hsh)
        clear hsh SYO SY4 FI
        cases B with
        | false =>
          have h3 := SH.out 3 0 [] (OU3.out (of_decide_eq_false HB.out.symm))
          rw [if_neg (fun h => absurd h.1 (by decide))] at h3
          have H3 := Box.mk h3
          clear h3
          go_wp2_with fail
          exact bodyPost_ret (v := .tuple #[.slice none 0 0, .int .i64 3]) (by simp [results, go_sem]) rfl ⟨B1.out, 3, [], H3.out, .inl ⟨by omega, rfl⟩⟩
        | true =>
          have OO := Box.mk (OU0.out (of_decide_eq_true HB.out.symm))
          clear OU0 OU3 HB K0 CO p0 p1 q0 q1
          go_upto_region 9 with (go_at_call 24; ((with_reducible refine (CN.out _).mono ?_); rintro e w2 ⟨rfl, b2⟩; have B2 := Box.mk (B1.out.trans (b2.mono B1.out.size)); clear b2))
          obtain ⟨Wc, hWc⟩ : ∃ W, W = w2.alloc (.cells #[.string T, .int .i64 (A0 : Int), .int .i64 (X0 : Int)] 65) := ⟨_, rfl⟩
          rw [← hWc]
          have kc : Cur Wc w2.heap.size T A0 X0 := by rw [hWc]; exact Cur.new w2 T A0 X0 _
          have bc : Below w.heap.size w Wc := by rw [hWc]; exact B2.out.alloc (by have := B2.out.size; omega) _
          have sc : Wc.heap.size = w2.heap.size + 1 := by rw [hWc]; simp
          have cbw : w.heap.size ≤ w2.heap.size := B2.out.size
          obtain ⟨cb, hcb⟩ : ∃ cb, cb = w2.heap.size := ⟨_, rfl⟩
          rw [← hcb] at kc sc cbw ⊢
          have ro : (Wc.alloc (.cells #[] 71)).ownsRow (cb + 1) 71 2 (.slice (some ⟨Wc.heap.size, 0, none⟩) 0 0) 0 [] := World.ownsRow_made _ _ _ (by omega) (by decide) rfl
          have ba := aset22 Wc (.cells #[] 71)
          have KC := Box.mk (kc.below ba); have BC := Box.mk (bc.trans (ba.mono bc.size)); have RO := Box.mk ro
          have CBW := Box.mk cbw
          clear kc bc sc ro ba hWc hcb CN B1 B2
          go_wp2_with fail
          go_loopw [9, 10] (fun v q wr => ∃ (i a x : Nat) (l : List Ent), i ≤ n ∧ q = .int .u64 (i : Int) ∧ a ≤ T.size ∧ (∃ p k c, v = .slice p k c) ∧ Box (Cur wr cb T a x) ∧ Box (Below w.heap.size w wr) ∧ Box ((x = 0 ∧ X0 = 0 ∧ ReadsT T A0 i a l ∧ wr.ownsRow (cb + 1) 71 2 v l.length (l.flatMap rcE)) ∨ (x ≠ 0 ∧ ((X0 ≠ 0 ∧ x = X0) ∨ (X0 = 0 ∧ FailsT T A0 n x))))) (fun _ q _ => n - (intOf q).toNat)
          case atStart =>
            exact ⟨0, A0, X0, [], by omega, rfl, HA0.out, ⟨_, _, _, rfl⟩, KC, BC, ⟨by
              by_cases h : X0 = 0
              · exact .inl ⟨h, h, ⟨rfl, rfl⟩, RO.out⟩
              · exact .inr ⟨h, .inl ⟨h, rfl⟩⟩⟩⟩
          case round =>
            obtain ⟨i, a, x, l, hi, rfl, ha, ⟨vp, vk, vc, rfl⟩, hcu, hb, hst⟩ := hrel
            clear KC BC RO
            by_cases hgo : i < n ∧ x = 0
            · obtain ⟨hlt, rfl⟩ := hgo
              have hst2 : X0 = 0 ∧ ReadsT T A0 i a l ∧ wr.ownsRow (cb + 1) 71 2 (.slice vp vk vc) l.length (l.flatMap rcE) := by
                rcases hst.out with ⟨_, h⟩ | ⟨h, _⟩
                · exact h
                · exact absurd rfl h
              obtain ⟨hX, hrt, hrow⟩ := hst2
              obtain rfl := own_len hrow
              have q0 : wr.cell? ⟨cb, 0, none⟩ = some (.string T) := hcu.out.c0
              have q1 : wr.cell? ⟨cb, 1, none⟩ = some (.int .i64 (a : Int)) := hcu.out.c1
              have q2 : wr.cell? ⟨cb, 2, none⟩ = some (.int .i64 0) := hcu.out.c2
              have dj : decide ((i : Int) < (n : Int)) = true := by simpa using hlt
              have hfew := (hrt.few (by have := TM.out; omega) HA0.out).1
              have hl30 : l.length ≤ 30 := by have := TM.out; omega
              have cr : ∀ W, Calls Tryz.prog 25 #[.agg #[.string T, .int .i64 (a : Int), .int .i64 0], .int .i64 32] W fun e w' => e = .returned (.tuple #[cu T (rawA T a 0 32) (rawX T a 0 32), .string (rawS T a 0 32)]) ∧ Below W.heap.size W w' := fun W => crawl_any T a 0 32 ha (by have := TM.out; omega) W
              have ct : ∀ W, Calls Tryz.prog 26 #[cu T (rawA T a 0 32) (rawX T a 0 32), .int .i64 4194304] W fun e w' => e = .returned (.tuple #[cu T (enA T a) (enX T a), .string (enS T a)]) ∧ Below W.heap.size W w' := fun W => ctxt_any T (rawA T a 0 32) (rawX T a 0 32) 4194304 (by omega) (by omega) (rawA_le' ha) (by have := TM.out; omega) W
              have hal := enA_le ha
              have eok : enX T a = 0 → ∃ y, IsEn T a y := fun h => en_ok ha h
              have fl1 : enX T a ≠ 0 → FailsT T A0 n (enX T a) := fun h => ⟨i, a, l, hlt, hrt, .inl ⟨h, rfl⟩⟩
              have fl2 : ∀ y, IsEn T a y → enX T a = 0 → ¬ Fol l y → FailsT T A0 n 16 := fun y h1 h2 h3 => ⟨i, a, l, hlt, hrt, .inr ⟨h2, rfl, y, h1, h3⟩⟩
              have fl3 : ∀ y, IsEn T a y → enX T a = 0 → Fol l y → ReadsT T A0 (i + 1) (enA T a) (l ++ [y]) := fun y h1 h2 h3 => ⟨a, l, y, hrt, h2, h1, h3, rfl, rfl⟩
              have kbs : ∀ y, IsEn T a y → bs y.key = rawS T a 0 32 ∧ y.text = enS T a := fun y h => ⟨by rw [h.1, bs_list], h.2⟩
              obtain ⟨a5, ha5⟩ : ∃ z, z = rawA T a 0 32 := ⟨_, rfl⟩
              obtain ⟨x5, hx5⟩ : ∃ z, z = rawX T a 0 32 := ⟨_, rfl⟩
              obtain ⟨k5, hk5⟩ : ∃ z, z = rawS T a 0 32 := ⟨_, rfl⟩
              obtain ⟨a6, ha6⟩ : ∃ z, z = enA T a := ⟨_, rfl⟩
              obtain ⟨x6, hx6⟩ : ∃ z, z = enX T a := ⟨_, rfl⟩
              obtain ⟨s6, hs6⟩ : ∃ z, z = enS T a := ⟨_, rfl⟩
              simp only [← ha5, ← hx5, ← hk5, ← ha6, ← hx6, ← hs6] at cr ct hal eok fl1 fl2 fl3 kbs
              unfold cu at cr ct
              have CR := Box.mk cr; have CT := Box.mk ct; have EOK := Box.mk eok; have FL1 := Box.mk fl1; have FL2 := Box.mk fl2; have FL3 := Box.mk fl3; have KBS := Box.mk kbs; have HROW := Box.mk hrow; have HX := Box.mk hX
              have uw : IntKind.u64.wrap ((i : Int) + 1) = ((i + 1 : Nat) : Int) := by
                have h : IntKind.u64.wrap ((i + 1 : Nat) : Int) = ((i + 1 : Nat) : Int) := u64small (by omega)
                exact h
              have UW := Box.mk uw
              clear cr ct eok fl1 fl2 fl3 kbs hrow hX hrt hfew hst ha5 hx5 hk5 ha6 hx6 hs6 uw
              go_upto_region 16 with (first
                | (go_at_call 25; ((with_reducible refine (CR.out _).mono ?_); rintro e w3 ⟨rfl, b3⟩; have B3 := Box.mk (b3.alloc b3.size (.cells #[.string T, .int .i64 (a5 : Int), .int .i64 (x5 : Int)] 65)); have D3 := Box.mk (Cur.new w3 T a5 x5 65); have u0 := D3.out.c0; have u1 := D3.out.c1; have u2 := D3.out.c2; clear b3))
                | (go_at_call 26; ((with_reducible refine (CT.out _).mono ?_); rintro e w6 ⟨rfl, b6⟩; have B6 := Box.mk ((B3.out.trans (b6.mono B3.out.size)).alloc (by have h1 := B3.out.size; have h2 := b6.size; omega) (.cells #[.string T, .int .i64 (a6 : Int), .int .i64 (x6 : Int)] 65)); have D6 := Box.mk (Cur.new w6 T a6 x6 65); have v0 := D6.out.c0; have v1 := D6.out.c1; have v2 := D6.out.c2; have C6 := Box.mk (hcu.out.below B6.out); have y0 := C6.out.c0; have y1 := C6.out.c1; have y2 := C6.out.c2; have g0 := C6.out.f0; have g1 := C6.out.f1; have g2 := C6.out.f2; clear b6)))
              obtain ⟨W15, hW15⟩ : ∃ W, W = (((w6.alloc (.cells #[.string T, .int .i64 (a6 : Int), .int .i64 (x6 : Int)] 65)).setCell ⟨cb, 0, none⟩ (.string T)).setCell ⟨cb, 1, none⟩ (.int .i64 (a6 : Int))).setCell ⟨cb, 2, none⟩ (.int .i64 (x6 : Int)) := ⟨_, rfl⟩
              rw [← hW15]
              have on15 : Onl cb wr W15 := by rw [hW15]; exact (((onl_below (Onl.refl cb wr) B6.out).setCell 0 _).setCell 1 _).setCell 2 _
              have k15 : Cur W15 cb T a6 x6 := by rw [hW15]; exact C6.out.set3 T a6 x6
              have b15 : Below w.heap.size w W15 := hb.out.trans (on15.below (B := w.heap.size) CBW.out hb.out.size)
              have r15 := rowKeep HROW.out (fun k hk => on15.block k (rowLt HROW.out k hk).2 (by have := (rowLt HROW.out k hk).1; omega))
              have K15 := Box.mk k15; have B15 := Box.mk b15; have R15 := Box.mk r15
              clear hW15 on15 k15 b15 r15 y0 y1 y2 g0 g1 g2 v0 v1 v2 u0 u1 u2 q0 q1 q2 C6 D6 D3 B6 B3 hcu hb
              obtain ⟨i0, hi0, hz0, hz1, hz2⟩ := info_parts info_ref
              have z2 := K15.out.c2
              have z3 := K15.out.f2
              by_cases h6 : x6 = 0
              · obtain ⟨y, hy⟩ := EOK.out h6
                subst h6
                obtain ⟨hy1, hy2⟩ := KBS.out y hy
                have hrr : [Value.string k5, .string s6] = rcE y := by unfold rcE; rw [hy1, hy2]
                have z2 : W15.cell? ⟨cb, 2, none⟩ = some (.int .i64 0) := z2
                have HRR := Box.mk hrr; have HY := Box.mk hy
                clear hrr hy hy2
                rcases Nat.eq_zero_or_pos l.length with h0 | h0
                · have hl0 : l = [] := List.eq_nil_of_length_eq_zero h0
                  have FO : Box (Fol l y) := ⟨by rw [hl0]; exact fol_nil⟩
                  have dl : decide ((0 : Int) < (l.length : Int)) = false := decide_eq_false (by omega)
                  have dlp : (0 < l.length) = False := eq_false (by omega)
                  clear hy1 hl0 h0
                  go_wp2_with (first | (at_builtin; refine wpList_append_lies _ rfl (.tmp 82) (.tmp 86) 31 rfl (cb + 1) 71 i0 _ 2 32 Tryz.underlying31 hi0 hz0 hz1 hz2 rfl (by omega) _ (l.length) (l.flatMap rcE) rfl (R15.out.alloc _) ⟨W15.heap.size, 0, none⟩ 1 1 [.string k5, .string s6] rfl rfl (World.news_of_block (cs := #[.string k5, .string s6]) (t := 71) (fr := (0, 0)) (heap_alloc_new _ _)) (by simp [Value.oneCell']) (by omega) (by unfold maxLen; omega) (by omega) (by have := K15.out.lt; simp; omega) (W15.heap.size + 1) (by simp) ?_; intro g5 cap5 w5 hown5 hgrow5 hat5 hlt5; have PU5 := Box.mk hown5; have GB5 : Box (Below w.heap.size w w5) := ⟨(B15.out.alloc (by have := B15.out.size; omega) _).grown hgrow5 (by have := B15.out.size; simp; omega) (fun k hk => by have := (R15.out.lt k hk).1; have := CBW.out; omega)⟩; have KC5 : Box (Cur w5 cb T a6 _) := ⟨(K15.out.below (aset22 W15 _)).keep (hgrow5.block cb (by have := K15.out.lt; simp; omega) (fun e => absurd (R15.out.lt cb e.symm).1 (by omega)))⟩; clear hown5 hgrow5 hat5 hlt5))
                  go_roundw
                  case rel => exact ⟨i + 1, a6, 0, l ++ [y], by omega, by go_num, hal, ⟨_, _, _, rfl⟩, KC5, GB5, ⟨.inl ⟨rfl, HX.out, FL3.out y HY.out rfl FO.out, by
                    have h := PU5.out
                    rw [HRR.out] at h
                    rw [List.length_append, List.flatMap_append, List.flatMap_cons, List.flatMap_nil, List.append_nil]
                    exact h⟩⟩⟩
                  case measure => simp [intOf]; omega
                · obtain ⟨g, gc, hv⟩ := rowSome HROW.out h0
                  obtain ⟨rfl, _, rfl⟩ := Value.slice.inj hv
                  obtain ⟨z, hz⟩ : ∃ z, l[l.length - 1]? = some z := ⟨_, List.getElem?_eq_getElem (by omega)⟩
                  have hlz : l = l.take (l.length - 1) ++ [z] := by
                    have h1 : l.take (l.length - 1 + 1) = l.take (l.length - 1) ++ [z] := by rw [List.take_add_one, hz, Option.toList_some]
                    rw [show l.length - 1 + 1 = l.length by omega, List.take_length] at h1
                    exact h1
                  have hfo : Fol l y ↔ cfE z y < 0 := by
                    constructor
                    · intro h; rw [hlz] at h; exact fol_last.1 h
                    · intro h; rw [hlz]; exact fol_last.2 h
                  obtain ⟨pl, hpl⟩ : ∃ pl, pl = l.length - 1 := ⟨_, rfl⟩
                  rw [← hpl] at hz
                  have rz : W15.cell? ⟨g, pl * 2, none⟩ = some (.string (bs z.key)) := by
                    have c0 := R15.out.cellAt (pl * 2) (by omega)
                    rw [show (l.flatMap rcE)[pl * 2]? = (l.flatMap rcE)[pl * 2 + 0]? from rfl, flat2 l pl 0 z hz (by omega)] at c0
                    exact c0
                  have lw : IntKind.i64.wrap ((l.length : Int) - 1) = (pl : Int) := by rw [IntWalk.i64_in _ (by omega)]; omega
                  have li1 : (pl : Int) < (l.length : Int) := by omega
                  have li2 : pl < l.length := by omega
                  have li3 : (0 : Int) ≤ (pl : Int) := by omega
                  have dl : decide ((0 : Int) < (l.length : Int)) = true := decide_eq_true (by omega)
                  have dlp : (0 < l.length) = True := eq_true (by omega)
                  have le := lessC z y
                  rw [hy1] at le
                  obtain ⟨A, hA⟩ : ∃ A, A = bs z.key := ⟨_, rfl⟩
                  rw [← hA] at le rz
                  have HFO := Box.mk hfo
                  clear hz hlz hfo hpl hA hy1 hv h0
                  by_cases hc : cfE z y < 0
                  · rw [decide_eq_true hc] at le
                    have FO := Box.mk (HFO.out.2 hc)
                    clear hc
                    go_wp2_with (first | (at_builtin; refine wpList_append_lies _ rfl (.tmp 82) (.tmp 86) 31 rfl (cb + 1) 71 i0 _ 2 32 Tryz.underlying31 hi0 hz0 hz1 hz2 rfl (by omega) _ (l.length) (l.flatMap rcE) rfl (R15.out.alloc _) ⟨W15.heap.size, 0, none⟩ 1 1 [.string k5, .string s6] rfl rfl (World.news_of_block (cs := #[.string k5, .string s6]) (t := 71) (fr := (0, 0)) (heap_alloc_new _ _)) (by simp [Value.oneCell']) (by omega) (by unfold maxLen; omega) (by omega) (by have := K15.out.lt; simp; omega) (W15.heap.size + 1) (by simp) ?_; intro g5 cap5 w5 hown5 hgrow5 hat5 hlt5; have PU5 := Box.mk hown5; have GB5 : Box (Below w.heap.size w w5) := ⟨(B15.out.alloc (by have := B15.out.size; omega) _).grown hgrow5 (by have := B15.out.size; simp; omega) (fun k hk => by have := (R15.out.lt k hk).1; have := CBW.out; omega)⟩; have KC5 : Box (Cur w5 cb T a6 _) := ⟨(K15.out.below (aset22 W15 _)).keep (hgrow5.block cb (by have := K15.out.lt; simp; omega) (fun e => absurd (R15.out.lt cb e.symm).1 (by omega)))⟩; clear hown5 hgrow5 hat5 hlt5))
                    go_roundw
                    case rel => exact ⟨i + 1, a6, 0, l ++ [y], by omega, by go_num, hal, ⟨_, _, _, rfl⟩, KC5, GB5, ⟨.inl ⟨rfl, HX.out, FL3.out y HY.out rfl FO.out, by
                      have h := PU5.out
                      rw [HRR.out] at h
                      rw [List.length_append, List.flatMap_append, List.flatMap_cons, List.flatMap_nil, List.append_nil]
                      exact h⟩⟩⟩
                    case measure => simp [intOf]; omega
                  · rw [decide_eq_false hc] at le
                    have NF := Box.mk (fun h => hc (HFO.out.1 h))
                    clear hc
                    obtain ⟨W17, hW17⟩ : ∃ W, W = W15.setCell ⟨cb, 2, none⟩ (.int .i64 16) := ⟨_, rfl⟩
                    have k17 : Cur W17 cb T a6 16 := by rw [hW17]; exact K15.out.err 16
                    have on17 : Onl cb W15 W17 := by rw [hW17]; exact (Onl.refl cb W15).setCell 2 _
                    have b17 : Below w.heap.size w W17 := B15.out.trans (on17.below (B := w.heap.size) CBW.out B15.out.size)
                    have r17 := rowKeep R15.out (fun k hk => on17.block k (rowLt R15.out k hk).2 (by have := (rowLt R15.out k hk).1; omega))
                    have K17 := Box.mk k17; have B17 := Box.mk b17; have R17 := Box.mk r17; have HW17 := Box.mk hW17
                    clear k17 on17 b17 r17 hW17
                    go_upto_region 18 with fail
                    rw [← HW17.out]
                    go_wp2_with (first | (at_builtin; refine wpList_append_lies _ rfl (.tmp 82) (.tmp 86) 31 rfl (cb + 1) 71 i0 _ 2 32 Tryz.underlying31 hi0 hz0 hz1 hz2 rfl (by omega) _ (l.length) (l.flatMap rcE) rfl (R17.out.alloc _) ⟨W17.heap.size, 0, none⟩ 1 1 [.string k5, .string s6] rfl rfl (World.news_of_block (cs := #[.string k5, .string s6]) (t := 71) (fr := (0, 0)) (heap_alloc_new _ _)) (by simp [Value.oneCell']) (by omega) (by unfold maxLen; omega) (by omega) (by have := K17.out.lt; simp; omega) (W17.heap.size + 1) (by simp) ?_; intro g5 cap5 w5 hown5 hgrow5 hat5 hlt5; have PU5 := Box.mk hown5; have GB5 : Box (Below w.heap.size w w5) := ⟨(B17.out.alloc (by have := B17.out.size; omega) _).grown hgrow5 (by have := B17.out.size; simp; omega) (fun k hk => by have := (R17.out.lt k hk).1; have := CBW.out; omega)⟩; have KC5 : Box (Cur w5 cb T a6 _) := ⟨(K17.out.below (aset22 W17 _)).keep (hgrow5.block cb (by have := K17.out.lt; simp; omega) (fun e => absurd (R17.out.lt cb e.symm).1 (by omega)))⟩; clear hown5 hgrow5 hat5 hlt5))
                    go_roundw
                    case rel => exact ⟨i + 1, a6, 16, l, by omega, by go_num, hal, ⟨_, _, _, rfl⟩, KC5, GB5, ⟨.inr ⟨by omega, .inr ⟨HX.out, FL2.out y HY.out rfl NF.out⟩⟩⟩⟩
                    case measure => simp [intOf]; omega
              · have e6 : ((x6 : Int) == 0) = false := by rw [beq_eq_false_iff_ne]; omega
                have e6b : ((x6 : Int) = 0) = False := eq_false (by omega)
                have e6c : (x6 = 0) = False := eq_false h6
                go_wp2_with (first | (at_builtin; refine wpList_append_lies _ rfl (.tmp 82) (.tmp 86) 31 rfl (cb + 1) 71 i0 _ 2 32 Tryz.underlying31 hi0 hz0 hz1 hz2 rfl (by omega) _ (l.length) (l.flatMap rcE) rfl (R15.out.alloc _) ⟨W15.heap.size, 0, none⟩ 1 1 [.string k5, .string s6] rfl rfl (World.news_of_block (cs := #[.string k5, .string s6]) (t := 71) (fr := (0, 0)) (heap_alloc_new _ _)) (by simp [Value.oneCell']) (by omega) (by unfold maxLen; omega) (by omega) (by have := K15.out.lt; simp; omega) (W15.heap.size + 1) (by simp) ?_; intro g5 cap5 w5 hown5 hgrow5 hat5 hlt5; have PU5 := Box.mk hown5; have GB5 : Box (Below w.heap.size w w5) := ⟨(B15.out.alloc (by have := B15.out.size; omega) _).grown hgrow5 (by have := B15.out.size; simp; omega) (fun k hk => by have := (R15.out.lt k hk).1; have := CBW.out; omega)⟩; have KC5 : Box (Cur w5 cb T a6 _) := ⟨(K15.out.below (aset22 W15 _)).keep (hgrow5.block cb (by have := K15.out.lt; simp; omega) (fun e => absurd (R15.out.lt cb e.symm).1 (by omega)))⟩; clear hown5 hgrow5 hat5 hlt5))
                go_roundw
                case rel => exact ⟨i + 1, a6, x6, l, by omega, by go_num, hal, ⟨_, _, _, rfl⟩, KC5, GB5, ⟨.inr ⟨h6, .inr ⟨HX.out, FL1.out h6⟩⟩⟩⟩
                case measure => simp [intOf]; omega
            · have q0 := hcu.out.c0
              have q1 := hcu.out.c1
              have q2 := hcu.out.c2
              have f0 := hcu.out.f0
              have f1 := hcu.out.f1
              have f2 := hcu.out.f2
              have ot : OutT T x a l := by
                rcases hst.out with ⟨h1, h2, h3, _⟩ | ⟨h1, ⟨h2, h3⟩ | ⟨h2, h3⟩⟩
                · have hin : i = n := by
                    have : ¬ i < n := fun h => hgo ⟨h, h1⟩
                    omega
                  rw [hin] at h3
                  exact OO.out _ _ _ (.inr ⟨h2, .inl ⟨h1, h3⟩⟩)
                · exact OO.out _ _ _ (.inl ⟨h2, h3⟩)
                · exact OO.out _ _ _ (.inr ⟨h2, .inr ⟨h1, h3⟩⟩)
              have say := SH.out x a l ot
              have cd := fun W => cdone_any T a x W
              obtain ⟨y, hy⟩ : ∃ y, y = if x = 0 ∧ a < T.size then 3 else x := ⟨_, rfl⟩
              rw [← hy] at say cd
              have hyx : y = 0 → x = 0 := fun h => by
                rw [h] at hy
                split at hy
                · cases hy
                · exact hy.symm
              unfold cu at cd
              have SAY := Box.mk say; have CD := Box.mk cd; have YX := Box.mk hyx
              have hcase : (¬ i < n ∧ (i < n) = False ∧ decide ((i : Int) < (n : Int)) = false) ∨ (i < n ∧ decide ((i : Int) < (n : Int)) = true ∧ ((x : Int) == 0) = false ∧ ((x : Int) = 0) = False ∧ (x = 0) = False) := by
                by_cases h : i < n
                · refine .inr ⟨h, by simpa using h, ?_⟩
                  have : x ≠ 0 := fun e => hgo ⟨h, e⟩
                  exact ⟨by rw [beq_eq_false_iff_ne]; omega, eq_false (by omega), eq_false this⟩
                · exact .inl ⟨h, eq_false h, by simpa using h⟩
              clear ot say cd hy hyx hgo
              rcases hcase with ⟨hn1, hn2, dj⟩ | ⟨hn1, dj, dx, dx2, dx3⟩
              all_goals
                go_upto_region 20 with (go_at_call 27; ((with_reducible refine (CD.out _).mono ?_); rintro e w9 ⟨rfl, b9⟩; have C9 := Box.mk (hcu.out.below b9); have c0 := C9.out.c0; have c1 := C9.out.c1; have c2 := C9.out.c2; have g0 := C9.out.f0; have g1 := C9.out.f1; have g2 := C9.out.f2; have B9 := Box.mk b9; clear b9))
                obtain ⟨W19, hW19⟩ : ∃ W, W = ((w9.setCell ⟨cb, 0, none⟩ (.string T)).setCell ⟨cb, 1, none⟩ (.int .i64 (a : Int))).setCell ⟨cb, 2, none⟩ (.int .i64 (y : Int)) := ⟨_, rfl⟩
                rw [← hW19]
                have k19 : Cur W19 cb T a y := by rw [hW19]; exact C9.out.set3 T a y
                have on19 : Onl cb wr W19 := by rw [hW19]; exact (((onl_below (Onl.refl cb wr) B9.out).setCell 0 _).setCell 1 _).setCell 2 _
                have b19 : Below w.heap.size w W19 := hb.out.trans (on19.below (B := w.heap.size) CBW.out hb.out.size)
                have r19 : x = 0 → RefIn W19 (.slice vp vk vc) l := fun h => by
                  rcases hst.out with ⟨_, _, _, h4⟩ | ⟨h1, _⟩
                  · exact RefIn.own (rowKeep h4 (fun k hk => on19.block k (rowLt h4 k hk).2 (by have := (rowLt h4 k hk).1; omega)))
                  · exact absurd h h1
                have R19 := Box.mk r19; have BB := Box.mk b19
                have z2 := k19.c2
                clear hW19 on19 b19 r19 k19 c0 c1 c2 g0 g1 g2 q0 q1 q2 f0 f1 f2 C9 B9 hst
                by_cases hy0 : y = 0
                · have RI := Box.mk (R19.out (YX.out hy0))
                  subst hy0
                  have z2 : W19.cell? ⟨cb, 2, none⟩ = some (.int .i64 0) := z2
                  go_wp2_with fail
                  exact bodyPost_ret (v := .tuple #[.slice vp vk vc, .int .i64 0]) (by simp [results, go_sem]) rfl ⟨BB.out, 0, l, SAY.out, .inr ⟨rfl, _, rfl, RI.out⟩⟩
                · have e1 : ((y : Int) != 0) = true := by simp; omega
                  have e2 : ((y : Int) = 0) = False := eq_false (by omega)
                  have e3 : (y = 0) = False := eq_false hy0
                  go_upto_region 21 with fail
                  go_quiet (fail)
                  go_wp2_with fail
                  exact bodyPost_ret (v := .tuple #[.slice none 0 0, .int .i64 (y : Int)]) (by simp [results, go_sem]) rfl ⟨bdrT BB.out _, y, l, SAY.out, .inl ⟨hy0, rfl⟩⟩
end Go.Proofs.YtacfdnjdjgdbcaaGreatDoor
namespace Go.Proofs.YtacfdnjdjgdbcaaGreatDoor
set_option maxRecDepth 100000
open Go.RowKit Go.Maps Go.Sort M

theorem says_few {s : ByteArray} {l : List Ent} (hs : s.size ≤ 900) (h : SaysT s 0 l) : l.length ≤ 100 := by
  rcases h with ⟨_, h2⟩ | ⟨_, h⟩
  · omega
  · rcases h with ⟨_, h3⟩ | ⟨_, x, a, h3, h4⟩
    · omega
    · have hb : (s.extract 0 (s.size - 32)).size ≤ 900 := by rw [ByteArray.size_extract]; omega
      generalize s.extract 0 (s.size - 32) = T at *
      have hx : x = 0 := by
        split at h4
        · omega
        · exact h4.symm
      subst hx
      have hle : numA T (rawA T 0 0 8) (magX T) ≤ T.size := numA_le (rawA_le' (Nat.zero_le _))
      unfold OutT at h3
      generalize numA T (rawA T 0 0 8) (magX T) = A0 at h3 hle
      generalize numV T (rawA T 0 0 8) (magX T) = N at h3
      generalize numX T (rawA T 0 0 8) (magX T) = X at h3
      have hT : T.size ≤ 1000000 := by omega
      clear h4
      rcases h3 with ⟨h1, h2⟩ | ⟨_, ⟨_, h3⟩ | ⟨h1, _⟩⟩
      · exact absurd h2.symm h1
      · have := (ReadsT.few hT hle h3).1
        omega
      · exact absurd rfl h1
end Go.Proofs.YtacfdnjdjgdbcaaGreatDoor
