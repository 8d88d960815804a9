/- The reference's text of a state. -/
import Derived.Test.YtnlcmdgjoikljaaDoorTolT
import Derived.Test.YtnlcmdgjoikljaaDoorTolN
import Derived.Test.YtnlcmdgjoikljaaDoorOutH
namespace Go.Proofs.YtnlcmdgjoikljaaDoor
set_option maxRecDepth 100000
open Go.RowKit

/-- word i of the text of numbers -/
def wordV (t : TestM) (vals : List Int) (i : Nat) : List UInt8 := nameP t ((slotsM t).getD i (0, 0)) ++ [61] ++ Lib.decDigits (vals.getD i 0).toNat
def textV (t : TestM) (vals : List Int) (k : Nat) : List UInt8 := Lib.join ((List.range k).map (wordV t vals)) [32]
theorem joinTail_snoc (r : List (List UInt8)) (x : List UInt8) : Lib.joinTail [32] (r ++ [x]) = Lib.joinTail [32] r ++ ([32] ++ x) := by simp [Lib.joinTail]
theorem textV_succ (t : TestM) (vals : List Int) (k : Nat) (hk : 0 < k) : textV t vals (k + 1) = textV t vals k ++ [32] ++ wordV t vals k := by
  unfold textV
  rw [List.range_succ, List.map_append]
  obtain ⟨j, rfl⟩ : ∃ j, k = j + 1 := ⟨k - 1, by omega⟩
  have e : (List.range (j + 1)).map (wordV t vals) = wordV t vals 0 :: ((List.range j).map fun i => wordV t vals (i + 1)) := by
    rw [List.range_succ_eq_map, List.map_cons, List.map_map]; rfl
  rw [e, List.cons_append, Lib.join_cons, Lib.join_cons]
  show _ ++ Lib.joinTail [32] (_ ++ [wordV t vals (j + 1)]) = _
  rw [joinTail_snoc]
  simp [List.append_assoc]
theorem textV_zero (t : TestM) (vals : List Int) : textV t vals 0 = [] := rfl
theorem textV_one (t : TestM) (vals : List Int) : textV t vals 1 = wordV t vals 0 := by
  show Lib.join [wordV t vals 0] [32] = _
  exact Lib.join_one _ _
theorem textV_len (t : TestM) (vals : List Int) (k : Nat) (m : Nat) (h : ∀ i, i < k → (wordV t vals i).length ≤ m) : (textV t vals k).length ≤ k * (m + 1) := by
  have := joinLe ((List.range k).map (wordV t vals)) m (fun x hx => by
    obtain ⟨i, hi, rfl⟩ := List.mem_map.1 hx
    exact h i (List.mem_range.1 hi))
  unfold textV
  simpa using this
theorem decLen (n : Nat) (h : n < 18446744073709551616) : (Lib.decDigits n).length ≤ 20 := by
  rw [Lib.decDigits_length]
  by_cases h0 : 1 ≤ n
  · have := Lib.numDigits_eq n h0 h; split at this <;> omega
  · have : n = 0 := by omega
    subst this; unfold Lib.nDigits; simp
set_option maxHeartbeats 12800000 in
theorem refText_any (lv tv av : Value) (t : TestM) (hk : TestOk t) (hrd : RdOk t) (hN : (slotsM t).length ≤ 1000000) (hso : SlotsOk t 100) (hnl : ∀ l ∈ t.locs, l.1.length ≤ 1000000) (hpl : ∀ p ∈ slotsM t, p.1 = -1 → p.2 < (t.locs.length : Int)) (vv : Value) (vals : List Int) (hvl : vals.length = (slotsM t).length) (hv : ∀ x ∈ vals, 0 ≤ x ∧ x < 18446744073709551616)
    (w : World) (h : TestIn w lv tv av t) (hvi : SlIn w vv 1 vals.length (vals.map (Value.int .u64))) :
    Calls Tryd.prog 16 #[.agg #[lv, tv, av], vv] w fun e w' => e = .returned (.string (st (textV t vals (slotsM t).length))) ∧ Below w.heap.size w w' := by
  have cs := refSlots_any lv tv av t hk hrd (w.alloc (.cells #[lv, tv, av] 36)) (h.below (aset _ _))
  obtain ⟨lp, lc, tp, tc, ap, ac, rfl, rfl, rfl⟩ : ∃ lp lc tp tc ap ac, lv = .slice lp t.locs.length lc ∧ tv = .slice tp t.thr.length tc ∧ av = .slice ap t.asks.length ac := by
    obtain ⟨a, ⟨vs, _, b, _⟩, c⟩ := h
    obtain ⟨lp, lc, h1⟩ := a.slice
    obtain ⟨tp, tc, h2⟩ := b.slice
    obtain ⟨ap, ac, h3⟩ := c.slice
    exact ⟨lp, lc, tp, tc, ap, ac, h1, h2, h3⟩
  obtain ⟨vp, vc, rfl⟩ := hvi.slice
  have hloc := h.locs
  have hnlk := hk.locs
  have cn : ∀ (u : Nat) W, u < 18446744073709551616 → Calls Tryd.prog 33 #[.int .u64 (u : Int)] W fun e w' => e = .returned (.string (st (Lib.decDigits u))) ∧ Below W.heap.size W w' := fun u W hu => num_any u hu W
  have CS := Bx.mk cs; have CN := Bx.mk cn; have HSO := Bx.mk hso; have HNL := Bx.mk hnl; have HPL := Bx.mk hpl; have HVL := Bx.mk hvl; have HV := Bx.mk hv; have HVI := Bx.mk hvi; have HLO := Bx.mk hloc
  have hwl : ∀ i, i < (slotsM t).length → (wordV t vals i).length ≤ 1000100 := fun i hi2 => by
    obtain ⟨p, hp⟩ : ∃ p, (slotsM t)[i]? = some p := ⟨_, List.getElem?_eq_getElem hi2⟩
    obtain ⟨x, hx⟩ : ∃ x, vals[i]? = some x := ⟨_, List.getElem?_eq_getElem (by omega)⟩
    have h1 := hv x (List.mem_of_getElem? hx)
    have h2 := decLen x.toNat (by omega)
    have h3 := hso p (List.mem_of_getElem? hp)
    have h4 : (nameP t p).length ≤ 1000050 := by
      unfold nameP
      split
      · rename_i hm
        have h5 := hpl p (List.mem_of_getElem? hp) hm
        obtain ⟨l, hl⟩ : ∃ l, t.locs[p.2.toNat]? = some l := ⟨_, List.getElem?_eq_getElem (by omega)⟩
        have := hnl l (List.mem_of_getElem? hl)
        simp only [List.getD, hl, Option.getD_some]; omega
      · rename_i hm
        have h5 := decLen p.1.toNat (by omega)
        have h6 := decLen p.2.toNat (by omega)
        simp only [List.length_append, List.length_cons, List.length_nil]; omega
    simp only [wordV, List.getD, hp, hx, Option.getD_some, List.length_append, List.length_cons, List.length_nil]
    omega
  have HWL := Bx.mk hwl
  clear cs cn hso hnl hpl hvl hv hvi h hk hrd hloc hwl
  go_enter Tryd.func16, Tryd.ntmps16
  go_wp2_with (go_at_call 12; ((with_reducible refine (CS.out).mono ?_); rintro e w2 ⟨⟨u, rfl, hu⟩, hb2⟩; obtain ⟨up, uc, rfl⟩ := rowSlice hu; have HU := Bx.mk (rowSlIn hu).1; have B2 := Bx.mk hb2; clear hu hb2))
  obtain ⟨N, hNN⟩ : ∃ N, N = (slotsM t).length := ⟨_, rfl⟩
  rw [← hNN] at hN HU ⊢
  have HN := Bx.mk hNN
  have B02 := Bx.mk (bel (aset w (.cells #[.slice lp t.locs.length lc, .slice tp t.thr.length tc, .slice ap t.asks.length ac] 36)) B2.out)
  have bx2 : w2.heap[w.heap.size]? = some (.cells #[.slice lp t.locs.length lc, .slice tp t.thr.length tc, .slice ap t.asks.length ac] 36) := nBlock B2.out
  have hlt2 : w.heap.size < w2.heap.size := by
    have := B2.out.size
    simp at this; omega
  have BX2 := Bx.mk bx2
  clear hNN bx2
  go_loopw [5, 11] (fun v i wr => ∃ (k : Nat) (S : List UInt8), v = .string (st S) ∧ i = .int .i64 (k : Int) ∧ k ≤ N ∧ Bx (S = textV t vals k) ∧ Bx (Below w2.heap.size w2 wr)) (fun _ i _ => N - (intOf i).toNat)
  case atStart => exact ⟨0, [], rfl, rfl, by omega, ⟨rfl⟩, ⟨Below.refl _ _⟩⟩
  case round =>
    obtain ⟨k, S, rfl, rfl, hkN, hS, hb⟩ := hrel
    by_cases hlt : k < N
    · obtain ⟨sb, so, sc, hsv, hsl2, hsc⟩ := HU.out.at (by omega)
      obtain ⟨rfl, _, rfl⟩ := Value.slice.inj hsv
      obtain ⟨pp, hpp⟩ : ∃ pp, (slotsM t)[k]? = some pp := ⟨_, List.getElem?_eq_getElem (by rw [← HN.out]; exact hlt)⟩
      have f0 := flatAt slC 2 (fun _ => rfl) (slotsM t) k 0 pp hpp (by decide)
      have f1 := flatAt slC 2 (fun _ => rfl) (slotsM t) k 1 pp hpp (by decide)
      have q0 : wr.cell? ⟨sb, so + k * 2, none⟩ = some (.int .i64 pp.1) := cBel (hsc _ _ f0) hb.out
      have q1 : wr.cell? ⟨sb, so + k * 2 + 1, none⟩ = some (.int .i64 pp.2) := by
        rw [Nat.add_assoc]; exact cBel (hsc _ _ f1) hb.out
      obtain ⟨x, hx⟩ : ∃ x, vals[k]? = some x := ⟨_, List.getElem?_eq_getElem (by rw [HVL.out, ← HN.out]; exact hlt)⟩
      obtain ⟨vb, vo, vc', hvv, hvl2, hvc⟩ := HVI.out.at (by rw [HVL.out, ← HN.out]; omega)
      obtain ⟨rfl, _, rfl⟩ := Value.slice.inj hvv
      have qv : wr.cell? ⟨vb, vo + k, none⟩ = some (.int .u64 x) := cBel (cBel (hvc k _ (by rw [List.getElem?_map, hx]; rfl)) B02.out) hb.out
      obtain ⟨hx0, hx1⟩ := HV.out x (List.mem_of_getElem? hx)
      obtain ⟨xn, rfl⟩ := Int.eq_ofNat_of_zero_le hx0
      obtain ⟨ho1, ho2, ho3⟩ := HSO.out pp (List.mem_of_getElem? hpp)
      have hpl1 := HPL.out pp (List.mem_of_getElem? hpp)
      have hSl : S.length ≤ N * 1000101 := by
        rw [hS.out]
        have h1 := textV_len t vals k 1000100 (fun i hi => HWL.out i (by rw [← HN.out]; omega))
        exact Nat.le_trans h1 (Nat.mul_le_mul_right _ hkN)
      have hSb : S.length ≤ 2000000000000 := by omega
      have hW : wordV t vals k = nameP t pp ++ [61] ++ Lib.decDigits xn := by
        simp [wordV, List.getD, hpp, hx]
      have hwl1 := HWL.out k (by rw [← HN.out]; omega)
      rw [hW] at hwl1
      have HWW := Bx.mk hW
      have hvN : (k : Int) < (vals.length : Int) := by rw [HVL.out, ← HN.out]; omega
      have hxn : xn < 18446744073709551616 := by omega
      obtain ⟨pa, pd⟩ := pp
      simp only at ho1 ho2 ho3 q0 q1 hpl1
      obtain ⟨d, rfl⟩ := Int.eq_ofNat_of_zero_le ho2
      have l0 : (wr.alloc (.cells #[.int .i64 pa, .int .i64 (d : Int)] 53)).cell? ⟨wr.heap.size, 0, none⟩ = some (.int .i64 pa) := by rw [cOf (heap_alloc_new _ _)]; rfl
      have l1 : (wr.alloc (.cells #[.int .i64 pa, .int .i64 (d : Int)] 53)).cell? ⟨wr.heap.size, 1, none⟩ = some (.int .i64 (d : Int)) := by rw [cOf (heap_alloc_new _ _)]; rfl
      have BZ := Bx.mk (bel hb.out (aset wr (.cells #[.int .i64 pa, .int .i64 (d : Int)] 53)))
      have hblk : wr.heap.size < (wr.alloc (.cells #[.int .i64 pa, .int .i64 (d : Int)] 53)).heap.size := by simp
      have qz := cBel qv (aset wr (.cells #[.int .i64 pa, .int .i64 (d : Int)] 53))
      clear f0 f1 hsc hsv hx hvv hvc hW hpp hSl hx0 hx1 qv
      go_upto_region 5 with fail
      generalize wr.alloc (.cells #[.int .i64 pa, .int .i64 (d : Int)] 53) = wz at *
      go_upto_if 17 with fail
      obtain ⟨S2, hS2⟩ : ∃ S2, S2 = if k = 0 then S else S ++ [32] := ⟨_, rfl⟩
      have hS2l : S2.length ≤ 2000000000001 := by
        rw [hS2]
        split
        · omega
        · rw [List.length_append, List.length_singleton]; omega
      have ES : Bx (textV t vals (k + 1) = S2 ++ wordV t vals k) := ⟨by
        rw [hS2]
        by_cases hk0 : k = 0
        · subst hk0
          rw [if_pos rfl, textV_one, hS.out, textV_zero, List.nil_append]
        · rw [if_neg hk0, textV_succ _ _ _ (by omega), hS.out]⟩
      have HS2 := Bx.mk hS2
      clear hS2
      go_cut [5] (fun s5 wx => s5 = .string (st S2) ∧ wx = wz)
      case first =>
        by_cases hk0 : k = 0
        · subst hk0
          have HD : Bx (S2 = S) := ⟨by rw [HS2.out, if_pos rfl]⟩
          go_wp2_with fail
          go_meet
          exact ⟨by rw [HD.out], rfl⟩
        · have hk1 : 0 < k := by omega
          have HD : Bx (st S2 = st S ++ ⟨#[32]⟩) := ⟨by rw [HS2.out, if_neg hk0]; exact (st_app S [32]).symm⟩
          have z1 : (st S).size ≤ 2000000000000 := by rw [st_size]; exact hSb
          have z2 : (⟨#[32]⟩ : ByteArray).size = 1 := rfl
          clear hk0
          go_wp2_with fail
          go_meet
          exact ⟨by rw [HD.out], rfl⟩
      case rest =>
      obtain ⟨rfl, hw⟩ := hcut
      have hw := hw.symm
      subst hw
      obtain ⟨S3, hS3⟩ : ∃ S3, S3 = S2 ++ nameP t (pa, (d : Int)) := ⟨_, rfl⟩
      have hS3l : S3.length ≤ 2000002000000 := by
        rw [hS3, List.length_append]
        simp only [List.length_append, List.length_cons, List.length_nil] at hwl1
        omega
      have ET : Bx (textV t vals (k + 1) = S3 ++ ([61] ++ Lib.decDigits xn)) := ⟨by
        rw [ES.out, HWW.out, hS3]; simp [List.append_assoc]⟩
      have HS3 := Bx.mk hS3
      clear hS3
      go_upto_if 22 with fail
      go_cut [5] (fun s5 wx => s5 = .string (st S3) ∧ Bx (Below wz.heap.size wz wx))
      case first =>
        by_cases hm1 : pa = -1
        · subst hm1
          have hdl := hpl1 rfl
          obtain ⟨lb, lo, lc', hlv, hll, hlc⟩ := HLO.out.at (by omega)
          obtain ⟨rfl, _, rfl⟩ := Value.slice.inj hlv
          obtain ⟨l, hl⟩ : ∃ l, t.locs[d]? = some l := ⟨_, List.getElem?_eq_getElem (by omega)⟩
          have e0 := flatAt locC 2 (fun _ => rfl) t.locs d 0 l hl (by decide)
          have qn : wz.cell? ⟨lb, lo + d * 2, none⟩ = some (.string (st l.1)) := cBel (hlc _ _ e0) (bel B02.out BZ.out)
          have qb : wz.cell? ⟨w.heap.size, 0, none⟩ = some (.slice (some ⟨lb, lo, none⟩) t.locs.length lc) := by
            rw [cOf ((BZ.out.block _ hlt2).trans BX2.out)]; rfl
          have HD : Bx (st S3 = st S2 ++ st l.1) := ⟨by
            rw [HS3.out, ← st_app]
            simp [nameP, List.getD, hl]⟩
          have z1 : (st S2).size ≤ 2000000000001 := by rw [st_size]; exact hS2l
          have z2 : (st l.1).size ≤ 1000000 := by rw [st_size]; exact HNL.out l (List.mem_of_getElem? hl)
          clear hlv hlc e0 hl hpl1
          have hbw := World.block_lt_of_cell? _ _ qb
          generalize st l.1 = SL at *
          go_wp2_with fail
          go_meet
          exact ⟨by rw [HD.out], ⟨Below.refl _ _⟩⟩
        · have hpa : 0 ≤ pa ∧ pa < 100 := by omega
          obtain ⟨th, rfl⟩ := Int.eq_ofNat_of_zero_le hpa.1
          have hthn : th < 18446744073709551616 := by omega
          have hdn : d < 18446744073709551616 := by omega
          have HD : Bx (st S3 = st S2 ++ (st (Lib.decDigits th) ++ ⟨#[58, 114]⟩ ++ st (Lib.decDigits d))) := ⟨by
            rw [HS3.out]
            unfold nameP
            rw [if_neg (by show ¬ ((th : Int) = -1); omega)]
            show st (S2 ++ (Lib.decDigits th ++ [58, 114] ++ Lib.decDigits d)) = _
            rw [← st_app, ← st_app, ← st_app]; rfl⟩
          have z0 : (st S2).size ≤ 2000000000001 := by rw [st_size]; exact hS2l
          have z1 : (st (Lib.decDigits th)).size ≤ 20 := by rw [st_size]; exact decLen _ hthn
          have z2 : (st (Lib.decDigits d)).size ≤ 20 := by rw [st_size]; exact decLen _ hdn
          have z4 : (⟨#[58, 114]⟩ : ByteArray).size = 2 := rfl
          have z3 : (st (Lib.decDigits th) ++ (⟨#[58, 114]⟩ : ByteArray)).size ≤ 22 := by rw [ByteArray.size_append, z4]; omega
          have z5 : (st (Lib.decDigits th) ++ (⟨#[58, 114]⟩ : ByteArray) ++ st (Lib.decDigits d)).size ≤ 42 := by rw [ByteArray.size_append]; omega
          have z6 : (st (Lib.decDigits th)).size ≤ 9223372036854775805 := by omega
          have z7 : (st (Lib.decDigits th)).size + 2 + (st (Lib.decDigits d)).size ≤ 9223372036854775807 := by omega
          have z8 : (st S2).size + ((st (Lib.decDigits th)).size + 2 + (st (Lib.decDigits d)).size) ≤ 9223372036854775807 := by omega
          have c1 := fun W => CN.out th W hthn
          have c2 := fun W => CN.out d W hdn
          generalize st (Lib.decDigits th) = SA at *
          generalize st (Lib.decDigits d) = SB at *
          generalize st S2 = SS at *
          have C1 := Bx.mk c1; have C2 := Bx.mk c2
          clear c1 c2 hm1 ho1 hpa hpl1
          have hneg : ¬ ((th : Int) < 0) := by omega
          have hw1 : IntKind.u64.wrap (th : Int) = (th : Int) := IntWalk.u64_in _ (by omega)
          have hw2 : IntKind.u64.wrap (d : Int) = (d : Int) := IntWalk.u64_in _ (by omega)
          go_wp2_with fail
          refine wp_region_held_drew (S := fun w' => w'.cell? ⟨wr.heap.size, 0, none⟩ = some (.int .i64 (th : Int)) ∧ w'.cell? ⟨wr.heap.size, 1, none⟩ = some (.int .i64 (d : Int))) (by kernel_rfl) ⟨by simpa using l0, by simpa using l1⟩ (fun hHeld => ?_)
          have BD := Bx.mk ((Below.refl wz.heap.size wz).drew)
          generalize wz.drew = wd at *
          refine wpAnyH_take (i := 0) (v := .string SS) rfl (by kernel_rfl) (by kernel_rfl) (by kernel_rfl) (fun _ _ _ h => h) (Or.inl ⟨by rfl, fun w' hw' => by obtain ⟨s1, s2⟩ := hw'; go_simp; try rfl⟩) hHeld ?_
          refine wpAnyH_take (i := 1) (v := .pointer (some ⟨wr.heap.size, 0, none⟩)) rfl (by kernel_rfl) (by kernel_rfl) (by kernel_rfl) (fun _ _ _ h => h) (Or.inl ⟨by rfl, fun w' hw' => by obtain ⟨s1, s2⟩ := hw'; go_simp; try rfl⟩) hHeld ?_
          refine wpAnyH_take (i := 2) (v := .int .i64 (th : Int)) rfl (by kernel_rfl) (by kernel_rfl) (by kernel_rfl) (fun _ _ _ h => h) (Or.inl ⟨by rfl, fun w' hw' => by obtain ⟨s1, s2⟩ := hw'; go_simp; try rfl⟩) hHeld ?_
          refine wpAnyH_take (i := 3) (v := .int .u64 (th : Int)) rfl (by kernel_rfl) (by kernel_rfl) (by kernel_rfl) (fun _ _ _ h => h) (Or.inl ⟨by rfl, fun w' hw' => by obtain ⟨s1, s2⟩ := hw'; go_simp; try rfl⟩) hHeld ?_
          refine wpAnyH_take (i := 6) (v := .pointer (some ⟨wr.heap.size, 1, none⟩)) rfl (by kernel_rfl) (by kernel_rfl) (by kernel_rfl) (fun _ _ _ h => h) (Or.inl ⟨by rfl, fun w' hw' => by obtain ⟨s1, s2⟩ := hw'; go_simp; try rfl⟩) hHeld ?_
          refine wpAnyH_take (i := 7) (v := .int .i64 (d : Int)) rfl (by kernel_rfl) (by kernel_rfl) (by kernel_rfl) (fun _ _ _ h => h) (Or.inl ⟨by rfl, fun w' hw' => by obtain ⟨s1, s2⟩ := hw'; go_simp; try rfl⟩) hHeld ?_
          refine wpAnyH_take (i := 8) (v := .int .u64 (d : Int)) rfl (by kernel_rfl) (by kernel_rfl) (by kernel_rfl) (fun _ _ _ h => h) (Or.inl ⟨by rfl, fun w' hw' => by obtain ⟨s1, s2⟩ := hw'; go_simp; try rfl⟩) hHeld ?_
          refine wpAnyH_ready (rs := [4]) (by kernel_rfl) (by simp) ?_
          refine AllReadyH.cons rfl (fun K hK => ?_) AllReadyH.nil
          go_simp
          go_at_call 33; ((with_reducible refine (C1.out _).mono ?_); rintro e w4 ⟨rfl, hb4⟩)
          refine hK.out _ _ ⟨cBel hHeld.1 hb4, cBel hHeld.2 hb4⟩ (fun hHeld => ?_)
          have BD := Bx.mk (bel BD.out hb4)
          clear hK K hb4
          refine wpAnyH_take (i := 5) (v := .string (SA ++ ⟨#[58, 114]⟩)) rfl (by kernel_rfl) (by kernel_rfl) (by kernel_rfl) (fun _ _ _ h => h) (Or.inl ⟨by rfl, fun w' hw' => by obtain ⟨s1, s2⟩ := hw'; go_simp; try rfl⟩) hHeld ?_
          refine wpAnyH_ready (rs := [9]) (by kernel_rfl) (by simp) ?_
          refine AllReadyH.cons rfl (fun K hK => ?_) AllReadyH.nil
          go_simp
          go_at_call 33; ((with_reducible refine (C2.out _).mono ?_); rintro e w5 ⟨rfl, hb4⟩)
          refine hK.out _ _ ⟨cBel hHeld.1 hb4, cBel hHeld.2 hb4⟩ (fun hHeld => ?_)
          have BD := Bx.mk (bel BD.out hb4)
          clear hK K hb4
          refine wpAnyH_take (i := 10) (v := .string (SA ++ ⟨#[58, 114]⟩ ++ SB)) rfl (by kernel_rfl) (by kernel_rfl) (by kernel_rfl) (fun _ _ _ h => h) (Or.inl ⟨by rfl, fun w' hw' => by obtain ⟨s1, s2⟩ := hw'; go_simp; try rfl⟩) hHeld ?_
          refine wpAnyH_take (i := 11) (v := .string (SS ++ (SA ++ ⟨#[58, 114]⟩ ++ SB))) rfl (by kernel_rfl) (by kernel_rfl) (by kernel_rfl) (fun _ _ _ h => h) (Or.inl ⟨by rfl, fun w' hw' => by obtain ⟨s1, s2⟩ := hw'; go_simp; try rfl⟩) hHeld ?_
          refine wpAnyH_take (i := 12) (v := .string (SS ++ (SA ++ ⟨#[58, 114]⟩ ++ SB))) rfl (by kernel_rfl) (by kernel_rfl) (by kernel_rfl) (fun _ _ _ h => h) (Or.inl ⟨by rfl, fun w' hw' => by obtain ⟨s1, s2⟩ := hw'; go_simp; try rfl⟩) hHeld ?_
          refine wpAnyH_done (by kernel_rfl) ?_ _
          clear hHeld
          go_wp2_with fail
          go_meet
          exact ⟨by rw [HD.out], BD⟩
      case rest =>
      obtain ⟨rfl, BX⟩ := hcut
      have qx : wc.cell? ⟨vb, vo + k, none⟩ = some (.int .u64 (xn : Int)) := cBel qz BX.out
      have c3 := fun W => CN.out xn W hxn
      have HD : Bx (st (textV t vals (k + 1)) = st S3 ++ (⟨#[61]⟩ ++ st (Lib.decDigits xn))) := ⟨by
        rw [ET.out, ← st_app, ← st_app]; rfl⟩
      have z0 : (st S3).size ≤ 2000002000000 := by rw [st_size]; exact hS3l
      have z1 : (st (Lib.decDigits xn)).size ≤ 20 := by rw [st_size]; exact decLen _ hxn
      have z4 : (⟨#[61]⟩ : ByteArray).size = 1 := rfl
      have z3 : ((⟨#[61]⟩ : ByteArray) ++ st (Lib.decDigits xn)).size ≤ 21 := by rw [ByteArray.size_append, z4]; omega
      generalize st S3 = SS at *
      generalize st (Lib.decDigits xn) = SX at *
      have C3 := Bx.mk c3
      have B3 := Bx.mk (bel' BZ.out BZ.out.size BX.out)
      have hk0 : (0 : Int) ≤ (k : Int) := by omega
      clear c3 hpl1
      go_wp2_with (go_at_call 33; ((with_reducible refine (C3.out _).mono ?_); rintro e w6 ⟨rfl, hb6⟩; have B6 := Bx.mk (bel' B3.out B3.out.size hb6); clear hb6))
      go_roundw
      case rel => exact ⟨k + 1, textV t vals (k + 1), by rw [HD.out], by go_num, by omega, ⟨rfl⟩, B6⟩
      case measure => simp [intOf] <;> omega
    · obtain rfl : k = N := by omega
      have e9 := HN.out
      go_wp2_with fail
      go_ret
      exact ⟨by rw [← e9, ← hS.out]; rfl, bel B02.out hb.out⟩
end Go.Proofs.YtnlcmdgjoikljaaDoor
