/- The reference's numbers of a state. -/
import Derived.Test.YtnlcmdgjoikljaaDoorTolS
import Derived.Test.YtnlcmdgjoikljaaDoorOutE
namespace Go.Proofs.YtnlcmdgjoikljaaDoor
set_option maxRecDepth 100000
open Go.RowKit

theorem info_u64 : (Tryd.prog.info? 40).map (fun i => (i.zero, i.size, i.bytes)) = some (some (.int .u64 0), 1, 8) := by kernel_rfl
theorem nSU : (53 : TypeId) ≠ 40 := by decide
/-- places that there are -/
def SlotsOk (t : TestM) (n : Nat) : Prop := ∀ p ∈ slotsM t, (p.1 = -1 ∨ (0 ≤ p.1 ∧ p.1 < (n : Int))) ∧ 0 ≤ p.2 ∧ p.2 < 8
theorem atM_some (l : List Int) (i : Int) (h0 : 0 ≤ i) (h1 : i.toNat < l.length) : l[i.toNat]? = some (atM l i) := by
  rw [List.getElem?_eq_getElem h1]
  unfold atM
  simp [List.getD]
  split <;> first | omega | simp [h1]
set_option maxHeartbeats 6400000 in
theorem refMade_any (lv tv av : Value) (t : TestM) (hk : TestOk t) (hrd : RdOk t) (hN : (slotsM t).length ≤ 1000000) (rv lv2 : Value) (RR : List (List Int)) (vs : List Value) (L : List Int) (hso : SlotsOk t RR.length) (hvl : vs.length = RR.length) (hL : L.length = 8) (hRR : ∀ l ∈ RR, l.length = 8)
    (w : World) (h : TestIn w lv tv av t) (hr : SlIn w rv 1 RR.length vs) (hri : ∀ (i : Nat) (v : Value) (l : List Int), vs[i]? = some v → RR[i]? = some l → SlIn w v 1 8 (l.map (Value.int .u64))) (hl2 : SlIn w lv2 1 8 (L.map (Value.int .u64))) :
    Calls Tryd.prog 10 #[.agg #[lv, tv, av], rv, lv2] w fun e w' => (∃ u, e = .returned u ∧ w'.ownsRow w.heap.size 40 1 u (slotsM t).length (((slotsM t).map (valM RR L)).map (Value.int .u64))) ∧ Below w.heap.size w w' := by
  obtain ⟨i0, hi, hz0, hz1, hz2⟩ := info_parts info_u64
  obtain ⟨rp, rc, rfl⟩ := hr.slice
  have cs := refSlots_any lv tv av t hk hrd ((w.alloc (.cells #[lv, tv, av] 36)).alloc (.cells #[] 40)) ((h.below (aset _ _)).below (aset _ _))
  obtain ⟨lp, lc, tp, tc, ap, ac, rfl, rfl, rfl⟩ : ∃ lp lc tp tc ap ac, lv = .slice lp t.locs.length lc ∧ tv = .slice tp t.thr.length tc ∧ av = .slice ap t.asks.length ac := by
    obtain ⟨a, ⟨vs, _, b, _⟩, c⟩ := h
    obtain ⟨lp, lc, h1⟩ := a.slice
    obtain ⟨tp, tc, h2⟩ := b.slice
    obtain ⟨ap, ac, h3⟩ := c.slice
    exact ⟨lp, lc, tp, tc, ap, ac, h1, h2, h3⟩
  obtain ⟨l2b, l2o, l2c, rfl, hl2b, hl2c⟩ := hl2.at (by omega)
  have CS := Bx.mk cs; have HR := Bx.mk hr; have HRI := Bx.mk hri; have HL2 := Bx.mk hl2c; have HSO := Bx.mk hso; have HVL := Bx.mk hvl; have HRR := Bx.mk hRR; have HLL := Bx.mk hL
  clear cs hr hri hl2c hso hvl hRR h hl2 hk hrd hL
  go_enter Tryd.func10, Tryd.ntmps10
  go_wp2_with (go_at_call 12; ((with_reducible refine (CS.out).mono ?_); rintro e w2 ⟨⟨u, rfl, hu⟩, hb2⟩; obtain ⟨up, uc, rfl⟩ := rowSlice hu; have HU := Bx.mk hu; have B2 := Bx.mk hb2; clear hu hb2))
  have hrow0 : w2.ownsRow (w.heap.size + 1) 40 1 (.slice (some ⟨w.heap.size + 1, 0, none⟩) 0 0) 0 [] := by
    have hs : (w.alloc (.cells #[.slice lp t.locs.length lc, .slice tp t.thr.length tc, .slice ap t.asks.length ac] 36)).heap.size = w.heap.size + 1 := by simp
    have hr := newRowE (w.alloc (.cells #[.slice lp t.locs.length lc, .slice tp t.thr.length tc, .slice ap t.asks.length ac] 36)) 40 1
    rw [hs] at hr
    exact rowBel hr B2.out
  have hB02 : Below w.heap.size w w2 := bel (bel (aset _ _) (aset _ _)) B2.out
  obtain ⟨sl, hsl⟩ : ∃ sl, sl = slotsM t := ⟨_, rfl⟩
  rw [← hsl] at hN HU ⊢
  have HSL := Bx.mk hsl
  have HR0 := Bx.mk hrow0; have HB02 := Bx.mk hB02
  have hsz2 : w.heap.size + 1 < w2.heap.size := (rowLt hrow0 _ rfl).2
  clear hsl hrow0 hB02
  have HU2 : Bx (w2.ownsRow (w.heap.size + 1 + 1) 53 2 (.slice up sl.length uc) sl.length (sl.flatMap slC)) := ⟨by
    have := HU.out
    simpa using this⟩
  go_loopw [7, 14] (fun v i wr => ∃ (k : Nat) (p : Option Addr) (c : Nat), v = .slice p k c ∧ i = .int .i64 (k : Int) ∧ k ≤ sl.length ∧ Bx (wr.ownsRow (w.heap.size + 1) 40 1 (.slice p k c) k (((sl.take k).map (valM RR L)).map (Value.int .u64))) ∧ Bx (wr.ownsRow (w.heap.size + 1 + 1) 53 2 (.slice up sl.length uc) sl.length (sl.flatMap slC)) ∧ Bx (Below w.heap.size w wr)) (fun _ i _ => sl.length - (intOf i).toNat)
  case atStart => exact ⟨0, _, _, rfl, rfl, by omega, HR0, HU2, HB02⟩
  case round =>
    obtain ⟨k, p, c, rfl, rfl, hkn, hrow, hus, hb⟩ := hrel
    by_cases hlt : k < sl.length
    · obtain ⟨sb, so, uc', huv, hul, huc⟩ := (rowSlIn hus.out).1.at (by omega)
      obtain ⟨rfl, _, rfl⟩ := Value.slice.inj huv
      obtain ⟨pp, hpp⟩ : ∃ pp, sl[k]? = some pp := ⟨_, List.getElem?_eq_getElem hlt⟩
      have f0 := flatAt slC 2 (fun _ => rfl) sl k 0 pp hpp (by decide)
      have f1 := flatAt slC 2 (fun _ => rfl) sl k 1 pp hpp (by decide)
      have q0 : wr.cell? ⟨sb, so + k * 2, none⟩ = some (.int .i64 pp.1) := huc _ _ f0
      have q1 : wr.cell? ⟨sb, so + k * 2 + 1, none⟩ = some (.int .i64 pp.2) := by
        rw [Nat.add_assoc]; exact huc _ _ f1
      obtain ⟨ho1, ho2, ho3⟩ := HSO.out pp (by rw [← HSL.out]; exact List.mem_of_getElem? hpp)
      obtain ⟨X, hX⟩ : ∃ X, X = valM RR L pp := ⟨_, rfl⟩
      have EE : Bx (((sl.take (k + 1)).map (valM RR L)) = ((sl.take k).map (valM RR L)) ++ [X]) := ⟨by
        rw [List.take_add_one, hpp, hX]; simp⟩
      have hsr := hb.out.size
      obtain ⟨pa, pd⟩ := pp
      simp only at ho1 ho2 ho3 q0 q1
      obtain ⟨d, rfl⟩ := Int.eq_ofNat_of_zero_le ho2
      have hd8 : d < 8 := by omega
      have l0 : (wr.alloc (.cells #[.int .i64 pa, .int .i64 (d : Int)] 53)).cell? ⟨wr.heap.size, 0, none⟩ = some (.int .i64 pa) := by rw [cOf (heap_alloc_new _ _)]; rfl
      have l1 : (wr.alloc (.cells #[.int .i64 pa, .int .i64 (d : Int)] 53)).cell? ⟨wr.heap.size, 1, none⟩ = some (.int .i64 (d : Int)) := by rw [cOf (heap_alloc_new _ _)]; rfl
      have ROWZ := Bx.mk (rowBel hrow.out (aset wr (.cells #[.int .i64 pa, .int .i64 (d : Int)] 53)))
      have UZ := Bx.mk (rowBel hus.out (aset wr (.cells #[.int .i64 pa, .int .i64 (d : Int)] 53)))
      have BZ := Bx.mk (bel hb.out (aset wr (.cells #[.int .i64 pa, .int .i64 (d : Int)] 53)))
      clear f0 f1 huc huv hpp ho2 ho3
      go_upto_region 5 with fail
      generalize wr.alloc (.cells #[.int .i64 pa, .int .i64 (d : Int)] 53) = wz at *
      have hsz := BZ.out.size
      have hsw := (rowLt ROWZ.out)
      by_cases hm1 : pa = -1
      · subst hm1
        have hx : L[d]? = some X := by
          have := atM_some L (d : Int) (by omega) (by rw [HLL.out]; omega)
          rw [hX]
          unfold valM
          rw [if_pos rfl]
          simpa using this
        have qx : wz.cell? ⟨l2b, l2o + d, none⟩ = some (.int .u64 X) := cBel (HL2.out d _ (by rw [List.getElem?_map, hx]; rfl)) BZ.out
        clear hx hX hsw
        have hdi : (d : Int) < 8 := by omega
        go_wp2_with (at_builtin; refine wpList_append_lies _ rfl (.tmp 21) (.tmp 27) 27 rfl (w.heap.size + 1) 40 i0 _ 1 8 Tryd.underlying27 hi hz0 hz1 hz2 rfl (by omega) _ k (((sl.take k).map (valM RR L)).map (Value.int .u64)) rfl (ROWZ.out.alloc _) ⟨wz.heap.size, 0, none⟩ 1 1 [.int .u64 X] rfl rfl (World.news_of_block (cs := #[.int .u64 X]) (t := 40) (fr := (0, 0)) (heap_alloc_new _ _)) (by simp [Value.oneCell']) (by omega) (by unfold maxLen; omega) (by omega) (by first | (simp; done) | (simp; omega)) (wz.heap.size + 1) (by simp) ?_; intro g cap w4 hown3 hgrow hat hlt3; have B4 : Bx (Below w.heap.size w w4) := ⟨(BZ.out.alloc BZ.out.size _).grown hgrow (by first | (simp; done) | (simp; omega)) (fun k hk => by have := (rowLt hrow.out k hk).1; omega)⟩; have U4 : Bx (w4.ownsRow (w.heap.size + 1 + 1) 53 2 (.slice (some ⟨sb, so, none⟩) sl.length uc) sl.length (sl.flatMap slC)) := ⟨rowKeep UZ.out fun k hk => grownC (aset wz _) hgrow (rowLt UZ.out k hk).2 (rowApart UZ.out ROWZ.out nSU k hk)⟩; have R4 : Bx (w4.ownsRow (w.heap.size + 1) 40 1 (.slice (some ⟨g, 0, none⟩) (k + 1) cap) (k + 1) (((sl.take (k + 1)).map (valM RR L)).map (Value.int .u64))) := ⟨(by rw [EE.out, List.map_append]; exact hown3)⟩; clear hown3 hgrow hat hlt3)
        go_roundw
        case rel => exact ⟨k + 1, _, _, rfl, by go_num, by omega, R4, U4, B4⟩
        case measure => simp [intOf] <;> omega
      · have hpa : 0 ≤ pa ∧ pa < (RR.length : Int) := by omega
        obtain ⟨th, rfl⟩ := Int.eq_ofNat_of_zero_le hpa.1
        have hth : th < RR.length := by omega
        obtain ⟨rb, ro, rc', hrv, hrl, hrc⟩ := HR.out.at (by omega)
        obtain ⟨rfl, _, rfl⟩ := Value.slice.inj hrv
        obtain ⟨l, hl⟩ : ∃ l, RR[th]? = some l := ⟨_, List.getElem?_eq_getElem hth⟩
        obtain ⟨lvv, hlv⟩ : ∃ x, vs[th]? = some x := ⟨_, List.getElem?_eq_getElem (by rw [HVL.out]; exact hth)⟩
        have hl8 := HRR.out l (List.mem_of_getElem? hl)
        obtain ⟨eb, eo, ec, rfl, heb, hec⟩ := (HRI.out th lvv l hlv hl).at (by omega)
        have hx : l[d]? = some X := by
          have := atM_some l (d : Int) (by omega) (by rw [hl8]; omega)
          rw [hX]
          unfold valM
          rw [if_neg (by show ¬ ((th : Int) = -1); omega), if_pos (by show (th : Int) < _; omega)]
          simp only [Int.toNat_natCast] at this ⊢
          simpa [List.getD, hl] using this
        have qr : wz.cell? ⟨rb, ro + th, none⟩ = some (.slice (some ⟨eb, eo, none⟩) 8 ec) := cBel (hrc th _ hlv) BZ.out
        have qx : wz.cell? ⟨eb, eo + d, none⟩ = some (.int .u64 X) := cBel (hec d _ (by rw [List.getElem?_map, hx]; rfl)) BZ.out
        have hti : (th : Int) < (RR.length : Int) := by omega
        have hdi : (d : Int) < 8 := by omega
        have hd0 : (0 : Int) ≤ (d : Int) := by omega
        have ht0 : (0 : Int) ≤ (th : Int) := by omega
        clear hx hX hsw hrv hrc hl hlv hec hm1 hpa ho1
        go_wp2_with fail
        have ROWD := Bx.mk (rowBel ROWZ.out (Below.refl wz.heap.size wz).drew); have UD := Bx.mk (rowBel UZ.out (Below.refl wz.heap.size wz).drew); have BD := Bx.mk (BZ.out.drew)
        refine wp_region_held_drew (S := fun w' => w'.cell? ⟨wr.heap.size, 0, none⟩ = some (.int .i64 (th : Int)) ∧ w'.cell? ⟨wr.heap.size, 1, none⟩ = some (.int .i64 (d : Int)) ∧ w'.cell? ⟨rb, ro + th, none⟩ = some (.slice (some ⟨eb, eo, none⟩) 8 ec) ∧ w'.cell? ⟨eb, eo + d, none⟩ = some (.int .u64 X)) (by kernel_rfl) ⟨by simpa using l0, by simpa using l1, by simpa using qr, by simpa using qx⟩ (fun hHeld => ?_)
        clear l0 l1 qr qx ROWZ UZ BZ
        generalize wz.drew = wd at *
        refine wpAnyH_take (i := 0) (v := .slice p k c) rfl (by kernel_rfl) (by kernel_rfl) (by kernel_rfl) (fun _ _ _ h => h) (Or.inl ⟨by rfl, fun w' hw' => by obtain ⟨s1, s2, s3, s4⟩ := hw'; go_simp; try rfl⟩) hHeld ?_
        refine wpAnyH_take (i := 1) (v := .slice (some ⟨rb, ro, none⟩) RR.length rc) rfl (by kernel_rfl) (by kernel_rfl) (by kernel_rfl) (fun _ _ _ h => h) (Or.inl ⟨by rfl, fun w' hw' => by obtain ⟨s1, s2, s3, s4⟩ := hw'; go_simp; try rfl⟩) hHeld ?_
        refine wpAnyH_take (i := 2) (v := .pointer (some ⟨wr.heap.size, 0, none⟩)) rfl (by kernel_rfl) (by kernel_rfl) (by kernel_rfl) (fun _ _ _ h => h) (Or.inl ⟨by rfl, fun w' hw' => by obtain ⟨s1, s2, s3, s4⟩ := hw'; go_simp; try rfl⟩) hHeld ?_
        refine wpAnyH_take (i := 3) (v := .int .i64 (th : Int)) rfl (by kernel_rfl) (by kernel_rfl) (by kernel_rfl) (fun _ _ _ h => h) (Or.inl ⟨by rfl, fun w' hw' => by obtain ⟨s1, s2, s3, s4⟩ := hw'; go_simp; try rfl⟩) hHeld ?_
        refine wpAnyH_take (i := 4) (v := .pointer (some ⟨rb, ro + th, none⟩)) rfl (by kernel_rfl) (by kernel_rfl) (by kernel_rfl) (fun _ _ _ h => h) (Or.inl ⟨by rfl, fun w' hw' => by obtain ⟨s1, s2, s3, s4⟩ := hw'; go_simp; try rfl⟩) hHeld ?_
        refine wpAnyH_take (i := 5) (v := .slice (some ⟨eb, eo, none⟩) 8 ec) rfl (by kernel_rfl) (by kernel_rfl) (by kernel_rfl) (fun _ _ _ h => h) (Or.inl ⟨by rfl, fun w' hw' => by obtain ⟨s1, s2, s3, s4⟩ := hw'; go_simp; try rfl⟩) hHeld ?_
        refine wpAnyH_take (i := 6) (v := .pointer (some ⟨wr.heap.size, 1, none⟩)) rfl (by kernel_rfl) (by kernel_rfl) (by kernel_rfl) (fun _ _ _ h => h) (Or.inl ⟨by rfl, fun w' hw' => by obtain ⟨s1, s2, s3, s4⟩ := hw'; go_simp; try rfl⟩) hHeld ?_
        refine wpAnyH_take (i := 7) (v := .int .i64 (d : Int)) rfl (by kernel_rfl) (by kernel_rfl) (by kernel_rfl) (fun _ _ _ h => h) (Or.inl ⟨by rfl, fun w' hw' => by obtain ⟨s1, s2, s3, s4⟩ := hw'; go_simp; try rfl⟩) hHeld ?_
        refine wpAnyH_take (i := 8) (v := .pointer (some ⟨eb, eo + d, none⟩)) rfl (by kernel_rfl) (by kernel_rfl) (by kernel_rfl) (fun _ _ _ h => h) (Or.inl ⟨by rfl, fun w' hw' => by obtain ⟨s1, s2, s3, s4⟩ := hw'; go_simp; try rfl⟩) hHeld ?_
        refine wpAnyH_take (i := 9) (v := .int .u64 X) rfl (by kernel_rfl) (by kernel_rfl) (by kernel_rfl) (fun _ _ _ h => h) (Or.inl ⟨by rfl, fun w' hw' => by obtain ⟨s1, s2, s3, s4⟩ := hw'; go_simp; try rfl⟩) hHeld ?_
        refine wpAnyH_ready (rs := [10]) (by kernel_rfl) (by simp) ?_
        refine AllReadyH.cons rfl (fun K hK => ?_) AllReadyH.nil
        go_simp
        refine hK.out _ _ ⟨cBel hHeld.1 (aset _ _), cBel hHeld.2.1 (aset _ _), cBel hHeld.2.2.1 (aset _ _), cBel hHeld.2.2.2 (aset _ _)⟩ (fun hHeld => ?_)
        clear hK K
        refine wpAnyH_ready (rs := [11]) (by kernel_rfl) (by simp) ?_
        refine AllReadyH.cons rfl (fun K hK => ?_) AllReadyH.nil
        have hsd := BD.out.size
        refine step_append_lies _ (by rfl) _ _ _ (by rfl) (w.heap.size + 1) 40 i0 _ 1 8 Tryd.underlying27 hi hz0 hz1 hz2 rfl (by omega) _ k (((sl.take k).map (valM RR L)).map (Value.int .u64)) (by rfl) (ROWD.out.alloc _) ⟨wd.heap.size, 0, none⟩ 1 1 [.int .u64 X] (by rfl) (by rfl) (World.news_of_block (cs := #[.int .u64 X]) (t := 40) (fr := (0, 0)) (heap_alloc_new _ _)) (by simp [Value.oneCell']) (by omega) (by unfold maxLen; omega) (by omega) (by first | (simp; done) | (simp; omega)) (wd.heap.size + 1) (by simp) ?_
        intro g cap w4 hown3 hgrow hat hlt3
        have B4 : Bx (Below w.heap.size w w4) := ⟨(BD.out.alloc BD.out.size _).grown hgrow (by first | (simp; done) | (simp; omega)) (fun k hk => by have := (rowLt hrow.out k hk).1; omega)⟩
        have U4 : Bx (w4.ownsRow (w.heap.size + 1 + 1) 53 2 (.slice (some ⟨sb, so, none⟩) sl.length uc) sl.length (sl.flatMap slC)) := ⟨rowKeep UD.out fun k hk => grownC (aset wd _) hgrow (rowLt UD.out k hk).2 (rowApart UD.out ROWD.out nSU k hk)⟩
        have R4 : Bx (w4.ownsRow (w.heap.size + 1) 40 1 (.slice (some ⟨g, 0, none⟩) (k + 1) cap) (k + 1) (((sl.take (k + 1)).map (valM RR L)).map (Value.int .u64))) := ⟨(by rw [EE.out, List.map_append]; exact hown3)⟩
        clear hown3 hat hlt3
        have nb : ∀ b', b' < w.heap.size + 1 ∨ wr.heap.size ≤ b' → (Value.slice p k c).ownBlock ≠ some b' := fun b' hb' e => by have := rowLt hrow.out _ e; omega
        have hrb : rb < w.heap.size + 1 := by omega
        have heb2 : eb < w.heap.size + 1 := by omega
        refine hK.out _ _ ⟨keepC (grownC (Below.refl _ _) hgrow (World.block_lt_of_cell? _ _ hHeld.1) (nb _ (.inr (Nat.le_refl _)))) hHeld.1, keepC (grownC (Below.refl _ _) hgrow (World.block_lt_of_cell? _ _ hHeld.2.1) (nb _ (.inr (Nat.le_refl _)))) hHeld.2.1, keepC (grownC (Below.refl _ _) hgrow (World.block_lt_of_cell? _ _ hHeld.2.2.1) (nb _ (.inl hrb))) hHeld.2.2.1, keepC (grownC (Below.refl _ _) hgrow (World.block_lt_of_cell? _ _ hHeld.2.2.2) (nb _ (.inl heb2))) hHeld.2.2.2⟩ (fun hHeld => ?_)
        clear hK K nb hrb heb2
        refine wpAnyH_take (i := 12) (v := .slice (some ⟨g, 0, none⟩) (k + 1) cap) rfl (by kernel_rfl) (by kernel_rfl) (by kernel_rfl) (fun _ _ _ h => h) (Or.inl ⟨by rfl, fun w' hw' => by obtain ⟨s1, s2, s3, s4⟩ := hw'; go_simp; try rfl⟩) hHeld ?_
        refine wpAnyH_done (by kernel_rfl) ?_ _
        clear hHeld hgrow
        go_wp2_with fail
        go_roundw
        case rel => exact ⟨k + 1, _, _, rfl, by go_num, by omega, R4, U4, B4⟩
        case measure => simp [intOf] <;> omega
    · obtain rfl : k = sl.length := by omega
      have hT : Bx ((sl.take sl.length).map (valM RR L) = sl.map (valM RR L)) := ⟨by rw [List.take_length]⟩
      go_wp2_with fail
      go_ret
      have e9 := HSL.out
      subst e9
      exact ⟨⟨_, rfl, by have h9 := rowMono hrow.out (show w.heap.size ≤ w.heap.size + 1 by omega); rw [hT.out] at h9; exact h9⟩, hb.out⟩
end Go.Proofs.YtnlcmdgjoikljaaDoor
