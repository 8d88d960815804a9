/- Contracts of litmus: Regs. -/
import Derived.Test.YtnlcmdgjoikljaaDoorLitU
import Derived.Test.YtnlcmdgjoikljaaDoorShelf
import Derived.Sort.OwnSortedInts
import Derived.Shelf.Slices.In.SortNone
namespace Go.Proofs.YtnlcmdgjoikljaaDoor
set_option maxRecDepth 100000
open Go.RowKit Go.Sort

/-- the registers that a thread sets, one behind the other -/
def regsOf (l : List Ins) : List Int := (l.filter fun x => setsM x.op).map (·.rd)
def sortZ (l : List Int) : List Int := l.mergeSort fun x y => decide (x ≤ y)
def regsM (l : List Ins) : List Int := Lib.compact (sortZ (regsOf l))
theorem sortZ_length (l : List Int) : (sortZ l).length = l.length := List.length_mergeSort _
theorem regsOf_le (l : List Ins) : (regsOf l).length ≤ l.length := by
  unfold regsOf
  rw [List.length_map]
  exact List.length_filter_le _ _
theorem regsOf_take {l : List Ins} {k : Nat} {x : Ins} (h : l[k]? = some x) : regsOf (l.take (k + 1)) = regsOf (l.take k) ++ (if setsM x.op = true then [x.rd] else []) := by
  have e : l.take (k + 1) = l.take k ++ [x] := by rw [List.take_add_one, h]; rfl
  rw [e]
  unfold regsOf
  rw [List.filter_append, List.map_append]
  by_cases hs : setsM x.op = true <;> simp [hs]

theorem grow_nil (w : World) : grow w #[] = w := by simp [grow]
theorem grownNone (w : World) (o : Option Nat) : w.grownBy w o := ⟨rfl, rfl, rfl, Nat.le_refl _, fun _ _ _ => rfl⟩

theorem sort_row (B : Nat) (v : Value) (xs : List Int) (w : World) (h : w.ownsRow B 3 1 v xs.length (xs.map (Value.int .i64))) (hl : xs.length ≤ 1000000) :
    Calls Tryd.prog 46 #[v] w fun e w' => e = .returned (.tuple #[]) ∧ w'.ownsRow B 3 1 v xs.length ((sortZ xs).map (Value.int .i64)) ∧ w.grownBy w' v.ownBlock := by
  rcases h.2 with ⟨hv, h0⟩ | ⟨g, cap, cur, hv, hbg, hg, hnc, hcm, hcs, ht⟩
  · have hx : xs = [] := List.eq_nil_of_length_eq_zero h0
    subst hx hv
    refine (Any.slices_Sort_int_none Tryd.lays189 none 0 w).mono fun e w' ⟨he, hw⟩ => ?_
    subst hw
    exact ⟨he, by simpa [sortZ] using h, grownNone _ _⟩
  · subst hv
    have hgl : g < w.heap.size := by
      rcases Nat.lt_or_ge g w.heap.size with e | e
      · exact e
      · rw [Array.getElem?_eq_none e] at hg; cases hg
    rw [Nat.mul_one] at ht
    refine (Tryd.slices_Sort_int g 0 cap xs w (holds_of_blockI hg ht) hgl (by omega)).mono fun e w' ⟨he, n, os, hw⟩ => ?_
    subst hw
    refine ⟨he, ?_, grownBy_sortedI _⟩
    exact ownsRow_sortedI (sortZ_length xs) hbg hg hnc hcm hcs

theorem compact_le (xs : List Int) : (Lib.compact xs).length ≤ xs.length := by
  unfold Lib.compact Lib.compactUpTo
  rw [List.length_map]
  exact Nat.le_trans (List.length_filter_le _ _) (by simp)
/-- what Compact answers -/
def CompP (w : World) (v : Value) (xs : List Int) (e : Ending) (w' : World) : Prop :=
  ∃ u, e = .returned u ∧ SlIn w' u 1 (Lib.compact xs).length ((Lib.compact xs).map (Value.int .i64)) ∧ w.grownBy w' v.ownBlock ∧ u.ownBlock = v.ownBlock
theorem compact_row (B : Nat) (v : Value) (xs : List Int) (w : World) (h : w.ownsRow B 3 1 v xs.length (xs.map (Value.int .i64))) (hl : xs.length ≤ 1000000) :
    Calls Tryd.prog 47 #[v] w (CompP w v xs) := by
  have hcl := compact_le xs
  by_cases h0 : xs.length = 0
  · have hx : xs = [] := List.eq_nil_of_length_eq_zero h0
    subst hx
    obtain ⟨p, c, rfl⟩ := rowSlice h
    refine (Tryd.slices_Compact_int_empty p c w).mono fun e w' ⟨he, hw⟩ => ?_
    subst hw
    exact ⟨_, he, ⟨rfl, .inl ⟨rfl, _, _, rfl⟩⟩, grownNone _ _, rfl⟩
  rcases h.2 with ⟨hv, h0'⟩ | ⟨g, cap, cur, hv, hbg, hg, hnc, hcm, hcs, ht⟩
  · exact absurd h0' h0
  · subst hv
    have hgl : g < w.heap.size := by
      rcases Nat.lt_or_ge g w.heap.size with e | e
      · exact e
      · rw [Array.getElem?_eq_none e] at hg; cases hg
    rw [Nat.mul_one] at ht
    refine (Tryd.slices_Compact_int g 0 cap xs w (holds_of_blockI hg ht) (by omega) hnc).mono fun e w' ⟨he, q, hw⟩ => ?_
    have hlen : (Lib.compact xs ++ List.replicate (xs.length - (Lib.compact xs).length) (0 : Int)).length = xs.length := by
      rw [List.length_append, List.length_replicate]; omega
    have hown := ownsRow_sortedI (w := w) (base := B) (n := q) (os := #[]) (e := 3) (ss := xs) (ts := Lib.compact xs ++ List.replicate (xs.length - (Lib.compact xs).length) (0 : Int)) hlen hbg hg hnc hcm hcs
    have hgr := grownBy_sortedI (w := w) (g := g) (n := q) (os := #[]) (Lib.compact xs ++ List.replicate (xs.length - (Lib.compact xs).length) (0 : Int)).toArray
    rw [grow_nil] at hown hgr
    rw [← hw] at hown hgr
    refine ⟨_, he, ⟨by simp, .inr ⟨g, 0, cap, rfl, Nat.lt_of_lt_of_le hgl hgr.size, fun i u hu => ?_⟩⟩, hgr, rfl⟩
    have hi : i < (Lib.compact xs).length := by
      have := (List.getElem?_eq_some_iff.1 hu).1
      simpa using this
    rw [Nat.zero_add, hown.cellAt i (by omega), List.map_append, List.getElem?_append_left (by simpa using hi), hu]

/-- what Regs answers -/
def RegsP (w : World) (l : List Ins) (e : Ending) (w' : World) : Prop :=
  ∃ u, e = .returned u ∧ SlIn w' u 1 (regsM l).length ((regsM l).map (Value.int .i64)) ∧ Below w.heap.size w w' ∧ ∀ k, u.ownBlock = some k → w.heap.size ≤ k
theorem info_int : (Tryd.prog.info? 3).map (fun i => (i.zero, i.size, i.bytes)) = some (some (.int .i64 0), 1, 8) := by kernel_rfl

set_option maxHeartbeats 3200000 in
theorem regs_any (b : Nat) (t : TestM) (hk : TestOk t) (i : Nat) (l : List Ins) (hl : t.thr[i]? = some l) (w : World) (h : TestAt w b t) :
    Calls Tryd.prog 28 #[.pointer (some ⟨b, 0, none⟩), .int .i64 (i : Int)] w (RegsP w l) := by
  obtain ⟨i0, hi, hz0, hz1, hz2⟩ := info_parts info_int
  obtain ⟨lv, tv, av, h0, h1, h2, ⟨_, ⟨vs, hvl, hth, hins⟩, _⟩⟩ := h.test
  have hn := hk.thr
  have hil : i < t.thr.length := (List.getElem?_eq_some_iff.1 hl).1
  obtain ⟨bb, off, c, rfl, hbl, hcl⟩ := hth.at (by omega)
  obtain ⟨v, hvk⟩ : ∃ v, vs[i]? = some v := ⟨_, List.getElem?_eq_getElem (by rw [hvl]; exact hil)⟩
  obtain ⟨l', hlk, hsl⟩ := hins i v hvk
  obtain rfl : l = l' := by rw [hl] at hlk; exact Option.some.inj hlk
  have hnl : l.length ≤ 1000000 := hk.ins l (List.mem_of_getElem? hl)
  obtain ⟨p2, c2, rfl⟩ := hsl.slice
  have hc0 : w.cell? ⟨bb, off + i, none⟩ = some (.slice p2 l.length c2) := hcl i _ hvk
  have HS := Bx.mk hsl
  clear h h0 h2 hvl hth hins hk hcl hvk hlk hsl hl
  generalize t.thr.length = N at *
  have e1 : decide ((i : Int) < 0) = false := by simp
  have e2 : decide (N ≤ i) = false := by simp; omega
  go_enter Tryd.func28, Tryd.ntmps28
  go_wp2_with fail
  go_loopw [5, 27] (fun r k wr => ∃ m : Nat, k = .int .i64 (m : Int) ∧ m ≤ l.length ∧ Bx (wr.ownsRow w.heap.size 3 1 r (regsOf (l.take m)).length ((regsOf (l.take m)).map (Value.int .i64))) ∧ Bx (Below w.heap.size w wr) ∧ ∃ p q c, r = .slice p q c) (fun _ k _ => l.length - (intOf k).toNat)
  case atStart => exact ⟨0, rfl, by omega, ⟨World.ownsRow_nil _ _ _ _⟩, ⟨Below.refl _ _⟩, _, _, _, rfl⟩
  case round =>
    obtain ⟨m, rfl, hm, hrow, hb, rp, rq, rc, rfl⟩ := hrel
    by_cases hlt : m < l.length
    · obtain ⟨bb', off', c', hv, hbl', hcl'⟩ := HS.out.at (by omega)
      obtain ⟨rfl, _, rfl⟩ := Value.slice.inj hv
      obtain ⟨x, hx⟩ : ∃ x, l[m]? = some x := ⟨_, List.getElem?_eq_getElem hlt⟩
      have hia := SlIn.ins hcl' hx
      obtain ⟨q0, q1, q2, q3, q4, q5, q6, q7, q8, q9, q10, q11, q12⟩ : InsAt wr bb' (off' + m * 13) x := ⟨(hb.out.cell hbl').trans hia.c0, (hb.out.cell hbl').trans hia.c1, (hb.out.cell hbl').trans hia.c2, (hb.out.cell hbl').trans hia.c3, (hb.out.cell hbl').trans hia.c4, (hb.out.cell hbl').trans hia.c5, (hb.out.cell hbl').trans hia.c6, (hb.out.cell hbl').trans hia.c7, (hb.out.cell hbl').trans hia.c8, (hb.out.cell hbl').trans hia.c9, (hb.out.cell hbl').trans hia.c10, (hb.out.cell hbl').trans hia.c11, (hb.out.cell hbl').trans hia.c12⟩
      have e := regsOf_take hx
      have hrl := regsOf_le (l.take m)
      rw [List.length_take] at hrl
      have cl := fun W => sets_any x W
      rw [insV_eq] at cl
      obtain ⟨D, hD⟩ : ∃ D, D = regsOf (l.take m) := ⟨_, rfl⟩
      rw [← hD] at hrow e hrl
      have HR := hrow
      obtain rfl : rq = D.length := by
        rcases HR.out.2 with ⟨hh, h0⟩ | ⟨g, cap, cur, hh, _⟩
        · obtain ⟨_, h3, _⟩ := Value.slice.inj hh; omega
        · obtain ⟨_, h3, _⟩ := Value.slice.inj hh; exact h3
      cases hs : setsM x.op
      · rw [hs] at e cl
        rw [if_neg (by decide), List.append_nil] at e
        have CL := Bx.mk cl; have E := Bx.mk e
        clear cl e hv hcl' hx hia hrow hs hD
        go_wp2_with (go_at_call 45; ((with_reducible refine (CL.out _).mono ?_); rintro e w' ⟨rfl, hbq⟩))
        go_roundw
        case rel => exact ⟨m + 1, by go_num, by omega, by rw [E.out]; exact ⟨rowBel HR.out (bel (aset _ _) hbq)⟩, ⟨bel hb.out (bel (aset _ _) hbq)⟩, _, _, _, rfl⟩
        case measure => simp [intOf] <;> omega
      · rw [hs] at e cl
        rw [if_pos rfl] at e
        have CL := Bx.mk cl; have E := Bx.mk e
        clear cl e hv hcl' hx hia hrow hs hD
        have HSZ : w.heap.size ≤ wr.heap.size := hb.out.size
        go_wp2_with (first
          | (go_at_call 45; ((with_reducible refine (CL.out _).mono ?_); rintro e w2 ⟨rfl, hbq⟩; have X := nBlock hbq; have y1 := cOf X 1; simp at y1; clear X; have B1 := Bx.mk (bel (aset _ _) hbq); clear hbq))
          | (at_builtin; refine wpList_append_lies _ rfl (.tmp 33) (.tmp 36) 85 rfl w.heap.size 3 i0 _ 1 8 Tryd.underlying85 hi hz0 hz1 hz2 rfl (by omega) _ D.length (D.map (Value.int .i64)) rfl ((rowBel HR.out B1.out).alloc _) ⟨w2.heap.size, 0, none⟩ 1 1 [.int .i64 x.rd] rfl rfl (World.news_of_block (cs := #[.int .i64 x.rd]) (t := 3) (fr := (0, 0)) (heap_alloc_new _ _)) (by simp [Value.oneCell']) (by omega) (by unfold maxLen; omega) (by omega) (by have := B1.out.size; simp; omega) (w2.heap.size + 1) (by simp) ?_; intro g cap w4 hown3 hgrow hat hlt3; have B4 : Bx (Below w.heap.size wr w4) := ⟨((B1.out.mono HSZ).alloc (by have := B1.out.size; omega) _).grown hgrow (by have := B1.out.size; simp; omega) (fun k hk => (rowLt HR.out k hk).1)⟩; have PU := Bx.mk hown3; clear hown3 hgrow hat hlt3))
        go_roundw
        case rel => exact ⟨m + 1, by go_num, by omega, by rw [E.out]; exact ⟨by simpa using PU.out⟩, ⟨hb.out.trans B4.out⟩, _, _, _, rfl⟩
        case measure => simp [intOf] <;> omega
    · obtain rfl : m = l.length := by omega
      have HR := hrow
      rw [List.take_length] at HR
      have hrl := regsOf_le l
      obtain ⟨D, hD⟩ : ∃ D, D = regsOf l := ⟨_, rfl⟩
      rw [← hD] at HR hrl
      have HD := Bx.mk hD
      obtain rfl : rq = D.length := by
        rcases HR.out.2 with ⟨hh, h0⟩ | ⟨g, cap, cur, hh, _⟩
        · obtain ⟨_, h3, _⟩ := Value.slice.inj hh; omega
        · obtain ⟨_, h3, _⟩ := Value.slice.inj hh; exact h3
      have c1 := sort_row _ _ _ _ HR.out (by omega)
      have c2 := fun W h => compact_row w.heap.size (.slice rp D.length rc) (sortZ D) W h (by rw [sortZ_length]; omega)
      rw [sortZ_length] at c2
      have C1 := Bx.mk c1; have C2 := Bx.mk c2
      clear c1 c2 hD hrow
      go_wp2_with (first
        | (go_at_call 46; ((with_reducible refine (C1.out).mono ?_); rintro e w2 ⟨rfl, ho, hg⟩; have HO := Bx.mk ho; have HG := Bx.mk hg; clear ho hg))
        | (go_at_call 47; ((with_reducible refine (C2.out _ HO.out).mono ?_); rintro e w3 ⟨u, rfl, hu, hg2, ho2⟩; have HU := Bx.mk hu; have HG2 := Bx.mk hg2; have HO2 := Bx.mk ho2; clear hu hg2 ho2)))
      go_ret
      unfold RegsP regsM
      rw [← HD.out]
      refine ⟨_, rfl, HU.out, (hb.out.grown HG.out hb.out.size (fun k hk => (rowLt HR.out k hk).1)).grown HG2.out (Nat.le_trans hb.out.size HG.out.size) (fun k hk => (rowLt HR.out k hk).1), fun k hk => (rowLt HR.out k (by rw [← HO2.out]; exact hk)).1⟩
end Go.Proofs.YtnlcmdgjoikljaaDoor
