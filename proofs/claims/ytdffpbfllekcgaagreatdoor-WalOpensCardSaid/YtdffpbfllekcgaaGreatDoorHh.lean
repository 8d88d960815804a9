/- DiskF, DiskG, in one text. -/
import Derived.Test.YtdffpbfllekcgaaGreatDoorHg
import Derived.StillTailTactics
import Derived.Deep.RegionHeld3
import Derived.Deep.RegionLaw
namespace Go.Proofs.YtdffpbfllekcgaaGreatDoor
set_option maxRecDepth 100000
open Go.RowKit M

/-- what a change of names asks -/
structure RenOk (S : DS) : Prop where
  names : S.names.length ≤ 1099511627776
  chg : S.chg.length ≤ 1099511627776
  nref : ∀ p ∈ S.names, 1 ≤ p.2 ∧ p.2 ≤ S.made
theorem Fine.ren {S : DS} (h : Fine S) : RenOk S := ⟨h.names, h.chg, h.nref⟩
theorem RenOk.of {S S' : DS} (h : RenOk S) (e1 : S'.names = S.names) (e2 : S'.chg = S.chg) (e3 : S.made ≤ S'.made) : RenOk S' :=
  ⟨by rw [e1]; exact h.names, by rw [e2]; exact h.chg, fun p hp => by rw [e1] at hp; have := h.nref p hp; exact ⟨this.1, Nat.le_trans this.2 e3⟩⟩

theorem local4 {w W : World} {a b c d : Value} {t : TypeId} (hb : W.heap[w.heap.size]? = (w.alloc (.cells #[a, b, c, d] t)).heap[w.heap.size]?) :
    W.cell? ⟨w.heap.size, 0, none⟩ = some a ∧ W.cell? ⟨w.heap.size, 1, none⟩ = some b ∧ W.cell? ⟨w.heap.size, 2, none⟩ = some c ∧ W.cell? ⟨w.heap.size, 3, none⟩ = some d := by
  have e : W.heap[w.heap.size]? = some (.cells #[a, b, c, d] t) := by rw [hb]; exact (MapKept.heap_alloc w _).1
  have hc : ∀ j, W.cell? ⟨w.heap.size, j, none⟩ = #[a, b, c, d][j]? := fun j => by simp [World.cell?, e]
  exact ⟨by rw [hc]; rfl, by rw [hc]; rfl, by rw [hc]; rfl, by rw [hc]; rfl⟩

theorem app_length (c : Chg) (l : KL) : (c.app l).length ≤ l.length + 1 := by
  unfold Chg.app
  split
  · have := kdel_length l c.src; omega
  · have h1 := kput_length (kdel l c.src) c.dst c.file
    have h2 := kdel_length l c.src
    omega

theorem cell_grown {w W w' : World} {row : Option Nat} (hb : Below w.heap.size w W) (hg : W.grownBy w' row) {p q : Nat} {v : Value} (h : w.cell? ⟨p, q, none⟩ = some v) (hr : row ≠ some p) : w'.cell? ⟨p, q, none⟩ = some v := by
  have hp : p < w.heap.size := World.block_lt_of_cell? w _ h
  rw [cell_keep (hg.block p (Nat.lt_of_lt_of_le hp hb.size) (fun e => hr e.symm)), cell_keep (hb.block p hp)]
  exact h
theorem frozen_grown {w W w' : World} {row : Option Nat} (hb : Below w.heap.size w W) (hg : W.grownBy w' row) {p q : Nat} (hp : p < w.heap.size) (h : w.frozen? ⟨p, q, none⟩ = false) (hr : row ≠ some p) : w'.frozen? ⟨p, q, none⟩ = false := by
  rw [frozen_keep (hg.block p (Nat.lt_of_lt_of_le hp hb.size) (fun e => hr e.symm)), frozen_keep (hb.block p hp)]
  exact h
theorem info_change : (Tryz.prog.info? 78).map (fun i => (i.zero, i.size, i.bytes)) = some (some (.agg #[.string ⟨#[]⟩, .string ⟨#[]⟩, .pointer none, .pointer none]), 4, 48) := by kernel_rfl

set_option maxRecDepth 100000 in
set_option maxHeartbeats 1000000 in
theorem ren_none (L : Lay) (S : DS) (src dst : ByteArray) (f : Nat) (w : World) (h : DiskAt w L S) (hf : RenOk S) (h1 : 1 ≤ f) (h2 : f ≤ S.made) (hs : src.size ≤ maxLen) (hd : dst.size ≤ maxLen) (hg : kget S.names dst = none) (d : Bool) (hdd : decide (dst.size ≠ 0) = d) :
    Calls Tryz.prog 20 #[.pointer (some ⟨L.b, 0, none⟩), .string src, .string dst, .pointer (some ⟨L.loc f, 0, none⟩)] w (RanP L w (.tuple #[]) (renS S src dst f)) := by
  have lk := h.names.look (P := Tryz.prog) (k := 9) (t := 43) (e := 50) Tryz.underlying9 Tryz.underlying43 (zero_file w) dst hd
  rw [hg] at lk
  have hlt := h.loc_lt h1 h2
  have hbl := h.b_lt
  have e1 : dst.toList.isEmpty = !d := by
    by_cases hz : dst.size = 0
    · rw [d_empty hz, ← hdd]; simp [hz]
    · rw [d_some (by omega), ← hdd]; simp [hz]
  have g3 := (h.file f h1 h2).c3
  have f3 := (h.file f h1 h2).fz 3
  have c0 := h.head.c0
  have D1 := h.setNamed h1 h2 d
  have hz : (w.setCell ⟨L.loc f, 3, none⟩ (.bool d)).heap.size = w.heap.size := by simp [World.setCell]
  have D2 : DiskAt ((w.setCell ⟨L.loc f, 3, none⟩ (.bool d)).alloc (.cells #[.string src, .string dst, .pointer (some ⟨L.loc f, 0, none⟩), .pointer none] 78)) L (S.setF f { S.file f with named := d }) := D1.below ((Below.refl _ _).alloc (Nat.le_refl _) _)
  have hC : Chn (fun t => t ≠ .free) L.own w ((w.setCell ⟨L.loc f, 3, none⟩ (.bool d)).alloc (.cells #[.string src, .string dst, .pointer (some ⟨L.loc f, 0, none⟩), .pointer none] 78)) :=
    (((Chn.refl _ _ _).setCell (fun _ => by show L.own (L.loc f) ≠ .free; rw [h.tags.loc f h1 h2]; simp) _).alloc _)
  have hfree : L.own w.heap.size = .free := h.tags.out _ (Nat.le_refl _)
  have HF := Box.mk hfree; clear hfree
  obtain ⟨l0, l1, l2, l3⟩ := local4 (w := w.setCell ⟨L.loc f, 3, none⟩ (.bool d)) (W := (w.setCell ⟨L.loc f, 3, none⟩ (.bool d)).alloc (.cells #[.string src, .string dst, .pointer (some ⟨L.loc f, 0, none⟩), .pointer none] 78)) (a := .string src) (b := .string dst) (c := .pointer (some ⟨L.loc f, 0, none⟩)) (d := .pointer none) (t := 78) rfl
  rw [hz] at l0 l1 l2 l3
  have hsz : ((w.setCell ⟨L.loc f, 3, none⟩ (.bool d)).alloc (.cells #[.string src, .string dst, .pointer (some ⟨L.loc f, 0, none⟩), .pointer none] 78)).heap.size = w.heap.size + 1 := by simp [World.setCell]
  have hfin : renS S src dst f = { S.setF f { S.file f with named := d } with names := (mkC S src dst f).app S.names, chg := S.chg ++ [mkC S src dst f] } := by
    unfold renS
    rw [hg]
    show ({ S.setF f { S.file f with named := decide (dst.size ≠ 0) } with names := (mkC S src dst f).app S.names, chg := S.chg ++ [mkC S src dst f] } : DS) = _
    rw [hdd]
  have hmk : mkC S src dst f = ⟨src, dst, f, none⟩ := by unfold mkC; rw [hg]
  rw [hfin, hmk]
  have LK := Box.mk lk
  clear hfin hmk hz D1
  have HD := Box.mk D2; have HC := Box.mk hC; have HS := Box.mk hsz
  have hN : S.names.length ≤ 1099511627776 := hf.names
  have hQ : S.chg.length ≤ 1099511627776 := hf.chg
  clear h hf D2 hC hsz hdd hg
  go_enter Tryz.func20, Tryz.ntmps20
  go_wp2_with fail
  generalize hW : (w.setCell ⟨L.loc f, 3, none⟩ (.bool d)).alloc (.cells #[.string src, .string dst, .pointer (some ⟨L.loc f, 0, none⟩), .pointer none] 78) = W at l0 l1 l2 l3 HD HC HS ⊢
  clear hW c0 g3 f3 lk LK
  have x0 := HD.out.head.c0
  have hap := apply_any ⟨src, dst, f, none⟩ (.pointer none) L.loc L.nb S.names W.drew (HD.out.names.keep rfl) hs hd (by unfold maxLen; omega)
  have HAP := Box.mk hap; clear hap
  go_still_tail 5, (by kernel_rfl)
  change wpList _ _ _ _ _ W.drew
  go_wp2_with (go_at_call 38; ((with_reducible refine HAP.out.mono ?_); rintro e w1 ⟨rfl, m1, o1⟩; have M1 := Box.mk m1; have O1 := Box.mk o1; clear m1 o1))
  have C1 : Chn (fun t => t = .names) L.own W w1 := by
    have h := O1.out.to (T := fun t => t = .names) (own := L.own) HD.out.tags.nb
    exact ⟨h.os, h.tape, h.output, h.size, h.block⟩
  have D3 := HD.out.reNames C1 M1.out
  have hnb : w1.heap[w.heap.size]? = W.heap[w.heap.size]? := C1.block _ (by rw [HS.out]; omega) (by rw [HF.out]; simp)
  have l0 := (cell_keep (o := 0) hnb).trans l0
  have l1 := (cell_keep (o := 1) hnb).trans l1
  have l2 := (cell_keep (o := 2) hnb).trans l2
  have l3 := (cell_keep (o := 3) hnb).trans l3
  have x2 := D3.head.c2
  have y2 := D3.head.fz 2
  have hch : w1.ownsRow 0 78 4 L.ch S.chg.length (S.chg.flatMap (chgCells L.loc)) := D3.chg
  have hb1 := D3.b_lt
  have D3B := Box.mk D3; have C1B := Box.mk C1
  have n1 : L.ch.ownBlock ≠ some L.b := fun e => by
    have a := D3.tags.ch _ e
    rw [D3.tags.b] at a; cases a
  have n2 : L.ch.ownBlock ≠ some w.heap.size := fun e => by
    have a := D3.tags.ch _ e
    rw [HF.out] at a; cases a
  have N1 := Box.mk n1; have N2 := Box.mk n2; clear n1 n2
  obtain ⟨i0, hi, hz0, hz1, hz2⟩ := info_parts info_change
  clear D3 C1 hnb x0 HAP M1 O1
  have HCH := Box.mk hch; clear hch
  go_region_law
    ((refine step_append_lies _ (by rfl) _ _ _ (by rfl) 0 78 i0 _ 4 48 Tryz.underlying44 hi hz0 hz1 hz2 rfl (by omega) _ _ _ (by rfl) ((HCH.out.alloc _).drew) ⟨w1.heap.size, 0, none⟩ 1 1 [.string src, .string dst, .pointer (some ⟨L.loc f, 0, none⟩), .pointer none] (by rfl) (by rfl) (World.news_of_block (cs := #[.string src, .string dst, .pointer (some ⟨L.loc f, 0, none⟩), .pointer none]) (t := 78) (fr := (0, 0)) (heap_alloc_new _ _)) (by simp [Value.oneCell']) (by omega) (by unfold maxLen; omega) (by omega) (by simp) (w1.heap.size + 1) (by simp) ?_; intro gg cc w2 hown1 hgrow hat hlt2;
      have z5 := frozen_grown (((Below.refl _ _).alloc (Nat.le_refl _) _).drew) hgrow hb1 y2 N1.out;
      have z0 := cell_grown (((Below.refl _ _).alloc (Nat.le_refl _) _).drew) hgrow x2 N1.out;
      have z1 := cell_grown (((Below.refl _ _).alloc (Nat.le_refl _) _).drew) hgrow l0 N2.out;
      have z2 := cell_grown (((Below.refl _ _).alloc (Nat.le_refl _) _).drew) hgrow l1 N2.out;
      have z3 := cell_grown (((Below.refl _ _).alloc (Nat.le_refl _) _).drew) hgrow l2 N2.out;
      have z4 := cell_grown (((Below.refl _ _).alloc (Nat.le_refl _) _).drew) hgrow l3 N2.out))
  all_goals
    go_wp2_with fail
    go_end0
    have D3 := D3B.out
    have G1 : Chn (fun t => t = .chg) L.own w1 w2 := (((Chn.refl _ _ _).alloc _).drew).grown hgrow (fun k e _ => D3.tags.ch k e)
    have hgb : gg ≠ L.b := by
      rcases hat with e | e
      · intro e2
        have := D3.tags.ch gg e
        rw [e2, D3.tags.b] at this
        cases this
      · omega
    have hh : Head w2 L.b L.nb L.sb L.ch _ := D3.head.keep (G1.block _ hb1 (by rw [D3.tags.b]; simp))
    have hrow : w2.ownsRow 0 78 4 (.slice (some ⟨gg, 0, none⟩) (S.chg.length + 1) cc) (S.chg ++ [(⟨src, dst, f, none⟩ : Chg)]).length ((S.chg ++ [(⟨src, dst, f, none⟩ : Chg)]).flatMap (chgCells L.loc)) := by
      rw [List.length_append, List.flatMap_append]
      exact hown1
    have fin := D3.reChg (v := .slice (some ⟨gg, 0, none⟩) (S.chg.length + 1) cc) (cs := S.chg ++ [⟨src, dst, f, none⟩]) ((G1.mono (fun t e => .inl e)).setCell (p := ⟨L.b, 2, none⟩) (fun _ => .inr D3.tags.b) (.slice (some ⟨gg, 0, none⟩) (S.chg.length + 1) cc)) (hh.s2 _)
      (row_keep hrow (fun k e => Below.heap_setCell _ _ _ _ (by intro e2; cases e; exact hgb e2)))
      (by
        rcases hat with e | e
        · exact .inl e.symm
        · exact .inr (fun k ek => by cases ek; show w1.heap.size ≤ gg; omega))
    refine ⟨rfl, _, fin.1, rfl, fun k hk => ?_, ?_⟩
    · exact fin.2 k (Nat.lt_of_lt_of_le (Nat.lt_of_lt_of_le hk (by have := HS.out; omega)) C1B.out.size)
    · exact ((HC.out.trans (C1B.out.mono (fun t e => by rw [e]; simp))).trans (G1.mono (fun t e => by rw [e]; simp))).setCell (fun _ => by show L.own L.b ≠ .free; rw [D3.tags.b]; simp) _

set_option maxRecDepth 100000 in
set_option maxHeartbeats 1000000 in
theorem ren_some (L : Lay) (S : DS) (src dst : ByteArray) (f g : Nat) (w : World) (h : DiskAt w L S) (hf : RenOk S) (h1 : 1 ≤ f) (h2 : f ≤ S.made) (hs : src.size ≤ maxLen) (hd : dst.size ≤ maxLen) (hg : kget S.names dst = some g) (k1 : 1 ≤ g) (k2 : g ≤ S.made) (d : Bool) (hdd : decide (dst.size ≠ 0) = d) :
    Calls Tryz.prog 20 #[.pointer (some ⟨L.b, 0, none⟩), .string src, .string dst, .pointer (some ⟨L.loc f, 0, none⟩)] w (RanP L w (.tuple #[]) (renS S src dst f)) := by
  have lk := h.names.look (P := Tryz.prog) (k := 9) (t := 43) (e := 50) Tryz.underlying9 Tryz.underlying43 (zero_file w) dst hd
  rw [hg] at lk
  have hlt := h.loc_lt h1 h2
  have hbl := h.b_lt
  have e1 : dst.toList.isEmpty = !d := by
    by_cases hz : dst.size = 0
    · rw [d_empty hz, ← hdd]; simp [hz]
    · rw [d_some (by omega), ← hdd]; simp [hz]
  have D0 := h.setNamed k1 k2 false
  have g3 := (D0.file f h1 h2).c3
  have f3 := (D0.file f h1 h2).fz 3
  have p3 := (h.file g k1 k2).c3
  have q3 := (h.file g k1 k2).fz 3
  have hltg := h.loc_lt k1 k2
  have c0 := h.head.c0
  have D1 := D0.setNamed h1 h2 d
  have hz : ((w.setCell ⟨L.loc g, 3, none⟩ (.bool false)).setCell ⟨L.loc f, 3, none⟩ (.bool d)).heap.size = w.heap.size := by simp [World.setCell]
  have D2 : DiskAt (((w.setCell ⟨L.loc g, 3, none⟩ (.bool false)).setCell ⟨L.loc f, 3, none⟩ (.bool d)).alloc (.cells #[.string src, .string dst, .pointer (some ⟨L.loc f, 0, none⟩), (.pointer (some ⟨L.loc g, 0, none⟩))] 78)) L ((S.setF g { S.file g with named := false }).setF f { (S.setF g { S.file g with named := false }).file f with named := d }) := D1.below ((Below.refl _ _).alloc (Nat.le_refl _) _)
  have hC : Chn (fun t => t ≠ .free) L.own w (((w.setCell ⟨L.loc g, 3, none⟩ (.bool false)).setCell ⟨L.loc f, 3, none⟩ (.bool d)).alloc (.cells #[.string src, .string dst, .pointer (some ⟨L.loc f, 0, none⟩), (.pointer (some ⟨L.loc g, 0, none⟩))] 78)) :=
    ((((Chn.refl _ _ _).setCell (fun _ => by show L.own (L.loc g) ≠ .free; rw [h.tags.loc g k1 k2]; simp) _).setCell (fun _ => by show L.own (L.loc f) ≠ .free; rw [h.tags.loc f h1 h2]; simp) _).alloc _)
  have hfree : L.own w.heap.size = .free := h.tags.out _ (Nat.le_refl _)
  have HF := Box.mk hfree; clear hfree
  obtain ⟨l0, l1, l2, l3⟩ := local4 (w := (w.setCell ⟨L.loc g, 3, none⟩ (.bool false)).setCell ⟨L.loc f, 3, none⟩ (.bool d)) (W := ((w.setCell ⟨L.loc g, 3, none⟩ (.bool false)).setCell ⟨L.loc f, 3, none⟩ (.bool d)).alloc (.cells #[.string src, .string dst, .pointer (some ⟨L.loc f, 0, none⟩), (.pointer (some ⟨L.loc g, 0, none⟩))] 78)) (a := .string src) (b := .string dst) (c := .pointer (some ⟨L.loc f, 0, none⟩)) (d := (.pointer (some ⟨L.loc g, 0, none⟩))) (t := 78) rfl
  rw [hz] at l0 l1 l2 l3
  have hsz : (((w.setCell ⟨L.loc g, 3, none⟩ (.bool false)).setCell ⟨L.loc f, 3, none⟩ (.bool d)).alloc (.cells #[.string src, .string dst, .pointer (some ⟨L.loc f, 0, none⟩), (.pointer (some ⟨L.loc g, 0, none⟩))] 78)).heap.size = w.heap.size + 1 := by simp [World.setCell]
  have hfin : renS S src dst f = { (S.setF g { S.file g with named := false }).setF f { (S.setF g { S.file g with named := false }).file f with named := d } with names := (mkC S src dst f).app S.names, chg := S.chg ++ [mkC S src dst f] } := by
    unfold renS
    rw [hg]
    show ({ (S.setF g { S.file g with named := false }).setF f { (S.setF g { S.file g with named := false }).file f with named := decide (dst.size ≠ 0) } with names := (mkC S src dst f).app S.names, chg := S.chg ++ [mkC S src dst f] } : DS) = _
    rw [hdd]
  have hmk : mkC S src dst f = ⟨src, dst, f, some g⟩ := by unfold mkC; rw [hg]
  rw [hfin, hmk]
  have LK := Box.mk lk
  clear hfin hmk hz D1 D0
  have HD := Box.mk D2; have HC := Box.mk hC; have HS := Box.mk hsz
  have hN : S.names.length ≤ 1099511627776 := hf.names
  have hQ : S.chg.length ≤ 1099511627776 := hf.chg
  clear h hf D2 hC hsz hdd hg
  go_enter Tryz.func20, Tryz.ntmps20
  go_wp2_with fail
  generalize hW : ((w.setCell ⟨L.loc g, 3, none⟩ (.bool false)).setCell ⟨L.loc f, 3, none⟩ (.bool d)).alloc (.cells #[.string src, .string dst, .pointer (some ⟨L.loc f, 0, none⟩), (.pointer (some ⟨L.loc g, 0, none⟩))] 78) = W at l0 l1 l2 l3 HD HC HS ⊢
  clear hW c0 g3 f3 p3 q3 lk LK
  have x0 := HD.out.head.c0
  have hap := apply_any ⟨src, dst, f, some g⟩ (.pointer (some ⟨L.loc g, 0, none⟩)) L.loc L.nb S.names W.drew (HD.out.names.keep rfl) hs hd (by unfold maxLen; omega)
  have HAP := Box.mk hap; clear hap
  go_still_tail 5, (by kernel_rfl)
  change wpList _ _ _ _ _ W.drew
  go_wp2_with (go_at_call 38; ((with_reducible refine HAP.out.mono ?_); rintro e w1 ⟨rfl, m1, o1⟩; have M1 := Box.mk m1; have O1 := Box.mk o1; clear m1 o1))
  have C1 : Chn (fun t => t = .names) L.own W w1 := by
    have h := O1.out.to (T := fun t => t = .names) (own := L.own) HD.out.tags.nb
    exact ⟨h.os, h.tape, h.output, h.size, h.block⟩
  have D3 := HD.out.reNames C1 M1.out
  have hnb : w1.heap[w.heap.size]? = W.heap[w.heap.size]? := C1.block _ (by rw [HS.out]; omega) (by rw [HF.out]; simp)
  have l0 := (cell_keep (o := 0) hnb).trans l0
  have l1 := (cell_keep (o := 1) hnb).trans l1
  have l2 := (cell_keep (o := 2) hnb).trans l2
  have l3 := (cell_keep (o := 3) hnb).trans l3
  have x2 := D3.head.c2
  have y2 := D3.head.fz 2
  have hch : w1.ownsRow 0 78 4 L.ch S.chg.length (S.chg.flatMap (chgCells L.loc)) := D3.chg
  have hb1 := D3.b_lt
  have D3B := Box.mk D3; have C1B := Box.mk C1
  have n1 : L.ch.ownBlock ≠ some L.b := fun e => by
    have a := D3.tags.ch _ e
    rw [D3.tags.b] at a; cases a
  have n2 : L.ch.ownBlock ≠ some w.heap.size := fun e => by
    have a := D3.tags.ch _ e
    rw [HF.out] at a; cases a
  have N1 := Box.mk n1; have N2 := Box.mk n2; clear n1 n2
  obtain ⟨i0, hi, hz0, hz1, hz2⟩ := info_parts info_change
  clear D3 C1 hnb x0 HAP M1 O1
  have HCH := Box.mk hch; clear hch
  go_region_law
    ((refine step_append_lies _ (by rfl) _ _ _ (by rfl) 0 78 i0 _ 4 48 Tryz.underlying44 hi hz0 hz1 hz2 rfl (by omega) _ _ _ (by rfl) ((HCH.out.alloc _).drew) ⟨w1.heap.size, 0, none⟩ 1 1 [.string src, .string dst, .pointer (some ⟨L.loc f, 0, none⟩), (.pointer (some ⟨L.loc g, 0, none⟩))] (by rfl) (by rfl) (World.news_of_block (cs := #[.string src, .string dst, .pointer (some ⟨L.loc f, 0, none⟩), (.pointer (some ⟨L.loc g, 0, none⟩))]) (t := 78) (fr := (0, 0)) (heap_alloc_new _ _)) (by simp [Value.oneCell']) (by omega) (by unfold maxLen; omega) (by omega) (by simp) (w1.heap.size + 1) (by simp) ?_; intro gg cc w2 hown1 hgrow hat hlt2;
      have z5 := frozen_grown (((Below.refl _ _).alloc (Nat.le_refl _) _).drew) hgrow hb1 y2 N1.out;
      have z0 := cell_grown (((Below.refl _ _).alloc (Nat.le_refl _) _).drew) hgrow x2 N1.out;
      have z1 := cell_grown (((Below.refl _ _).alloc (Nat.le_refl _) _).drew) hgrow l0 N2.out;
      have z2 := cell_grown (((Below.refl _ _).alloc (Nat.le_refl _) _).drew) hgrow l1 N2.out;
      have z3 := cell_grown (((Below.refl _ _).alloc (Nat.le_refl _) _).drew) hgrow l2 N2.out;
      have z4 := cell_grown (((Below.refl _ _).alloc (Nat.le_refl _) _).drew) hgrow l3 N2.out))
  all_goals
    go_wp2_with fail
    go_end0
    have D3 := D3B.out
    have G1 : Chn (fun t => t = .chg) L.own w1 w2 := (((Chn.refl _ _ _).alloc _).drew).grown hgrow (fun k e _ => D3.tags.ch k e)
    have hgb : gg ≠ L.b := by
      rcases hat with e | e
      · intro e2
        have := D3.tags.ch gg e
        rw [e2, D3.tags.b] at this
        cases this
      · omega
    have hh : Head w2 L.b L.nb L.sb L.ch _ := D3.head.keep (G1.block _ hb1 (by rw [D3.tags.b]; simp))
    have hrow : w2.ownsRow 0 78 4 (.slice (some ⟨gg, 0, none⟩) (S.chg.length + 1) cc) (S.chg ++ [(⟨src, dst, f, some g⟩ : Chg)]).length ((S.chg ++ [(⟨src, dst, f, some g⟩ : Chg)]).flatMap (chgCells L.loc)) := by
      rw [List.length_append, List.flatMap_append]
      exact hown1
    have fin := D3.reChg (v := .slice (some ⟨gg, 0, none⟩) (S.chg.length + 1) cc) (cs := S.chg ++ [⟨src, dst, f, some g⟩]) ((G1.mono (fun t e => .inl e)).setCell (p := ⟨L.b, 2, none⟩) (fun _ => .inr D3.tags.b) (.slice (some ⟨gg, 0, none⟩) (S.chg.length + 1) cc)) (hh.s2 _)
      (row_keep hrow (fun k e => Below.heap_setCell _ _ _ _ (by intro e2; cases e; exact hgb e2)))
      (by
        rcases hat with e | e
        · exact .inl e.symm
        · exact .inr (fun k ek => by cases ek; show w1.heap.size ≤ gg; omega))
    refine ⟨rfl, _, fin.1, rfl, fun k hk => ?_, ?_⟩
    · exact fin.2 k (Nat.lt_of_lt_of_le (Nat.lt_of_lt_of_le hk (by have := HS.out; omega)) C1B.out.size)
    · exact ((HC.out.trans (C1B.out.mono (fun t e => by rw [e]; simp))).trans (G1.mono (fun t e => by rw [e]; simp))).setCell (fun _ => by show L.own L.b ≠ .free; rw [D3.tags.b]; simp) _

theorem ren_any (L : Lay) (S : DS) (src dst : ByteArray) (f : Nat) (w : World) (h : DiskAt w L S) (hf : RenOk S) (h1 : 1 ≤ f) (h2 : f ≤ S.made) (hs : src.size ≤ maxLen) (hd : dst.size ≤ maxLen) :
    Calls Tryz.prog 20 #[.pointer (some ⟨L.b, 0, none⟩), .string src, .string dst, .pointer (some ⟨L.loc f, 0, none⟩)] w (RanP L w (.tuple #[]) (renS S src dst f)) := by
  cases hg : kget S.names dst with
  | none => exact ren_none L S src dst f w h hf h1 h2 hs hd hg _ rfl
  | some g =>
    have hm := hf.nref _ (kget_some hg)
    exact ren_some L S src dst f g w h hf h1 h2 hs hd hg hm.1 hm.2 _ rfl

end Go.Proofs.YtdffpbfllekcgaaGreatDoor
namespace Go.Proofs.YtdffpbfllekcgaaGreatDoor
set_option maxRecDepth 100000
open Go.RowKit M

theorem flat_get (loc : Nat → Nat) : ∀ (l : List Chg) (k j : Nat) (c : Chg), l[k]? = some c → j < 4 → (l.flatMap (chgCells loc))[k * 4 + j]? = (chgCells loc c)[j]?
  | [], k, j, c, h, _ => by simp at h
  | x :: l, 0, j, c, h, hj => by
    simp at h; subst h
    rw [List.flatMap_cons, List.getElem?_append_left (by simp [chgCells]; omega)]
    congr 1; omega
  | x :: l, k + 1, j, c, h, hj => by
    rw [List.flatMap_cons, List.getElem?_append_right (by simp [chgCells]; omega)]
    have e : (k + 1) * 4 + j - (chgCells loc x).length = k * 4 + j := by simp [chgCells]; omega
    rw [e]
    exact flat_get loc l k j c (by simpa using h) hj

/-- the changes can be read -/
theorem DiskAt.changes {w : World} {L : Lay} {S : DS} (h : DiskAt w L S) (hn : S.chg ≠ []) :
    ∃ g cap, L.ch = .slice (some ⟨g, 0, none⟩) S.chg.length cap ∧ S.chg.length ≤ cap ∧ cap ≤ maxLen ∧ g < w.heap.size ∧ L.own g = .chg ∧ ∀ k c, S.chg[k]? = some c →
      w.cell? ⟨g, k * 4, none⟩ = some (.string c.src) ∧ w.cell? ⟨g, k * 4 + 1, none⟩ = some (.string c.dst) ∧ w.cell? ⟨g, k * 4 + 2, none⟩ = some (.pointer (some ⟨L.loc c.file, 0, none⟩)) ∧ w.cell? ⟨g, k * 4 + 3, none⟩ = some (.pointer (c.over.map fun n => ⟨L.loc n, 0, none⟩)) := by
  have hr := h.chg
  rcases hr.2 with ⟨_, h0⟩ | ⟨g, cap, cur, hv, _, hg, hnc, hcm, hcs, ht⟩
  · exact absurd (List.eq_nil_of_length_eq_zero h0) hn
  · have hr' := hr
    rw [hv] at hr'
    refine ⟨g, cap, hv, hnc, hcm, ?_, h.tags.ch g (by rw [hv]; rfl), fun k c hc => ?_⟩
    · rcases Nat.lt_or_ge g w.heap.size with e | e
      · exact e
      · rw [Array.getElem?_eq_none e] at hg; cases hg
    · have hk : k < S.chg.length := (List.getElem?_eq_some_iff.1 hc).1
      have hat : ∀ j, j < 4 → w.cell? ⟨g, k * 4 + j, none⟩ = (chgCells L.loc c)[j]? := fun j hj => by
        rw [hr'.cellAt (k * 4 + j) (by omega)]
        exact flat_get L.loc S.chg k j c hc hj
      exact ⟨hat 0 (by omega), hat 1 (by omega), hat 2 (by omega), hat 3 (by omega)⟩

theorem foldl_length (l : List Chg) (m : KL) : (l.foldl (fun l c => c.app l) m).length ≤ m.length + l.length := by
  induction l generalizing m with
  | nil => simp
  | cons c l ih =>
    rw [List.foldl_cons]
    have h1 := ih (c.app m)
    have h2 := app_length c m
    simp only [List.length_cons]
    omega

structure SetOk (S : DS) : Prop where
  chg : S.chg.length ≤ 1099511627776
  safe : S.safe.length ≤ 1099511627776
  cref : ∀ c ∈ S.chg, (1 ≤ c.file ∧ c.file ≤ S.made) ∧ (∀ g, c.over = some g → 1 ≤ g ∧ g ≤ S.made) ∧ c.src.size ≤ maxLen ∧ c.dst.size ≤ maxLen
theorem Fine.set {S : DS} (h : Fine S) : SetOk S := ⟨h.chg, h.safe, h.cref⟩
theorem SetOk.of {S S' : DS} (h : SetOk S) (e1 : S'.chg = S.chg) (e2 : S'.safe = S.safe) (e3 : S'.made = S.made) : SetOk S' :=
  ⟨by rw [e1]; exact h.chg, by rw [e2]; exact h.safe, by rw [e1, e3]; exact h.cref⟩

set_option maxRecDepth 100000 in
set_option maxHeartbeats 1000000 in
theorem settle_any (L : Lay) (S : DS) (n : Nat) (w : World) (h : DiskAt w L S) (hf : SetOk S) (hn : n ≤ S.chg.length) :
    Calls Tryz.prog 33 #[.pointer (some ⟨L.b, 0, none⟩), .int .i64 (n : Int)] w (RanP L w (.tuple #[]) (settleS S n)) := by
  rcases Nat.eq_zero_or_pos S.chg.length with h0 | h0
  · obtain rfl : n = 0 := by omega
    have hz : ∃ q cap, L.ch = .slice q 0 cap := by
      rcases h.chg.2 with ⟨hv, _⟩ | ⟨g, cap, cur, hv, _⟩
      · exact ⟨_, _, hv⟩
      · rw [h0] at hv; exact ⟨_, _, hv⟩
    obtain ⟨q, cap, hv⟩ := hz
    have c2 := h.head.c2
    rw [hv] at c2
    have f2 := h.head.fz 2
    have e0 : (settleS S 0) = { S with chg := [] } := by unfold settleS; rfl
    rw [e0]
    have HD := Box.mk h; have HV := Box.mk hv
    clear h hf e0 hv h0 hn
    cases q
    all_goals
      go_enter Tryz.func33, Tryz.ntmps33
      go_wp2_with fail
      go_loopw [13] (fun i wr => i = .int .i64 0 ∧ wr = w) (fun _ _ => 0)
      case atStart => exact ⟨rfl, rfl⟩
      case round =>
        obtain ⟨rfl, rfl⟩ := hrel
        go_wp2_with fail
        go_end0
        have D1 := HD.out
        have fin := D1.reChg (v := .slice none 0 0) (cs := []) ((Chn.refl _ _ wr).setCell (p := ⟨L.b, 2, none⟩) (fun _ => .inr D1.tags.b) (.slice none 0 0)) (D1.head.s2 _) (World.ownsRow_nil _ _ _ _) (.inr (fun k e => by cases e))
        refine ⟨rfl, _, fin.1, rfl, fun k hk => fin.2 k hk, ?_⟩
        exact (Chn.refl _ _ _).setCell (fun _ => by show L.own L.b ≠ .free; rw [HD.out.tags.b]; simp) _
  · obtain ⟨g, cap, hv, hnc, hcm, hg, hgo, hcells⟩ := h.changes (fun e => by rw [e] at h0; exact absurd h0 (by simp))
    have c2 := h.head.c2
    rw [hv] at c2
    have f2 := h.head.fz 2
    have q1 := hf.chg; have q2 := hf.safe
    have hcr := hf.cref
    have hbl := h.b_lt
    unfold maxLen at hcm
    have HD := Box.mk h; have HC := Box.mk hcells; have HV := Box.mk hv; have HG := Box.mk hgo; have HCR := Box.mk hcr
    obtain ⟨m, hm⟩ : ∃ m, m = S.chg.length := ⟨_, rfl⟩
    rw [← hm] at c2 hn hnc q1 h0
    have HM := Box.mk hm
    clear h hf hcells hv hgo hm hcr
    go_enter Tryz.func33, Tryz.ntmps33
    go_wp2_with fail
    go_loopw [13] (fun i wr => ∃ k : Nat, k ≤ n ∧ i = .int .i64 (k : Int) ∧ Box (MapL wr L.sb L.loc ((S.chg.take k).foldl (fun l c => c.app l) S.safe)) ∧ Box (Chn (fun t => t = .safe) L.own w wr)) (fun i _ => n - (intOf i).toNat)
    case atStart => exact ⟨0, by omega, rfl, ⟨HD.out.safe⟩, ⟨Chn.refl _ _ _⟩⟩
    case round =>
      obtain ⟨k, hk, rfl, hmap, hch⟩ := hrel
      by_cases hlt : k < n
      · obtain ⟨c, hc⟩ : ∃ c, S.chg[k]? = some c := ⟨_, List.getElem?_eq_getElem (by rw [← HM.out]; omega)⟩
        obtain ⟨p0, p1, p2, p3⟩ := HC.out k c hc
        have hgk : wr.heap[g]? = w.heap[g]? := hch.out.block g hg (by rw [HG.out]; simp)
        have p0 := (cell_keep (o := k * 4) hgk).trans p0
        have p1 := (cell_keep (o := k * 4 + 1) hgk).trans p1
        have p2 := (cell_keep (o := k * 4 + 2) hgk).trans p2
        have p3 := (cell_keep (o := k * 4 + 3) hgk).trans p3
        have hbk : wr.heap[L.b]? = w.heap[L.b]? := hch.out.block L.b hbl (by rw [HD.out.tags.b]; simp)
        have x1 := (cell_keep (o := 1) hbk).trans HD.out.head.c1
        have hsz := hch.out.size
        obtain ⟨-, -, z1, z2⟩ := HCR.out c (List.mem_of_getElem? hc)
        obtain ⟨ov, hov⟩ : ∃ ov, ov = c.over.map fun n => (⟨L.loc n, 0, none⟩ : Addr) := ⟨_, rfl⟩
        rw [← hov] at p3
        have hfl := foldl_length (S.chg.take k) S.safe
        have htl : (S.chg.take k).length ≤ k := List.length_take_le _ _
        have hap := fun W hW => apply_any c (.pointer ov) L.loc L.sb ((S.chg.take k).foldl (fun l c => c.app l) S.safe) W hW z1 z2 (by unfold maxLen; omega)
        have HAP := Box.mk hap; have HCc := Box.mk hc
        clear hap hfl htl hov hgk hbk hc
        go_wp2_with fail
        obtain ⟨l0, l1, l2, l3⟩ := local4 (w := wr) (W := wr.alloc (.cells #[.string c.src, .string c.dst, .pointer (some ⟨L.loc c.file, 0, none⟩), .pointer ov] 78)) (a := .string c.src) (b := .string c.dst) (c := .pointer (some ⟨L.loc c.file, 0, none⟩)) (d := .pointer ov) (t := 78) rfl
        have x1' : (wr.alloc (.cells #[.string c.src, .string c.dst, .pointer (some ⟨L.loc c.file, 0, none⟩), .pointer ov] 78)).cell? ⟨L.b, 1, none⟩ = some (.map (some L.sb)) := (cell_keep (Below.heap_alloc _ _ _ (by omega))).trans x1
        have HBW : Box (Below wr.heap.size wr (wr.alloc (.cells #[.string c.src, .string c.dst, .pointer (some ⟨L.loc c.file, 0, none⟩), .pointer ov] 78))) := ⟨(Below.refl _ _).alloc (Nat.le_refl _) _⟩
        generalize hW : wr.alloc (.cells #[.string c.src, .string c.dst, .pointer (some ⟨L.loc c.file, 0, none⟩), .pointer ov] 78) = W at l0 l1 l2 l3 x1' HBW ⊢
        clear hW x1
        have hap := HAP.out W.drew (hmap.out.keep (HBW.out.block _ hmap.out.lt))
        have HAP1 := Box.mk hap; clear hap
        go_still_tail 5, (by kernel_rfl)
        change wpList _ _ _ _ _ (World.drew _)
        go_wp2_with (go_at_call 38; ((with_reducible refine HAP1.out.mono ?_); rintro e w2 ⟨rfl, m1, o1⟩; have M1 := Box.mk m1; have O1 := Box.mk o1; clear m1 o1))
        go_roundw
        case rel =>
          refine ⟨k + 1, by omega, by go_num, ⟨?_⟩, ⟨?_⟩⟩
          · rw [List.take_add_one, HCc.out, Option.toList_some, List.foldl_append]
            exact M1.out
          · refine (hch.out.trans ?_)
            exact ((Chn.of_below HBW.out).drew).trans (O1.out.to HD.out.tags.sb)
        case measure => simp [intOf]; omega
      · obtain rfl : n = k := by omega
        have D1 := HD.out.reSafe hch.out hmap.out
        have x2 : wr.cell? ⟨L.b, 2, none⟩ = some L.ch := D1.head.c2
        rw [HV.out] at x2
        have y2 := D1.head.fz 2
        have D1B := Box.mk D1
        clear D1
        go_wp2_with fail
        go_end0
        have D1 := D1B.out
        have fin := D1.reChg (v := .slice none 0 0) (cs := []) ((Chn.refl _ _ wr).setCell (p := ⟨L.b, 2, none⟩) (fun _ => .inr D1.tags.b) (.slice none 0 0)) (D1.head.s2 _) (World.ownsRow_nil _ _ _ _) (.inr (fun k e => by cases e))
        refine ⟨rfl, _, fin.1, rfl, fun k hk => fin.2 k (Nat.lt_of_lt_of_le hk hch.out.size), ?_⟩
        exact (hch.out.mono (fun t e => by rw [e]; simp)).setCell (fun _ => by show L.own L.b ≠ .free; rw [HD.out.tags.b]; simp) _

theorem DiskAt.drew {w : World} {L : Lay} {S : DS} (h : DiskAt w L S) : DiskAt w.drew L S := h.keep (Nat.le_refl _) fun _ _ => rfl
theorem DiskAt.drewN {w : World} {L : Lay} {S : DS} (h : DiskAt w L S) (n : Nat) : DiskAt (w.drewN n) L S := h.keep (Nat.le_refl _) fun _ _ => rfl
theorem FileAt.setData {w : World} {p n : Nat} {v : Value} {f : FileS} (h : FileAt w p n v f) : FileAt (w.setCell ⟨p, 1, none⟩ (.slice none 0 0)) p n (.slice none 0 0) { f with data := [] } :=
  ⟨(World.cell?_setCell_other _ _ _ _ (by simp)).trans h.c0, World.cell?_setCell_same _ _ _ h.c1, (World.cell?_setCell_other _ _ _ _ (by simp)).trans h.c2, (World.cell?_setCell_other _ _ _ _ (by simp)).trans h.c3, fun o => by rw [frozen_setCell]; exact h.fz o,
    World.ownsRow_nil _ _ _ _⟩

/-- what a release leaves -/
def RelP (L : Lay) (w : World) (S' : DS) (e : Ending) (w' : World) : Prop :=
  e = .returned (.tuple #[]) ∧ ∃ L', DiskAt w' L' S' ∧ L'.b = L.b ∧ L'.loc = L.loc ∧ L'.ch = L.ch ∧ (∀ k, k < w.heap.size → L'.own k = L.own k) ∧ Chn (fun t => t ≠ .free ∧ t ≠ .chg) L.own w w'
/-- sizes at a release -/
structure RelOk (S : DS) (n : Nat) : Prop where
  u1 : S.used ≤ 1099511627776
  u2 : -1099511627776 ≤ S.used - (S.file n).data.length
  l : (S.file n).data.length ≤ 1099511627776
theorem rel_none (L : Lay) (S : DS) (w : World) (h : DiskAt w L S) :
    Calls Tryz.prog 81 #[.pointer (some ⟨L.b, 0, none⟩), .pointer none] w (RelP L w S) := by
  have HD := Box.mk h; clear h
  go_enter Tryz.func81, Tryz.ntmps81
  go_wp2
  go_end0
  exact ⟨rfl, L, HD.out, rfl, rfl, rfl, fun _ _ => rfl, Chn.refl _ _ _⟩

set_option maxHeartbeats 400000 in
theorem rel_some (L : Lay) (S : DS) (n : Nat) (w : World) (h : DiskAt w L S) (h1 : 1 ≤ n) (h2 : n ≤ S.made) (ho : RelOk S n) :
    Calls Tryz.prog 81 #[.pointer (some ⟨L.b, 0, none⟩), .pointer (some ⟨L.loc n, 0, none⟩)] w (RelP L w (relF S n)) := by
  obtain ⟨hu1, hu2, hl⟩ := ho
  have F := h.file n h1 h2
  have c1 := F.c1; have c3 := F.c3; have z1 := F.fz 1
  have c5 := h.head.c5; have z5 := h.head.fz 5
  unfold relF
  by_cases hnm : (S.file n).named = true
  · rw [if_pos hnm]
    rw [hnm] at c3
    have HD := Box.mk h
    clear h F hnm
    go_enter Tryz.func81, Tryz.ntmps81
    go_wp2
    go_end0
    exact ⟨rfl, L, HD.out, rfl, rfl, rfl, fun _ _ => rfl, Chn.refl _ _ _⟩
  · have hnm : (S.file n).named = false := by simpa using hnm
    rw [hnm]
    rw [hnm] at c3
    have hv : ∃ q cap, L.dat n = .slice q (S.file n).data.length cap := by
      rcases F.row.2 with ⟨hv, h0⟩ | ⟨g, cap, cur, hv, _⟩
      · exact ⟨none, 0, by rw [hv, h0]⟩
      · exact ⟨_, _, hv⟩
    obtain ⟨q, cap, hv⟩ := hv
    rw [hv] at c1
    have hne : L.loc n ≠ L.b := h.loc_ne h1 h2
    have hne' : L.b ≠ L.loc n := fun e => hne e.symm
    have hbl := h.b_lt
    have hll := h.loc_lt h1 h2
    obtain ⟨x, hx⟩ : ∃ x, x = S.used - ((S.file n).data.length : Int) := ⟨_, rfl⟩
    have e1 : IntKind.i64.wrap (S.used - ((S.file n).data.length : Int)) = x := by rw [IntWalk.i64_in _ (by omega)]; exact hx.symm
    rw [← hx] at hu2
    have HX := Box.mk hx
    have D1 : DiskAt (w.setCell ⟨L.b, 5, none⟩ (.int .i64 x)) L { S with used := x } := h.reHead ((Chn.refl _ _ _).setCell (fun _ => h.tags.b) _) (h.head.s5 x) rfl rfl rfl rfl rfl
    have F1 := D1.file n h1 h2
    have fin := D1.reData (n := n) h1 h2 (v := .slice none 0 0) (f := { S.file n with data := [] }) ((Chn.refl _ _ _).setCell (p := ⟨L.loc n, 1, none⟩) (fun _ => .inl (D1.tags.loc n h1 h2)) (.slice none 0 0)) F1.setData (.inr (.inl rfl))
    have hC : Chn (fun t => t ≠ .free ∧ t ≠ .chg) L.own w ((w.setCell ⟨L.b, 5, none⟩ (.int .i64 x)).setCell ⟨L.loc n, 1, none⟩ (.slice none 0 0)) :=
      ((Chn.refl _ _ _).setCell (fun _ => by show L.own L.b ≠ .free ∧ L.own L.b ≠ .chg; rw [h.tags.b]; simp) _).setCell (fun _ => by show L.own (L.loc n) ≠ .free ∧ L.own (L.loc n) ≠ .chg; rw [h.tags.loc n h1 h2]; simp) _
    have hsz : (w.setCell ⟨L.b, 5, none⟩ (.int .i64 x)).heap.size = w.heap.size := by simp [World.setCell]
    rw [hsz] at fin
    have FIN := Box.mk fin; have HC := Box.mk hC
    clear h F D1 F1 fin hC hsz hx
    generalize (S.file n).data.length = l at *
    rw [if_neg (by simp)]
    go_enter Tryz.func81, Tryz.ntmps81
    go_wp2_with fail
    go_still_tail 12, (by kernel_rfl)
    change wpList _ _ _ _ _ w.drew
    go_wp2_with fail
    go_end0
    rw [← HX.out]
    exact ⟨rfl, _, DiskAt.drew FIN.out.1, rfl, rfl, rfl, fun k hk => FIN.out.2 k hk, HC.out.drew⟩

end Go.Proofs.YtdffpbfllekcgaaGreatDoor
