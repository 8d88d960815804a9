/- Contracts of disk: rename. -/
import Derived.Test.YtalinhjalnndhaaDiskE
import Derived.StillTailTactics
import Derived.Deep.RegionHeld3
import Derived.Deep.RegionLaw
namespace Go.Proofs.Ytalinhjalnndhaa
set_option maxRecDepth 100000
open Go.RowKit M

/-- what a change of names asks -/
structure RenOk (S : DS) : Prop where
  names : S.names.length ≤ 1099511627776
  chg : S.chg.length ≤ 1099511627776
  nref : ∀ p ∈ S.names, 1 ≤ p.2 ∧ p.2 ≤ S.made
theorem Fine.ren {S : DS} (h : Fine S) : RenOk S := ⟨h.names, h.chg, h.nref⟩
theorem RenOk.of {S S' : DS} (h : RenOk S) (e1 : S'.names = S.names) (e2 : S'.chg = S.chg) (e3 : S.made ≤ S'.made) : RenOk S' :=
  ⟨by rw [e1]; exact h.names, by rw [e2]; exact h.chg, fun p hp => by rw [e1] at hp; have := h.nref p hp; exact ⟨this.1, Nat.le_trans this.2 e3⟩⟩

theorem local4 {w W : World} {a b c d : Value} {t : TypeId} (hb : W.heap[w.heap.size]? = (w.alloc (.cells #[a, b, c, d] t)).heap[w.heap.size]?) :
    W.cell? ⟨w.heap.size, 0, none⟩ = some a ∧ W.cell? ⟨w.heap.size, 1, none⟩ = some b ∧ W.cell? ⟨w.heap.size, 2, none⟩ = some c ∧ W.cell? ⟨w.heap.size, 3, none⟩ = some d := by
  have e : W.heap[w.heap.size]? = some (.cells #[a, b, c, d] t) := by rw [hb]; exact (MapKept.heap_alloc w _).1
  have hc : ∀ j, W.cell? ⟨w.heap.size, j, none⟩ = #[a, b, c, d][j]? := fun j => by simp [World.cell?, e]
  exact ⟨by rw [hc]; rfl, by rw [hc]; rfl, by rw [hc]; rfl, by rw [hc]; rfl⟩

theorem app_length (c : Chg) (l : KL) : (c.app l).length ≤ l.length + 1 := by
  unfold Chg.app
  split
  · have := kdel_length l c.src; omega
  · have h1 := kput_length (kdel l c.src) c.dst c.file
    have h2 := kdel_length l c.src
    omega

theorem cell_grown {w W w' : World} {row : Option Nat} (hb : Below w.heap.size w W) (hg : W.grownBy w' row) {p q : Nat} {v : Value} (h : w.cell? ⟨p, q, none⟩ = some v) (hr : row ≠ some p) : w'.cell? ⟨p, q, none⟩ = some v := by
  have hp : p < w.heap.size := World.block_lt_of_cell? w _ h
  rw [cell_keep (hg.block p (Nat.lt_of_lt_of_le hp hb.size) (fun e => hr e.symm)), cell_keep (hb.block p hp)]
  exact h
theorem frozen_grown {w W w' : World} {row : Option Nat} (hb : Below w.heap.size w W) (hg : W.grownBy w' row) {p q : Nat} (hp : p < w.heap.size) (h : w.frozen? ⟨p, q, none⟩ = false) (hr : row ≠ some p) : w'.frozen? ⟨p, q, none⟩ = false := by
  rw [frozen_keep (hg.block p (Nat.lt_of_lt_of_le hp hb.size) (fun e => hr e.symm)), frozen_keep (hb.block p hp)]
  exact h
theorem info_change : (Try.prog.info? 82).map (fun i => (i.zero, i.size, i.bytes)) = some (some (.agg #[.string ⟨#[]⟩, .string ⟨#[]⟩, .pointer none, .pointer none]), 4, 48) := by kernel_rfl

set_option maxRecDepth 100000 in
set_option maxHeartbeats 1000000 in
theorem ren_none (L : Lay) (S : DS) (src dst : ByteArray) (f : Nat) (w : World) (h : DiskAt w L S) (hf : RenOk S) (h1 : 1 ≤ f) (h2 : f ≤ S.made) (hs : src.size ≤ maxLen) (hd : dst.size ≤ maxLen) (hg : kget S.names dst = none) (d : Bool) (hdd : decide (dst.size ≠ 0) = d) :
    Calls Try.prog 40 #[.pointer (some ⟨L.b, 0, none⟩), .string src, .string dst, .pointer (some ⟨L.loc f, 0, none⟩)] w (RanP L w (.tuple #[]) (renS S src dst f)) := by
  have lk := h.names.look (P := Try.prog) (k := 9) (t := 53) (e := 74) Try.underlying9 Try.underlying53 (zero_file w) dst hd
  rw [hg] at lk
  have hlt := h.loc_lt h1 h2
  have hbl := h.b_lt
  have e1 : dst.toList.isEmpty = !d := by
    by_cases hz : dst.size = 0
    · rw [d_empty hz, ← hdd]; simp [hz]
    · rw [d_some (by omega), ← hdd]; simp [hz]
  have g3 := (h.file f h1 h2).c3
  have f3 := (h.file f h1 h2).fz 3
  have c0 := h.head.c0
  have D1 := h.setNamed h1 h2 d
  have hz : (w.setCell ⟨L.loc f, 3, none⟩ (.bool d)).heap.size = w.heap.size := by simp [World.setCell]
  have D2 : DiskAt ((w.setCell ⟨L.loc f, 3, none⟩ (.bool d)).alloc (.cells #[.string src, .string dst, .pointer (some ⟨L.loc f, 0, none⟩), .pointer none] 82)) L (S.setF f { S.file f with named := d }) := D1.below ((Below.refl _ _).alloc (Nat.le_refl _) _)
  have hC : Chn (fun t => t ≠ .free) L.own w ((w.setCell ⟨L.loc f, 3, none⟩ (.bool d)).alloc (.cells #[.string src, .string dst, .pointer (some ⟨L.loc f, 0, none⟩), .pointer none] 82)) :=
    (((Chn.refl _ _ _).setCell (fun _ => by show L.own (L.loc f) ≠ .free; rw [h.tags.loc f h1 h2]; simp) _).alloc _)
  have hfree : L.own w.heap.size = .free := h.tags.out _ (Nat.le_refl _)
  have HF := Box.mk hfree; clear hfree
  obtain ⟨l0, l1, l2, l3⟩ := local4 (w := w.setCell ⟨L.loc f, 3, none⟩ (.bool d)) (W := (w.setCell ⟨L.loc f, 3, none⟩ (.bool d)).alloc (.cells #[.string src, .string dst, .pointer (some ⟨L.loc f, 0, none⟩), .pointer none] 82)) (a := .string src) (b := .string dst) (c := .pointer (some ⟨L.loc f, 0, none⟩)) (d := .pointer none) (t := 82) rfl
  rw [hz] at l0 l1 l2 l3
  have hsz : ((w.setCell ⟨L.loc f, 3, none⟩ (.bool d)).alloc (.cells #[.string src, .string dst, .pointer (some ⟨L.loc f, 0, none⟩), .pointer none] 82)).heap.size = w.heap.size + 1 := by simp [World.setCell]
  have hfin : renS S src dst f = { S.setF f { S.file f with named := d } with names := (mkC S src dst f).app S.names, chg := S.chg ++ [mkC S src dst f] } := by
    unfold renS
    rw [hg]
    show ({ S.setF f { S.file f with named := decide (dst.size ≠ 0) } with names := (mkC S src dst f).app S.names, chg := S.chg ++ [mkC S src dst f] } : DS) = _
    rw [hdd]
  have hmk : mkC S src dst f = ⟨src, dst, f, none⟩ := by unfold mkC; rw [hg]
  rw [hfin, hmk]
  have LK := Box.mk lk
  clear hfin hmk hz D1
  have HD := Box.mk D2; have HC := Box.mk hC; have HS := Box.mk hsz
  have hN : S.names.length ≤ 1099511627776 := hf.names
  have hQ : S.chg.length ≤ 1099511627776 := hf.chg
  clear h hf D2 hC hsz hdd hg
  go_enter Try.func40, Try.ntmps40
  go_wp2_with fail
  generalize hW : (w.setCell ⟨L.loc f, 3, none⟩ (.bool d)).alloc (.cells #[.string src, .string dst, .pointer (some ⟨L.loc f, 0, none⟩), .pointer none] 82) = W at l0 l1 l2 l3 HD HC HS ⊢
  clear hW c0 g3 f3 lk LK
  have x0 := HD.out.head.c0
  have hap := apply_any ⟨src, dst, f, none⟩ (.pointer none) L.loc L.nb S.names W.drew (HD.out.names.keep rfl) hs hd (by unfold maxLen; omega)
  have HAP := Box.mk hap; clear hap
  go_still_tail 5, (by kernel_rfl)
  change wpList _ _ _ _ _ W.drew
  go_wp2_with (go_at_call 56; ((with_reducible refine HAP.out.mono ?_); rintro e w1 ⟨rfl, m1, o1⟩; have M1 := Box.mk m1; have O1 := Box.mk o1; clear m1 o1))
  have C1 : Chn (fun t => t = .names) L.own W w1 := by
    have h := O1.out.to (T := fun t => t = .names) (own := L.own) HD.out.tags.nb
    exact ⟨h.os, h.tape, h.output, h.size, h.block⟩
  have D3 := HD.out.reNames C1 M1.out
  have hnb : w1.heap[w.heap.size]? = W.heap[w.heap.size]? := C1.block _ (by rw [HS.out]; omega) (by rw [HF.out]; simp)
  have l0 := (cell_keep (o := 0) hnb).trans l0
  have l1 := (cell_keep (o := 1) hnb).trans l1
  have l2 := (cell_keep (o := 2) hnb).trans l2
  have l3 := (cell_keep (o := 3) hnb).trans l3
  have x2 := D3.head.c2
  have y2 := D3.head.fz 2
  have hch : w1.ownsRow 0 82 4 L.ch S.chg.length (S.chg.flatMap (chgCells L.loc)) := D3.chg
  have hb1 := D3.b_lt
  have D3B := Box.mk D3; have C1B := Box.mk C1
  have n1 : L.ch.ownBlock ≠ some L.b := fun e => by
    have a := D3.tags.ch _ e
    rw [D3.tags.b] at a; cases a
  have n2 : L.ch.ownBlock ≠ some w.heap.size := fun e => by
    have a := D3.tags.ch _ e
    rw [HF.out] at a; cases a
  have N1 := Box.mk n1; have N2 := Box.mk n2; clear n1 n2
  obtain ⟨i0, hi, hz0, hz1, hz2⟩ := info_parts info_change
  clear D3 C1 hnb x0 HAP M1 O1
  have HCH := Box.mk hch; clear hch
  go_region_law
    ((refine step_append_lies _ (by rfl) _ _ _ (by rfl) 0 82 i0 _ 4 48 Try.underlying54 hi hz0 hz1 hz2 rfl (by omega) _ _ _ (by rfl) ((HCH.out.alloc _).drew) ⟨w1.heap.size, 0, none⟩ 1 1 [.string src, .string dst, .pointer (some ⟨L.loc f, 0, none⟩), .pointer none] (by rfl) (by rfl) (World.news_of_block (cs := #[.string src, .string dst, .pointer (some ⟨L.loc f, 0, none⟩), .pointer none]) (t := 82) (fr := (0, 0)) (heap_alloc_new _ _)) (by simp [Value.oneCell']) (by omega) (by unfold maxLen; omega) (by omega) (by simp) (w1.heap.size + 1) (by simp) ?_; intro gg cc w2 hown1 hgrow hat hlt2;
      have z5 := frozen_grown (((Below.refl _ _).alloc (Nat.le_refl _) _).drew) hgrow hb1 y2 N1.out;
      have z0 := cell_grown (((Below.refl _ _).alloc (Nat.le_refl _) _).drew) hgrow x2 N1.out;
      have z1 := cell_grown (((Below.refl _ _).alloc (Nat.le_refl _) _).drew) hgrow l0 N2.out;
      have z2 := cell_grown (((Below.refl _ _).alloc (Nat.le_refl _) _).drew) hgrow l1 N2.out;
      have z3 := cell_grown (((Below.refl _ _).alloc (Nat.le_refl _) _).drew) hgrow l2 N2.out;
      have z4 := cell_grown (((Below.refl _ _).alloc (Nat.le_refl _) _).drew) hgrow l3 N2.out))
  all_goals
    go_wp2_with fail
    go_end0
    have D3 := D3B.out
    have G1 : Chn (fun t => t = .chg) L.own w1 w2 := (((Chn.refl _ _ _).alloc _).drew).grown hgrow (fun k e _ => D3.tags.ch k e)
    have hgb : gg ≠ L.b := by
      rcases hat with e | e
      · intro e2
        have := D3.tags.ch gg e
        rw [e2, D3.tags.b] at this
        cases this
      · omega
    have hh : Head w2 L.b L.nb L.sb L.ch _ := D3.head.keep (G1.block _ hb1 (by rw [D3.tags.b]; simp))
    have hrow : w2.ownsRow 0 82 4 (.slice (some ⟨gg, 0, none⟩) (S.chg.length + 1) cc) (S.chg ++ [(⟨src, dst, f, none⟩ : Chg)]).length ((S.chg ++ [(⟨src, dst, f, none⟩ : Chg)]).flatMap (chgCells L.loc)) := by
      rw [List.length_append, List.flatMap_append]
      exact hown1
    have fin := D3.reChg (v := .slice (some ⟨gg, 0, none⟩) (S.chg.length + 1) cc) (cs := S.chg ++ [⟨src, dst, f, none⟩]) ((G1.mono (fun t e => .inl e)).setCell (p := ⟨L.b, 2, none⟩) (fun _ => .inr D3.tags.b) (.slice (some ⟨gg, 0, none⟩) (S.chg.length + 1) cc)) (hh.s2 _)
      (row_keep hrow (fun k e => Below.heap_setCell _ _ _ _ (by intro e2; cases e; exact hgb e2)))
      (by
        rcases hat with e | e
        · exact .inl e.symm
        · exact .inr (fun k ek => by cases ek; show w1.heap.size ≤ gg; omega))
    refine ⟨rfl, _, fin.1, rfl, fun k hk => ?_, ?_⟩
    · exact fin.2 k (Nat.lt_of_lt_of_le (Nat.lt_of_lt_of_le hk (by have := HS.out; omega)) C1B.out.size)
    · exact ((HC.out.trans (C1B.out.mono (fun t e => by rw [e]; simp))).trans (G1.mono (fun t e => by rw [e]; simp))).setCell (fun _ => by show L.own L.b ≠ .free; rw [D3.tags.b]; simp) _

set_option maxRecDepth 100000 in
set_option maxHeartbeats 1000000 in
theorem ren_some (L : Lay) (S : DS) (src dst : ByteArray) (f g : Nat) (w : World) (h : DiskAt w L S) (hf : RenOk S) (h1 : 1 ≤ f) (h2 : f ≤ S.made) (hs : src.size ≤ maxLen) (hd : dst.size ≤ maxLen) (hg : kget S.names dst = some g) (k1 : 1 ≤ g) (k2 : g ≤ S.made) (d : Bool) (hdd : decide (dst.size ≠ 0) = d) :
    Calls Try.prog 40 #[.pointer (some ⟨L.b, 0, none⟩), .string src, .string dst, .pointer (some ⟨L.loc f, 0, none⟩)] w (RanP L w (.tuple #[]) (renS S src dst f)) := by
  have lk := h.names.look (P := Try.prog) (k := 9) (t := 53) (e := 74) Try.underlying9 Try.underlying53 (zero_file w) dst hd
  rw [hg] at lk
  have hlt := h.loc_lt h1 h2
  have hbl := h.b_lt
  have e1 : dst.toList.isEmpty = !d := by
    by_cases hz : dst.size = 0
    · rw [d_empty hz, ← hdd]; simp [hz]
    · rw [d_some (by omega), ← hdd]; simp [hz]
  have D0 := h.setNamed k1 k2 false
  have g3 := (D0.file f h1 h2).c3
  have f3 := (D0.file f h1 h2).fz 3
  have p3 := (h.file g k1 k2).c3
  have q3 := (h.file g k1 k2).fz 3
  have hltg := h.loc_lt k1 k2
  have c0 := h.head.c0
  have D1 := D0.setNamed h1 h2 d
  have hz : ((w.setCell ⟨L.loc g, 3, none⟩ (.bool false)).setCell ⟨L.loc f, 3, none⟩ (.bool d)).heap.size = w.heap.size := by simp [World.setCell]
  have D2 : DiskAt (((w.setCell ⟨L.loc g, 3, none⟩ (.bool false)).setCell ⟨L.loc f, 3, none⟩ (.bool d)).alloc (.cells #[.string src, .string dst, .pointer (some ⟨L.loc f, 0, none⟩), (.pointer (some ⟨L.loc g, 0, none⟩))] 82)) L ((S.setF g { S.file g with named := false }).setF f { (S.setF g { S.file g with named := false }).file f with named := d }) := D1.below ((Below.refl _ _).alloc (Nat.le_refl _) _)
  have hC : Chn (fun t => t ≠ .free) L.own w (((w.setCell ⟨L.loc g, 3, none⟩ (.bool false)).setCell ⟨L.loc f, 3, none⟩ (.bool d)).alloc (.cells #[.string src, .string dst, .pointer (some ⟨L.loc f, 0, none⟩), (.pointer (some ⟨L.loc g, 0, none⟩))] 82)) :=
    ((((Chn.refl _ _ _).setCell (fun _ => by show L.own (L.loc g) ≠ .free; rw [h.tags.loc g k1 k2]; simp) _).setCell (fun _ => by show L.own (L.loc f) ≠ .free; rw [h.tags.loc f h1 h2]; simp) _).alloc _)
  have hfree : L.own w.heap.size = .free := h.tags.out _ (Nat.le_refl _)
  have HF := Box.mk hfree; clear hfree
  obtain ⟨l0, l1, l2, l3⟩ := local4 (w := (w.setCell ⟨L.loc g, 3, none⟩ (.bool false)).setCell ⟨L.loc f, 3, none⟩ (.bool d)) (W := ((w.setCell ⟨L.loc g, 3, none⟩ (.bool false)).setCell ⟨L.loc f, 3, none⟩ (.bool d)).alloc (.cells #[.string src, .string dst, .pointer (some ⟨L.loc f, 0, none⟩), (.pointer (some ⟨L.loc g, 0, none⟩))] 82)) (a := .string src) (b := .string dst) (c := .pointer (some ⟨L.loc f, 0, none⟩)) (d := (.pointer (some ⟨L.loc g, 0, none⟩))) (t := 82) rfl
  rw [hz] at l0 l1 l2 l3
  have hsz : (((w.setCell ⟨L.loc g, 3, none⟩ (.bool false)).setCell ⟨L.loc f, 3, none⟩ (.bool d)).alloc (.cells #[.string src, .string dst, .pointer (some ⟨L.loc f, 0, none⟩), (.pointer (some ⟨L.loc g, 0, none⟩))] 82)).heap.size = w.heap.size + 1 := by simp [World.setCell]
  have hfin : renS S src dst f = { (S.setF g { S.file g with named := false }).setF f { (S.setF g { S.file g with named := false }).file f with named := d } with names := (mkC S src dst f).app S.names, chg := S.chg ++ [mkC S src dst f] } := by
    unfold renS
    rw [hg]
    show ({ (S.setF g { S.file g with named := false }).setF f { (S.setF g { S.file g with named := false }).file f with named := decide (dst.size ≠ 0) } with names := (mkC S src dst f).app S.names, chg := S.chg ++ [mkC S src dst f] } : DS) = _
    rw [hdd]
  have hmk : mkC S src dst f = ⟨src, dst, f, some g⟩ := by unfold mkC; rw [hg]
  rw [hfin, hmk]
  have LK := Box.mk lk
  clear hfin hmk hz D1 D0
  have HD := Box.mk D2; have HC := Box.mk hC; have HS := Box.mk hsz
  have hN : S.names.length ≤ 1099511627776 := hf.names
  have hQ : S.chg.length ≤ 1099511627776 := hf.chg
  clear h hf D2 hC hsz hdd hg
  go_enter Try.func40, Try.ntmps40
  go_wp2_with fail
  generalize hW : ((w.setCell ⟨L.loc g, 3, none⟩ (.bool false)).setCell ⟨L.loc f, 3, none⟩ (.bool d)).alloc (.cells #[.string src, .string dst, .pointer (some ⟨L.loc f, 0, none⟩), (.pointer (some ⟨L.loc g, 0, none⟩))] 82) = W at l0 l1 l2 l3 HD HC HS ⊢
  clear hW c0 g3 f3 p3 q3 lk LK
  have x0 := HD.out.head.c0
  have hap := apply_any ⟨src, dst, f, some g⟩ (.pointer (some ⟨L.loc g, 0, none⟩)) L.loc L.nb S.names W.drew (HD.out.names.keep rfl) hs hd (by unfold maxLen; omega)
  have HAP := Box.mk hap; clear hap
  go_still_tail 5, (by kernel_rfl)
  change wpList _ _ _ _ _ W.drew
  go_wp2_with (go_at_call 56; ((with_reducible refine HAP.out.mono ?_); rintro e w1 ⟨rfl, m1, o1⟩; have M1 := Box.mk m1; have O1 := Box.mk o1; clear m1 o1))
  have C1 : Chn (fun t => t = .names) L.own W w1 := by
    have h := O1.out.to (T := fun t => t = .names) (own := L.own) HD.out.tags.nb
    exact ⟨h.os, h.tape, h.output, h.size, h.block⟩
  have D3 := HD.out.reNames C1 M1.out
  have hnb : w1.heap[w.heap.size]? = W.heap[w.heap.size]? := C1.block _ (by rw [HS.out]; omega) (by rw [HF.out]; simp)
  have l0 := (cell_keep (o := 0) hnb).trans l0
  have l1 := (cell_keep (o := 1) hnb).trans l1
  have l2 := (cell_keep (o := 2) hnb).trans l2
  have l3 := (cell_keep (o := 3) hnb).trans l3
  have x2 := D3.head.c2
  have y2 := D3.head.fz 2
  have hch : w1.ownsRow 0 82 4 L.ch S.chg.length (S.chg.flatMap (chgCells L.loc)) := D3.chg
  have hb1 := D3.b_lt
  have D3B := Box.mk D3; have C1B := Box.mk C1
  have n1 : L.ch.ownBlock ≠ some L.b := fun e => by
    have a := D3.tags.ch _ e
    rw [D3.tags.b] at a; cases a
  have n2 : L.ch.ownBlock ≠ some w.heap.size := fun e => by
    have a := D3.tags.ch _ e
    rw [HF.out] at a; cases a
  have N1 := Box.mk n1; have N2 := Box.mk n2; clear n1 n2
  obtain ⟨i0, hi, hz0, hz1, hz2⟩ := info_parts info_change
  clear D3 C1 hnb x0 HAP M1 O1
  have HCH := Box.mk hch; clear hch
  go_region_law
    ((refine step_append_lies _ (by rfl) _ _ _ (by rfl) 0 82 i0 _ 4 48 Try.underlying54 hi hz0 hz1 hz2 rfl (by omega) _ _ _ (by rfl) ((HCH.out.alloc _).drew) ⟨w1.heap.size, 0, none⟩ 1 1 [.string src, .string dst, .pointer (some ⟨L.loc f, 0, none⟩), (.pointer (some ⟨L.loc g, 0, none⟩))] (by rfl) (by rfl) (World.news_of_block (cs := #[.string src, .string dst, .pointer (some ⟨L.loc f, 0, none⟩), (.pointer (some ⟨L.loc g, 0, none⟩))]) (t := 82) (fr := (0, 0)) (heap_alloc_new _ _)) (by simp [Value.oneCell']) (by omega) (by unfold maxLen; omega) (by omega) (by simp) (w1.heap.size + 1) (by simp) ?_; intro gg cc w2 hown1 hgrow hat hlt2;
      have z5 := frozen_grown (((Below.refl _ _).alloc (Nat.le_refl _) _).drew) hgrow hb1 y2 N1.out;
      have z0 := cell_grown (((Below.refl _ _).alloc (Nat.le_refl _) _).drew) hgrow x2 N1.out;
      have z1 := cell_grown (((Below.refl _ _).alloc (Nat.le_refl _) _).drew) hgrow l0 N2.out;
      have z2 := cell_grown (((Below.refl _ _).alloc (Nat.le_refl _) _).drew) hgrow l1 N2.out;
      have z3 := cell_grown (((Below.refl _ _).alloc (Nat.le_refl _) _).drew) hgrow l2 N2.out;
      have z4 := cell_grown (((Below.refl _ _).alloc (Nat.le_refl _) _).drew) hgrow l3 N2.out))
  all_goals
    go_wp2_with fail
    go_end0
    have D3 := D3B.out
    have G1 : Chn (fun t => t = .chg) L.own w1 w2 := (((Chn.refl _ _ _).alloc _).drew).grown hgrow (fun k e _ => D3.tags.ch k e)
    have hgb : gg ≠ L.b := by
      rcases hat with e | e
      · intro e2
        have := D3.tags.ch gg e
        rw [e2, D3.tags.b] at this
        cases this
      · omega
    have hh : Head w2 L.b L.nb L.sb L.ch _ := D3.head.keep (G1.block _ hb1 (by rw [D3.tags.b]; simp))
    have hrow : w2.ownsRow 0 82 4 (.slice (some ⟨gg, 0, none⟩) (S.chg.length + 1) cc) (S.chg ++ [(⟨src, dst, f, some g⟩ : Chg)]).length ((S.chg ++ [(⟨src, dst, f, some g⟩ : Chg)]).flatMap (chgCells L.loc)) := by
      rw [List.length_append, List.flatMap_append]
      exact hown1
    have fin := D3.reChg (v := .slice (some ⟨gg, 0, none⟩) (S.chg.length + 1) cc) (cs := S.chg ++ [⟨src, dst, f, some g⟩]) ((G1.mono (fun t e => .inl e)).setCell (p := ⟨L.b, 2, none⟩) (fun _ => .inr D3.tags.b) (.slice (some ⟨gg, 0, none⟩) (S.chg.length + 1) cc)) (hh.s2 _)
      (row_keep hrow (fun k e => Below.heap_setCell _ _ _ _ (by intro e2; cases e; exact hgb e2)))
      (by
        rcases hat with e | e
        · exact .inl e.symm
        · exact .inr (fun k ek => by cases ek; show w1.heap.size ≤ gg; omega))
    refine ⟨rfl, _, fin.1, rfl, fun k hk => ?_, ?_⟩
    · exact fin.2 k (Nat.lt_of_lt_of_le (Nat.lt_of_lt_of_le hk (by have := HS.out; omega)) C1B.out.size)
    · exact ((HC.out.trans (C1B.out.mono (fun t e => by rw [e]; simp))).trans (G1.mono (fun t e => by rw [e]; simp))).setCell (fun _ => by show L.own L.b ≠ .free; rw [D3.tags.b]; simp) _

theorem ren_any (L : Lay) (S : DS) (src dst : ByteArray) (f : Nat) (w : World) (h : DiskAt w L S) (hf : RenOk S) (h1 : 1 ≤ f) (h2 : f ≤ S.made) (hs : src.size ≤ maxLen) (hd : dst.size ≤ maxLen) :
    Calls Try.prog 40 #[.pointer (some ⟨L.b, 0, none⟩), .string src, .string dst, .pointer (some ⟨L.loc f, 0, none⟩)] w (RanP L w (.tuple #[]) (renS S src dst f)) := by
  cases hg : kget S.names dst with
  | none => exact ren_none L S src dst f w h hf h1 h2 hs hd hg _ rfl
  | some g =>
    have hm := hf.nref _ (kget_some hg)
    exact ren_some L S src dst f g w h hf h1 h2 hs hd hg hm.1 hm.2 _ rfl

end Go.Proofs.Ytalinhjalnndhaa
