/- Contracts of disk: oldestFirst, whole. -/
import Derived.Test.YtalinhjalnndhaaDiskQ
namespace Go.Proofs.Ytalinhjalnndhaa
set_option maxRecDepth 100000
open Go.RowKit Go.Maps Go.Sort Go.Lib M

/-- what a sort of files leaves -/
def SortP (B : Nat) (loc : Nat → Nat) (v : Value) (ys : List Nat) (W : World) (e : Ending) (w' : World) : Prop :=
  e = .returned (.tuple #[]) ∧ FilesIn w' v loc ys ∧ Below B W w'

theorem sort_any (L : Lay) (S : DS) (W : World) (B : Nat) (h : DiskAt W L S) (hB : B ≤ W.heap.size) (hfree : ∀ k, B ≤ k → L.own k = .free) (hr : ∀ p ∈ S.names, 1 ≤ p.2 ∧ p.2 ≤ S.made) (hl : S.names.length ≤ 1099511627776) (v : Value) (xs : List Nat) (hp : xs.Perm (locs L.loc S.names))
    (hrow : W.ownsRow B 74 1 v xs.length (xs.map encP)) :
    Calls Try.prog 66 #[v, .func (.func 60) #[] #[]] W (SortP B L.loc v (oldest S.names) W) := by
  obtain ⟨r, hx, hpr⟩ := back_loc h hr hp
  have hlen : xs.length = S.names.length := by rw [hp.length_eq]; simp [locs]
  have hol : (oldest S.names).length = xs.length := by unfold oldest; rw [List.length_mergeSort, List.length_map, hlen]
  rcases hrow.2 with ⟨hv, h0⟩ | ⟨g, cap, cur, hv, hbg, hg, hnc, hcm, hcs, ht⟩
  · have hS : ∀ W, Calls Try.prog 66 #[.slice none 0 0, .func (.func 60) #[] #[]] W fun e w' => e = .returned (.tuple #[]) ∧ w' = W := fun W => AnyF.slices_SortFunc_none (P := Try.prog) (ρ := Try.sortL_ren) { Try.sortL with } none 0 (.func (.func 60) #[] #[]) W
    rw [hv]
    refine (hS W).mono fun e w' ⟨he, hw⟩ => ⟨he, ⟨⟨none, 0, by rw [hol, h0]⟩, fun hpos => absurd hpos (by omega)⟩, by rw [hw]; exact Below.refl _ _⟩
  · have hgl : g < W.heap.size := by
      rcases Nat.lt_or_ge g W.heap.size with e | e
      · exact e
      · rw [Array.getElem?_eq_none e] at hg; cases hg
    rcases Nat.eq_zero_or_pos xs.length with h0 | hpos
    · have hS : ∀ W, Calls Try.prog 66 #[.slice (some ⟨g, 0, none⟩) 0 cap, .func (.func 60) #[] #[]] W fun e w' => e = .returned (.tuple #[]) ∧ w' = W := fun W => AnyF.slices_SortFunc_none (P := Try.prog) (ρ := Try.sortL_ren) { Try.sortL with } (some ⟨g, 0, none⟩) cap (.func (.func 60) #[] #[]) W
      rw [h0] at hv
      rw [hv]
      refine (hS W).mono fun e w' ⟨he, hw⟩ => ⟨he, ⟨⟨some ⟨g, 0, none⟩, cap, by rw [hol, h0]⟩, fun hpos => absurd hpos (by omega)⟩, by rw [hw]; exact Below.refl _ _⟩
    · have hrl : r.length = xs.length := by rw [hx, List.length_map]
      obtain ⟨r0, rr, hr0⟩ : ∃ a b, r = a :: b := by
        cases r with
        | nil => simp at hrl; omega
        | cons a b => exact ⟨a, b, rfl⟩
      letI : Inhabited (Ids S.made) := ⟨r0⟩
      have hrow' := hrow
      rw [hv] at hrow'
      have hsz : r.toArray.size = xs.length := by simpa using hrl
      have hget : ∀ j, j < r.toArray.size → xs[j]? = some (L.loc (r.toArray[j]!).1) := fun j hj => by
        have hj' : j < r.length := by simpa using hj
        rw [hx, List.getElem?_map, List.getElem?_eq_getElem hj']
        simp [hj']
      have hH : Holds (fun n : Ids S.made => encP (L.loc n.1)) W g 0 r.toArray := fun j hj => by
        refine ⟨?_, hrow'.frozenAt _⟩
        rw [Nat.zero_add, hrow'.cellAt j (by omega), List.getElem?_map, hget j hj]
        rfl
      have hlb : ∀ n : Ids S.made, L.loc n.1 < B := fun n => by
        rcases Nat.lt_or_ge (L.loc n.1) B with e | e
        · exact e
        · have := h.tags.loc n.1 n.2.1 n.2.2
          rw [hfree _ e] at this; cases this
      have hcmp : CmpReads Try.prog 60 #[] (fun n : Ids S.made => encP (L.loc n.1)) (cfI S.made) g 0 r.toArray.size W := fun m os dk _ x y =>
        cmp_any (L.loc x.1) (L.loc y.1) (x.1 : Int) (y.1 : Int) _
          ((cell_keep (sw_old _ W g 0 m dk os _ (Nat.lt_of_lt_of_le (hlb x) hB) (by have := hlb x; omega))).trans (h.file x.1 x.2.1 x.2.2).c0)
          ((cell_keep (sw_old _ W g 0 m dk os _ (Nat.lt_of_lt_of_le (hlb y) hB) (by have := hlb y; omega))).trans (h.file y.1 y.2.1 y.2.2).c0)
      have eg : ∀ args w, (callFunc 60 args).run Try.prog w = .ok (.enter 60 args) w := enters_of Try.func60 (by kernel_rfl) rfl
      have hS := Any.slices_SortFunc_total Try.sortL (fun n : Ids S.made => encP (L.loc n.1)) (fun _ => rfl) (cfI S.made) (swoI S.made) 60 #[] g 0 cap r.toArray W eg hcmp.lays hH hgl (by rw [hsz]; omega) (totI S.made)
      rw [geI, hsz] at hS
      change Calls Try.prog 66 _ _ _ at hS
      rw [hv]
      refine hS.mono fun e w' ⟨he, n, os, hw⟩ => ⟨he, ⟨⟨_, cap, by rw [hol]⟩, fun _ => ⟨g, cap, by rw [hol], ?_, fun i hi => ?_⟩⟩, ?_⟩
      · rw [hw]; exact Nat.lt_of_lt_of_le hgl (sw_size _ _ _ _ _ _ _)
      · have e1 := rising_one (l := S.names.map (·.2)) hpr
        have hsl : (r.toArray.toList.mergeSort fun x y => decide (x.1 ≤ y.1)).toArray.size = r.toArray.size := by simp
        have hi2 : i < (r.toArray.toList.mergeSort fun x y => decide (x.1 ≤ y.1)).toArray.size := by rw [hsl, hsz, ← hol]; exact hi
        have c := sw_cell (fun n : Ids S.made => encP (L.loc n.1)) W g 0 n r.toArray (r.toArray.toList.mergeSort fun x y => decide (x.1 ≤ y.1)).toArray os hH hsl hgl i hi2
        rw [Nat.zero_add] at c
        rw [hw, c]
        congr 2
        have e2 : (oldest S.names) = ((r.mergeSort fun x y => decide (x.1 ≤ y.1)).map (·.1)) := e1.symm
        have hi3 : i < (r.mergeSort fun x y : Ids S.made => decide (x.1 ≤ y.1)).length := by simpa using hi2
        rw [e2, List.getD, List.getElem?_map, List.getElem?_eq_getElem hi3]
        simp
        rw [List.getElem?_eq_getElem hi3]
        rfl
      · rw [hw]; exact sw_below _ _ _ _ _ _ _ hbg hB

/-- what oldestFirst leaves -/
def OldP (B : Nat) (L : Lay) (ys : List Nat) (w : World) (e : Ending) (w' : World) : Prop :=
  ∃ v, e = .returned v ∧ FilesIn w' v L.loc ys ∧ (∀ k, v.ownBlock = some k → B ≤ k) ∧ Below B w w'

set_option maxHeartbeats 1000000 in
theorem sorted_any (L : Lay) (S : DS) (w : World) (Bm : Nat) (h : DiskAt w L S) (hr : ∀ p ∈ S.names, 1 ≤ p.2 ∧ p.2 ≤ S.made) (hl : S.names.length ≤ 1099511627776) (hB : Bm < w.heap.size) (hm : w.cell? ⟨Bm, 0, none⟩ = some (.map (some L.nb))) :
    Calls Try.prog 58 #[.func (.func 67) #[] #[.pointer (some ⟨Bm, 0, none⟩)], .func (.func 60) #[] #[]] w (OldP w.heap.size L (oldest S.names) w) := by
  have cc := collect_any Bm L.nb L.loc S.names w hB hm h.names hl
  have cs := fun W v xs (hb : Below w.heap.size w W) (hp : List.Perm xs (locs L.loc S.names)) (hrow : W.ownsRow w.heap.size 74 1 v xs.length (xs.map encP)) => sort_any L S W w.heap.size (h.below hb) hb.size (fun k hk => h.tags.out k hk) hr hl v xs hp hrow
  have CC := Box.mk cc; have CS := Box.mk cs
  clear cc cs h hr hl hm hB
  go_enter Try.func58, Try.ntmps58
  go_wp2_with (first
    | (go_at_call 65; ((with_reducible refine CC.out.mono ?_); rintro e w1 ⟨v, xs, rfl, hS, hrow, hb⟩; have CS1 := Box.mk (CS.out w1 v xs hb hS hrow); have HR := Box.mk hrow; have HB := Box.mk hb; clear hS hrow hb))
    | (go_at_call 66; ((with_reducible refine CS1.out.mono ?_); rintro e w2 ⟨rfl, hf, hb⟩; have HF := Box.mk hf; have HB2 := Box.mk hb; clear hf hb)))
  go_ret
  exact ⟨v, rfl, HF.out, fun k hk => (HR.out.lt k hk).1, HB.out.trans HB2.out⟩

set_option maxHeartbeats 1000000 in
theorem oldest_any (L : Lay) (S : DS) (w : World) (h : DiskAt w L S) (hr : ∀ p ∈ S.names, 1 ≤ p.2 ∧ p.2 ≤ S.made) (hl : S.names.length ≤ 1099511627776) :
    Calls Try.prog 46 #[.pointer (some ⟨L.b, 0, none⟩)] w (OldP w.heap.size L (oldest S.names) w) := by
  have c0 := h.head.c0
  have cv := values_any L.nb w
  have hb : Below w.heap.size w (w.alloc (.cells #[.map (some L.nb)] 53)) := (Below.refl _ _).alloc (Nat.le_refl _) _
  have hc : (w.alloc (.cells #[.map (some L.nb)] 53)).cell? ⟨w.heap.size, 0, none⟩ = some (.map (some L.nb)) := by
    have := (MapKept.heap_alloc w (.cells #[.map (some L.nb)] 53)).1
    unfold World.cell?
    simp only [this]
    rfl
  have cs := sorted_any L S (w.alloc (.cells #[.map (some L.nb)] 53)) w.heap.size (h.below hb) hr hl (by simp) hc
  have CV := Box.mk cv; have CS := Box.mk cs; have HB := Box.mk hb
  clear cv cs hb hc h hr hl
  go_enter Try.func46, Try.ntmps46
  go_wp2_with (first
    | (go_at_call 59; ((with_reducible refine CV.out.mono ?_); rintro e w1 ⟨rfl, rfl⟩))
    | (go_at_call 58; ((with_reducible refine CS.out.mono ?_); rintro e w2 ⟨v, rfl, hf, hk, hb⟩; have HF := Box.mk hf; have HK := Box.mk hk; have HB2 := Box.mk hb; clear hf hk hb)))
  go_ret
  refine ⟨v, rfl, HF.out, fun k hk => ?_, HB.out.trans (HB2.out.mono HB.out.size)⟩
  have := HK.out k hk
  simp at this; omega

end Go.Proofs.Ytalinhjalnndhaa
