/- DiskQ, DiskR, in one text. -/
import Derived.Test.YtdffpbfllekcgaaGreatDoorHq
import Derived.Test.YtdffpbfllekcgaaGreatDoorDShelf
namespace Go.Proofs.YtdffpbfllekcgaaGreatDoor
set_option maxRecDepth 100000
open Go.RowKit Go.Maps Go.Sort Go.Lib M
attribute [local go_sem] Oper.semAt_some

/-! ### the comparison -/
set_option maxHeartbeats 600000 in
theorem cmp_any (p q : Nat) (x y : Int) (W : World) (hx : W.cell? ⟨p, 0, none⟩ = some (.int .i64 x)) (hy : W.cell? ⟨q, 0, none⟩ = some (.int .i64 y)) :
    Calls Tryz.prog 57 #[encP p, encP q] W fun e w' => e = .returned (.int .i64 (Lib.compareInt x y)) ∧ ∃ n, w' = W.drewN n := by
  have hcon : ∀ W, Calls Tryz.prog 58 #[.int .i64 x, .int .i64 y] W fun e w' => e = .returned (.int .i64 (Lib.compareInt x y)) ∧ w' = W := fun W => AnyG.cmp_Compare_int Tryz.cmpL x y W
  generalize Lib.compareInt x y = r at hcon ⊢
  have HC := Box.mk hcon
  clear hcon
  go_enter Tryz.func57, Tryz.ntmps57
  go_wp2_with fail
  go_quiet ((go_at_call 58; exact Calls.quiet_of_same (HC.out _)))
  go_wp2_with fail
  go_ret
  exact ⟨rfl, _, rfl⟩

/-! ### the order -/
theorem lt_nat (x y : Nat) : ltOf (fun x y : Nat => Lib.compareInt (x : Int) (y : Int)) x y = decide (x < y) := by
  unfold ltOf Lib.compareInt
  by_cases h1 : x < y
  · have : (x : Int) < y := by omega
    simp [h1, this]
  · have : ¬ (x : Int) < y := by omega
    by_cases h2 : (y : Int) < x <;> simp [h1, this, h2]

/-- numbers of files that there are -/
abbrev Ids (m : Nat) := { n : Nat // 1 ≤ n ∧ n ≤ m }
def cfI (m : Nat) (x y : Ids m) : Int := Lib.compareInt (x.1 : Int) (y.1 : Int)
theorem ltI (m : Nat) (x y : Ids m) : ltOf (cfI m) x y = decide (x.1 < y.1) := lt_nat x.1 y.1
theorem swoI (m : Nat) : SWO (ltOf (cfI m)) where
  irrefl x := by rw [ltI]; simp
  trans x y z h1 h2 := by rw [ltI] at *; simp at *; omega
  ntrans x y z h1 h2 := by rw [ltI] at *; simp at *; omega
theorem totI (m : Nat) (x y : Ids m) (h1 : ltOf (cfI m) x y = false) (h2 : ltOf (cfI m) y x = false) : x = y := by
  rw [ltI] at *; simp at *; exact Subtype.ext (by omega)
theorem geI (m : Nat) : (fun x y : Ids m => !ltOf (cfI m) y x) = fun x y => decide (x.1 ≤ y.1) := by
  funext x y
  rw [ltI]
  by_cases h : y.1 < x.1
  · have : ¬ x.1 ≤ y.1 := by omega
    simp [h]
  · have : x.1 ≤ y.1 := by omega
    simp [this, h]

/-- the same numbers, rising, are one list -/
theorem rising_one {l : List Nat} {m : Nat} {r : List (Ids m)} (hp : (r.map (·.1)).Perm l) : ((r.mergeSort fun x y => decide (x.1 ≤ y.1)).map (·.1)) = l.mergeSort (fun a b => decide (a ≤ b)) := by
  refine List.Perm.eq_of_pairwise (le := fun a b => a ≤ b) (fun a b _ _ h1 h2 => Nat.le_antisymm h1 h2) ?_ ?_ ?_
  · rw [List.pairwise_map]
    have := List.pairwise_mergeSort (le := fun x y : Ids m => decide (x.1 ≤ y.1)) (fun a b c h1 h2 => by simp at *; omega) (fun a b => by simp; omega) r
    exact this.imp fun h => by simpa using h
  · have := List.pairwise_mergeSort (le := fun a b : Nat => decide (a ≤ b)) (fun a b c h1 h2 => by simp at *; omega) (fun a b => by simp; omega) l
    exact this.imp fun h => by simpa using h
  · refine ((List.mergeSort_perm r _).map _).trans (hp.trans (List.mergeSort_perm l _).symm)

/-! ### the world behind a sort -/
theorem sw_old {α : Type} [Inhabited α] (enc : α → Value) (w : World) (blk off n : Nat) (d : Array α) (os : Array Obj) (k : Nat) (hk : k < w.heap.size) (hne : k ≠ blk) : (sortWorld enc w blk off n d os).heap[k]? = w.heap[k]? := by
  show ((w.heap.modify blk _) ++ os)[k]? = _
  rw [Array.getElem?_append_left (by simpa using hk), Array.getElem?_modify, if_neg (Ne.symm hne)]
theorem sw_size {α : Type} [Inhabited α] (enc : α → Value) (w : World) (blk off n : Nat) (d : Array α) (os : Array Obj) : w.heap.size ≤ (sortWorld enc w blk off n d os).heap.size := by
  show w.heap.size ≤ ((w.heap.modify blk _) ++ os).size
  simp
theorem sw_below {α : Type} [Inhabited α] (enc : α → Value) (w : World) (blk off n : Nat) (d : Array α) (os : Array Obj) {B : Nat} (hB : B ≤ blk) (hs : B ≤ w.heap.size) : Below B w (sortWorld enc w blk off n d os) :=
  ⟨rfl, rfl, rfl, sw_size _ _ _ _ _ _ _, fun k hk => sw_old _ _ _ _ _ _ _ k (by omega) (by omega)⟩
theorem sw_cell {α : Type} [Inhabited α] (enc : α → Value) (w : World) (blk off n : Nat) (d0 d : Array α) (os : Array Obj) (h0 : Holds enc w blk off d0) (hs : d.size = d0.size) (hb : blk < w.heap.size) (j : Nat) (hj : j < d.size) :
    (sortWorld enc w blk off n d os).cell? ⟨blk, off + j, none⟩ = some (enc d[j]!) := by
  have e : (sortWorld enc w blk off n d os).heap[blk]? = (putRow enc (Sort.ahead w n) blk off d).heap[blk]? := by
    show ((w.heap.modify blk _) ++ os)[blk]? = (w.heap.modify blk _)[blk]?
    rw [Array.getElem?_append_left (by simpa using hb)]
  rw [cell_keep e]
  exact cell?_putRow enc (Sort.ahead w n) blk off d0 d h0 hs j hj

/-- a slice of files that can be read -/
structure FilesIn (w : World) (v : Value) (loc : Nat → Nat) (ys : List Nat) : Prop where
  val : ∃ q c, v = .slice q ys.length c
  cells : 0 < ys.length → ∃ g c, v = .slice (some ⟨g, 0, none⟩) ys.length c ∧ g < w.heap.size ∧ ∀ i, i < ys.length → w.cell? ⟨g, i, none⟩ = some (encP (loc (ys.getD i 0)))

theorem vals_stops (n : Nat) (hn : 1 ≤ n) (Bm b : Nat) (loc : Nat → Nat) (l : KL) (w : World) (hB : Bm < w.heap.size) (hm : w.cell? ⟨Bm, 0, none⟩ = some (.map (some b))) (hmap : MapL w b loc l) :
    SeqStops Fence.wide n Tryz.prog 84 #[.pointer (some ⟨Bm, 0, none⟩)] encP (fun xs => xs.Perm (locs loc l)) (fun _ => True) l.length w :=
  fun ly J Jx W hW hJ _ hY h0 => vals_in Fence.wide n trivial rfl hn ly Bm b loc l J Jx hY W hJ ((hW.cell (p := ⟨Bm, 0, none⟩) hB).trans hm) (hmap.keep (hW.block _ hmap.lt)) h0

theorem values_any (b : Nat) (w : World) : Calls Tryz.prog 56 #[.map (some b)] w fun e w' => e = .returned (.func (.func 84) #[] #[.pointer (some ⟨w.heap.size, 0, none⟩)]) ∧ w' = w.alloc (.cells #[.map (some b)] 43) := by
  go_enter Tryz.func56, Tryz.ntmps56
  go_wp2
  go_ret
  exact ⟨rfl, rfl⟩

/-- what has been collected -/
def CollP (B : Nat) (locs : List Nat) (w : World) (e : Ending) (w' : World) : Prop :=
  ∃ (v : Value) (xs : List Nat), e = .returned v ∧ xs.Perm locs ∧ w'.ownsRow w.heap.size 50 1 v xs.length (xs.map encP) ∧ Below B w w'

set_option maxHeartbeats 1000000 in
theorem collect_any (Bm b : Nat) (loc : Nat → Nat) (l : KL) (w : World) (hB : Bm < w.heap.size) (hm : w.cell? ⟨Bm, 0, none⟩ = some (.map (some b))) (hmap : MapL w b loc l) (hl : l.length ≤ 1099511627776) :
    Calls Tryz.prog 82 #[.func (.func 84) #[] #[.pointer (some ⟨Bm, 0, none⟩)]] w (CollP w.heap.size (locs loc l) w) := by
  refine (callsIn_wide (n := 6)).1 ?_
  have hap := appseq_in Fence.wide 5 trivial rfl (by omega) 84 #[.pointer (some ⟨Bm, 0, none⟩)] trivial (enters_of Tryz.func84 (by kernel_rfl) rfl) _ _ l.length hl w (vals_stops 4 (by omega) Bm b loc l w hB hm hmap)
  have hf1 : Fence.wide.fn 108 := trivial
  have HAP := Box.mk hap
  clear hap
  refine callsIn_of_wp Tryz.func82 rfl trivial ?_ rfl
  simp only [Tryz.ntmps82, List.size_toArray, List.length_cons, List.length_nil, Nat.reduceAdd, Nat.reduceSub, Array.replicate_succ, Array.replicate_zero, List.push_toArray, List.append_toArray, List.nil_append, List.cons_append]
  gi_wp2_with (gi_at_call 108; refine HAP.out.mono ?_; rintro e w' ⟨v, xs, rfl, hS, hrow, hb⟩; have HR := Box.mk hrow; have HS := Box.mk hS; have HB := Box.mk hb; clear hrow hS hb)
  go_ret
  exact ⟨v, xs, rfl, HS.out, HR.out, HB.out⟩

theorem back_loc {w : World} {L : Lay} {S : DS} (h : DiskAt w L S) (hr : ∀ p ∈ S.names, 1 ≤ p.2 ∧ p.2 ≤ S.made) {xs : List Nat} (hp : xs.Perm (locs L.loc S.names)) :
    ∃ r : List (Ids S.made), xs = r.map (fun n => L.loc n.1) ∧ (r.map (·.1)).Perm (S.names.map (·.2)) := by
  let g : Nat → Nat := fun b => match L.own b with | .file n => n | _ => 0
  have hg : ∀ n, 1 ≤ n → n ≤ S.made → g (L.loc n) = n := fun n h1 h2 => by
    show (match L.own (L.loc n) with | .file n => n | _ => 0) = n
    rw [h.tags.loc n h1 h2]
  have hin : ∀ x ∈ xs, ∃ n, (1 ≤ n ∧ n ≤ S.made) ∧ x = L.loc n := fun x hx => by
    obtain ⟨p, hpm, rfl⟩ := List.mem_map.1 (hp.mem_iff.1 hx)
    exact ⟨p.2, hr p hpm, rfl⟩
  have hx : xs = (xs.map g).map L.loc := by
    rw [List.map_map]
    conv => lhs; rw [← List.map_id xs]
    apply List.map_congr_left
    intro x hxm
    obtain ⟨n, ⟨h1, h2⟩, rfl⟩ := hin x hxm
    show L.loc n = L.loc (g (L.loc n))
    rw [hg n h1 h2]
  have hids : ∀ n ∈ xs.map g, 1 ≤ n ∧ n ≤ S.made := fun n hn => by
    obtain ⟨x, hxm, rfl⟩ := List.mem_map.1 hn
    obtain ⟨n, h12, rfl⟩ := hin x hxm
    rw [hg n h12.1 h12.2]; exact h12
  have hP : (xs.map g).Perm (S.names.map (·.2)) := by
    refine (hp.map g).trans ?_
    have : (locs L.loc S.names).map g = S.names.map (·.2) := by
      unfold locs
      rw [List.map_map]
      apply List.map_congr_left
      intro p hpm
      exact hg p.2 (hr p hpm).1 (hr p hpm).2
    rw [this]
  have hatt : ∀ (ys : List Nat), (∀ n ∈ ys, 1 ≤ n ∧ n ≤ S.made) → ∃ r : List (Ids S.made), r.map (·.1) = ys := by
    intro ys
    induction ys with
    | nil => exact fun _ => ⟨[], rfl⟩
    | cons y ys ih =>
      intro hy
      obtain ⟨r, hr⟩ := ih (fun n hn => hy n (List.mem_cons_of_mem _ hn))
      exact ⟨⟨y, hy y (List.mem_cons_self ..)⟩ :: r, by rw [List.map_cons, hr]⟩
  obtain ⟨r, hr2⟩ := hatt (xs.map g) hids
  refine ⟨r, ?_, by rw [hr2]; exact hP⟩
  rw [hx, ← hr2, List.map_map]
  rfl

end Go.Proofs.YtdffpbfllekcgaaGreatDoor
namespace Go.Proofs.YtdffpbfllekcgaaGreatDoor
set_option maxRecDepth 100000
open Go.RowKit Go.Maps Go.Sort Go.Lib M

/-- what a sort of files leaves -/
def SortP (B : Nat) (loc : Nat → Nat) (v : Value) (ys : List Nat) (W : World) (e : Ending) (w' : World) : Prop :=
  e = .returned (.tuple #[]) ∧ FilesIn w' v loc ys ∧ Below B W w'

theorem sort_any (L : Lay) (S : DS) (W : World) (B : Nat) (h : DiskAt W L S) (hB : B ≤ W.heap.size) (hfree : ∀ k, B ≤ k → L.own k = .free) (hr : ∀ p ∈ S.names, 1 ≤ p.2 ∧ p.2 ≤ S.made) (hl : S.names.length ≤ 1099511627776) (v : Value) (xs : List Nat) (hp : xs.Perm (locs L.loc S.names))
    (hrow : W.ownsRow B 50 1 v xs.length (xs.map encP)) :
    Calls Tryz.prog 83 #[v, .func (.func 57) #[] #[]] W (SortP B L.loc v (oldest S.names) W) := by
  obtain ⟨r, hx, hpr⟩ := back_loc h hr hp
  have hlen : xs.length = S.names.length := by rw [hp.length_eq]; simp [locs]
  have hol : (oldest S.names).length = xs.length := by unfold oldest; rw [List.length_mergeSort, List.length_map, hlen]
  rcases hrow.2 with ⟨hv, h0⟩ | ⟨g, cap, cur, hv, hbg, hg, hnc, hcm, hcs, ht⟩
  · have hS : ∀ W, Calls Tryz.prog 83 #[.slice none 0 0, .func (.func 57) #[] #[]] W fun e w' => e = .returned (.tuple #[]) ∧ w' = W := fun W => AnyF.slices_SortFunc_none (P := Tryz.prog) (ρ := Tryz.sortL_ren) { Tryz.sortL with } none 0 (.func (.func 57) #[] #[]) W
    rw [hv]
    refine (hS W).mono fun e w' ⟨he, hw⟩ => ⟨he, ⟨⟨none, 0, by rw [hol, h0]⟩, fun hpos => absurd hpos (by omega)⟩, by rw [hw]; exact Below.refl _ _⟩
  · have hgl : g < W.heap.size := by
      rcases Nat.lt_or_ge g W.heap.size with e | e
      · exact e
      · rw [Array.getElem?_eq_none e] at hg; cases hg
    rcases Nat.eq_zero_or_pos xs.length with h0 | hpos
    · have hS : ∀ W, Calls Tryz.prog 83 #[.slice (some ⟨g, 0, none⟩) 0 cap, .func (.func 57) #[] #[]] W fun e w' => e = .returned (.tuple #[]) ∧ w' = W := fun W => AnyF.slices_SortFunc_none (P := Tryz.prog) (ρ := Tryz.sortL_ren) { Tryz.sortL with } (some ⟨g, 0, none⟩) cap (.func (.func 57) #[] #[]) W
      rw [h0] at hv
      rw [hv]
      refine (hS W).mono fun e w' ⟨he, hw⟩ => ⟨he, ⟨⟨some ⟨g, 0, none⟩, cap, by rw [hol, h0]⟩, fun hpos => absurd hpos (by omega)⟩, by rw [hw]; exact Below.refl _ _⟩
    · have hrl : r.length = xs.length := by rw [hx, List.length_map]
      obtain ⟨r0, rr, hr0⟩ : ∃ a b, r = a :: b := by
        cases r with
        | nil => simp at hrl; omega
        | cons a b => exact ⟨a, b, rfl⟩
      letI : Inhabited (Ids S.made) := ⟨r0⟩
      have hrow' := hrow
      rw [hv] at hrow'
      have hsz : r.toArray.size = xs.length := by simpa using hrl
      have hget : ∀ j, j < r.toArray.size → xs[j]? = some (L.loc (r.toArray[j]!).1) := fun j hj => by
        have hj' : j < r.length := by simpa using hj
        rw [hx, List.getElem?_map, List.getElem?_eq_getElem hj']
        simp [hj']
      have hH : Holds (fun n : Ids S.made => encP (L.loc n.1)) W g 0 r.toArray := fun j hj => by
        refine ⟨?_, hrow'.frozenAt _⟩
        rw [Nat.zero_add, hrow'.cellAt j (by omega), List.getElem?_map, hget j hj]
        rfl
      have hlb : ∀ n : Ids S.made, L.loc n.1 < B := fun n => by
        rcases Nat.lt_or_ge (L.loc n.1) B with e | e
        · exact e
        · have := h.tags.loc n.1 n.2.1 n.2.2
          rw [hfree _ e] at this; cases this
      have hcmp : CmpReads Tryz.prog 57 #[] (fun n : Ids S.made => encP (L.loc n.1)) (cfI S.made) g 0 r.toArray.size W := fun m os dk _ x y =>
        cmp_any (L.loc x.1) (L.loc y.1) (x.1 : Int) (y.1 : Int) _
          ((cell_keep (sw_old _ W g 0 m dk os _ (Nat.lt_of_lt_of_le (hlb x) hB) (by have := hlb x; omega))).trans (h.file x.1 x.2.1 x.2.2).c0)
          ((cell_keep (sw_old _ W g 0 m dk os _ (Nat.lt_of_lt_of_le (hlb y) hB) (by have := hlb y; omega))).trans (h.file y.1 y.2.1 y.2.2).c0)
      have eg : ∀ args w, (callFunc 57 args).run Tryz.prog w = .ok (.enter 57 args) w := enters_of Tryz.func57 (by kernel_rfl) rfl
      have hS := Any.slices_SortFunc_total Tryz.sortL (fun n : Ids S.made => encP (L.loc n.1)) (fun _ => rfl) (cfI S.made) (swoI S.made) 57 #[] g 0 cap r.toArray W eg hcmp.lays hH hgl (by rw [hsz]; omega) (totI S.made)
      rw [geI, hsz] at hS
      change Calls Tryz.prog 83 _ _ _ at hS
      rw [hv]
      refine hS.mono fun e w' ⟨he, n, os, hw⟩ => ⟨he, ⟨⟨_, cap, by rw [hol]⟩, fun _ => ⟨g, cap, by rw [hol], ?_, fun i hi => ?_⟩⟩, ?_⟩
      · rw [hw]; exact Nat.lt_of_lt_of_le hgl (sw_size _ _ _ _ _ _ _)
      · have e1 := rising_one (l := S.names.map (·.2)) hpr
        have hsl : (r.toArray.toList.mergeSort fun x y => decide (x.1 ≤ y.1)).toArray.size = r.toArray.size := by simp
        have hi2 : i < (r.toArray.toList.mergeSort fun x y => decide (x.1 ≤ y.1)).toArray.size := by rw [hsl, hsz, ← hol]; exact hi
        have c := sw_cell (fun n : Ids S.made => encP (L.loc n.1)) W g 0 n r.toArray (r.toArray.toList.mergeSort fun x y => decide (x.1 ≤ y.1)).toArray os hH hsl hgl i hi2
        rw [Nat.zero_add] at c
        rw [hw, c]
        congr 2
        have e2 : (oldest S.names) = ((r.mergeSort fun x y => decide (x.1 ≤ y.1)).map (·.1)) := e1.symm
        have hi3 : i < (r.mergeSort fun x y : Ids S.made => decide (x.1 ≤ y.1)).length := by simpa using hi2
        rw [e2, List.getD, List.getElem?_map, List.getElem?_eq_getElem hi3]
        simp
        rw [List.getElem?_eq_getElem hi3]
        rfl
      · rw [hw]; exact sw_below _ _ _ _ _ _ _ hbg hB

/-- what oldestFirst leaves -/
def OldP (B : Nat) (L : Lay) (ys : List Nat) (w : World) (e : Ending) (w' : World) : Prop :=
  ∃ v, e = .returned v ∧ FilesIn w' v L.loc ys ∧ (∀ k, v.ownBlock = some k → B ≤ k) ∧ Below B w w'

set_option maxHeartbeats 1000000 in
theorem sorted_any (L : Lay) (S : DS) (w : World) (Bm : Nat) (h : DiskAt w L S) (hr : ∀ p ∈ S.names, 1 ≤ p.2 ∧ p.2 ≤ S.made) (hl : S.names.length ≤ 1099511627776) (hB : Bm < w.heap.size) (hm : w.cell? ⟨Bm, 0, none⟩ = some (.map (some L.nb))) :
    Calls Tryz.prog 55 #[.func (.func 84) #[] #[.pointer (some ⟨Bm, 0, none⟩)], .func (.func 57) #[] #[]] w (OldP w.heap.size L (oldest S.names) w) := by
  have cc := collect_any Bm L.nb L.loc S.names w hB hm h.names hl
  have cs := fun W v xs (hb : Below w.heap.size w W) (hp : List.Perm xs (locs L.loc S.names)) (hrow : W.ownsRow w.heap.size 50 1 v xs.length (xs.map encP)) => sort_any L S W w.heap.size (h.below hb) hb.size (fun k hk => h.tags.out k hk) hr hl v xs hp hrow
  have CC := Box.mk cc; have CS := Box.mk cs
  clear cc cs h hr hl hm hB
  go_enter Tryz.func55, Tryz.ntmps55
  go_wp2_with (first
    | (go_at_call 82; ((with_reducible refine CC.out.mono ?_); rintro e w1 ⟨v, xs, rfl, hS, hrow, hb⟩; have CS1 := Box.mk (CS.out w1 v xs hb hS hrow); have HR := Box.mk hrow; have HB := Box.mk hb; clear hS hrow hb))
    | (go_at_call 83; ((with_reducible refine CS1.out.mono ?_); rintro e w2 ⟨rfl, hf, hb⟩; have HF := Box.mk hf; have HB2 := Box.mk hb; clear hf hb)))
  go_ret
  exact ⟨v, rfl, HF.out, fun k hk => (HR.out.lt k hk).1, HB.out.trans HB2.out⟩

set_option maxHeartbeats 1000000 in
theorem oldest_any (L : Lay) (S : DS) (w : World) (h : DiskAt w L S) (hr : ∀ p ∈ S.names, 1 ≤ p.2 ∧ p.2 ≤ S.made) (hl : S.names.length ≤ 1099511627776) :
    Calls Tryz.prog 36 #[.pointer (some ⟨L.b, 0, none⟩)] w (OldP w.heap.size L (oldest S.names) w) := by
  have c0 := h.head.c0
  have cv := values_any L.nb w
  have hb : Below w.heap.size w (w.alloc (.cells #[.map (some L.nb)] 43)) := (Below.refl _ _).alloc (Nat.le_refl _) _
  have hc : (w.alloc (.cells #[.map (some L.nb)] 43)).cell? ⟨w.heap.size, 0, none⟩ = some (.map (some L.nb)) := by
    have := (MapKept.heap_alloc w (.cells #[.map (some L.nb)] 43)).1
    unfold World.cell?
    simp only [this]
    rfl
  have cs := sorted_any L S (w.alloc (.cells #[.map (some L.nb)] 43)) w.heap.size (h.below hb) hr hl (by simp) hc
  have CV := Box.mk cv; have CS := Box.mk cs; have HB := Box.mk hb
  clear cv cs hb hc h hr hl
  go_enter Tryz.func36, Tryz.ntmps36
  go_wp2_with (first
    | (go_at_call 56; ((with_reducible refine CV.out.mono ?_); rintro e w1 ⟨rfl, rfl⟩))
    | (go_at_call 55; ((with_reducible refine CS.out.mono ?_); rintro e w2 ⟨v, rfl, hf, hk, hb⟩; have HF := Box.mk hf; have HK := Box.mk hk; have HB2 := Box.mk hb; clear hf hk hb)))
  go_ret
  refine ⟨v, rfl, HF.out, fun k hk => ?_, HB.out.trans (HB2.out.mono HB.out.size)⟩
  have := HK.out k hk
  simp at this; omega

end Go.Proofs.YtdffpbfllekcgaaGreatDoor
