/- Tables: the entries in order. -/
import Derived.Test.YtpinpplbjgbkaaaDoorTabG
namespace Go.Proofs.YtpinpplbjgbkaaaDoor
set_option maxRecDepth 100000
open Go.RowKit Go.Maps Go.Sort M

theorem flat_at : ∀ (ys : List Ent) (i j : Nat) (x : Ent), ys[i]? = some x → j < 33 → (ys.flatMap encE)[i * 33 + j]? = (encE x)[j]?
  | [], _, _, _, h, _ => by simp at h
  | y :: ys, 0, j, x, h, hj => by
    obtain rfl : y = x := by simpa using h
    rw [List.flatMap_cons, Nat.zero_mul, Nat.zero_add, List.getElem?_append_left (by rw [encE_len]; exact hj)]
  | y :: ys, i + 1, j, x, h, hj => by
    rw [List.flatMap_cons, List.getElem?_append_right (by rw [encE_len]; omega), encE_len, show (i + 1) * 33 + j - 33 = i * 33 + j by omega]
    exact flat_at ys i j x (by simpa using h) hj

/-- a slice of entries that can be read -/
structure EntsIn (w : World) (v : Value) (ys : List Ent) : Prop where
  val : ∃ q c, v = .slice q ys.length c
  cells : 0 < ys.length → ∃ g c, v = .slice (some ⟨g, 0, none⟩) ys.length c ∧ g < w.heap.size ∧ ∀ i x, ys[i]? = some x → w.rangeAt g (i * 33) (encE x)
theorem EntsIn.below {w W : World} {v : Value} {ys : List Ent} (h : EntsIn w v ys) (hb : Below w.heap.size w W) : EntsIn W v ys :=
  ⟨h.val, fun h0 => by
    obtain ⟨g, c, e, hg, hc⟩ := h.cells h0
    exact ⟨g, c, e, Nat.lt_of_lt_of_le hg hb.size, fun i x hx => range_below hb (hc i x hx)⟩⟩
/-- rising names -/
def Rising (ys : List Ent) : Prop := ys.Pairwise fun x y => cfE x y < 0

theorem swK_old {α : Type} [Inhabited α] (enc : α → List Value) (z : Nat) (w : World) (blk off n : Nat) (d : Array α) (os : Array Obj) (k : Nat) (hk : k < w.heap.size) (hne : k ≠ blk) : (sortWorldK enc z w blk off n d os).heap[k]? = w.heap[k]? := by
  show ((w.heap.modify blk _) ++ os)[k]? = _
  rw [Array.getElem?_append_left (by simpa using hk), Array.getElem?_modify, if_neg (Ne.symm hne)]
theorem swK_below {α : Type} [Inhabited α] (enc : α → List Value) (z : Nat) (w : World) (blk off n : Nat) (d : Array α) (os : Array Obj) {B : Nat} (hB : B ≤ blk) (hs : B ≤ w.heap.size) : Below B w (sortWorldK enc z w blk off n d os) :=
  ⟨rfl, rfl, rfl, size_sortWorldK_c enc z w blk off n d os, fun k hk => swK_old _ _ _ _ _ _ _ _ k (by omega) (by omega)⟩

theorem nodup_uniq {l : List Ent} (hnd : (l.map kkE).Nodup) : ∀ x ∈ l, ∀ y ∈ l, kkE x = kkE y → x = y := by
  intro a ha b hb e
  obtain ⟨i, hi, rfl⟩ := List.getElem_of_mem ha
  obtain ⟨j, hj, rfl⟩ := List.getElem_of_mem hb
  have hil : i < (l.map kkE).length := by simpa using hi
  have : i = j := (List.getElem?_inj hil hnd).1 (by rw [List.getElem?_map, List.getElem?_map, List.getElem?_eq_getElem hi, List.getElem?_eq_getElem hj]; exact congrArg some e)
  subst this; rfl
/-- what a sort of entries leaves -/
def TSortP (B : Nat) (l : List Ent) (v : Value) (W : World) (e : Ending) (w' : World) : Prop :=
  e = .returned (.tuple #[]) ∧ ∃ ys, ys.Perm l ∧ Rising ys ∧ EntsIn w' v ys ∧ Below B W w'

theorem tsort_any (l : List Ent) (hnd : (l.map kkE).Nodup) (hl : l.length ≤ 1099511627776) (W : World) (B : Nat) (hB : B ≤ W.heap.size) (v : Value) (xs : List Ent) (hp : xs.Perm l) (hrow : W.ownsRow B 69 33 v xs.length (xs.flatMap encE)) :
    Calls Tryd.prog 55 #[v, .func (.func 42) #[] #[]] W (TSortP B l v W) := by
  have hlen := hp.length_eq
  have hnone : xs.length = 0 → ∀ p cap, Calls Tryd.prog 55 #[.slice p 0 cap, .func (.func 42) #[] #[]] W (TSortP B l (.slice p 0 cap) W) := fun h0 p cap => by
    have hS : Calls Tryd.prog 55 #[.slice p 0 cap, .func (.func 42) #[] #[]] W fun e w' => e = .returned (.tuple #[]) ∧ w' = W := AnyF.slices_SortFunc_none (P := Tryd.prog) (ρ := Tryd.sortE_ren) Tryd.sortE p cap (.func (.func 42) #[] #[]) W
    have e : l = [] := List.eq_nil_of_length_eq_zero (by omega)
    refine hS.mono fun e w' ⟨he, hw⟩ => ⟨he, [], ?_, List.Pairwise.nil, ⟨⟨p, cap, rfl⟩, fun h => absurd h (by simp)⟩, by rw [hw]; exact Below.refl _ _⟩
    rw [‹l = []›]
  rcases hrow.2 with ⟨hv, h0⟩ | ⟨g, cap, cur, hv, hbg, hg, hnc, hcm, hcs, ht⟩
  · rw [hv]; exact hnone h0 none 0
  · have hgl : g < W.heap.size := (Array.getElem?_eq_some_iff.1 hg).1
    rcases Nat.eq_zero_or_pos xs.length with h0 | hpos
    · rw [hv, h0]; exact hnone h0 _ cap
    · obtain ⟨r, hr⟩ : ∃ r : List (InE l), r.map (·.1) = xs := by
        have : ∀ ys : List Ent, (∀ y ∈ ys, y ∈ l) → ∃ r : List (InE l), r.map (·.1) = ys := by
          intro ys
          induction ys with
          | nil => exact fun _ => ⟨[], rfl⟩
          | cons y ys ih =>
            intro h
            obtain ⟨r, hr⟩ := ih (fun z hz => h z (List.mem_cons_of_mem _ hz))
            exact ⟨⟨y, h y (List.mem_cons_self ..)⟩ :: r, by rw [List.map_cons, hr]⟩
        exact this xs fun y hy => hp.mem_iff.1 hy
      have hrl : r.length = xs.length := by rw [← hr, List.length_map]
      obtain ⟨r0, rr, hr0⟩ : ∃ a b, r = a :: b := by
        cases r with
        | nil => simp at hrl; omega
        | cons a b => exact ⟨a, b, rfl⟩
      letI : Inhabited (InE l) := ⟨r0⟩
      have hrow' := hrow
      rw [hv] at hrow'
      have hsz : r.toArray.size = xs.length := by simpa using hrl
      have hget : ∀ j, j < r.toArray.size → xs[j]? = some (r.toArray[j]!).1 := fun j hj => by
        have hj' : j < r.length := by simpa using hj
        rw [← hr, List.getElem?_map, List.getElem?_eq_getElem hj']
        simp [hj']
      have hH : HoldsK (fun x : InE l => encE x.1) 33 W g 0 r.toArray := fun t ht => by
        rw [size_flatK] at ht
        have hd : t / 33 < r.toArray.size := Nat.div_lt_of_lt_mul (by omega)
        refine ⟨?_, hrow'.frozenAt _⟩
        rw [Nat.zero_add, hrow'.cellAt t (by rw [hsz] at ht; exact ht), get_flatK _ _ _ _ ht]
        have e : t = t / 33 * 33 + t % 33 := by omega
        have hm : t % 33 < 33 := Nat.mod_lt _ (by omega)
        have hx := flat_at xs (t / 33) (t % 33) _ (hget _ hd) hm
        rw [← e] at hx
        rw [hx, List.getElem?_eq_getElem (by rw [encE_len]; exact hm)]
        simp [encE_len, hm]
      have eg : ∀ args w, (callFunc 42 args).run Tryd.prog w = .ok (.enter 42 args) w := enters_of Tryd.func42 (by kernel_rfl) rfl
      have hS := AnyQ.slices_SortFunc_total Tryd.sortE 33 Tryd.isAgg69 Tryd.sizeOf69 (fun x : InE l => encE x.1) (fun x => encE_len x.1) (fun x v hv => encE_one x.1 v hv) (cfI l) (swoE l) 42 #[] g 0 cap r.toArray W eg (cmpE_lays l g 0 _ W) hH hgl (by rw [hsz]; omega) (totE l (nodup_uniq hnd))
      rw [hsz] at hS
      change Calls Tryd.prog 55 _ _ _ at hS
      rw [hv]
      refine hS.mono fun e w' ⟨he, n, os, hw⟩ => ?_
      obtain ⟨q, hq⟩ : ∃ q, q = r.mergeSort fun x y => !ltOf (cfI l) y x := ⟨_, rfl⟩
      have hqp : q.Perm r := by rw [hq]; exact List.mergeSort_perm r _
      have hw : w' = sortWorldK (fun x : InE l => encE x.1) 33 W g 0 n q.toArray os := by rw [hw, hq]
      have hql : q.length = xs.length := by rw [hqp.length_eq, hrl]
      have hyp : (q.map (·.1)).Perm l := by have := (hqp.map (·.1)); rw [hr] at this; exact this.trans hp
      have hs2 : q.toArray.size = r.toArray.size := by simp [hqp.length_eq]
      refine ⟨he, q.map (·.1), hyp, ?_, ⟨⟨_, cap, by rw [List.length_map, hql]⟩, fun _ => ⟨g, cap, by rw [List.length_map, hql], ?_, fun i x hx => ?_⟩⟩, ?_⟩
      · have h1 : q.Pairwise fun x y => !ltOf (cfI l) y x := by
          rw [hq]
          refine List.pairwise_mergeSort ?_ ?_ r
          · intro a b c h1 h2
            have n1 : ltOf (cfI l) b a = false := by simpa using h1
            have n2 : ltOf (cfI l) c b = false := by simpa using h2
            have := (swoE l).ntrans c b a n2 n1
            simpa using this
          · intro a b
            cases h : ltOf (cfI l) b a
            · simp
            · have := (swoE l).irrefl a
              cases h2 : ltOf (cfI l) a b
              · simp
              · rw [(swoE l).trans a b a h2 h] at this; cases this
        have h2 : ((q.map (·.1)).map kkE).Nodup := (hyp.map kkE).nodup_iff.2 hnd
        have h3 : q.Pairwise fun x y => kkE x.1 ≠ kkE y.1 := by
          rw [List.map_map] at h2
          exact List.pairwise_map.1 h2
        unfold Rising
        rw [List.pairwise_map]
        refine (h1.and h3).imp fun {x y} ⟨a, b⟩ => ?_
        have a : ¬ Lib.compareBytes (kkE y.1) (kkE x.1) < 0 := by
          have := a
          rw [ltE] at this
          intro h
          rw [show decide (cfE y.1 x.1 < 0) = true from decide_eq_true h] at this
          cases this
        rw [cb_anti] at a
        show Lib.compareBytes (kkE x.1) (kkE y.1) < 0
        rcases Int.lt_trichotomy (Lib.compareBytes (kkE x.1) (kkE y.1)) 0 with e | e | e
        · exact e
        · exact absurd (cb_zero _ _ e) b
        · omega
      · rw [hw]; exact Nat.lt_of_lt_of_le hgl (size_sortWorldK_c _ _ _ _ _ _ _ _)
      · have hK := holdsK_sortWorldK_c (fun x : InE l => encE x.1) 33 W g 0 r.toArray q.toArray n os hH hgl hs2
        rw [← hw] at hK
        intro c u hu
        have hc : c < 33 := by have := (List.getElem?_eq_some_iff.1 hu).1; rwa [encE_len] at this
        have hi : i < q.length := by have := (List.getElem?_eq_some_iff.1 hx).1; simpa using this
        have ex : (q.toArray[i]!).1 = x := by
          rw [List.getElem?_map, List.getElem?_eq_getElem hi] at hx
          simp [hi]
          simpa using hx
        have := (hK.cell (i := i) (c := c) (by simpa using hi) hc).1
        rw [Nat.zero_add] at this
        rw [this, ex]
        rw [List.getElem?_eq_getElem (by rw [encE_len]; exact hc)] at hu
        rw [← hu]
        simp [encE_len, hc]
      · rw [hw]; exact swK_below _ _ _ _ _ _ _ _ hbg hB

/-! ### All -/
theorem tvalues_any (mo : Option Nat) (w : World) : Calls Tryd.prog 41 #[.map mo] w fun e w' => e = .returned (.func (.func 56) #[] #[.pointer (some ⟨w.heap.size, 0, none⟩)]) ∧ w' = w.alloc (.cells #[.map mo] 38) := by
  go_enter Tryd.func41, Tryd.ntmps41
  go_wp2
  go_ret
  exact ⟨rfl, rfl⟩
/-- what has been collected -/
def TCollP (l : List Ent) (w : World) (e : Ending) (w' : World) : Prop :=
  ∃ (v : Value) (xs : List Ent), e = .returned v ∧ xs.Perm l ∧ w'.ownsRow w.heap.size 69 33 v xs.length (xs.flatMap encE) ∧ Below w.heap.size w w'
set_option maxHeartbeats 1000000 in
theorem tcollect_any (Bm : Nat) (mo : Option Nat) (l : List Ent) (w : World) (hB : Bm < w.heap.size) (hm : w.cell? ⟨Bm, 0, none⟩ = some (.map mo)) (hmap : MoE w mo l) (hl : l.length ≤ 1099511627776) :
    Calls Tryd.prog 54 #[.func (.func 56) #[] #[.pointer (some ⟨Bm, 0, none⟩)]] w (TCollP l w) := by
  refine (callsIn_wide (n := 6)).1 ?_
  have hap := tappseq_in Fence.wide 5 trivial rfl (by omega) 56 #[.pointer (some ⟨Bm, 0, none⟩)] trivial (enters_of Tryd.func56 (by kernel_rfl) rfl) _ _ l.length hl w (tvals_stops 4 (by omega) Bm mo l w hB hm hmap)
  have hf1 : Fence.wide.fn 67 := trivial
  have HAP := Box.mk hap
  clear hap
  refine callsIn_of_wp Tryd.func54 rfl trivial ?_ rfl
  simp only [Tryd.ntmps54, List.size_toArray, List.length_cons, List.length_nil, Nat.reduceAdd, Nat.reduceSub, Array.replicate_succ, Array.replicate_zero, List.push_toArray, List.append_toArray, List.nil_append, List.cons_append]
  gi_wp2_with (gi_at_call 67; refine HAP.out.mono ?_; rintro e w' ⟨v, xs, rfl, hS, hrow, hb⟩; have HR := Box.mk hrow; have HS := Box.mk hS; have HB := Box.mk hb; clear hrow hS hb)
  go_ret
  exact ⟨v, xs, rfl, HS.out, HR.out, HB.out⟩
/-- what All leaves -/
def TAllP (l : List Ent) (w : World) (e : Ending) (w' : World) : Prop :=
  ∃ v ys, e = .returned v ∧ ys.Perm l ∧ Rising ys ∧ EntsIn w' v ys ∧ Below w.heap.size w w' ∧ ∀ k, v.ownBlock = some k → w.heap.size ≤ k
set_option maxHeartbeats 1000000 in
theorem tsorted_any (Bm : Nat) (mo : Option Nat) (l : List Ent) (hnd : (l.map kkE).Nodup) (w : World) (hB : Bm < w.heap.size) (hm : w.cell? ⟨Bm, 0, none⟩ = some (.map mo)) (hmap : MoE w mo l) (hl : l.length ≤ 1099511627776) :
    Calls Tryd.prog 40 #[.func (.func 56) #[] #[.pointer (some ⟨Bm, 0, none⟩)], .func (.func 42) #[] #[]] w (TAllP l w) := by
  have cc := tcollect_any Bm mo l w hB hm hmap hl
  have cs := fun W v xs (hb : Below w.heap.size w W) (hp : List.Perm xs l) (hrow : W.ownsRow w.heap.size 69 33 v xs.length (xs.flatMap encE)) => tsort_any l hnd hl W w.heap.size hb.size v xs hp hrow
  have CC := Box.mk cc; have CS := Box.mk cs
  clear cc cs hmap hl hm hB hnd
  go_enter Tryd.func40, Tryd.ntmps40
  go_wp2_with (first
    | (go_at_call 54; ((with_reducible refine CC.out.mono ?_); rintro e w1 ⟨v, xs, rfl, hS, hrow, hb⟩; have CS1 := Box.mk (CS.out w1 v xs hb hS hrow); have HB := Box.mk hb; have HW := Box.mk (fun k hk => (hrow.lt k hk).1); clear hS hrow hb))
    | (go_at_call 55; ((with_reducible refine CS1.out.mono ?_); rintro e w2 ⟨rfl, ys, hp, hr, hf, hb⟩; have HF := Box.mk hf; have HP := Box.mk hp; have HR := Box.mk hr; have HB2 := Box.mk hb; clear hf hb hp hr)))
  go_ret
  exact ⟨v, ys, rfl, HP.out, HR.out, HF.out, HB.out.trans HB2.out, HW.out⟩
theorem Tab.nd {w : World} {b : Nat} {mo : Option Nat} {l : List Ent} (h : Tab w b mo l) : (l.map kkE).Nodup := by
  cases mo with
  | none => rw [h.empt rfl]; exact List.nodup_nil
  | some m => exact (h.mapd m rfl).2.nd
set_option maxHeartbeats 1000000 in
theorem all_any (b : Nat) (mo : Option Nat) (l : List Ent) (w : World) (h : Tab w b mo l) (hl : l.length ≤ 1099511627776) :
    Calls Tryd.prog 24 #[.pointer (some ⟨b, 0, none⟩)] w (TAllP l w) := by
  have c0 := h.cell
  have cv := tvalues_any mo w
  have hb : Below w.heap.size w (w.alloc (.cells #[.map mo] 38)) := (Below.refl _ _).alloc (Nat.le_refl _) _
  have hc : (w.alloc (.cells #[.map mo] 38)).cell? ⟨w.heap.size, 0, none⟩ = some (.map mo) := by
    have := (MapKept.heap_alloc w (.cells #[.map mo] 38)).1
    unfold World.cell?
    simp only [this]
    rfl
  have cs := tsorted_any w.heap.size mo l h.nd (w.alloc (.cells #[.map mo] 38)) (by simp) hc (h.mo.below hb) hl
  have CV := Box.mk cv; have CS := Box.mk cs; have HB := Box.mk hb
  clear cv cs hb hc h hl
  go_enter Tryd.func24, Tryd.ntmps24
  go_wp2_with (first
    | (go_at_call 41; ((with_reducible refine CV.out.mono ?_); rintro e w1 ⟨rfl, rfl⟩))
    | (go_at_call 40; ((with_reducible refine CS.out.mono ?_); rintro e w2 ⟨v, ys, rfl, hp, hr, hf, hb, hk⟩; have HK := Box.mk hk; clear hk; have HF := Box.mk hf; have HP := Box.mk hp; have HR := Box.mk hr; have HB2 := Box.mk hb; clear hf hb hp hr)))
  go_ret
  exact ⟨v, ys, rfl, HP.out, HR.out, HF.out, HB.out.trans (HB2.out.mono HB.out.size), fun k hk => Nat.le_trans HB.out.size (HK.out k hk)⟩
end Go.Proofs.YtpinpplbjgbkaaaDoor
