/- TabF, TabG, TabH, in one text. -/
import Derived.Test.YtacfdnjdjgdbcaaGreatDoorTb
import Derived.Shelf.SlIter.Nil
import Derived.Test.YtacfdnjdjgdbcaaGreatDoorEShelf
import Derived.Deep.QuietTactic
import Derived.BigQuiet
namespace Go.Proofs.YtacfdnjdjgdbcaaGreatDoor
set_option maxRecDepth 100000
open Go.RowKit Go.Maps Go.Sort M
attribute [local go_sem] Oper.semAt_some

set_option maxRecDepth 100000 in
set_option maxHeartbeats 1000000 in
/-- at a nil map nothing comes -/
theorem tvals_nil (F : Fence) (n : Nat) (hf : F.fn 91) (hro : F.round = none) (ly Bm : Nat) (J : List Ent → World → Prop) (W : World) (hJ : AbidesFrom W.heap.size J) (hm : W.cell? ⟨Bm, 0, none⟩ = some (.map none)) (h0 : J [] W) :
    CallsIn F n Tryz.prog 91 #[.func (.yield ly) #[] #[], .pointer (some ⟨Bm, 0, none⟩)] W fun e W' => (∃ v, e = .returned v) ∧ J [] W' := by
  refine callsIn_of_wp Tryz.func91 rfl hf ?_ hro
  simp only [Tryz.ntmps91, List.size_toArray, List.length_cons, List.length_nil, Nat.reduceAdd, Nat.reduceSub, Array.replicate_succ, Array.replicate_zero, List.push_toArray, List.append_toArray, List.nil_append, List.cons_append]
  have hrg := run_range_nilMap (P := Tryz.prog) W 76 24 86 Tryz.underlying76
  have hnx : ∀ ty, (Instr.next (.pointer (some ⟨W.heap.size, 0, none⟩)) false ty).run Tryz.prog (W.alloc (.mapIter none 0 #[] 0)) = _ := fun ty => run_next_nilMap _ ty 0 0 #[]
  gi_wp2
  refine wpIn_loop_rounds 1 ?_
  rw [roundsIn_succ]
  gi_wp2
  go_end0
  exact ⟨⟨_, rfl⟩, hJ [] W _ none h0 (World.grownBy_alloc W _ none) (fun r e => by cases e)⟩

/-- the entries of a map that may be nil -/
def MoE (w : World) (mo : Option Nat) (l : List Ent) : Prop := (mo = none → l = []) ∧ ∀ m, mo = some m → MapE w m l
theorem Tab.mo {w : World} {b : Nat} {mo : Option Nat} {l : List Ent} (h : Tab w b mo l) : MoE w mo l := ⟨h.empt, fun m e => (h.mapd m e).2⟩
theorem MoE.below {w W : World} {mo : Option Nat} {l : List Ent} (h : MoE w mo l) (hb : Below w.heap.size w W) : MoE W mo l := ⟨h.1, fun m e => (h.2 m e).keep (hb.block m (h.2 m e).lt)⟩
theorem tvals_stops (n : Nat) (hn : 1 ≤ n) (Bm : Nat) (mo : Option Nat) (l : List Ent) (w : World) (hB : Bm < w.heap.size) (hm : w.cell? ⟨Bm, 0, none⟩ = some (.map mo)) (hmap : MoE w mo l) :
    SeqStops Fence.wide n Tryz.prog 91 #[.pointer (some ⟨Bm, 0, none⟩)] evE (fun xs => xs.Perm l) (fun _ => True) l.length w := by
  intro ly J Jx W hW hJ _ hY h0
  cases mo with
  | none =>
    rw [hmap.1 rfl]
    exact (tvals_nil Fence.wide n trivial rfl ly Bm J W hJ ((hW.cell (p := ⟨Bm, 0, none⟩) hB).trans hm) h0).mono fun _ _ ⟨he, hj⟩ => ⟨he, .inl ⟨[], List.Perm.refl _, hj⟩⟩
  | some m => exact tvals_in Fence.wide n trivial rfl hn ly Bm m l J Jx hY W hJ ((hW.cell (p := ⟨Bm, 0, none⟩) hB).trans hm) ((hmap.2 m rfl).keep (hW.block _ (hmap.2 m rfl).lt)) h0

theorem list33 : ∀ (A : List Value), A.length = 33 → ∃ a0 a1 a2 a3 a4 a5 a6 a7 a8 a9 a10 a11 a12 a13 a14 a15 a16 a17 a18 a19 a20 a21 a22 a23 a24 a25 a26 a27 a28 a29 a30 a31 a32, A = [a0, a1, a2, a3, a4, a5, a6, a7, a8, a9, a10, a11, a12, a13, a14, a15, a16, a17, a18, a19, a20, a21, a22, a23, a24, a25, a26, a27, a28, a29, a30, a31, a32]
  | a0 :: a1 :: a2 :: a3 :: a4 :: a5 :: a6 :: a7 :: a8 :: a9 :: a10 :: a11 :: a12 :: a13 :: a14 :: a15 :: a16 :: a17 :: a18 :: a19 :: a20 :: a21 :: a22 :: a23 :: a24 :: a25 :: a26 :: a27 :: a28 :: a29 :: a30 :: a31 :: a32 :: [], _ => ⟨a0, a1, a2, a3, a4, a5, a6, a7, a8, a9, a10, a11, a12, a13, a14, a15, a16, a17, a18, a19, a20, a21, a22, a23, a24, a25, a26, a27, a28, a29, a30, a31, a32, rfl⟩
theorem slice_entry (A : List Value) (hA : A.length = 33) (w : World) : (Instr.buildSlice 83 1 #[(0, .agg A.toArray)]).run Tryz.prog w = .ok (.slice (some ⟨w.heap.size, 0, none⟩) 1 1) (w.alloc (.cells A.toArray 86)) := by
  obtain ⟨a0, a1, a2, a3, a4, a5, a6, a7, a8, a9, a10, a11, a12, a13, a14, a15, a16, a17, a18, a19, a20, a21, a22, a23, a24, a25, a26, a27, a28, a29, a30, a31, a32, rfl⟩ := list33 A hA
  kernel_rfl
section
variable {F : Fence} {n : Nat} {P : Program} {ops : Array Oper} {Q : Exit → Act → World → Prop} {rest : List Oper} {a : Act} {w : World}
theorem ati_buildSlice (T : TypeId) (k : Nat) (ps : Array (Nat × Operand)) {dst : Option Tmp} {ty : TypeId} {pos : String} {after : Array Edge} {guard : Option (Nat × Bool)}
    (h : wpListIn F n P ops Q (⟨dst, .buildSlice T k ps, ty, pos, after, guard⟩ :: rest) a w) : wpListIn F n P ops Q (⟨dst, .buildSlice T k ps, ty, pos, after, guard⟩ :: rest) a w := h
theorem wpListIn_buildSlice1 {op : Oper} (hgd : op.guard = none) (t : TypeId) (x : Operand) (ho : op.op = .buildSlice t 1 #[(0, x)]) (vx : Value) (hx : a.eval x = vx) (v : Value) (w' : World) (hr : (Instr.buildSlice t 1 #[(0, vx)]).run P w = .ok v w')
    (h : wpListIn F n P ops Q rest (a.put op.dst v) w') : wpListIn F n P ops Q (op :: rest) a w := by
  refine wpListIn_plain hgd fun K' hK' => ?_
  unfold Oper.wpIn
  refine ⟨by simp [Oper.about, ho], ?_⟩
  rw [Oper.semAt_plain F _ _ (by rw [ho]; intro c hc'; cases hc')]
  unfold execOp
  simp [ho, hx, hr, Result.andThen]
  exact hK' _ _ h
end
theorem info_ent : (Tryz.prog.info? 86).map (fun i => (i.zero, i.size, i.bytes)) = some (some (.agg zeroE.toArray), 33, 48) := by kernel_rfl
theorem cells_in {w : World} {b : Nat} {cs : List Value} {T : TypeId} (h : w.heap[b]? = some (.cells cs.toArray T (0, 0))) (j : Nat) (u : Value) (hu : cs[j]? = some u) : w.cell? (Addr.add ⟨b, 0, none⟩ j) = some u := by
  rw [Addr.add_mid, Nat.zero_add, cell_of_row _ _ _ _ _ _ h]
  simpa using hu
/-- where a loop's variable lies -/
def AtX (B : Nat) (gf : Nat) (lb : Array Value) (x : Ent) (a' : Act) (W : World) : Prop := ∃ k, B < k ∧ a' = { tmps := #[.slice none 0 0, .func (.func gf) #[] lb, .pointer (some ⟨B, 0, none⟩), undef, .slice none 0 0, .pointer (some ⟨k, 0, none⟩), .func (.func gf) #[] lb, evE x, undef, undef, undef, undef, undef], defers := [] } ∧ W.heap[k]? = some (.cells (encE x).toArray 86 (0, 0))
theorem atX_own (B C gf : Nat) (lb : Array Value) (x : Ent) (a' : Act) : OwnFrom C (fun (_ : Unit) W => AtX B gf lb x a' W) := by
  rintro _ X Y row ⟨k, hk, he, hc⟩ hg hr
  refine ⟨k, hk, he, (hg.block k (Array.getElem?_eq_some_iff.1 hc).1 (fun e => ?_)).trans hc⟩
  obtain ⟨_, o, ho, h2⟩ := hr k e.symm
  rw [hc] at ho
  injection ho with ho
  rw [← ho] at h2
  cases h2

set_option maxRecDepth 100000 in
set_option maxHeartbeats 2000000 in
theorem tappseq_in (F : Fence) (n : Nat) (hf : F.fn 119) (hro : F.round = none) (hn : 2 ≤ n) (gf : Nat) (lb : Array Value) (hFg : F.fn gf) (eg : ∀ args w, (callFunc gf args).run Tryz.prog w = .ok (.enter gf args) w)
    (S Sp : List Ent → Prop) (N : Nat) (hN : N ≤ 1099511627776) (w : World) (hseq : SeqStops F (n - 1) Tryz.prog gf lb evE S Sp N w) :
    CallsIn F n Tryz.prog 119 #[.slice none 0 0, .func (.func gf) #[] lb] w fun e w' => ∃ (v : Value) (xs : List Ent), e = .returned v ∧ S xs ∧ w'.ownsRow w.heap.size 86 33 v xs.length (xs.flatMap encE) ∧ Below w.heap.size w w' := by
  have h1 : 1 ≤ n := by omega
  obtain ⟨i0, hi, hz0, hz1, hz2⟩ := info_parts info_ent
  have hte : 83 ≠ 86 := by decide
  refine callsIn_of_wp_marks Tryz.func119 rfl hf ?_ hro
  simp only [Tryz.ntmps119, List.size_toArray, List.length_cons, List.length_nil, Nat.reduceAdd, Nat.reduceSub, Array.replicate_succ, Array.replicate_zero, List.push_toArray, List.append_toArray, List.nil_append, List.cons_append]
  gi_wp2
  have hseqK : SeqStopsK F (n - 1) Tryz.prog gf lb (fun x => #[evE x]) KeepsWalks S Sp N w := hseq
  refine wpIn_rangeFunc_ownH hro h1 (gf := gf) (lb := lb) rfl hFg eg hseqK walksK_t walksK_b ((Below.refl _ w).alloc (Nat.le_refl _) _) (fun _ => rfl)
    (fun pre W => (∃ v, Boxed W w.heap.size 83 v ∧ W.ownsRow w.heap.size 86 33 v pre.length (pre.flatMap encE) ∧ True) ∧ Below w.heap.size w W)
    (fun _ _ _ => False)
    (OwnFrom.and (Own.from (holdsRow_own w.heap.size w.heap.size 83 86 33 (fun pre : List Ent => pre.length) (fun pre => pre.flatMap encE) (fun _ _ => True)) _) (ownFrom_below (Nat.le_refl _) (by simp)))
    (fun _ _ _ _ _ hs _ _ => hs)
    ⟨⟨_, Boxed.new w _ _, World.ownsRow_nil _ _ _ _, trivial⟩, (Below.refl _ w).alloc (Nat.le_refl _) _⟩
    (AtX w.heap.size gf lb) (atX_own w.heap.size _ gf lb) ?assign ?body ?done ?stop
  case assign =>
    rintro l pre x W K ⟨⟨v, hv, hrow, -⟩, hB⟩ hK
    obtain ⟨W3, hW3⟩ : ∃ W3, W3 = W.alloc (.cells (encE x).toArray 86) := ⟨_, rfl⟩
    have hlt := hv.lt
    have ht : ∀ Z : Array Value, Z.size = 33 → (W.alloc (.cells Z 86)).there W.heap.size 0 33 := fun Z hZ => by
      have := there_new W 86 Z.toList W.heap.size 0 33 rfl (by simp [hZ])
      simpa using this
    have k1 : KeepsFrom (w.alloc (.cells #[.slice none 0 0] 83)).heap.size W W3 := by rw [hW3]; exact KeepsFrom.of_grownBy (World.grownBy_alloc W _ none) (fun _ e => by cases e)
    have k2 : KeepsWalks W W3 := by rw [hW3]; exact KeepsWalks.alloc W _
    have k3 : Boxed W3 w.heap.size 83 v ∧ W3.ownsRow w.heap.size 86 33 v pre.length (pre.flatMap encE) ∧ True := by rw [hW3]; exact ⟨hv.alloc _, hrow.alloc _, trivial⟩
    have k4 : Below w.heap.size w W3 := by rw [hW3]; exact hB.trans ((Below.refl _ W).alloc hB.size _)
    have k5 : W3.heap[W.heap.size]? = some (.cells (encE x).toArray 86 (0, 0)) := by rw [hW3]; exact heap_alloc_new W _
    have HW3 := Box.mk hW3
    have KK := Box.mk (show ∀ a', AtX w.heap.size gf lb x a' W3 → K a' W3 from fun a' h => hK a' W3 k1 k2 ⟨⟨v, k3⟩, k4⟩ h)
    clear hW3 hK k1 k2 k3 k4
    have K5 := Box.mk k5
    clear k5 hv hrow hB
    unfold evE
    gi_wp2_with (first
      | ((with_reducible refine ati_store 86 (.tmp 5) (.tmp 7) ?_); refine wpListIn_store_mid rfl 86 (.tmp 5) (.tmp 7) rfl W.heap.size 0 (encE x).toArray rfl rfl (by have e : (encE x).toArray.size = 33 := (by simp [encE_len]); rw [e]; exact ht _ rfl) (by have e : (encE x).toArray.size = 33 := (by simp [encE_len]); rw [e]; exact info_entry) (all_oneCell_toArray (encE_one x)) ?_; rw [show (W.alloc _).setCells W.heap.size 0 (encE x).toArray.toList = W3 from (by rw [HW3.out]; exact fillE W _ _ _ (by simp [encE_len]))])
      | gi_in)
    refine KK.out _ ⟨W.heap.size, hlt, ?_, K5.out⟩
    unfold evE
    first | rfl | (simp; done)
  case body =>
    rintro l pre x a' W hl hr ⟨⟨v, hv, hrow, -⟩, hB⟩ ⟨k, hk, rfl, hxc⟩ hlen
    have hvc := hv.cell
    have hvf := hv.frozen
    have hrg : W.rangeAt k 0 (encE x) := fun j u hu => by
      have := cells_in hxc j u hu
      rwa [Addr.add_mid] at this
    obtain ⟨du, hu, hdu⟩ := und_entry
    have hsl := slice_entry (encE x) (encE_len x) W
    have HSL := Box.mk hsl
    have HV := Box.mk hv
    have HXC := Box.mk hxc
    clear hsl hr hxc
    unfold evE
    gi_wp2_with (first
      | ((with_reducible refine ati_load 86 (.tmp 5) ?_); refine wpListIn_load_mid rfl 86 (.tmp 5) rfl k 0 rfl (encE x) du hrg hu hdu (by rw [encE_len]; exact info_entry) ?_)
      | ((with_reducible refine ati_buildSlice 83 1 _ ?_); refine wpListIn_buildSlice1 rfl 83 (.tmp 9) rfl (.agg (encE x).toArray) rfl _ _ HSL.out ?_)
      | (gi_at_builtin; refine wpListIn_append_own _ rfl _ _ 83 rfl w.heap.size 86 i0 (.agg zeroE.toArray) 33 48 Tryz.underlying83 hi hz0 hz1 hz2 rfl (by decide) _ _ _ rfl (hrow.alloc _) ⟨W.heap.size, 0, none⟩ 1 1 (encE x) rfl (by rw [encE_len]) (cells_in (heap_alloc_new W _)) (encE_one x) (by unfold maxLen; omega) (by omega) (by have := hB.size; simp; omega) ?_; intro v' w1 hown' hgrow _; obtain ⟨g', cap', rfl⟩ := ownsRow_succ hown'; obtain ⟨hv1, hv2, hr2, hk2, hb2⟩ := HV.out.appended hte hrow hB.size (Nat.le_refl _) hown' hgrow; have hc1 := hv1.cell; have hf1 := hv1.frozen)
      | gi_in)
    exact ⟨hk2.from _, hk2.walks, ⟨_, hv2, (by have e1 : (pre ++ [x]).length = pre.length + 1 := (by simp); have e2 : (pre ++ [x]).flatMap encE = pre.flatMap encE ++ encE x := (by simp [List.flatMap_append]); rw [e1, e2]; exact hr2)⟩, hB.trans hb2⟩
  case done =>
    rintro D xs W hD hS ⟨⟨v, hv, hrow, -⟩, hB⟩ hK
    have hvc := hv.cell
    gi_wp2
    refine ⟨by simp, .inl ⟨_, _, rfl, run_takeDeferred hK, ?_⟩⟩
    refine ⟨_, results_tmp rfl _ _ _, v, xs, rfl, hS, ownsRow_putObj hrow _ hK rfl, ?_⟩
    exact hB.trans (belowK_b (w := w) (Nat.le_refl _) W D _ _ (by simp at hD; omega) hK rfl rfl)
  case stop =>
    rintro D c pre W _ _ h _
    exact h.elim
end Go.Proofs.YtacfdnjdjgdbcaaGreatDoor
namespace Go.Proofs.YtacfdnjdjgdbcaaGreatDoor
set_option maxRecDepth 100000
open Go.RowKit Go.Maps Go.Sort M

/-! ### bytes in order -/
theorem cb_self : ∀ a : List UInt8, Lib.compareBytes a a = 0
  | [] => rfl
  | x :: a => by
    have h : ¬ x < x := by rw [UInt8.lt_iff_toNat_lt]; omega
    simp only [Lib.compareBytes, if_neg h]
    exact cb_self a
theorem cb_zero : ∀ a b : List UInt8, Lib.compareBytes a b = 0 → a = b
  | [], [], _ => rfl
  | [], _ :: _, h => by simp [Lib.compareBytes] at h
  | _ :: _, [], h => by simp [Lib.compareBytes] at h
  | x :: a, y :: b, h => by
    simp only [Lib.compareBytes] at h
    split at h
    · cases h
    · split at h
      · cases h
      · rename_i h1 h2
        rw [UInt8.lt_iff_toNat_lt] at h1 h2
        have e : x = y := UInt8.toNat_inj.1 (by omega)
        rw [e, cb_zero a b h]
theorem cb_trans : ∀ a b c : List UInt8, Lib.compareBytes a b < 0 → Lib.compareBytes b c < 0 → Lib.compareBytes a c < 0
  | [], [], _, h, _ => by simp [Lib.compareBytes] at h
  | [], _ :: _, [], _, h => by simp [Lib.compareBytes] at h
  | [], _ :: _, _ :: _, _, _ => by simp [Lib.compareBytes]
  | _ :: _, [], _, h, _ => by simp [Lib.compareBytes] at h
  | _ :: _, _ :: _, [], _, h => by simp [Lib.compareBytes] at h
  | x :: a, y :: b, z :: c, h1, h2 => by
    have ih := cb_trans a b c
    simp only [Lib.compareBytes, UInt8.lt_iff_toNat_lt] at *
    by_cases p1 : x.toNat < y.toNat
    · by_cases q1 : y.toNat < z.toNat
      · rw [if_pos (by omega)]; decide
      · by_cases q2 : z.toNat < y.toNat
        · rw [if_neg q1, if_pos q2] at h2; cases h2
        · rw [if_pos (by omega)]; decide
    · by_cases p2 : y.toNat < x.toNat
      · rw [if_neg p1, if_pos p2] at h1; cases h1
      · rw [if_neg p1, if_neg p2] at h1
        by_cases q1 : y.toNat < z.toNat
        · rw [if_pos (by omega)]; decide
        · by_cases q2 : z.toNat < y.toNat
          · rw [if_neg q1, if_pos q2] at h2; cases h2
          · rw [if_neg q1, if_neg q2] at h2
            rw [if_neg (by omega), if_neg (by omega)]
            exact ih h1 h2
theorem cb_anti : ∀ a b : List UInt8, Lib.compareBytes a b = - Lib.compareBytes b a
  | [], [] => rfl
  | [], _ :: _ => rfl
  | _ :: _, [] => rfl
  | x :: a, y :: b => by
    have ih := cb_anti a b
    simp only [Lib.compareBytes, UInt8.lt_iff_toNat_lt]
    by_cases p1 : x.toNat < y.toNat
    · rw [if_pos p1, if_neg (by omega), if_pos p1]
    · by_cases p2 : y.toNat < x.toNat
      · rw [if_neg p1, if_pos p2, if_pos p2]; rfl
      · rw [if_neg p1, if_neg p2, if_neg p2, if_neg p1]; exact ih

/-- the comparison of two entries -/
def cfE (x y : Ent) : Int := Lib.compareBytes (kkE x) (kkE y)
/-- those of a list -/
abbrev InE (l : List Ent) := { x : Ent // x ∈ l }
def tcfI (l : List Ent) (x y : InE l) : Int := cfE x.1 y.1
theorem ltE (l : List Ent) (x y : InE l) : ltOf (tcfI l) x y = decide (cfE x.1 y.1 < 0) := rfl
theorem swoE (l : List Ent) : SWO (ltOf (tcfI l)) where
  irrefl x := by rw [ltE]; unfold cfE; rw [cb_self]; rfl
  trans x y z h1 h2 := by
    rw [ltE] at *
    exact decide_eq_true (cb_trans _ _ _ (of_decide_eq_true h1) (of_decide_eq_true h2))
  ntrans x y z h1 h2 := by
    rw [ltE] at *
    refine decide_eq_false fun h => ?_
    have n1 : ¬ Lib.compareBytes (kkE x.1) (kkE y.1) < 0 := of_decide_eq_false h1
    have n2 : ¬ Lib.compareBytes (kkE y.1) (kkE z.1) < 0 := of_decide_eq_false h2
    have h : Lib.compareBytes (kkE x.1) (kkE z.1) < 0 := h
    rcases Int.lt_trichotomy (Lib.compareBytes (kkE y.1) (kkE z.1)) 0 with e | e | e
    · exact n2 e
    · rw [cb_zero _ _ e] at n1; exact n1 h
    · have e2 : Lib.compareBytes (kkE z.1) (kkE y.1) < 0 := by rw [cb_anti]; omega
      exact n1 (cb_trans _ _ _ h e2)
theorem totE (l : List Ent) (hu : ∀ x ∈ l, ∀ y ∈ l, kkE x = kkE y → x = y) (x y : InE l) (h1 : ltOf (tcfI l) x y = false) (h2 : ltOf (tcfI l) y x = false) : x = y := by
  rw [ltE] at *
  have n1 : ¬ Lib.compareBytes (kkE x.1) (kkE y.1) < 0 := of_decide_eq_false h1
  have n2 : ¬ Lib.compareBytes (kkE y.1) (kkE x.1) < 0 := of_decide_eq_false h2
  rw [cb_anti] at n2
  exact Subtype.ext (hu _ x.2 _ y.2 (cb_zero _ _ (by omega)))

/-! ### the comparison as it runs -/
theorem shaCompareG_any (l1 l2 : List Nat) (h1 : l1.length = 32) (h2 : l2.length = 32) (t1 : ∀ d ∈ l1, d < 256) (t2 : ∀ d ∈ l2, d < 256) (w : World) :
    Calls Tryz.prog 50 #[.agg (byts l1).toArray, .agg (byts l2).toArray] w fun e w' => e = .returned (.int .i64 (Lib.compareBytes (u8l l1) (u8l l2))) ∧ ∃ n, w' = ((w.alloc (.cells (byts l1).toArray 24)).alloc (.cells (byts l2).toArray 24)).drewN n := by
  obtain ⟨wr, hwr⟩ : ∃ wr, wr = (w.alloc (.cells (byts l1).toArray 24)).alloc (.cells (byts l2).toArray 24) := ⟨_, rfl⟩
  have r2 : wr.rangeAt (w.heap.size + 1) 0 (byts l2) := by rw [hwr]; exact range_new _ _ _ _ (by simp)
  have r1 : wr.rangeAt w.heap.size 0 (byts l1) := by
    rw [hwr]
    exact range_below ((Below.refl _ _).alloc (Nat.le_refl _) _) (range_new w _ _ _ rfl)
  have q : ∀ k, Calls Tryz.prog 86 #[.slice (some ⟨w.heap.size, 0, none⟩) 32 32, .slice (some ⟨w.heap.size + 1, 0, none⟩) 32 32] (wr.drewN k) fun e w' => e = .returned (.int .i64 (Lib.compareBytes (u8l l1) (u8l l2))) ∧ ∃ m, w' = wr.drewN m := fun k =>
    quiet_l (bytesCompare_any _ _ _ _ l1 l2 h1 h2 t1 t2 (wr.drewN k) (fun j v hv => by simpa using r1 j v hv) (fun j v hv => by simpa using r2 j v hv))
  obtain ⟨A1, hA1⟩ : ∃ A, A = byts l1 := ⟨_, rfl⟩
  obtain ⟨A2, hA2⟩ : ∃ A, A = byts l2 := ⟨_, rfl⟩
  obtain ⟨R, hR⟩ : ∃ R, R = Lib.compareBytes (u8l l1) (u8l l2) := ⟨_, rfl⟩
  rw [← hR] at q ⊢
  rw [← hA1, ← hA2] at hwr ⊢
  clear h1 h2 t1 t2 r1 r2 hR hA1 hA2
  subst hwr
  have Q := Box.mk q
  clear q
  go_enter Tryz.func50, Tryz.ntmps50
  go_wp2
  go_quiet (first
    | (go_at_call 86; exact Q.out _)
    | exact Q.out _)
  go_wp2
  go_ret
  exact ⟨rfl, _, rfl⟩
theorem encE_key (x : Ent) (j : Nat) (v : Value) (h : (byts x.key)[j]? = some v) : (encE x)[j]? = some v := by
  unfold encE
  rw [List.getElem?_append_left (List.getElem?_eq_some_iff.1 h).1]
  exact h
theorem alloc4 (w : World) (a b c d : Obj) (n : Nat) : ((((w.alloc a).alloc b).alloc c).alloc d).drewN n = grow (w.drewN n) #[a, b, c, d] := by
  rw [alloc_eq_grow, alloc_eq_grow, alloc_eq_grow, alloc_eq_grow, grow_grow, grow_grow, grow_grow]
  rfl
set_option maxHeartbeats 1000000 in
theorem tcompare_any (x y : Ent) (w : World) : Calls Tryz.prog 59 #[evE x, evE y] w fun e w' => e = .returned (.int .i64 (cfE x y)) ∧ ∃ q os', w' = grow (w.drewN q) os' := by
  have c := fun W => shaCompareG_any x.key y.key x.kl y.kl x.kb y.kb W
  have r1 : ((w.alloc (.cells (encE x).toArray 86)).alloc (.cells (encE y).toArray 86)).rangeAt w.heap.size 0 (byts x.key) := fun j v hv =>
    (range_below ((Below.refl _ _).alloc (Nat.le_refl _) _) (show (w.alloc (.cells (encE x).toArray 86)).rangeAt w.heap.size 0 (encE x) from range_new w _ _ _ rfl)) j v (encE_key x j v hv)
  have r2 : ((w.alloc (.cells (encE x).toArray 86)).alloc (.cells (encE y).toArray 86)).rangeAt (w.heap.size + 1) 0 (byts y.key) := fun j v hv =>
    (show ((w.alloc (.cells (encE x).toArray 86)).alloc (.cells (encE y).toArray 86)).rangeAt (w.heap.size + 1) 0 (encE y) from range_new _ _ _ _ (by simp)) j v (encE_key y j v hv)
  unfold evE
  obtain ⟨A, hA⟩ : ∃ A, A = encE x := ⟨_, rfl⟩
  obtain ⟨B, hB⟩ : ∃ B, B = encE y := ⟨_, rfl⟩
  obtain ⟨K, hK⟩ : ∃ K, K = byts x.key := ⟨_, rfl⟩
  obtain ⟨L, hL⟩ : ∃ L, L = byts y.key := ⟨_, rfl⟩
  obtain ⟨R, hR⟩ : ∃ R, R = Lib.compareBytes (u8l x.key) (u8l y.key) := ⟨_, rfl⟩
  have hkl : K.length = 32 := by rw [hK, byts_length, x.kl]
  have hll : L.length = 32 := by rw [hL, byts_length, y.kl]
  unfold cfE kkE
  rw [← hK, ← hL, ← hR] at c
  rw [← hA, ← hB, ← hK] at r1
  rw [← hA, ← hB, ← hL] at r2
  rw [← hA, ← hB, ← hR]
  clear hA hB hK hL hR
  have C := Box.mk c
  clear c
  go_enter Tryz.func59, Tryz.ntmps59
  go_wp2_with (first
    | ((with_reducible refine at_load 24 (.tmp 5) ?_); refine wpList_load_mid rfl 24 (.tmp 5) rfl w.heap.size 0 rfl K _ r1 und_hash rfl (by rw [hkl]; exact info_hash) ?_)
    | ((with_reducible refine at_load 24 (.tmp 7) ?_); refine wpList_load_mid rfl 24 (.tmp 7) rfl (w.heap.size + 1) 0 rfl L _ r2 und_hash rfl (by rw [hll]; exact info_hash) ?_)
    | (go_at_call 50; ((with_reducible refine (C.out _).mono ?_); rintro e w1 ⟨rfl, n, rfl⟩)))
  go_ret
  exact ⟨rfl, n, _, alloc4 w _ _ _ _ n⟩
theorem cmpE_lays (l : List Ent) [Inhabited (InE l)] (blk off size : Nat) (w : World) : CmpLays Tryz.prog 59 #[] (fun x : InE l => encE x.1) 33 (tcfI l) blk off size w :=
  fun _ _ _ _ x y => tcompare_any x.1 y.1 _
end Go.Proofs.YtacfdnjdjgdbcaaGreatDoor
namespace Go.Proofs.YtacfdnjdjgdbcaaGreatDoor
set_option maxRecDepth 100000
open Go.RowKit Go.Maps Go.Sort M

theorem flat_at : ∀ (ys : List Ent) (i j : Nat) (x : Ent), ys[i]? = some x → j < 33 → (ys.flatMap encE)[i * 33 + j]? = (encE x)[j]?
  | [], _, _, _, h, _ => by simp at h
  | y :: ys, 0, j, x, h, hj => by
    obtain rfl : y = x := by simpa using h
    rw [List.flatMap_cons, Nat.zero_mul, Nat.zero_add, List.getElem?_append_left (by rw [encE_len]; exact hj)]
  | y :: ys, i + 1, j, x, h, hj => by
    rw [List.flatMap_cons, List.getElem?_append_right (by rw [encE_len]; omega), encE_len, show (i + 1) * 33 + j - 33 = i * 33 + j by omega]
    exact flat_at ys i j x (by simpa using h) hj

/-- a slice of entries that can be read -/
structure EntsIn (w : World) (v : Value) (ys : List Ent) : Prop where
  val : ∃ q c, v = .slice q ys.length c
  cells : 0 < ys.length → ∃ g c, v = .slice (some ⟨g, 0, none⟩) ys.length c ∧ g < w.heap.size ∧ ∀ i x, ys[i]? = some x → w.rangeAt g (i * 33) (encE x)
theorem EntsIn.below {w W : World} {v : Value} {ys : List Ent} (h : EntsIn w v ys) (hb : Below w.heap.size w W) : EntsIn W v ys :=
  ⟨h.val, fun h0 => by
    obtain ⟨g, c, e, hg, hc⟩ := h.cells h0
    exact ⟨g, c, e, Nat.lt_of_lt_of_le hg hb.size, fun i x hx => range_below hb (hc i x hx)⟩⟩
/-- rising names -/
def Rising (ys : List Ent) : Prop := ys.Pairwise fun x y => cfE x y < 0

theorem swK_old {α : Type} [Inhabited α] (enc : α → List Value) (z : Nat) (w : World) (blk off n : Nat) (d : Array α) (os : Array Obj) (k : Nat) (hk : k < w.heap.size) (hne : k ≠ blk) : (sortWorldK enc z w blk off n d os).heap[k]? = w.heap[k]? := by
  show ((w.heap.modify blk _) ++ os)[k]? = _
  rw [Array.getElem?_append_left (by simpa using hk), Array.getElem?_modify, if_neg (Ne.symm hne)]
theorem swK_below {α : Type} [Inhabited α] (enc : α → List Value) (z : Nat) (w : World) (blk off n : Nat) (d : Array α) (os : Array Obj) {B : Nat} (hB : B ≤ blk) (hs : B ≤ w.heap.size) : Below B w (sortWorldK enc z w blk off n d os) :=
  ⟨rfl, rfl, rfl, size_sortWorldK_c enc z w blk off n d os, fun k hk => swK_old _ _ _ _ _ _ _ _ k (by omega) (by omega)⟩

theorem nodup_uniq {l : List Ent} (hnd : (l.map kkE).Nodup) : ∀ x ∈ l, ∀ y ∈ l, kkE x = kkE y → x = y := by
  intro a ha b hb e
  obtain ⟨i, hi, rfl⟩ := List.getElem_of_mem ha
  obtain ⟨j, hj, rfl⟩ := List.getElem_of_mem hb
  have hil : i < (l.map kkE).length := by simpa using hi
  have : i = j := (List.getElem?_inj hil hnd).1 (by rw [List.getElem?_map, List.getElem?_map, List.getElem?_eq_getElem hi, List.getElem?_eq_getElem hj]; exact congrArg some e)
  subst this; rfl
/-- what a sort of entries leaves -/
def TSortP (B : Nat) (l : List Ent) (v : Value) (W : World) (e : Ending) (w' : World) : Prop :=
  e = .returned (.tuple #[]) ∧ ∃ ys, ys.Perm l ∧ Rising ys ∧ EntsIn w' v ys ∧ Below B W w'

theorem tsort_any (l : List Ent) (hnd : (l.map kkE).Nodup) (hl : l.length ≤ 1099511627776) (W : World) (B : Nat) (hB : B ≤ W.heap.size) (v : Value) (xs : List Ent) (hp : xs.Perm l) (hrow : W.ownsRow B 86 33 v xs.length (xs.flatMap encE)) :
    Calls Tryz.prog 90 #[v, .func (.func 59) #[] #[]] W (TSortP B l v W) := by
  have hlen := hp.length_eq
  have hnone : xs.length = 0 → ∀ p cap, Calls Tryz.prog 90 #[.slice p 0 cap, .func (.func 59) #[] #[]] W (TSortP B l (.slice p 0 cap) W) := fun h0 p cap => by
    have hS : Calls Tryz.prog 90 #[.slice p 0 cap, .func (.func 59) #[] #[]] W fun e w' => e = .returned (.tuple #[]) ∧ w' = W := AnyF.slices_SortFunc_none (P := Tryz.prog) (ρ := Tryz.sortE_ren) Tryz.sortE p cap (.func (.func 59) #[] #[]) W
    have e : l = [] := List.eq_nil_of_length_eq_zero (by omega)
    refine hS.mono fun e w' ⟨he, hw⟩ => ⟨he, [], ?_, List.Pairwise.nil, ⟨⟨p, cap, rfl⟩, fun h => absurd h (by simp)⟩, by rw [hw]; exact Below.refl _ _⟩
    rw [‹l = []›]
  rcases hrow.2 with ⟨hv, h0⟩ | ⟨g, cap, cur, hv, hbg, hg, hnc, hcm, hcs, ht⟩
  · rw [hv]; exact hnone h0 none 0
  · have hgl : g < W.heap.size := (Array.getElem?_eq_some_iff.1 hg).1
    rcases Nat.eq_zero_or_pos xs.length with h0 | hpos
    · rw [hv, h0]; exact hnone h0 _ cap
    · obtain ⟨r, hr⟩ : ∃ r : List (InE l), r.map (·.1) = xs := by
        have : ∀ ys : List Ent, (∀ y ∈ ys, y ∈ l) → ∃ r : List (InE l), r.map (·.1) = ys := by
          intro ys
          induction ys with
          | nil => exact fun _ => ⟨[], rfl⟩
          | cons y ys ih =>
            intro h
            obtain ⟨r, hr⟩ := ih (fun z hz => h z (List.mem_cons_of_mem _ hz))
            exact ⟨⟨y, h y (List.mem_cons_self ..)⟩ :: r, by rw [List.map_cons, hr]⟩
        exact this xs fun y hy => hp.mem_iff.1 hy
      have hrl : r.length = xs.length := by rw [← hr, List.length_map]
      obtain ⟨r0, rr, hr0⟩ : ∃ a b, r = a :: b := by
        cases r with
        | nil => simp at hrl; omega
        | cons a b => exact ⟨a, b, rfl⟩
      letI : Inhabited (InE l) := ⟨r0⟩
      have hrow' := hrow
      rw [hv] at hrow'
      have hsz : r.toArray.size = xs.length := by simpa using hrl
      have hget : ∀ j, j < r.toArray.size → xs[j]? = some (r.toArray[j]!).1 := fun j hj => by
        have hj' : j < r.length := by simpa using hj
        rw [← hr, List.getElem?_map, List.getElem?_eq_getElem hj']
        simp [hj']
      have hH : HoldsK (fun x : InE l => encE x.1) 33 W g 0 r.toArray := fun t ht => by
        rw [size_flatK] at ht
        have hd : t / 33 < r.toArray.size := Nat.div_lt_of_lt_mul (by omega)
        refine ⟨?_, hrow'.frozenAt _⟩
        rw [Nat.zero_add, hrow'.cellAt t (by rw [hsz] at ht; exact ht), get_flatK _ _ _ _ ht]
        have e : t = t / 33 * 33 + t % 33 := by omega
        have hm : t % 33 < 33 := Nat.mod_lt _ (by omega)
        have hx := flat_at xs (t / 33) (t % 33) _ (hget _ hd) hm
        rw [← e] at hx
        rw [hx, List.getElem?_eq_getElem (by rw [encE_len]; exact hm)]
        simp [encE_len, hm]
      have eg : ∀ args w, (callFunc 59 args).run Tryz.prog w = .ok (.enter 59 args) w := enters_of Tryz.func59 (by kernel_rfl) rfl
      have hS := AnyQ.slices_SortFunc_total Tryz.sortE 33 Tryz.isAgg86 Tryz.sizeOf86 (fun x : InE l => encE x.1) (fun x => encE_len x.1) (fun x v hv => encE_one x.1 v hv) (tcfI l) (swoE l) 59 #[] g 0 cap r.toArray W eg (cmpE_lays l g 0 _ W) hH hgl (by rw [hsz]; omega) (totE l (nodup_uniq hnd))
      rw [hsz] at hS
      change Calls Tryz.prog 90 _ _ _ at hS
      rw [hv]
      refine hS.mono fun e w' ⟨he, n, os, hw⟩ => ?_
      obtain ⟨q, hq⟩ : ∃ q, q = r.mergeSort fun x y => !ltOf (tcfI l) y x := ⟨_, rfl⟩
      have hqp : q.Perm r := by rw [hq]; exact List.mergeSort_perm r _
      have hw : w' = sortWorldK (fun x : InE l => encE x.1) 33 W g 0 n q.toArray os := by rw [hw, hq]
      have hql : q.length = xs.length := by rw [hqp.length_eq, hrl]
      have hyp : (q.map (·.1)).Perm l := by have := (hqp.map (·.1)); rw [hr] at this; exact this.trans hp
      have hs2 : q.toArray.size = r.toArray.size := by simp [hqp.length_eq]
      refine ⟨he, q.map (·.1), hyp, ?_, ⟨⟨_, cap, by rw [List.length_map, hql]⟩, fun _ => ⟨g, cap, by rw [List.length_map, hql], ?_, fun i x hx => ?_⟩⟩, ?_⟩
      · have h1 : q.Pairwise fun x y => !ltOf (tcfI l) y x := by
          rw [hq]
          refine List.pairwise_mergeSort ?_ ?_ r
          · intro a b c h1 h2
            have n1 : ltOf (tcfI l) b a = false := by simpa using h1
            have n2 : ltOf (tcfI l) c b = false := by simpa using h2
            have := (swoE l).ntrans c b a n2 n1
            simpa using this
          · intro a b
            cases h : ltOf (tcfI l) b a
            · simp
            · have := (swoE l).irrefl a
              cases h2 : ltOf (tcfI l) a b
              · simp
              · rw [(swoE l).trans a b a h2 h] at this; cases this
        have h2 : ((q.map (·.1)).map kkE).Nodup := (hyp.map kkE).nodup_iff.2 hnd
        have h3 : q.Pairwise fun x y => kkE x.1 ≠ kkE y.1 := by
          rw [List.map_map] at h2
          exact List.pairwise_map.1 h2
        unfold Rising
        rw [List.pairwise_map]
        refine (h1.and h3).imp fun {x y} ⟨a, b⟩ => ?_
        have a : ¬ Lib.compareBytes (kkE y.1) (kkE x.1) < 0 := by
          have := a
          rw [ltE] at this
          intro h
          rw [show decide (cfE y.1 x.1 < 0) = true from decide_eq_true h] at this
          cases this
        rw [cb_anti] at a
        show Lib.compareBytes (kkE x.1) (kkE y.1) < 0
        rcases Int.lt_trichotomy (Lib.compareBytes (kkE x.1) (kkE y.1)) 0 with e | e | e
        · exact e
        · exact absurd (cb_zero _ _ e) b
        · omega
      · rw [hw]; exact Nat.lt_of_lt_of_le hgl (size_sortWorldK_c _ _ _ _ _ _ _ _)
      · have hK := holdsK_sortWorldK_c (fun x : InE l => encE x.1) 33 W g 0 r.toArray q.toArray n os hH hgl hs2
        rw [← hw] at hK
        intro c u hu
        have hc : c < 33 := by have := (List.getElem?_eq_some_iff.1 hu).1; rwa [encE_len] at this
        have hi : i < q.length := by have := (List.getElem?_eq_some_iff.1 hx).1; simpa using this
        have ex : (q.toArray[i]!).1 = x := by
          rw [List.getElem?_map, List.getElem?_eq_getElem hi] at hx
          simp [hi]
          simpa using hx
        have := (hK.cell (i := i) (c := c) (by simpa using hi) hc).1
        rw [Nat.zero_add] at this
        rw [this, ex]
        rw [List.getElem?_eq_getElem (by rw [encE_len]; exact hc)] at hu
        rw [← hu]
        simp [encE_len, hc]
      · rw [hw]; exact swK_below _ _ _ _ _ _ _ _ hbg hB

/-! ### All -/
theorem tvalues_any (mo : Option Nat) (w : World) : Calls Tryz.prog 58 #[.map mo] w fun e w' => e = .returned (.func (.func 91) #[] #[.pointer (some ⟨w.heap.size, 0, none⟩)]) ∧ w' = w.alloc (.cells #[.map mo] 76) := by
  go_enter Tryz.func58, Tryz.ntmps58
  go_wp2
  go_ret
  exact ⟨rfl, rfl⟩
/-- what has been collected -/
def TCollP (l : List Ent) (w : World) (e : Ending) (w' : World) : Prop :=
  ∃ (v : Value) (xs : List Ent), e = .returned v ∧ xs.Perm l ∧ w'.ownsRow w.heap.size 86 33 v xs.length (xs.flatMap encE) ∧ Below w.heap.size w w'
set_option maxHeartbeats 1000000 in
theorem tcollect_any (Bm : Nat) (mo : Option Nat) (l : List Ent) (w : World) (hB : Bm < w.heap.size) (hm : w.cell? ⟨Bm, 0, none⟩ = some (.map mo)) (hmap : MoE w mo l) (hl : l.length ≤ 1099511627776) :
    Calls Tryz.prog 89 #[.func (.func 91) #[] #[.pointer (some ⟨Bm, 0, none⟩)]] w (TCollP l w) := by
  refine (callsIn_wide (n := 6)).1 ?_
  have hap := tappseq_in Fence.wide 5 trivial rfl (by omega) 91 #[.pointer (some ⟨Bm, 0, none⟩)] trivial (enters_of Tryz.func91 (by kernel_rfl) rfl) _ _ l.length hl w (tvals_stops 4 (by omega) Bm mo l w hB hm hmap)
  have hf1 : Fence.wide.fn 119 := trivial
  have HAP := Box.mk hap
  clear hap
  refine callsIn_of_wp Tryz.func89 rfl trivial ?_ rfl
  simp only [Tryz.ntmps89, List.size_toArray, List.length_cons, List.length_nil, Nat.reduceAdd, Nat.reduceSub, Array.replicate_succ, Array.replicate_zero, List.push_toArray, List.append_toArray, List.nil_append, List.cons_append]
  gi_wp2_with (gi_at_call 119; refine HAP.out.mono ?_; rintro e w' ⟨v, xs, rfl, hS, hrow, hb⟩; have HR := Box.mk hrow; have HS := Box.mk hS; have HB := Box.mk hb; clear hrow hS hb)
  go_ret
  exact ⟨v, xs, rfl, HS.out, HR.out, HB.out⟩
/-- what All leaves -/
def TAllP (l : List Ent) (w : World) (e : Ending) (w' : World) : Prop :=
  ∃ v ys, e = .returned v ∧ ys.Perm l ∧ Rising ys ∧ EntsIn w' v ys ∧ Below w.heap.size w w' ∧ ∀ k, v.ownBlock = some k → w.heap.size ≤ k
set_option maxHeartbeats 1000000 in
theorem tsorted_any (Bm : Nat) (mo : Option Nat) (l : List Ent) (hnd : (l.map kkE).Nodup) (w : World) (hB : Bm < w.heap.size) (hm : w.cell? ⟨Bm, 0, none⟩ = some (.map mo)) (hmap : MoE w mo l) (hl : l.length ≤ 1099511627776) :
    Calls Tryz.prog 57 #[.func (.func 91) #[] #[.pointer (some ⟨Bm, 0, none⟩)], .func (.func 59) #[] #[]] w (TAllP l w) := by
  have cc := tcollect_any Bm mo l w hB hm hmap hl
  have cs := fun W v xs (hb : Below w.heap.size w W) (hp : List.Perm xs l) (hrow : W.ownsRow w.heap.size 86 33 v xs.length (xs.flatMap encE)) => tsort_any l hnd hl W w.heap.size hb.size v xs hp hrow
  have CC := Box.mk cc; have CS := Box.mk cs
  clear cc cs hmap hl hm hB hnd
  go_enter Tryz.func57, Tryz.ntmps57
  go_wp2_with (first
    | (go_at_call 89; ((with_reducible refine CC.out.mono ?_); rintro e w1 ⟨v, xs, rfl, hS, hrow, hb⟩; have CS1 := Box.mk (CS.out w1 v xs hb hS hrow); have HB := Box.mk hb; have HW := Box.mk (fun k hk => (hrow.lt k hk).1); clear hS hrow hb))
    | (go_at_call 90; ((with_reducible refine CS1.out.mono ?_); rintro e w2 ⟨rfl, ys, hp, hr, hf, hb⟩; have HF := Box.mk hf; have HP := Box.mk hp; have HR := Box.mk hr; have HB2 := Box.mk hb; clear hf hb hp hr)))
  go_ret
  exact ⟨v, ys, rfl, HP.out, HR.out, HF.out, HB.out.trans HB2.out, HW.out⟩
theorem Tab.nd {w : World} {b : Nat} {mo : Option Nat} {l : List Ent} (h : Tab w b mo l) : (l.map kkE).Nodup := by
  cases mo with
  | none => rw [h.empt rfl]; exact List.nodup_nil
  | some m => exact (h.mapd m rfl).2.nd
set_option maxHeartbeats 1000000 in
theorem all_any (b : Nat) (mo : Option Nat) (l : List Ent) (w : World) (h : Tab w b mo l) (hl : l.length ≤ 1099511627776) :
    Calls Tryz.prog 33 #[.pointer (some ⟨b, 0, none⟩)] w (TAllP l w) := by
  have c0 := h.cell
  have cv := tvalues_any mo w
  have hb : Below w.heap.size w (w.alloc (.cells #[.map mo] 76)) := (Below.refl _ _).alloc (Nat.le_refl _) _
  have hc : (w.alloc (.cells #[.map mo] 76)).cell? ⟨w.heap.size, 0, none⟩ = some (.map mo) := by
    have := (MapKept.heap_alloc w (.cells #[.map mo] 76)).1
    unfold World.cell?
    simp only [this]
    rfl
  have cs := tsorted_any w.heap.size mo l h.nd (w.alloc (.cells #[.map mo] 76)) (by simp) hc (h.mo.below hb) hl
  have CV := Box.mk cv; have CS := Box.mk cs; have HB := Box.mk hb
  clear cv cs hb hc h hl
  go_enter Tryz.func33, Tryz.ntmps33
  go_wp2_with (first
    | (go_at_call 58; ((with_reducible refine CV.out.mono ?_); rintro e w1 ⟨rfl, rfl⟩))
    | (go_at_call 57; ((with_reducible refine CS.out.mono ?_); rintro e w2 ⟨v, ys, rfl, hp, hr, hf, hb, hk⟩; have HK := Box.mk hk; clear hk; have HF := Box.mk hf; have HP := Box.mk hp; have HR := Box.mk hr; have HB2 := Box.mk hb; clear hf hb hp hr)))
  go_ret
  exact ⟨v, ys, rfl, HP.out, HR.out, HF.out, HB.out.trans (HB2.out.mono HB.out.size), fun k hk => Nat.le_trans HB.out.size (HK.out k hk)⟩
end Go.Proofs.YtacfdnjdjgdbcaaGreatDoor
