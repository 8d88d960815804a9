/- The values of a table's map, collected. -/
import Derived.Test.YtpinpplbjgbkaaaDoorTabE
import Derived.Shelf.SlIter.Nil
namespace Go.Proofs.YtpinpplbjgbkaaaDoor
set_option maxRecDepth 100000
open Go.RowKit Go.Maps Go.Sort M
attribute [local go_sem] Oper.semAt_some

set_option maxRecDepth 100000 in
set_option maxHeartbeats 1000000 in
/-- at a nil map nothing comes -/
theorem tvals_nil (F : Fence) (n : Nat) (hf : F.fn 56) (hro : F.round = none) (ly Bm : Nat) (J : List Ent → World → Prop) (W : World) (hJ : AbidesFrom W.heap.size J) (hm : W.cell? ⟨Bm, 0, none⟩ = some (.map none)) (h0 : J [] W) :
    CallsIn F n Tryd.prog 56 #[.func (.yield ly) #[] #[], .pointer (some ⟨Bm, 0, none⟩)] W fun e W' => (∃ v, e = .returned v) ∧ J [] W' := by
  refine callsIn_of_wp Tryd.func56 rfl hf ?_ hro
  simp only [Tryd.ntmps56, List.size_toArray, List.length_cons, List.length_nil, Nat.reduceAdd, Nat.reduceSub, Array.replicate_succ, Array.replicate_zero, List.push_toArray, List.append_toArray, List.nil_append, List.cons_append]
  have hrg := run_range_nilMap (P := Tryd.prog) W 38 24 69 Tryd.underlying38
  have hnx : ∀ ty, (Instr.next (.pointer (some ⟨W.heap.size, 0, none⟩)) false ty).run Tryd.prog (W.alloc (.mapIter none 0 #[] 0)) = _ := fun ty => run_next_nilMap _ ty 0 0 #[]
  gi_wp2
  refine wpIn_loop_rounds 1 ?_
  rw [roundsIn_succ]
  gi_wp2
  go_end0
  exact ⟨⟨_, rfl⟩, hJ [] W _ none h0 (World.grownBy_alloc W _ none) (fun r e => by cases e)⟩

/-- the entries of a map that may be nil -/
def MoE (w : World) (mo : Option Nat) (l : List Ent) : Prop := (mo = none → l = []) ∧ ∀ m, mo = some m → MapE w m l
theorem Tab.mo {w : World} {b : Nat} {mo : Option Nat} {l : List Ent} (h : Tab w b mo l) : MoE w mo l := ⟨h.empt, fun m e => (h.mapd m e).2⟩
theorem MoE.below {w W : World} {mo : Option Nat} {l : List Ent} (h : MoE w mo l) (hb : Below w.heap.size w W) : MoE W mo l := ⟨h.1, fun m e => (h.2 m e).keep (hb.block m (h.2 m e).lt)⟩
theorem tvals_stops (n : Nat) (hn : 1 ≤ n) (Bm : Nat) (mo : Option Nat) (l : List Ent) (w : World) (hB : Bm < w.heap.size) (hm : w.cell? ⟨Bm, 0, none⟩ = some (.map mo)) (hmap : MoE w mo l) :
    SeqStops Fence.wide n Tryd.prog 56 #[.pointer (some ⟨Bm, 0, none⟩)] evE (fun xs => xs.Perm l) (fun _ => True) l.length w := by
  intro ly J Jx W hW hJ _ hY h0
  cases mo with
  | none =>
    rw [hmap.1 rfl]
    exact (tvals_nil Fence.wide n trivial rfl ly Bm J W hJ ((hW.cell (p := ⟨Bm, 0, none⟩) hB).trans hm) h0).mono fun _ _ ⟨he, hj⟩ => ⟨he, .inl ⟨[], List.Perm.refl _, hj⟩⟩
  | some m => exact tvals_in Fence.wide n trivial rfl hn ly Bm m l J Jx hY W hJ ((hW.cell (p := ⟨Bm, 0, none⟩) hB).trans hm) ((hmap.2 m rfl).keep (hW.block _ (hmap.2 m rfl).lt)) h0

theorem list33 : ∀ (A : List Value), A.length = 33 → ∃ a0 a1 a2 a3 a4 a5 a6 a7 a8 a9 a10 a11 a12 a13 a14 a15 a16 a17 a18 a19 a20 a21 a22 a23 a24 a25 a26 a27 a28 a29 a30 a31 a32, A = [a0, a1, a2, a3, a4, a5, a6, a7, a8, a9, a10, a11, a12, a13, a14, a15, a16, a17, a18, a19, a20, a21, a22, a23, a24, a25, a26, a27, a28, a29, a30, a31, a32]
  | a0 :: a1 :: a2 :: a3 :: a4 :: a5 :: a6 :: a7 :: a8 :: a9 :: a10 :: a11 :: a12 :: a13 :: a14 :: a15 :: a16 :: a17 :: a18 :: a19 :: a20 :: a21 :: a22 :: a23 :: a24 :: a25 :: a26 :: a27 :: a28 :: a29 :: a30 :: a31 :: a32 :: [], _ => ⟨a0, a1, a2, a3, a4, a5, a6, a7, a8, a9, a10, a11, a12, a13, a14, a15, a16, a17, a18, a19, a20, a21, a22, a23, a24, a25, a26, a27, a28, a29, a30, a31, a32, rfl⟩
theorem slice_entry (A : List Value) (hA : A.length = 33) (w : World) : (Instr.buildSlice 66 1 #[(0, .agg A.toArray)]).run Tryd.prog w = .ok (.slice (some ⟨w.heap.size, 0, none⟩) 1 1) (w.alloc (.cells A.toArray 69)) := by
  obtain ⟨a0, a1, a2, a3, a4, a5, a6, a7, a8, a9, a10, a11, a12, a13, a14, a15, a16, a17, a18, a19, a20, a21, a22, a23, a24, a25, a26, a27, a28, a29, a30, a31, a32, rfl⟩ := list33 A hA
  kernel_rfl
section
variable {F : Fence} {n : Nat} {P : Program} {ops : Array Oper} {Q : Exit → Act → World → Prop} {rest : List Oper} {a : Act} {w : World}
theorem ati_buildSlice (T : TypeId) (k : Nat) (ps : Array (Nat × Operand)) {dst : Option Tmp} {ty : TypeId} {pos : String} {after : Array Edge} {guard : Option (Nat × Bool)}
    (h : wpListIn F n P ops Q (⟨dst, .buildSlice T k ps, ty, pos, after, guard⟩ :: rest) a w) : wpListIn F n P ops Q (⟨dst, .buildSlice T k ps, ty, pos, after, guard⟩ :: rest) a w := h
theorem wpListIn_buildSlice1 {op : Oper} (hgd : op.guard = none) (t : TypeId) (x : Operand) (ho : op.op = .buildSlice t 1 #[(0, x)]) (vx : Value) (hx : a.eval x = vx) (v : Value) (w' : World) (hr : (Instr.buildSlice t 1 #[(0, vx)]).run P w = .ok v w')
    (h : wpListIn F n P ops Q rest (a.put op.dst v) w') : wpListIn F n P ops Q (op :: rest) a w := by
  refine wpListIn_plain hgd fun K' hK' => ?_
  unfold Oper.wpIn
  refine ⟨by simp [Oper.about, ho], ?_⟩
  rw [Oper.semAt_plain F _ _ (by rw [ho]; intro c hc'; cases hc')]
  unfold execOp
  simp [ho, hx, hr, Result.andThen]
  exact hK' _ _ h
end
theorem info_ent : (Tryd.prog.info? 69).map (fun i => (i.zero, i.size, i.bytes)) = some (some (.agg zeroE.toArray), 33, 48) := by kernel_rfl
theorem cells_in {w : World} {b : Nat} {cs : List Value} {T : TypeId} (h : w.heap[b]? = some (.cells cs.toArray T (0, 0))) (j : Nat) (u : Value) (hu : cs[j]? = some u) : w.cell? (Addr.add ⟨b, 0, none⟩ j) = some u := by
  rw [Addr.add_mid, Nat.zero_add, cell_of_row _ _ _ _ _ _ h]
  simpa using hu
/-- where a loop's variable lies -/
def AtX (B : Nat) (gf : Nat) (lb : Array Value) (x : Ent) (a' : Act) (W : World) : Prop := ∃ k, B < k ∧ a' = { tmps := #[.slice none 0 0, .func (.func gf) #[] lb, .pointer (some ⟨B, 0, none⟩), undef, .slice none 0 0, .pointer (some ⟨k, 0, none⟩), .func (.func gf) #[] lb, evE x, undef, undef, undef, undef, undef], defers := [] } ∧ W.heap[k]? = some (.cells (encE x).toArray 69 (0, 0))
theorem atX_own (B C gf : Nat) (lb : Array Value) (x : Ent) (a' : Act) : OwnFrom C (fun (_ : Unit) W => AtX B gf lb x a' W) := by
  rintro _ X Y row ⟨k, hk, he, hc⟩ hg hr
  refine ⟨k, hk, he, (hg.block k (Array.getElem?_eq_some_iff.1 hc).1 (fun e => ?_)).trans hc⟩
  obtain ⟨_, o, ho, h2⟩ := hr k e.symm
  rw [hc] at ho
  injection ho with ho
  rw [← ho] at h2
  cases h2

set_option maxRecDepth 100000 in
set_option maxHeartbeats 2000000 in
theorem tappseq_in (F : Fence) (n : Nat) (hf : F.fn 67) (hro : F.round = none) (hn : 2 ≤ n) (gf : Nat) (lb : Array Value) (hFg : F.fn gf) (eg : ∀ args w, (callFunc gf args).run Tryd.prog w = .ok (.enter gf args) w)
    (S Sp : List Ent → Prop) (N : Nat) (hN : N ≤ 1099511627776) (w : World) (hseq : SeqStops F (n - 1) Tryd.prog gf lb evE S Sp N w) :
    CallsIn F n Tryd.prog 67 #[.slice none 0 0, .func (.func gf) #[] lb] w fun e w' => ∃ (v : Value) (xs : List Ent), e = .returned v ∧ S xs ∧ w'.ownsRow w.heap.size 69 33 v xs.length (xs.flatMap encE) ∧ Below w.heap.size w w' := by
  have h1 : 1 ≤ n := by omega
  obtain ⟨i0, hi, hz0, hz1, hz2⟩ := info_parts info_ent
  have hte : 66 ≠ 69 := by decide
  refine callsIn_of_wp_marks Tryd.func67 rfl hf ?_ hro
  simp only [Tryd.ntmps67, List.size_toArray, List.length_cons, List.length_nil, Nat.reduceAdd, Nat.reduceSub, Array.replicate_succ, Array.replicate_zero, List.push_toArray, List.append_toArray, List.nil_append, List.cons_append]
  gi_wp2
  have hseqK : SeqStopsK F (n - 1) Tryd.prog gf lb (fun x => #[evE x]) KeepsWalks S Sp N w := hseq
  refine wpIn_rangeFunc_ownH hro h1 (gf := gf) (lb := lb) rfl hFg eg hseqK walksK_t walksK_b ((Below.refl _ w).alloc (Nat.le_refl _) _) (fun _ => rfl)
    (fun pre W => (∃ v, Boxed W w.heap.size 66 v ∧ W.ownsRow w.heap.size 69 33 v pre.length (pre.flatMap encE) ∧ True) ∧ Below w.heap.size w W)
    (fun _ _ _ => False)
    (OwnFrom.and (Own.from (holdsRow_own w.heap.size w.heap.size 66 69 33 (fun pre : List Ent => pre.length) (fun pre => pre.flatMap encE) (fun _ _ => True)) _) (ownFrom_below (Nat.le_refl _) (by simp)))
    (fun _ _ _ _ _ hs _ _ => hs)
    ⟨⟨_, Boxed.new w _ _, World.ownsRow_nil _ _ _ _, trivial⟩, (Below.refl _ w).alloc (Nat.le_refl _) _⟩
    (AtX w.heap.size gf lb) (atX_own w.heap.size _ gf lb) ?assign ?body ?done ?stop
  case assign =>
    rintro l pre x W K ⟨⟨v, hv, hrow, -⟩, hB⟩ hK
    obtain ⟨W3, hW3⟩ : ∃ W3, W3 = W.alloc (.cells (encE x).toArray 69) := ⟨_, rfl⟩
    have hlt := hv.lt
    have ht : ∀ Z : Array Value, Z.size = 33 → (W.alloc (.cells Z 69)).there W.heap.size 0 33 := fun Z hZ => by
      have := there_new W 69 Z.toList W.heap.size 0 33 rfl (by simp [hZ])
      simpa using this
    have k1 : KeepsFrom (w.alloc (.cells #[.slice none 0 0] 66)).heap.size W W3 := by rw [hW3]; exact KeepsFrom.of_grownBy (World.grownBy_alloc W _ none) (fun _ e => by cases e)
    have k2 : KeepsWalks W W3 := by rw [hW3]; exact KeepsWalks.alloc W _
    have k3 : Boxed W3 w.heap.size 66 v ∧ W3.ownsRow w.heap.size 69 33 v pre.length (pre.flatMap encE) ∧ True := by rw [hW3]; exact ⟨hv.alloc _, hrow.alloc _, trivial⟩
    have k4 : Below w.heap.size w W3 := by rw [hW3]; exact hB.trans ((Below.refl _ W).alloc hB.size _)
    have k5 : W3.heap[W.heap.size]? = some (.cells (encE x).toArray 69 (0, 0)) := by rw [hW3]; exact heap_alloc_new W _
    have HW3 := Box.mk hW3
    have KK := Box.mk (show ∀ a', AtX w.heap.size gf lb x a' W3 → K a' W3 from fun a' h => hK a' W3 k1 k2 ⟨⟨v, k3⟩, k4⟩ h)
    clear hW3 hK k1 k2 k3 k4
    have K5 := Box.mk k5
    clear k5 hv hrow hB
    unfold evE
    gi_wp2_with (first
      | ((with_reducible refine ati_store 69 (.tmp 5) (.tmp 7) ?_); refine wpListIn_store_mid rfl 69 (.tmp 5) (.tmp 7) rfl W.heap.size 0 (encE x).toArray rfl rfl (by have e : (encE x).toArray.size = 33 := (by simp [encE_len]); rw [e]; exact ht _ rfl) (by have e : (encE x).toArray.size = 33 := (by simp [encE_len]); rw [e]; exact info_entry) (all_oneCell_toArray (encE_one x)) ?_; rw [show (W.alloc _).setCells W.heap.size 0 (encE x).toArray.toList = W3 from (by rw [HW3.out]; exact fillE W _ _ _ (by simp [encE_len]))])
      | gi_in)
    refine KK.out _ ⟨W.heap.size, hlt, ?_, K5.out⟩
    unfold evE
    first | rfl | (simp; done)
  case body =>
    rintro l pre x a' W hl hr ⟨⟨v, hv, hrow, -⟩, hB⟩ ⟨k, hk, rfl, hxc⟩ hlen
    have hvc := hv.cell
    have hvf := hv.frozen
    have hrg : W.rangeAt k 0 (encE x) := fun j u hu => by
      have := cells_in hxc j u hu
      rwa [Addr.add_mid] at this
    obtain ⟨du, hu, hdu⟩ := und_entry
    have hsl := slice_entry (encE x) (encE_len x) W
    have HSL := Box.mk hsl
    have HV := Box.mk hv
    have HXC := Box.mk hxc
    clear hsl hr hxc
    unfold evE
    gi_wp2_with (first
      | ((with_reducible refine ati_load 69 (.tmp 5) ?_); refine wpListIn_load_mid rfl 69 (.tmp 5) rfl k 0 rfl (encE x) du hrg hu hdu (by rw [encE_len]; exact info_entry) ?_)
      | ((with_reducible refine ati_buildSlice 66 1 _ ?_); refine wpListIn_buildSlice1 rfl 66 (.tmp 9) rfl (.agg (encE x).toArray) rfl _ _ HSL.out ?_)
      | (gi_at_builtin; refine wpListIn_append_own _ rfl _ _ 66 rfl w.heap.size 69 i0 (.agg zeroE.toArray) 33 48 Tryd.underlying66 hi hz0 hz1 hz2 rfl (by decide) _ _ _ rfl (hrow.alloc _) ⟨W.heap.size, 0, none⟩ 1 1 (encE x) rfl (by rw [encE_len]) (cells_in (heap_alloc_new W _)) (encE_one x) (by unfold maxLen; omega) (by omega) (by have := hB.size; simp; omega) ?_; intro v' w1 hown' hgrow _; obtain ⟨g', cap', rfl⟩ := ownsRow_succ hown'; obtain ⟨hv1, hv2, hr2, hk2, hb2⟩ := HV.out.appended hte hrow hB.size (Nat.le_refl _) hown' hgrow; have hc1 := hv1.cell; have hf1 := hv1.frozen)
      | gi_in)
    exact ⟨hk2.from _, hk2.walks, ⟨_, hv2, (by have e1 : (pre ++ [x]).length = pre.length + 1 := (by simp); have e2 : (pre ++ [x]).flatMap encE = pre.flatMap encE ++ encE x := (by simp [List.flatMap_append]); rw [e1, e2]; exact hr2)⟩, hB.trans hb2⟩
  case done =>
    rintro D xs W hD hS ⟨⟨v, hv, hrow, -⟩, hB⟩ hK
    have hvc := hv.cell
    gi_wp2
    refine ⟨by simp, .inl ⟨_, _, rfl, run_takeDeferred hK, ?_⟩⟩
    refine ⟨_, results_tmp rfl _ _ _, v, xs, rfl, hS, ownsRow_putObj hrow _ hK rfl, ?_⟩
    exact hB.trans (belowK_b (w := w) (Nat.le_refl _) W D _ _ (by simp at hD; omega) hK rfl rfl)
  case stop =>
    rintro D c pre W _ _ h _
    exact h.elim
end Go.Proofs.YtpinpplbjgbkaaaDoor
