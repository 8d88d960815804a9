/- Contracts of rel: Cross, comparing two relations, and what the layer's examples say. -/
import Derived.Test.YtbcbhofbikdfiaaDoorRelI
import Derived.Stop.BytesEq
namespace Go.Proofs.YtbcbhofbikdfiaaDoor
set_option maxRecDepth 100000
open Go.RowKit M
attribute [local go_sem] Oper.semAt_some

theorem foldX {v : Nat} (hv : v < 65536) : ∀ (l : List Nat) (t : List Nat), R.Wf t → (∀ b ∈ l, b < 16) → R.Wf (l.foldl (R.stepX v) t) ∧ ∀ c d, R.has (l.foldl (R.stepX v) t) c d = if c ∈ l then v.testBit d else R.has t c d
  | [], t, h, _ => ⟨h, fun c d => by simp⟩
  | b :: l, t, h, hl => by
    obtain ⟨i1, i2⟩ := foldX hv l (R.stepX v t b) (h.set (hl b (by simp)) hv) (fun x hx => hl x (by simp [hx]))
    refine ⟨i1, fun c d => ?_⟩
    rw [List.foldl_cons, i2]
    unfold R.stepX
    rw [R.has_set h (hl b (by simp))]
    by_cases e : c = b <;> by_cases e2 : c ∈ l <;> simp [e, e2]
theorem cross_wf (s : Nat) {v : Nat} (hv : v < 65536) : R.Wf (R.crossM s v) := (foldX hv _ _ R.zero_wf (fun _ hb => (R.mem_els.1 hb).1)).1
theorem has_cross {s v : Nat} (hv : v < 65536) (a b : Nat) : R.has (R.crossM s v) a b = (decide (a ∈ R.els s) && v.testBit b) := by
  unfold R.crossM
  rw [(foldX hv _ _ R.zero_wf (fun _ hb => (R.mem_els.1 hb).1)).2, R.has_zero]
  by_cases h : a ∈ R.els s <;> simp [h]

set_option maxRecDepth 100000 in
set_option maxHeartbeats 2000000 in
theorem cross_any (s v : Nat) (hs : s < 65536) (hv : v < 65536) (w : World) (hT : Tab64 w) :
    Calls Tryd.prog 33 #[.int .u16 (s : Int), .int .u16 (v : Int)] w fun e w' => e = .returned (.agg (w16 (R.crossM s v)).toArray) ∧ Below w.heap.size w w' := by
  refine callsIn_wide.1 (callsIn_of_wp_marks (n := 0) Tryd.func33 rfl trivial ?_ rfl)
  rw [wpIn_wide]
  simp only [Tryd.ntmps33, List.size_toArray, List.length_cons, List.length_nil, Nat.reduceAdd, Nat.reduceSub, Array.replicate_succ, Array.replicate_zero, List.push_toArray, List.append_toArray, List.nil_append, List.cons_append]
  have HT := Box.mk hT
  clear hT
  go_wp2_with (go_at_call 39; refine (elements_any s _).mono ?_; rintro e w' ⟨rfl, rfl⟩)
  have hb0 : Below w.heap.size w ((((w.alloc (.cells #[.int .u16 (v : Int)] 23)).alloc (.cells (w16 R.zeroM).toArray 25)).alloc (.cells (w16 R.zeroM).toArray 25)).alloc (.cells #[.int .u16 (s : Int)] 23)) := (aset w _).trans (((aset _ _).trans (((aset _ _).trans ((aset _ _).mono (by simp))).mono (by simp))).mono (by simp))
  have hk : ∀ (W : World) (o : Obj) (k : Nat) (p : Obj), W.heap[k]? = some p → (W.alloc o).heap[k]? = some p := fun W o k p h => (Below.heap_alloc W o k (Array.getElem?_eq_some_iff.1 h).1).trans h
  have r0 := hk _ (.cells #[.int .u16 (s : Int)] 23) _ _ (hk _ (.cells (w16 R.zeroM).toArray 25) _ _ (hk _ (.cells (w16 R.zeroM).toArray 25) _ _ (SB.new w v)))
  have r1 := ((RB.new (w.alloc (.cells #[.int .u16 (v : Int)] 23)) R.zeroM).alloc (.cells (w16 R.zeroM).toArray 25)).alloc (.cells #[.int .u16 (s : Int)] 23)
  have r2 := (RB.new ((w.alloc (.cells #[.int .u16 (v : Int)] 23)).alloc (.cells (w16 R.zeroM).toArray 25)) R.zeroM).alloc (.cells #[.int .u16 (s : Int)] 23)
  have r4 := SB.new (((w.alloc (.cells #[.int .u16 (v : Int)] 23)).alloc (.cells (w16 R.zeroM).toArray 25)).alloc (.cells (w16 R.zeroM).toArray 25)) s
  rw [sum_zero] at hb0 r0 r1 r2 r4
  simp only [World.size_alloc] at r1 r2 r4
  generalize hWx : ((((w.alloc (.cells #[.int .u16 (v : Int)] 23)).alloc (.cells #[.int .u16 0, .int .u16 0, .int .u16 0, .int .u16 0, .int .u16 0, .int .u16 0, .int .u16 0, .int .u16 0, .int .u16 0, .int .u16 0, .int .u16 0, .int .u16 0, .int .u16 0, .int .u16 0, .int .u16 0, .int .u16 0] 25)).alloc (.cells #[.int .u16 0, .int .u16 0, .int .u16 0, .int .u16 0, .int .u16 0, .int .u16 0, .int .u16 0, .int .u16 0, .int .u16 0, .int .u16 0, .int .u16 0, .int .u16 0, .int .u16 0, .int .u16 0, .int .u16 0, .int .u16 0] 25)).alloc (.cells #[.int .u16 (s : Int)] 23)) = Wx at *
  have hsz : Wx.heap.size = w.heap.size + 1 + 1 + 1 + 1 := by rw [← hWx]; simp
  clear hWx hk
  have hT' : ∀ W, Below w.heap.size w W → Tab64 W := fun W h => tab_bel HT.out h
  refine wp_els (Bn := w.heap.size + 1 + 1 + 1) (s := s) rfl hs r4
    (fun pre W => SB W w.heap.size v ∧ RB W (w.heap.size + 1) R.zeroM ∧ RB W (w.heap.size + 1 + 1) (pre.foldl (R.stepX v) R.zeroM) ∧ Below w.heap.size w W)
    (fun _ _ _ => False)
    (fun pre W W' h hs => ⟨hs.same _ _ h.1 (by omega) (.inr rfl), hs.rb h.2.1 (by omega), hs.rb h.2.2.1 (by omega), hs.below h.2.2.2 (by omega) (by omega)⟩)
    (fun _ _ _ _ h _ => h)
    (fun pre W h => hT' W h.2.2.2)
    ⟨r0, r1, r2, hb0⟩
    (fun x => { tmps := #[.int .u16 (s : Int), .int .u16 (v : Int), undef, .pointer (some ⟨w.heap.size, 0, none⟩), .pointer (some ⟨w.heap.size + 1, 0, none⟩), .pointer (some ⟨w.heap.size + 1 + 1, 0, none⟩), .int .i64 (x : Int), .int .u16 (s : Int), .func (.func 44) #[] #[.pointer (some ⟨w.heap.size + 1 + 1 + 1, 0, none⟩)], .int .i64 (x : Int), undef, undef, undef, undef], defers := [] }) ?assign ?body ?done ?stop
  case assign =>
    intro l x W K hK
    gi_wp2
    exact hK
  case body =>
    rintro l pre x W ⟨g0, g1, g2, g3⟩ hx hpre
    obtain ⟨T, hT⟩ : ∃ T, T = pre.foldl (R.stepX v) R.zeroM := ⟨_, rfl⟩
    have hTw : R.Wf T := by rw [hT]; exact (foldX hv pre _ R.zero_wf (pre_lt hpre)).1
    have hT2 : (pre ++ [x]).foldl (R.stepX v) R.zeroM = T.set x v := by rw [List.foldl_append, ← hT]; rfl
    rw [← hT] at g2
    have c0 := g0.cell
    have c1 := g2.cell hTw hx
    have z1 := g2.fz x
    have i3 : (0 : Int) ≤ (x : Int) := by omega
    have i4 : (x : Int) < 16 := by omega
    have HT2 := Box.mk hT2
    have G1 := Box.mk g1; have G2 := Box.mk g2; have G3 := Box.mk g3; have G0 := Box.mk g0
    clear g0 g1 g2 g3 hT hT2 hTw
    generalize R.g T x = y at *
    have hmo : Tryd.prog.follows .mixedOrders = true := by kernel_rfl
    gi_wp2
    have k1 := Kp.set (B := Wx.heap.size) G2.out (show w.heap.size + 1 + 1 + 1 ≠ w.heap.size + 1 + 1 by omega) x (.int .u16 (v : Int))
    have e1 : RB (W.setCell ⟨w.heap.size + 1 + 1, x, none⟩ (.int .u16 (v : Int))) (w.heap.size + 1 + 1) ((pre ++ [x]).foldl (R.stepX v) R.zeroM) := by rw [HT2.out]; exact G2.out.set x v
    exact ⟨⟨k1.bn, k1.oth⟩, (hOther (by omega)).trans G0.out, G1.out.other (by omega) _ _, e1, bset G3.out _ _ _ (by omega)⟩
  case done =>
    rintro D W hD ⟨g0, g1, g2, g3⟩ hK
    have HW : Box (R.Wf (R.crossM s v)) := ⟨cross_wf s hv⟩
    have h2' : Box (RB W (w.heap.size + 1 + 1) (R.crossM s v)) := ⟨g2⟩
    have H1 := Box.mk g1; have H3 := Box.mk g3
    have HM : Box (Mk w.heap.size (D + 1) [{ target := .collected D, args := #[] }] W) := ⟨(Mk.nil w.heap.size w.heap.size _).cons (Nat.le_refl _) (by omega) (by omega) hK⟩
    clear g0 g1 g2 g3 hK
    obtain ⟨S, hS⟩ : ∃ S, S = R.crossM s v := ⟨_, rfl⟩
    rw [← hS] at HW h2'
    have HS := Box.mk hS
    clear hS
    go_wp2_with (first
      | ((with_reducible refine at_load 25 (.tmp 5) ?_); refine wpList_load_mid rfl 25 (.tmp 5) (by rfl) (w.heap.size + 1 + 1) 0 (by rfl) (w16 S) _ h2'.out.range undR rfl (infoL HW.out) ?_)
      | ((with_reducible refine at_store 25 (.tmp 4) (.tmp 13) ?_); refine wpList_store_mid rfl 25 (.tmp 4) (.tmp 13) (by rfl) (w.heap.size + 1) 0 (w16 S).toArray (by rfl) (by rfl) (thereL H1.out HW.out) (infoA HW.out) (all_oneCell_toArray (w16_one _)) ?_))
    have RZ := H1.out.all R.zero_wf HW.out
    have BZ : Below w.heap.size w (W.setCells (w.heap.size + 1) 0 (w16 S)) := bsets (by omega) _ _ _ H3.out
    refine leave_marks (B := w.heap.size) _ _ (HM.out.sets H1.out _ _) BZ.size (fun W' hc hb' => ?_)
    have RW : RB W' (w.heap.size + 1) S := hc _ _ RZ rfl
    exact ⟨_, results_one rfl (by rfl) (loadR RW HW.out), by rw [HS.out], BZ.trans hb'⟩
  case stop =>
    rintro D pre W _ _ h _
    exact h.elim
end Go.Proofs.YtbcbhofbikdfiaaDoor
