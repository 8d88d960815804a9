/- Contracts of flow: what is computed, and branches. -/
import Derived.Test.YtccjekgbhablpaaGc
import Derived.Test.YtccjekgbhablpaaBatch
import Derived.Deep.CutBlock
import Derived.Deep.DeepCutAuto
namespace Go.Proofs.Ytccjekgbhablpaa
set_option maxRecDepth 100000
open Go.RowKit

theorem belA {E W : World} (h : Below E.heap.size E W) (o : Obj) : Below E.heap.size E (W.alloc o) := h.alloc h.size _
theorem belS {E W : World} (h : Below E.heap.size E W) (b o : Nat) (hb : E.heap.size ≤ b) (v : Value) : Below E.heap.size E (W.setCell ⟨b, o, none⟩ v) := h.setCell (p := ⟨b, o, none⟩) hb _
def cnO (c : Cn) : Obj := .cells #[.bool c.k, .int .u64 (c.v : Int), .int .u64 (c.f : Int)] 95 (0, 0)
def inO (x : Ins) : Obj := .cells #[.int .i64 x.op, .int .i64 x.rd, .int .i64 x.loc, .bool x.ar, .int .u64 x.an, .bool x.br, .int .u64 x.bn, .bool x.acq, .bool x.rel, .int .i64 x.dep, .int .i64 x.pred, .int .i64 x.succ, .int .i64 x.skip] 84 (0, 0)
/-- an instruction whose numbers are natural, and whose registers there are -/
structure InsN (x : Ins) : Prop where
  an : 0 ≤ x.an ∧ x.an < 18446744073709551616
  bn : 0 ≤ x.bn ∧ x.bn < 18446744073709551616
  ar : x.ar = true → x.an < 8
  br : x.br = true → x.bn < 8
  rd : 0 ≤ x.rd ∧ x.rd < 8
  dep : 0 ≤ x.dep ∧ x.dep ≤ 8
  skip : 0 ≤ x.skip ∧ x.skip ≤ 1000000
theorem arg_ins (K : WkB) (n m : Nat) (s : WkM) (hr : s.regs.length = 8) (r : Bool) (x : Int) (h0 : 0 ≤ x) (hx : r = true → x < 8) (w : World) (hw : WkIn w K n m s) :
    Calls Try.prog 71 #[.pointer (some ⟨K.kb, 0, none⟩), .agg #[.bool r, .int .u64 x]] w fun e w' => e = .returned (.agg #[.bool (argM s r x.toNat).k, .int .u64 ((argM s r x.toNat).v : Int), .int .u64 ((argM s r x.toNat).f : Int)]) ∧ Below w.heap.size w w' := by
  obtain ⟨y, rfl⟩ := Int.eq_ofNat_of_zero_le h0
  exact arg_any K n m s hr r y (fun h => by have := hx h; omega) w hw
theorem arg_ok {s : WkM} (h : ∀ c ∈ s.regs, CnOk c) (r : Bool) (n : Nat) (hn : n < 18446744073709551616) : CnOk (argM s r n) := by
  unfold argM
  cases r
  · exact ⟨hn, by simp [numC0]⟩
  · rw [if_pos rfl]
    unfold cnAt
    rw [List.getD_eq_getElem?_getD]
    cases hc : s.regs[n]? with
    | none => exact ⟨by simp, by simp⟩
    | some c => exact h c (List.mem_of_getElem? hc)
/-- both Args, in whatever order: what is there so far -/
structure Two (E W : World) (R : Nat → Bool) (v10 v14 v4 v5 : Value) (b4 b5 : Nat) (a b : Cn) : Prop where
  bel : Below E.heap.size E W
  ha : R 3 = false → v10 = .agg #[.bool a.k, .int .u64 (a.v : Int), .int .u64 (a.f : Int)]
  hb : R 7 = false → v14 = .agg #[.bool b.k, .int .u64 (b.v : Int), .int .u64 (b.f : Int)]
  h4 : R 8 = false → v4 = .pointer (some ⟨b4, 0, none⟩) ∧ E.heap.size ≤ b4 ∧ W.heap[b4]? = some (.cells #[.bool false, .int .u64 0, .int .u64 0] 95 (0, 0))
  h5 : R 9 = false → v5 = .pointer (some ⟨b5, 0, none⟩) ∧ E.heap.size ≤ b5 ∧ W.heap[b5]? = some (.cells #[.bool false, .int .u64 0, .int .u64 0] 95 (0, 0))
  h45 : R 8 = false → R 9 = false → b4 ≠ b5
theorem Two.setA {E W W2 : World} {R : Nat → Bool} {v10 v14 v4 v5 : Value} {b4 b5 : Nat} {a b : Cn} (h : Two E W R v10 v14 v4 v5 b4 b5 a b) (hb : Below W.heap.size W W2) (_hR : R 3 = true) :
    Two E W2 (fun j => R j && j != 3) (.agg #[.bool a.k, .int .u64 (a.v : Int), .int .u64 (a.f : Int)]) v14 v4 v5 b4 b5 a b :=
  ⟨Go.Proofs.Ytccjekgbhablpaa.bel h.bel hb, fun _ => rfl, fun e => h.hb (by simpa using e), fun e => by obtain ⟨x, y, z⟩ := h.h4 (by simpa using e); exact ⟨x, y, (hb.block _ (ltOf z)).trans z⟩, fun e => by obtain ⟨x, y, z⟩ := h.h5 (by simpa using e); exact ⟨x, y, (hb.block _ (ltOf z)).trans z⟩, fun e f => h.h45 (by simpa using e) (by simpa using f)⟩
theorem Two.setB {E W W2 : World} {R : Nat → Bool} {v10 v14 v4 v5 : Value} {b4 b5 : Nat} {a b : Cn} (h : Two E W R v10 v14 v4 v5 b4 b5 a b) (hb : Below W.heap.size W W2) (_hR : R 7 = true) :
    Two E W2 (fun j => R j && j != 7) v10 (.agg #[.bool b.k, .int .u64 (b.v : Int), .int .u64 (b.f : Int)]) v4 v5 b4 b5 a b :=
  ⟨Go.Proofs.Ytccjekgbhablpaa.bel h.bel hb, fun e => h.ha (by simpa using e), fun _ => rfl, fun e => by obtain ⟨x, y, z⟩ := h.h4 (by simpa using e); exact ⟨x, y, (hb.block _ (ltOf z)).trans z⟩, fun e => by obtain ⟨x, y, z⟩ := h.h5 (by simpa using e); exact ⟨x, y, (hb.block _ (ltOf z)).trans z⟩, fun e f => h.h45 (by simpa using e) (by simpa using f)⟩
theorem Two.set4 {E W : World} {R : Nat → Bool} {v10 v14 v4 v5 : Value} {b4 b5 : Nat} {a b : Cn} (h : Two E W R v10 v14 v4 v5 b4 b5 a b) (_hR : R 8 = true) :
    Two E (W.alloc (.cells #[.bool false, .int .u64 0, .int .u64 0] 95)) (fun j => R j && j != 8) v10 v14 (.pointer (some ⟨W.heap.size, 0, none⟩)) v5 W.heap.size b5 a b :=
  ⟨belA h.bel _, fun e => h.ha (by simpa using e), fun e => h.hb (by simpa using e), fun _ => ⟨rfl, h.bel.size, heap_alloc_new _ _⟩, fun e => by obtain ⟨x, y, z⟩ := h.h5 (by simpa using e); exact ⟨x, y, ((aset W _).block _ (ltOf z)).trans z⟩, fun _ f => by obtain ⟨x, y, z⟩ := h.h5 (by simpa using f); have := ltOf z; omega⟩
theorem Two.set5 {E W : World} {R : Nat → Bool} {v10 v14 v4 v5 : Value} {b4 b5 : Nat} {a b : Cn} (h : Two E W R v10 v14 v4 v5 b4 b5 a b) (_hR : R 9 = true) :
    Two E (W.alloc (.cells #[.bool false, .int .u64 0, .int .u64 0] 95)) (fun j => R j && j != 9) v10 v14 v4 (.pointer (some ⟨W.heap.size, 0, none⟩)) b4 W.heap.size a b :=
  ⟨belA h.bel _, fun e => h.ha (by simpa using e), fun e => h.hb (by simpa using e), fun e => by obtain ⟨x, y, z⟩ := h.h4 (by simpa using e); exact ⟨x, y, ((aset W _).block _ (ltOf z)).trans z⟩, fun _ => ⟨rfl, h.bel.size, heap_alloc_new _ _⟩, fun f _ => by obtain ⟨x, y, z⟩ := h.h4 (by simpa using f); have := ltOf z; omega⟩
set_option maxHeartbeats 6400000 in
theorem compute_li (B : Nat) (K : WkB) (ok : KOk B K) (n m : Nat) (s : WkM) (hs : WkOk n m s) (x : Ins) (hx : InsN x) (w : World) (hw : WkIn w K n m s) (h1 : x.op = 1) :
    Calls Try.prog 42 #[.pointer (some ⟨K.kb, 0, none⟩), insV x] w fun e w' => e = .returned (.tuple #[]) ∧ WkIn w' K n m (compM s x) ∧ Fp K w w' := by
  have ca := fun W (h : WkIn W K n m s) => arg_ins K n m s hs.regs x.ar x.an hx.an.1 hx.ar W h
  have cb := fun W (h : WkIn W K n m s) => arg_ins K n m s hs.regs x.br x.bn hx.bn.1 hx.br W h
  have hao := arg_ok hs.rok x.ar x.an.toNat (by have := hx.an; omega)
  have hbo := arg_ok hs.rok x.br x.bn.toNat (by have := hx.bn; omega)
  have hkl := ltOf hw.kb
  generalize ha : argM s x.ar x.an.toNat = a at *
  generalize hb : argM s x.br x.bn.toNat = b at *
  have CA := Bx.mk ca; have CB := Bx.mk cb; have HW := Bx.mk hw; have HAa := Bx.mk ha; have HBb := Bx.mk hb
  have H1 := Bx.mk h1
  clear h1
  clear ca cb hw ha hb
  rw [insV_eq]
  go_enter Try.func42, Try.ntmps42
  go_upto_region 1 with fail
  go_cut [4, 5] (fun v4 v5 wx => ∃ b4 b5, v4 = .pointer (some ⟨b4, 0, none⟩) ∧ v5 = .pointer (some ⟨b5, 0, none⟩) ∧ w.heap.size < b4 ∧ w.heap.size < b5 ∧ Bx (wx.heap[b4]? = some (cnO a)) ∧ Bx (wx.heap[b5]? = some (cnO b)) ∧ Bx (w.heap.size + 1 ≤ b4 ∧ w.heap.size + 1 ≤ b5) ∧ Bx (Below (w.heap.size + 1) (w.alloc (.cells #[.int .i64 x.op, .int .i64 x.rd, .int .i64 x.loc, .bool x.ar, .int .u64 x.an, .bool x.br, .int .u64 x.bn, .bool x.acq, .bool x.rel, .int .i64 x.dep, .int .i64 x.pred, .int .i64 x.succ, .int .i64 x.skip] 84)) wx))
  case first =>
    generalize hE : (w.alloc (.cells #[.int .i64 x.op, .int .i64 x.rd, .int .i64 x.loc, .bool x.ar, .int .u64 x.an, .bool x.br, .int .u64 x.bn, .bool x.acq, .bool x.rel, .int .i64 x.dep, .int .i64 x.pred, .int .i64 x.succ, .int .i64 x.skip] 84)) = E
    have X : E.heap[w.heap.size]? = some (inO x) := by rw [← hE]; exact heap_alloc_new _ _
    have HE : Below w.heap.size w E := by rw [← hE]; exact aset _ _
    have hz : E.heap.size = w.heap.size + 1 := by rw [← hE]; simp
    have x3 := cOf X 3; have x4 := cOf X 4; have x5 := cOf X 5; have x6 := cOf X 6
    simp at x3 x4 x5 x6
    have HWE := Bx.mk (HW.out.bel HE)
    have hEE := Bx.mk hE
    clear hE HE X
    refine wp_region_held_drew (S := fun W => Below E.heap.size E W) (by kernel_rfl) ((Below.refl _ _).drew) (fun hHeld => ?_)
    generalize E.drew = wd at *
    refine wpAnyH_take (i := 0) (v := .pointer (some ⟨K.kb, 0, none⟩)) rfl (by kernel_rfl) (by kernel_rfl) (by kernel_rfl) (fun _ _ _ h => h) (Or.inl ⟨by rfl, fun w' hw' => by have s3 := cBel x3 hw'; have s4 := cBel x4 hw'; have s5 := cBel x5 hw'; have s6 := cBel x6 hw'; go_simp; try rfl⟩) hHeld ?_
    (try simp only [Act.put, List.getElem_toArray, List.setIfInBounds_toArray])
    refine wpAnyH_take (i := 1) (v := .pointer (some ⟨w.heap.size, 3, none⟩)) rfl (by kernel_rfl) (by kernel_rfl) (by kernel_rfl) (fun _ _ _ h => h) (Or.inl ⟨by rfl, fun w' hw' => by have s3 := cBel x3 hw'; have s4 := cBel x4 hw'; have s5 := cBel x5 hw'; have s6 := cBel x6 hw'; go_simp; try rfl⟩) hHeld ?_
    (try simp only [Act.put, List.getElem_toArray])
    refine wpAnyH_take (i := 2) (v := .agg #[.bool x.ar, .int .u64 x.an]) rfl (by kernel_rfl) (by kernel_rfl) (by kernel_rfl) (fun _ _ _ h => h) (Or.inl ⟨by rfl, fun w' hw' => by have s3 := cBel x3 hw'; have s4 := cBel x4 hw'; have s5 := cBel x5 hw'; have s6 := cBel x6 hw'; go_simp; try rfl⟩) hHeld ?_
    (try simp only [Act.put, List.getElem_toArray])
    refine wpAnyH_take (i := 4) (v := .pointer (some ⟨K.kb, 0, none⟩)) rfl (by kernel_rfl) (by kernel_rfl) (by kernel_rfl) (fun _ _ _ h => h) (Or.inl ⟨by rfl, fun w' hw' => by have s3 := cBel x3 hw'; have s4 := cBel x4 hw'; have s5 := cBel x5 hw'; have s6 := cBel x6 hw'; go_simp; try rfl⟩) hHeld ?_
    (try simp only [Act.put, List.getElem_toArray])
    refine wpAnyH_take (i := 5) (v := .pointer (some ⟨w.heap.size, 5, none⟩)) rfl (by kernel_rfl) (by kernel_rfl) (by kernel_rfl) (fun _ _ _ h => h) (Or.inl ⟨by rfl, fun w' hw' => by have s3 := cBel x3 hw'; have s4 := cBel x4 hw'; have s5 := cBel x5 hw'; have s6 := cBel x6 hw'; go_simp; try rfl⟩) hHeld ?_
    (try simp only [Act.put, List.getElem_toArray])
    refine wpAnyH_take (i := 6) (v := .agg #[.bool x.br, .int .u64 x.bn]) rfl (by kernel_rfl) (by kernel_rfl) (by kernel_rfl) (fun _ _ _ h => h) (Or.inl ⟨by rfl, fun w' hw' => by have s3 := cBel x3 hw'; have s4 := cBel x4 hw'; have s5 := cBel x5 hw'; have s6 := cBel x6 hw'; go_simp; try rfl⟩) hHeld ?_
    (try simp only [Act.put, List.getElem_toArray])
    refine wpAnyH_batch0 [3, 7, 8, 9] #[true, true, true, true, true, true, true, true, true, true, false, false] 2
      (fun R a' W => ∃ (v10 v14 v4 v5 : Value) (b4 b5 : Nat), a' = ⟨#[.pointer (some ⟨K.kb, 0, none⟩), (.agg #[.int .i64 x.op, .int .i64 x.rd, .int .i64 x.loc, .bool x.ar, .int .u64 x.an, .bool x.br, .int .u64 x.bn, .bool x.acq, .bool x.rel, .int .i64 x.dep, .int .i64 x.pred, .int .i64 x.succ, .int .i64 x.skip]), undef, .pointer (some ⟨w.heap.size, 0, none⟩), v4, v5, undef, .pointer (some ⟨K.kb, 0, none⟩), .pointer (some ⟨w.heap.size, 3, none⟩), .agg #[.bool x.ar, .int .u64 x.an], v10, .pointer (some ⟨K.kb, 0, none⟩), .pointer (some ⟨w.heap.size, 5, none⟩), .agg #[.bool x.br, .int .u64 x.bn], v14, undef, undef, undef, undef, undef, undef, undef, undef, undef, undef, undef, undef, undef, undef, undef, undef, undef, undef, undef, undef, undef, undef, undef, undef, undef, undef, undef, undef, undef], []⟩ ∧ Two E W R v10 v14 v4 v5 b4 b5 a b) rfl (by kernel_rfl) (by kernel_rfl) (by decide) ⟨undef, undef, undef, undef, 0, 0, rfl, ⟨hHeld, fun h => by simp at h, fun h => by simp at h, fun h => by simp at h, fun h => by simp at h, fun h => by simp at h⟩⟩ ?_ ?_
    · intro i hi R a' W hJ hR
      obtain ⟨v10, v14, v4, v5, b4, b5, rfl, hT⟩ := hJ
      simp only [List.mem_cons, List.not_mem_nil, or_false] at hi
      have HT := Bx.mk hT
      have hHd := hT.bel
      clear hT hHeld x3 x4 x5 x6
      rcases hi with rfl | rfl | rfl | rfl
      · refine wpOp_stepS rfl (fun K' hK => ?_)
        go_simp
        go_at_call 71; ((with_reducible refine (CA.out _ (HWE.out.bel hHd)).mono ?_); rintro e w2 ⟨rfl, b2⟩)
        exact hK.out _ _ ⟨bel hHd b2, _, v14, v4, v5, b4, b5, rfl, HT.out.setA b2 hR⟩
      · refine wpOp_stepS rfl (fun K' hK => ?_)
        go_simp
        go_at_call 71; ((with_reducible refine (CB.out _ (HWE.out.bel hHd)).mono ?_); rintro e w2 ⟨rfl, b2⟩)
        exact hK.out _ _ ⟨bel hHd b2, v10, _, v4, v5, b4, b5, rfl, HT.out.setB b2 hR⟩
      · refine wpOp_stepS rfl (fun K' hK => ?_)
        go_simp
        exact hK.out _ _ ⟨belA hHd _, v10, v14, _, v5, W.heap.size, b5, rfl, HT.out.set4 hR⟩
      · refine wpOp_stepS rfl (fun K' hK => ?_)
        go_simp
        exact hK.out _ _ ⟨belA hHd _, v10, v14, v4, _, b4, W.heap.size, rfl, HT.out.set5 hR⟩
    · intro R a' W hJ h0
      obtain ⟨v10, v14, v4, v5, b4, b5, rfl, hT⟩ := hJ
      obtain ⟨hHd, hA, hB', h4, h5, h45⟩ := hT
      obtain rfl := hA (h0 3 (by simp))
      obtain rfl := hB' (h0 7 (by simp))
      obtain ⟨rfl, g4, e4⟩ := h4 (h0 8 (by simp))
      obtain ⟨rfl, g5, e5⟩ := h5 (h0 9 (by simp))
      have hne := h45 (h0 8 (by simp)) (h0 9 (by simp))
      clear hA hB' h4 h5 h45 h0 hHeld x3 x4 x5 x6
      have y0 := cOf e4 0; have y1 := cOf e4 1; have y2 := cOf e4 2; have z0 := cOf e5 0; have z1 := cOf e5 1; have z2 := cOf e5 2
      have yf0 := tOf e4 0; have yf1 := tOf e4 1; have yf2 := tOf e4 2; have zf0 := tOf e5 0; have zf1 := tOf e5 1; have zf2 := tOf e5 2
      simp at y0 y1 y2 z0 z1 z2
      have hne2 : ¬ b5 = b4 := fun e => hne e.symm
      have E4 := Bx.mk e4; have E5 := Bx.mk e5; have HD := Bx.mk hHd
      clear e4 e5
      refine wpAnyH_ready (rs := [10]) (by kernel_rfl) (by simp) ?_
      refine AllReadyH.cons rfl (fun K' hK => ?_) AllReadyH.nil
      go_simp
      refine hK.out _ _ (belS (belS (belS hHd _ _ g4 _) _ _ g4 _) _ _ g4 _) (fun hHeld => ?_)
      clear hK K'
      refine wpAnyH_ready (rs := [11]) (by kernel_rfl) (by simp) ?_
      refine AllReadyH.cons rfl (fun K' hK => ?_) AllReadyH.nil
      go_simp
      refine hK.out _ _ (belS (belS (belS hHeld _ _ g5 _) _ _ g5 _) _ _ g5 _) (fun hHeld2 => ?_)
      clear hK K'
      refine wpAnyH_done (by kernel_rfl) ?_ _
      go_wp2_with fail
      go_meet
      exact ⟨b4, b5, rfl, rfl, by omega, by omega, ⟨by rw [hset hne, hset hne, hset hne, heapSet' (heapSet' (heapSet' E4.out 0 _) 1 _) 2 _]; rfl⟩, ⟨by rw [heapSet' (heapSet' (heapSet' ((hset hne2).trans ((hset hne2).trans ((hset hne2).trans E5.out))) 0 _) 1 _) 2 _]; rfl⟩, ⟨by omega⟩, ⟨by rw [hEE.out, ← hz]; exact hHeld2⟩⟩
  case rest =>
    obtain ⟨b4, b5, rfl, rfl, g4, g5, h4, h5, gg, hbx⟩ := hcut
    have X : wc.heap[w.heap.size]? = some (inO x) := (hbx.out.block w.heap.size (by omega)).trans (heap_alloc_new w _)
    have x0 := cOf X 0; have x1 := cOf X 1
    simp only [List.getElem?_toArray, List.getElem?_cons_zero, List.getElem?_cons_succ] at x0 x1
    have hwx : Below w.heap.size w wc := (aset w _).trans (hbx.out.mono (by omega))
    have hwc := HW.out.bel hwx
    have y0 := cOf h4.out 0; have y1 := cOf h4.out 1; have y2 := cOf h4.out 2
    have z0 := cOf h5.out 0; have z1 := cOf h5.out 1; have z2 := cOf h5.out 2
    simp only [List.getElem?_toArray, List.getElem?_cons_zero, List.getElem?_cons_succ] at y0 y1 y2 z0 z1 z2
    rw [H1.out] at x0
    obtain ⟨r, hr'⟩ := Int.eq_ofNat_of_zero_le hx.rd.1
    have hr8 : r < 8 := by have := hx.rd.2; omega
    rw [hr'] at x1
    obtain ⟨c0, hc0⟩ : ∃ c0, s.regs[r]? = some c0 := ⟨_, List.getElem?_eq_getElem (by have := hs.regs; omega)⟩
    have q0 := hwc.reg hc0 0 (by decide); have q1 := hwc.reg hc0 1 (by decide); have q2 := hwc.reg hc0 2 (by decide)
    simp only [cnC, List.getElem?_cons_zero, List.getElem?_cons_succ, Nat.add_zero] at q0 q1 q2
    have qf0 := tOf hwc.kb (5 + r * 3); have qf1 := tOf hwc.kb (5 + r * 3 + 1); have qf2 := tOf hwc.kb (5 + r * 3 + 2)
    have hri : (r : Int) < 8 := by omega
    have hr0 : (0 : Int) ≤ (r : Int) := by omega
    have HWC := Bx.mk hwc; have HWX := Bx.mk hwx; have HR := Bx.mk hr'; have HX := Bx.mk X
    clear hwc hwx X hr' hc0 hbx
    go_wp2_with fail
    go_still_tail 7, (by kernel_rfl)
    change wpList _ _ _ _ _ wc.drew
    go_wp2_with fail
    refine bodyPost_ret (results_none rfl _ _ _) rfl ⟨rfl, ?_, ?_⟩
    · have e : compM s x = setM s r a := by
        unfold compM
        rw [if_pos H1.out, HAa.out, HR.out]; rfl
      rw [e]
      exact (HWC.out.setReg ok r a (by have := hs.regs; omega)).drew
    · exact ((((Fp.ofBel HWX.out).set 0 (by decide) _ _).set 0 (by decide) _ _).set 0 (by decide) _ _).drew
set_option maxHeartbeats 6400000 in
theorem compute_op (B : Nat) (K : WkB) (ok : KOk B K) (n m : Nat) (s : WkM) (hs : WkOk n m s) (x : Ins) (hx : InsN x) (w : World) (hw : WkIn w K n m s) (h1 : x.op ≠ 1) :
    Calls Try.prog 42 #[.pointer (some ⟨K.kb, 0, none⟩), insV x] w fun e w' => e = .returned (.tuple #[]) ∧ WkIn w' K n m (compM s x) ∧ Fp K w w' := by
  have ca := fun W (h : WkIn W K n m s) => arg_ins K n m s hs.regs x.ar x.an hx.an.1 hx.ar W h
  have cb := fun W (h : WkIn W K n m s) => arg_ins K n m s hs.regs x.br x.bn hx.bn.1 hx.br W h
  have hao := arg_ok hs.rok x.ar x.an.toNat (by have := hx.an; omega)
  have hbo := arg_ok hs.rok x.br x.bn.toNat (by have := hx.bn; omega)
  have hkl := ltOf hw.kb
  generalize ha : argM s x.ar x.an.toNat = a at *
  generalize hb : argM s x.br x.bn.toNat = b at *
  have CA := Bx.mk ca; have CB := Bx.mk cb; have HW := Bx.mk hw; have HAa := Bx.mk ha; have HBb := Bx.mk hb
  have H1 := Bx.mk h1
  clear h1
  clear ca cb hw ha hb
  rw [insV_eq]
  go_enter Try.func42, Try.ntmps42
  go_upto_region 1 with fail
  go_cut [4, 5] (fun v4 v5 wx => ∃ b4 b5, v4 = .pointer (some ⟨b4, 0, none⟩) ∧ v5 = .pointer (some ⟨b5, 0, none⟩) ∧ w.heap.size < b4 ∧ w.heap.size < b5 ∧ Bx (wx.heap[b4]? = some (cnO a)) ∧ Bx (wx.heap[b5]? = some (cnO b)) ∧ Bx (w.heap.size + 1 ≤ b4 ∧ w.heap.size + 1 ≤ b5) ∧ Bx (Below (w.heap.size + 1) (w.alloc (.cells #[.int .i64 x.op, .int .i64 x.rd, .int .i64 x.loc, .bool x.ar, .int .u64 x.an, .bool x.br, .int .u64 x.bn, .bool x.acq, .bool x.rel, .int .i64 x.dep, .int .i64 x.pred, .int .i64 x.succ, .int .i64 x.skip] 84)) wx))
  case first =>
    generalize hE : (w.alloc (.cells #[.int .i64 x.op, .int .i64 x.rd, .int .i64 x.loc, .bool x.ar, .int .u64 x.an, .bool x.br, .int .u64 x.bn, .bool x.acq, .bool x.rel, .int .i64 x.dep, .int .i64 x.pred, .int .i64 x.succ, .int .i64 x.skip] 84)) = E
    have X : E.heap[w.heap.size]? = some (inO x) := by rw [← hE]; exact heap_alloc_new _ _
    have HE : Below w.heap.size w E := by rw [← hE]; exact aset _ _
    have hz : E.heap.size = w.heap.size + 1 := by rw [← hE]; simp
    have x3 := cOf X 3; have x4 := cOf X 4; have x5 := cOf X 5; have x6 := cOf X 6
    simp at x3 x4 x5 x6
    have HWE := Bx.mk (HW.out.bel HE)
    have hEE := Bx.mk hE
    clear hE HE X
    refine wp_region_held_drew (S := fun W => Below E.heap.size E W) (by kernel_rfl) ((Below.refl _ _).drew) (fun hHeld => ?_)
    generalize E.drew = wd at *
    refine wpAnyH_take (i := 0) (v := .pointer (some ⟨K.kb, 0, none⟩)) rfl (by kernel_rfl) (by kernel_rfl) (by kernel_rfl) (fun _ _ _ h => h) (Or.inl ⟨by rfl, fun w' hw' => by have s3 := cBel x3 hw'; have s4 := cBel x4 hw'; have s5 := cBel x5 hw'; have s6 := cBel x6 hw'; go_simp; try rfl⟩) hHeld ?_
    (try simp only [Act.put, List.getElem_toArray, List.setIfInBounds_toArray])
    refine wpAnyH_take (i := 1) (v := .pointer (some ⟨w.heap.size, 3, none⟩)) rfl (by kernel_rfl) (by kernel_rfl) (by kernel_rfl) (fun _ _ _ h => h) (Or.inl ⟨by rfl, fun w' hw' => by have s3 := cBel x3 hw'; have s4 := cBel x4 hw'; have s5 := cBel x5 hw'; have s6 := cBel x6 hw'; go_simp; try rfl⟩) hHeld ?_
    (try simp only [Act.put, List.getElem_toArray])
    refine wpAnyH_take (i := 2) (v := .agg #[.bool x.ar, .int .u64 x.an]) rfl (by kernel_rfl) (by kernel_rfl) (by kernel_rfl) (fun _ _ _ h => h) (Or.inl ⟨by rfl, fun w' hw' => by have s3 := cBel x3 hw'; have s4 := cBel x4 hw'; have s5 := cBel x5 hw'; have s6 := cBel x6 hw'; go_simp; try rfl⟩) hHeld ?_
    (try simp only [Act.put, List.getElem_toArray])
    refine wpAnyH_take (i := 4) (v := .pointer (some ⟨K.kb, 0, none⟩)) rfl (by kernel_rfl) (by kernel_rfl) (by kernel_rfl) (fun _ _ _ h => h) (Or.inl ⟨by rfl, fun w' hw' => by have s3 := cBel x3 hw'; have s4 := cBel x4 hw'; have s5 := cBel x5 hw'; have s6 := cBel x6 hw'; go_simp; try rfl⟩) hHeld ?_
    (try simp only [Act.put, List.getElem_toArray])
    refine wpAnyH_take (i := 5) (v := .pointer (some ⟨w.heap.size, 5, none⟩)) rfl (by kernel_rfl) (by kernel_rfl) (by kernel_rfl) (fun _ _ _ h => h) (Or.inl ⟨by rfl, fun w' hw' => by have s3 := cBel x3 hw'; have s4 := cBel x4 hw'; have s5 := cBel x5 hw'; have s6 := cBel x6 hw'; go_simp; try rfl⟩) hHeld ?_
    (try simp only [Act.put, List.getElem_toArray])
    refine wpAnyH_take (i := 6) (v := .agg #[.bool x.br, .int .u64 x.bn]) rfl (by kernel_rfl) (by kernel_rfl) (by kernel_rfl) (fun _ _ _ h => h) (Or.inl ⟨by rfl, fun w' hw' => by have s3 := cBel x3 hw'; have s4 := cBel x4 hw'; have s5 := cBel x5 hw'; have s6 := cBel x6 hw'; go_simp; try rfl⟩) hHeld ?_
    (try simp only [Act.put, List.getElem_toArray])
    refine wpAnyH_batch0 [3, 7, 8, 9] #[true, true, true, true, true, true, true, true, true, true, false, false] 2
      (fun R a' W => ∃ (v10 v14 v4 v5 : Value) (b4 b5 : Nat), a' = ⟨#[.pointer (some ⟨K.kb, 0, none⟩), (.agg #[.int .i64 x.op, .int .i64 x.rd, .int .i64 x.loc, .bool x.ar, .int .u64 x.an, .bool x.br, .int .u64 x.bn, .bool x.acq, .bool x.rel, .int .i64 x.dep, .int .i64 x.pred, .int .i64 x.succ, .int .i64 x.skip]), undef, .pointer (some ⟨w.heap.size, 0, none⟩), v4, v5, undef, .pointer (some ⟨K.kb, 0, none⟩), .pointer (some ⟨w.heap.size, 3, none⟩), .agg #[.bool x.ar, .int .u64 x.an], v10, .pointer (some ⟨K.kb, 0, none⟩), .pointer (some ⟨w.heap.size, 5, none⟩), .agg #[.bool x.br, .int .u64 x.bn], v14, undef, undef, undef, undef, undef, undef, undef, undef, undef, undef, undef, undef, undef, undef, undef, undef, undef, undef, undef, undef, undef, undef, undef, undef, undef, undef, undef, undef, undef], []⟩ ∧ Two E W R v10 v14 v4 v5 b4 b5 a b) rfl (by kernel_rfl) (by kernel_rfl) (by decide) ⟨undef, undef, undef, undef, 0, 0, rfl, ⟨hHeld, fun h => by simp at h, fun h => by simp at h, fun h => by simp at h, fun h => by simp at h, fun h => by simp at h⟩⟩ ?_ ?_
    · intro i hi R a' W hJ hR
      obtain ⟨v10, v14, v4, v5, b4, b5, rfl, hT⟩ := hJ
      simp only [List.mem_cons, List.not_mem_nil, or_false] at hi
      have HT := Bx.mk hT
      have hHd := hT.bel
      clear hT hHeld x3 x4 x5 x6
      rcases hi with rfl | rfl | rfl | rfl
      · refine wpOp_stepS rfl (fun K' hK => ?_)
        go_simp
        go_at_call 71; ((with_reducible refine (CA.out _ (HWE.out.bel hHd)).mono ?_); rintro e w2 ⟨rfl, b2⟩)
        exact hK.out _ _ ⟨bel hHd b2, _, v14, v4, v5, b4, b5, rfl, HT.out.setA b2 hR⟩
      · refine wpOp_stepS rfl (fun K' hK => ?_)
        go_simp
        go_at_call 71; ((with_reducible refine (CB.out _ (HWE.out.bel hHd)).mono ?_); rintro e w2 ⟨rfl, b2⟩)
        exact hK.out _ _ ⟨bel hHd b2, v10, _, v4, v5, b4, b5, rfl, HT.out.setB b2 hR⟩
      · refine wpOp_stepS rfl (fun K' hK => ?_)
        go_simp
        exact hK.out _ _ ⟨belA hHd _, v10, v14, _, v5, W.heap.size, b5, rfl, HT.out.set4 hR⟩
      · refine wpOp_stepS rfl (fun K' hK => ?_)
        go_simp
        exact hK.out _ _ ⟨belA hHd _, v10, v14, v4, _, b4, W.heap.size, rfl, HT.out.set5 hR⟩
    · intro R a' W hJ h0
      obtain ⟨v10, v14, v4, v5, b4, b5, rfl, hT⟩ := hJ
      obtain ⟨hHd, hA, hB', h4, h5, h45⟩ := hT
      obtain rfl := hA (h0 3 (by simp))
      obtain rfl := hB' (h0 7 (by simp))
      obtain ⟨rfl, g4, e4⟩ := h4 (h0 8 (by simp))
      obtain ⟨rfl, g5, e5⟩ := h5 (h0 9 (by simp))
      have hne := h45 (h0 8 (by simp)) (h0 9 (by simp))
      clear hA hB' h4 h5 h45 h0 hHeld x3 x4 x5 x6
      have y0 := cOf e4 0; have y1 := cOf e4 1; have y2 := cOf e4 2; have z0 := cOf e5 0; have z1 := cOf e5 1; have z2 := cOf e5 2
      have yf0 := tOf e4 0; have yf1 := tOf e4 1; have yf2 := tOf e4 2; have zf0 := tOf e5 0; have zf1 := tOf e5 1; have zf2 := tOf e5 2
      simp at y0 y1 y2 z0 z1 z2
      have hne2 : ¬ b5 = b4 := fun e => hne e.symm
      have E4 := Bx.mk e4; have E5 := Bx.mk e5; have HD := Bx.mk hHd
      clear e4 e5
      refine wpAnyH_ready (rs := [10]) (by kernel_rfl) (by simp) ?_
      refine AllReadyH.cons rfl (fun K' hK => ?_) AllReadyH.nil
      go_simp
      refine hK.out _ _ (belS (belS (belS hHd _ _ g4 _) _ _ g4 _) _ _ g4 _) (fun hHeld => ?_)
      clear hK K'
      refine wpAnyH_ready (rs := [11]) (by kernel_rfl) (by simp) ?_
      refine AllReadyH.cons rfl (fun K' hK => ?_) AllReadyH.nil
      go_simp
      refine hK.out _ _ (belS (belS (belS hHeld _ _ g5 _) _ _ g5 _) _ _ g5 _) (fun hHeld2 => ?_)
      clear hK K'
      refine wpAnyH_done (by kernel_rfl) ?_ _
      go_wp2_with fail
      go_meet
      exact ⟨b4, b5, rfl, rfl, by omega, by omega, ⟨by rw [hset hne, hset hne, hset hne, heapSet' (heapSet' (heapSet' E4.out 0 _) 1 _) 2 _]; rfl⟩, ⟨by rw [heapSet' (heapSet' (heapSet' ((hset hne2).trans ((hset hne2).trans ((hset hne2).trans E5.out))) 0 _) 1 _) 2 _]; rfl⟩, ⟨by omega⟩, ⟨by rw [hEE.out, ← hz]; exact hHeld2⟩⟩
  case rest =>
    obtain ⟨b4, b5, rfl, rfl, g4, g5, h4, h5, gg, hbx⟩ := hcut
    have X : wc.heap[w.heap.size]? = some (inO x) := (hbx.out.block w.heap.size (by omega)).trans (heap_alloc_new w _)
    have x0 := cOf X 0; have x1 := cOf X 1
    simp only [List.getElem?_toArray, List.getElem?_cons_zero, List.getElem?_cons_succ] at x0 x1
    have hwx : Below w.heap.size w wc := (aset w _).trans (hbx.out.mono (by omega))
    have hwc := HW.out.bel hwx
    have y0 := cOf h4.out 0; have y1 := cOf h4.out 1; have y2 := cOf h4.out 2
    have z0 := cOf h5.out 0; have z1 := cOf h5.out 1; have z2 := cOf h5.out 2
    simp only [List.getElem?_toArray, List.getElem?_cons_zero, List.getElem?_cons_succ] at y0 y1 y2 z0 z1 z2
    have hop : (x.op == 1) = false := by rw [beq_eq_false_iff_ne]; exact H1.out
    obtain ⟨r, hr'⟩ := Int.eq_ofNat_of_zero_le hx.rd.1
    have hr8 : r < 8 := by have := hx.rd.2; omega
    rw [hr'] at x1
    obtain ⟨c0, hc0⟩ : ∃ c0, s.regs[r]? = some c0 := ⟨_, List.getElem?_eq_getElem (by have := hs.regs; omega)⟩
    have q0 := hwc.reg hc0 0 (by decide); have q1 := hwc.reg hc0 1 (by decide); have q2 := hwc.reg hc0 2 (by decide)
    simp only [cnC, List.getElem?_cons_zero, List.getElem?_cons_succ, Nat.add_zero] at q0 q1 q2
    have qf0 := tOf hwc.kb (5 + r * 3); have qf1 := tOf hwc.kb (5 + r * 3 + 1); have qf2 := tOf hwc.kb (5 + r * 3 + 2)
    have hri : (r : Int) < 8 := by omega
    have hr0 : (0 : Int) ≤ (r : Int) := by omega
    have HWC := Bx.mk hwc; have HWX := Bx.mk hwx; have HR := Bx.mk hr'; have HX := Bx.mk X
    clear hwc hwx X hr' hc0 hbx
    have cc := fun (W : World) (h : Below wc.heap.size wc W) => comb_reck w.heap.size x.op (a.k, a.v) (b.k, b.v) hao.v hbo.v W (cBel x0 h)
    have e0 : combM ((argM s x.ar x.an.toNat).k, (argM s x.ar x.an.toNat).v) ((argM s x.br x.bn.toNat).k, (argM s x.br x.bn.toNat).v) (reckM x.op) = combM (a.k, a.v) (b.k, b.v) (reckM x.op) := by rw [HAa.out, HBb.out]
    have e : compM s x = setM s r ⟨(combM (a.k, a.v) (b.k, b.v) (reckM x.op)).1, (combM (a.k, a.v) (b.k, b.v) (reckM x.op)).2, a.f ||| b.f⟩ := by
      unfold compM
      rw [if_neg H1.out, e0, HAa.out, HBb.out, HR.out]; rfl
    generalize combM (a.k, a.v) (b.k, b.v) (reckM x.op) = cr at *
    have CC := Bx.mk cc; have EE := Bx.mk e
    have H4 := h4; have H5 := h5; have hgg := gg.out
    clear cc e e0 h4 h5
    go_upto_region 5 with (go_at_call 72; ((with_reducible refine (CC.out _ (Below.refl _ _)).mono ?_); rintro e w2 ⟨rfl, b2⟩; have B2 := Bx.mk b2; clear b2))
    obtain ⟨W, hW⟩ : ∃ W, W = w2.alloc (.cells #[.bool cr.1, .int .u64 (cr.2 : Int)] 74) := ⟨_, rfl⟩
    have bW : Below wc.heap.size wc W := by rw [hW]; exact B2.out.alloc B2.out.size _
    have v0 : W.cell? ⟨w2.heap.size, 0, none⟩ = some (.bool cr.1) := by rw [hW, cOf (heap_alloc_new _ _)]; rfl
    have v1 : W.cell? ⟨w2.heap.size, 1, none⟩ = some (.int .u64 (cr.2 : Int)) := by rw [hW, cOf (heap_alloc_new _ _)]; rfl
    have x1 := cBel x1 bW; have y2 := cBel y2 bW; have z2 := cBel z2 bW
    have hwc := HWC.out.bel bW
    have q0 := cBel q0 bW; have q1 := cBel q1 bW; have q2 := cBel q2 bW
    have qf0 := tOf hwc.kb (5 + r * 3); have qf1 := tOf hwc.kb (5 + r * 3 + 1); have qf2 := tOf hwc.kb (5 + r * 3 + 2)
    rw [← hW]
    have HWW := Bx.mk hwc; have BW := Bx.mk (bel HWX.out bW)
    clear hW bW hwc HWC HWX B2 x0 y0 y1 z0 z1
    go_still_tail 13, (by kernel_rfl)
    change wpList _ _ _ _ _ W.drew
    go_wp2_with fail
    refine bodyPost_end (results_none rfl _ _ _) rfl ⟨rfl, ?_, ?_⟩
    · rw [EE.out, bitsOr hao.f hbo.f]
      exact (HWW.out.setReg ok r ⟨cr.1, cr.2, a.f ||| b.f⟩ (by have := hs.regs; omega)).drew
    · exact ((((Fp.ofBel BW.out).set 0 (by decide) _ _).set 0 (by decide) _ _).set 0 (by decide) _ _).drew
theorem wk_tail (K : WkB) (s : WkM) (hr : s.regs.length = 8) (j : Nat) (v : Value) : (wkC K s).toArray.setIfInBounds (29 + j) v = ([.pointer (some ⟨K.fb, 0, none⟩), K.ops, K.reads, K.works, .int .i64 (K.thr : Int)] ++ cC s.regs ++ ([.int .u64 (s.path : Int), .int .i64 (s.lrOp : Int), .int .i64 s.lrLoc] : List Value).set j v).toArray := by
  have hl := cC_len s.regs
  have e : (wkC K s).set (29 + j) v = [.pointer (some ⟨K.fb, 0, none⟩), K.ops, K.reads, K.works, .int .i64 (K.thr : Int)] ++ cC s.regs ++ ([.int .u64 (s.path : Int), .int .i64 (s.lrOp : Int), .int .i64 s.lrLoc] : List Value).set j v := by
    unfold wkC
    rw [List.set_append_right _ _ (by simp; omega)]
    congr 2
    simp; omega
  rw [← e]; simp
theorem WkIn.setPath {W : World} {K : WkB} {B n m : Nat} {s : WkM} (ok : KOk B K) (h : WkIn W K n m s) (hr : s.regs.length = 8) (p : Nat) : WkIn (W.setCell ⟨K.kb, 29, none⟩ (.int .u64 (p : Int))) K n m { s with path := p } :=
  h.setK ok (fun b hb => hset hb) (by rw [heapSet' h.kb, wk_tail K s hr 0]; rfl) ⟨rfl, rfl, rfl, rfl, rfl, rfl, rfl⟩
theorem WkIn.setLr {W : World} {K : WkB} {B n m : Nat} {s : WkM} (ok : KOk B K) (h : WkIn W K n m s) (hr : s.regs.length = 8) (p : Nat) (l : Int) : WkIn ((W.setCell ⟨K.kb, 30, none⟩ (.int .i64 (p : Int))).setCell ⟨K.kb, 31, none⟩ (.int .i64 l)) K n m { s with lrOp := p, lrLoc := l } :=
  h.setK ok (fun b hb => (hset hb).trans (hset hb)) (by
    have e1 := heapSet' h.kb 30 (.int .i64 (p : Int))
    rw [wk_tail K s hr 1] at e1
    have e2 : wkC K { s with lrOp := p } = [.pointer (some ⟨K.fb, 0, none⟩), K.ops, K.reads, K.works, .int .i64 (K.thr : Int)] ++ cC s.regs ++ ([.int .u64 (s.path : Int), .int .i64 (s.lrOp : Int), .int .i64 s.lrLoc] : List Value).set 1 (.int .i64 (p : Int)) := rfl
    rw [← e2] at e1
    rw [heapSet' e1, wk_tail K { s with lrOp := p } hr 2]; rfl) ⟨rfl, rfl, rfl, rfl, rfl, rfl, rfl⟩
set_option maxHeartbeats 6400000 in
theorem branch_any (B : Nat) (K : WkB) (ok : KOk B K) (n m : Nat) (s : WkM) (hs : WkOk n m s) (x : Ins) (hx : InsN x) (w : World) (hw : WkIn w K n m s) :
    Calls Try.prog 41 #[.pointer (some ⟨K.kb, 0, none⟩), insV x] w fun e w' => e = .returned (.agg #[.bool (brVal s x).1, .int .u64 ((brVal s x).2 : Int)]) ∧ WkIn w' K n m (brPath s x) ∧ Fp K w w' := by
  have ca := fun W (h : WkIn W K n m s) => arg_ins K n m s hs.regs x.ar x.an hx.an.1 hx.ar W h
  have cb := fun W (h : WkIn W K n m s) => arg_ins K n m s hs.regs x.br x.bn hx.bn.1 hx.br W h
  have hao := arg_ok hs.rok x.ar x.an.toNat (by have := hx.an; omega)
  have hbo := arg_ok hs.rok x.br x.bn.toNat (by have := hx.bn; omega)
  have hkl := ltOf hw.kb
  generalize ha : argM s x.ar x.an.toNat = a at *
  generalize hb : argM s x.br x.bn.toNat = b at *
  have CA := Bx.mk ca; have CB := Bx.mk cb; have HW := Bx.mk hw; have HAa := Bx.mk ha; have HBb := Bx.mk hb
  clear ca cb hw ha hb
  rw [insV_eq]
  go_enter Try.func41, Try.ntmps41
  go_upto_region 1 with fail
  go_cut [5, 6] (fun v4 v5 wx => ∃ b4 b5, v4 = .pointer (some ⟨b4, 0, none⟩) ∧ v5 = .pointer (some ⟨b5, 0, none⟩) ∧ w.heap.size < b4 ∧ w.heap.size < b5 ∧ Bx (wx.heap[b4]? = some (cnO a)) ∧ Bx (wx.heap[b5]? = some (cnO b)) ∧ Bx (w.heap.size + 2 ≤ b4 ∧ w.heap.size + 2 ≤ b5) ∧ Bx (Below (w.heap.size + 2) ((w.alloc (.cells #[.int .i64 x.op, .int .i64 x.rd, .int .i64 x.loc, .bool x.ar, .int .u64 x.an, .bool x.br, .int .u64 x.bn, .bool x.acq, .bool x.rel, .int .i64 x.dep, .int .i64 x.pred, .int .i64 x.succ, .int .i64 x.skip] 84)).alloc (.cells #[.bool false, .int .u64 0] 74)) wx))
  case first =>
    generalize hE : ((w.alloc (.cells #[.int .i64 x.op, .int .i64 x.rd, .int .i64 x.loc, .bool x.ar, .int .u64 x.an, .bool x.br, .int .u64 x.bn, .bool x.acq, .bool x.rel, .int .i64 x.dep, .int .i64 x.pred, .int .i64 x.succ, .int .i64 x.skip] 84)).alloc (.cells #[.bool false, .int .u64 0] 74)) = E
    have X : E.heap[w.heap.size]? = some (inO x) := by rw [← hE]; exact ((aset (w.alloc (.cells #[.int .i64 x.op, .int .i64 x.rd, .int .i64 x.loc, .bool x.ar, .int .u64 x.an, .bool x.br, .int .u64 x.bn, .bool x.acq, .bool x.rel, .int .i64 x.dep, .int .i64 x.pred, .int .i64 x.succ, .int .i64 x.skip] 84)) _).block _ (by simp)).trans (heap_alloc_new w _)
    have HE : Below w.heap.size w E := by rw [← hE]; exact (aset _ _).alloc (by simp) _
    have hz : E.heap.size = w.heap.size + 2 := by rw [← hE]; simp
    have x3 := cOf X 3; have x4 := cOf X 4; have x5 := cOf X 5; have x6 := cOf X 6
    simp at x3 x4 x5 x6
    have HWE := Bx.mk (HW.out.bel HE)
    have hEE := Bx.mk hE
    clear hE HE X
    refine wp_region_held_drew (S := fun W => Below E.heap.size E W) (by kernel_rfl) ((Below.refl _ _).drew) (fun hHeld => ?_)
    generalize E.drew = wd at *
    refine wpAnyH_take (i := 0) (v := .pointer (some ⟨K.kb, 0, none⟩)) rfl (by kernel_rfl) (by kernel_rfl) (by kernel_rfl) (fun _ _ _ h => h) (Or.inl ⟨by rfl, fun w' hw' => by have s3 := cBel x3 hw'; have s4 := cBel x4 hw'; have s5 := cBel x5 hw'; have s6 := cBel x6 hw'; go_simp; try rfl⟩) hHeld ?_
    (try simp only [Act.put, List.getElem_toArray, List.setIfInBounds_toArray])
    refine wpAnyH_take (i := 1) (v := .pointer (some ⟨w.heap.size, 3, none⟩)) rfl (by kernel_rfl) (by kernel_rfl) (by kernel_rfl) (fun _ _ _ h => h) (Or.inl ⟨by rfl, fun w' hw' => by have s3 := cBel x3 hw'; have s4 := cBel x4 hw'; have s5 := cBel x5 hw'; have s6 := cBel x6 hw'; go_simp; try rfl⟩) hHeld ?_
    (try simp only [Act.put, List.getElem_toArray])
    refine wpAnyH_take (i := 2) (v := .agg #[.bool x.ar, .int .u64 x.an]) rfl (by kernel_rfl) (by kernel_rfl) (by kernel_rfl) (fun _ _ _ h => h) (Or.inl ⟨by rfl, fun w' hw' => by have s3 := cBel x3 hw'; have s4 := cBel x4 hw'; have s5 := cBel x5 hw'; have s6 := cBel x6 hw'; go_simp; try rfl⟩) hHeld ?_
    (try simp only [Act.put, List.getElem_toArray])
    refine wpAnyH_take (i := 4) (v := .pointer (some ⟨K.kb, 0, none⟩)) rfl (by kernel_rfl) (by kernel_rfl) (by kernel_rfl) (fun _ _ _ h => h) (Or.inl ⟨by rfl, fun w' hw' => by have s3 := cBel x3 hw'; have s4 := cBel x4 hw'; have s5 := cBel x5 hw'; have s6 := cBel x6 hw'; go_simp; try rfl⟩) hHeld ?_
    (try simp only [Act.put, List.getElem_toArray])
    refine wpAnyH_take (i := 5) (v := .pointer (some ⟨w.heap.size, 5, none⟩)) rfl (by kernel_rfl) (by kernel_rfl) (by kernel_rfl) (fun _ _ _ h => h) (Or.inl ⟨by rfl, fun w' hw' => by have s3 := cBel x3 hw'; have s4 := cBel x4 hw'; have s5 := cBel x5 hw'; have s6 := cBel x6 hw'; go_simp; try rfl⟩) hHeld ?_
    (try simp only [Act.put, List.getElem_toArray])
    refine wpAnyH_take (i := 6) (v := .agg #[.bool x.br, .int .u64 x.bn]) rfl (by kernel_rfl) (by kernel_rfl) (by kernel_rfl) (fun _ _ _ h => h) (Or.inl ⟨by rfl, fun w' hw' => by have s3 := cBel x3 hw'; have s4 := cBel x4 hw'; have s5 := cBel x5 hw'; have s6 := cBel x6 hw'; go_simp; try rfl⟩) hHeld ?_
    (try simp only [Act.put, List.getElem_toArray])
    refine wpAnyH_batch0 [3, 7, 8, 9] #[true, true, true, true, true, true, true, true, true, true, false, false] 2
      (fun R a' W => ∃ (v10 v14 v4 v5 : Value) (b4 b5 : Nat), a' = ⟨#[.pointer (some ⟨K.kb, 0, none⟩), (.agg #[.int .i64 x.op, .int .i64 x.rd, .int .i64 x.loc, .bool x.ar, .int .u64 x.an, .bool x.br, .int .u64 x.bn, .bool x.acq, .bool x.rel, .int .i64 x.dep, .int .i64 x.pred, .int .i64 x.succ, .int .i64 x.skip]), undef, .pointer (some ⟨w.heap.size, 0, none⟩), .pointer (some ⟨w.heap.size + 1, 0, none⟩), v4, v5, .pointer (some ⟨K.kb, 0, none⟩), .pointer (some ⟨w.heap.size, 3, none⟩), .agg #[.bool x.ar, .int .u64 x.an], v10, .pointer (some ⟨K.kb, 0, none⟩), .pointer (some ⟨w.heap.size, 5, none⟩), .agg #[.bool x.br, .int .u64 x.bn], v14, undef, undef, undef, undef, undef, undef, undef, undef, undef, undef, undef, undef, undef, undef, undef, undef, undef, undef], []⟩ ∧ Two E W R v10 v14 v4 v5 b4 b5 a b) rfl (by kernel_rfl) (by kernel_rfl) (by decide) ⟨undef, undef, undef, undef, 0, 0, rfl, ⟨hHeld, fun h => by simp at h, fun h => by simp at h, fun h => by simp at h, fun h => by simp at h, fun h => by simp at h⟩⟩ ?_ ?_
    · intro i hi R a' W hJ hR
      obtain ⟨v10, v14, v4, v5, b4, b5, rfl, hT⟩ := hJ
      simp only [List.mem_cons, List.not_mem_nil, or_false] at hi
      have HT := Bx.mk hT
      have hHd := hT.bel
      clear hT hHeld x3 x4 x5 x6
      rcases hi with rfl | rfl | rfl | rfl
      · refine wpOp_stepS rfl (fun K' hK => ?_)
        go_simp
        go_at_call 71; ((with_reducible refine (CA.out _ (HWE.out.bel hHd)).mono ?_); rintro e w2 ⟨rfl, b2⟩)
        exact hK.out _ _ ⟨bel hHd b2, _, v14, v4, v5, b4, b5, rfl, HT.out.setA b2 hR⟩
      · refine wpOp_stepS rfl (fun K' hK => ?_)
        go_simp
        go_at_call 71; ((with_reducible refine (CB.out _ (HWE.out.bel hHd)).mono ?_); rintro e w2 ⟨rfl, b2⟩)
        exact hK.out _ _ ⟨bel hHd b2, v10, _, v4, v5, b4, b5, rfl, HT.out.setB b2 hR⟩
      · refine wpOp_stepS rfl (fun K' hK => ?_)
        go_simp
        exact hK.out _ _ ⟨belA hHd _, v10, v14, _, v5, W.heap.size, b5, rfl, HT.out.set4 hR⟩
      · refine wpOp_stepS rfl (fun K' hK => ?_)
        go_simp
        exact hK.out _ _ ⟨belA hHd _, v10, v14, v4, _, b4, W.heap.size, rfl, HT.out.set5 hR⟩
    · intro R a' W hJ h0
      obtain ⟨v10, v14, v4, v5, b4, b5, rfl, hT⟩ := hJ
      obtain ⟨hHd, hA, hB', h4, h5, h45⟩ := hT
      obtain rfl := hA (h0 3 (by simp))
      obtain rfl := hB' (h0 7 (by simp))
      obtain ⟨rfl, g4, e4⟩ := h4 (h0 8 (by simp))
      obtain ⟨rfl, g5, e5⟩ := h5 (h0 9 (by simp))
      have hne := h45 (h0 8 (by simp)) (h0 9 (by simp))
      clear hA hB' h4 h5 h45 h0 hHeld x3 x4 x5 x6
      have y0 := cOf e4 0; have y1 := cOf e4 1; have y2 := cOf e4 2; have z0 := cOf e5 0; have z1 := cOf e5 1; have z2 := cOf e5 2
      have yf0 := tOf e4 0; have yf1 := tOf e4 1; have yf2 := tOf e4 2; have zf0 := tOf e5 0; have zf1 := tOf e5 1; have zf2 := tOf e5 2
      simp at y0 y1 y2 z0 z1 z2
      have hne2 : ¬ b5 = b4 := fun e => hne e.symm
      have E4 := Bx.mk e4; have E5 := Bx.mk e5; have HD := Bx.mk hHd
      clear e4 e5
      refine wpAnyH_ready (rs := [10]) (by kernel_rfl) (by simp) ?_
      refine AllReadyH.cons rfl (fun K' hK => ?_) AllReadyH.nil
      go_simp
      refine hK.out _ _ (belS (belS (belS hHd _ _ g4 _) _ _ g4 _) _ _ g4 _) (fun hHeld => ?_)
      clear hK K'
      refine wpAnyH_ready (rs := [11]) (by kernel_rfl) (by simp) ?_
      refine AllReadyH.cons rfl (fun K' hK => ?_) AllReadyH.nil
      go_simp
      refine hK.out _ _ (belS (belS (belS hHeld _ _ g5 _) _ _ g5 _) _ _ g5 _) (fun hHeld2 => ?_)
      clear hK K'
      refine wpAnyH_done (by kernel_rfl) ?_ _
      go_wp2_with fail
      go_meet
      exact ⟨b4, b5, rfl, rfl, by omega, by omega, ⟨by rw [hset hne, hset hne, hset hne, heapSet' (heapSet' (heapSet' E4.out 0 _) 1 _) 2 _]; rfl⟩, ⟨by rw [heapSet' (heapSet' (heapSet' ((hset hne2).trans ((hset hne2).trans ((hset hne2).trans E5.out))) 0 _) 1 _) 2 _]; rfl⟩, ⟨by omega⟩, ⟨by rw [hEE.out, ← hz]; exact hHeld2⟩⟩
  case rest =>
    obtain ⟨b4, b5, rfl, rfl, g4, g5, h4, h5, gg, hbx⟩ := hcut
    have X : wc.heap[w.heap.size]? = some (inO x) := (hbx.out.block w.heap.size (by omega)).trans (((aset (w.alloc (.cells #[.int .i64 x.op, .int .i64 x.rd, .int .i64 x.loc, .bool x.ar, .int .u64 x.an, .bool x.br, .int .u64 x.bn, .bool x.acq, .bool x.rel, .int .i64 x.dep, .int .i64 x.pred, .int .i64 x.succ, .int .i64 x.skip] 84)) _).block _ (by simp)).trans (heap_alloc_new w _))
    have x0 := cOf X 0; have x1 := cOf X 1
    simp only [List.getElem?_toArray, List.getElem?_cons_zero, List.getElem?_cons_succ] at x0 x1
    have hwx : Below w.heap.size w wc := ((aset w _).alloc (by simp) _).trans (hbx.out.mono (by omega))
    have hwc := HW.out.bel hwx
    have y0 := cOf h4.out 0; have y1 := cOf h4.out 1; have y2 := cOf h4.out 2
    have z0 := cOf h5.out 0; have z1 := cOf h5.out 1; have z2 := cOf h5.out 2
    simp only [List.getElem?_toArray, List.getElem?_cons_zero, List.getElem?_cons_succ] at y0 y1 y2 z0 z1 z2
    have Y : wc.heap[w.heap.size + 1]? = some (.cells #[.bool false, .int .u64 0] 74 (0, 0)) := by
      refine (hbx.out.block (w.heap.size + 1) (by omega)).trans ?_
      have := heap_alloc_new (w.alloc (.cells #[.int .i64 x.op, .int .i64 x.rd, .int .i64 x.loc, .bool x.ar, .int .u64 x.an, .bool x.br, .int .u64 x.bn, .bool x.acq, .bool x.rel, .int .i64 x.dep, .int .i64 x.pred, .int .i64 x.succ, .int .i64 x.skip] 84)) (.cells #[.bool false, .int .u64 0] 74)
      simpa using this
    obtain ⟨t0, _, _⟩ := hwc.tail hs.regs
    have tf := tOf hwc.kb 29
    have cc := fun (W : World) (h : W.cell? ⟨w.heap.size, 0, none⟩ = some (.int .i64 x.op)) => comb_eql w.heap.size x.op (a.k, a.v) (b.k, b.v) W h
    have e : brVal s x = combM (a.k, a.v) (b.k, b.v) (eqlM x.op) := by unfold brVal; rw [HAa.out, HBb.out]
    have e2 : brPath s x = { s with path := s.path ||| (a.f ||| b.f) } := by unfold brPath; rw [HAa.out, HBb.out]
    generalize combM (a.k, a.v) (b.k, b.v) (eqlM x.op) = cr at *
    have CC := Bx.mk cc; have EE := Bx.mk e; have E2 := Bx.mk e2; have HWC := Bx.mk hwc; have HWX := Bx.mk hwx; have HX := Bx.mk X; have HY := Bx.mk Y
    have hgg := gg.out
    have hb1 := bitsOr hao.f hbo.f
    have hb2 := bitsOr hs.path (Nat.or_lt_two_pow (n := 64) (by simpa using hao.f) (by simpa using hbo.f) : a.f ||| b.f < 2 ^ 64)
    have HB1 := Bx.mk hb1; have HB2 := Bx.mk hb2
    have H4 := h4; have H5 := h5
    clear cc e e2 hwc hwx X Y hbx h4 h5 hb1 hb2
    go_wp2_with fail
    go_still_tail 12, (by kernel_rfl)
    change wpList _ _ _ _ _ wc.drew
    go_upto_region 3 with fail
    rw [HB1.out, HB2.out]
    obtain ⟨W, hW⟩ : ∃ W, W = (wc.setCell ⟨K.kb, 29, none⟩ (.int .u64 ((s.path ||| (a.f ||| b.f) : Nat) : Int))).drew := ⟨_, rfl⟩
    have hk : ∀ b', b' ≠ K.kb → W.heap[b']? = wc.heap[b']? := fun b' hb' => by rw [hW]; exact hset hb'
    have HWW : Bx (WkIn W K n m (brPath s x)) := ⟨by rw [E2.out, hW]; exact (HWC.out.setPath ok hs.regs _).drew⟩
    have HBW : Bx (Fp K w W) := ⟨by rw [hW]; exact ((Fp.ofBel HWX.out).set 0 (by decide) _ _).drew⟩
    have X := (hk w.heap.size (by omega)).trans HX.out
    have Y := (hk (w.heap.size + 1) (by omega)).trans HY.out
    have x0 := cOf X 0
    simp only [List.getElem?_toArray, List.getElem?_cons_zero] at x0
    have y4 := (hk b4 (by omega)).trans H4.out
    have y5 := (hk b5 (by omega)).trans H5.out
    have r0 := cOf y4 0; have r1 := cOf y4 1; have u0 := cOf y5 0; have u1 := cOf y5 1
    simp only [List.getElem?_toArray, List.getElem?_cons_zero, List.getElem?_cons_succ] at r0 r1 u0 u1
    rw [← hW]
    clear hW hk x1 y0 y1 y2 z0 z1 z2 t0 tf X y4 y5 HB1 HB2 HWC HWX HX HY H4 H5
    go_wp2_with (go_at_call 72; ((with_reducible refine (CC.out _ x0).mono ?_); rintro e w2 ⟨rfl, b2⟩; have Y2 := (b2.block _ (ltOf Y)).trans Y; have v0 := cOf Y2 0; have v1 := cOf Y2 1; have vf0 := tOf Y2 0; have vf1 := tOf Y2 1; simp only [List.getElem?_toArray, List.getElem?_cons_zero, List.getElem?_cons_succ] at v0 v1; have B2 := Bx.mk b2; clear b2))
    refine bodyPost_ret (v := .agg #[.bool cr.1, .int .u64 (cr.2 : Int)]) (by simp [results, go_sem, v0, v1]) rfl ⟨by rw [EE.out], ?_, ?_⟩
    · exact ((HWW.out.bel B2.out).far (fun i hi => Nat.lt_succ_of_lt (HW.out.lt i hi)) _ _).far (fun i hi => Nat.lt_succ_of_lt (HW.out.lt i hi)) _ _
    · exact ((HBW.out.bel B2.out).new _ (by omega) _ _).new _ (by omega) _ _
end Go.Proofs.Ytccjekgbhablpaa
