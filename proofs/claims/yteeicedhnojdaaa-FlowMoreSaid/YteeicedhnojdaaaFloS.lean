/- Contracts of the flow rows: awake. -/
import Derived.Test.YteeicedhnojdaaaFloR
namespace Go.Proofs.Yteeicedhnojdaaa
set_option maxRecDepth 100000
open Go.RowKit

theorem slNewF (w : World) (C : Array Value) (ty : TypeId) (z n : Nat) (h : C.size = n * z) : SlIn (w.alloc (.cells C ty)) (.slice (some ⟨w.heap.size, 0, none⟩) n n) z n C.toList :=
  ⟨by simpa using h, .inr ⟨_, _, _, rfl, by simp, fun i u hu => by rw [Nat.zero_add, cOf (heap_alloc_new _ _)]; simpa using hu⟩⟩
/-- a test of one thread that is made -/
theorem test1 (w : World) (n : Nat) (hn : w.heap.size = n) (L I : Array Value) (m k : Nat) (locs : List (List UInt8 × Int)) (l : List Ins) (T1 T2 T3 T4 : TypeId) (hL : L.toList = locs.flatMap locC) (hI : I.toList = l.flatMap insC) (hm : locs.length = m) (hk : l.length = k) :
    TestAt ((((w.alloc (.cells L T1)).alloc (.cells I T2)).alloc (.cells #[.slice (some ⟨n + 1, 0, none⟩) k k] T3)).alloc (.cells #[.slice (some ⟨n, 0, none⟩) m m, .slice (some ⟨n + 1 + 1, 0, none⟩) 1 1, .slice none 0 0] T4)) (n + 1 + 1 + 1) ⟨locs, [l], []⟩ := by
  subst hn hm hk
  have lenL : ∀ X : List (List UInt8 × Int), (X.flatMap locC).length = X.length * 2 := fun X => by induction X with
    | nil => rfl
    | cons x X ih => rw [List.flatMap_cons, List.length_append, ih]; simp [locC]; omega
  have lenI : ∀ X : List Ins, (X.flatMap insC).length = X.length * 13 := fun X => by induction X with
    | nil => rfl
    | cons x X ih => rw [List.flatMap_cons, List.length_append, ih]; simp [insC]; omega
  have a := slNewF w L T1 2 locs.length (by rw [← Array.length_toList, hL, lenL])
  have e1 : (w.alloc (.cells L T1)).heap.size = w.heap.size + 1 := by simp
  generalize w.alloc (.cells L T1) = w1 at *
  have b := slNewF w1 I T2 13 l.length (by rw [← Array.length_toList, hI, lenI])
  have s2 := aset w1 (.cells I T2)
  have e2 : (w1.alloc (.cells I T2)).heap.size = w1.heap.size + 1 := by simp
  generalize w1.alloc (.cells I T2) = w2 at *
  have c := slNewF w2 #[.slice (some ⟨w.heap.size + 1, 0, none⟩) l.length l.length] T3 1 1 rfl
  have s3 := aset w2 (.cells #[.slice (some ⟨w.heap.size + 1, 0, none⟩) l.length l.length] T3)
  have e3 : (w2.alloc (.cells #[.slice (some ⟨w.heap.size + 1, 0, none⟩) l.length l.length] T3)).heap.size = w2.heap.size + 1 := by simp
  generalize w2.alloc (.cells #[.slice (some ⟨w.heap.size + 1, 0, none⟩) l.length l.length] T3) = w3 at *
  have X := heap_alloc_new w3 (.cells #[.slice (some ⟨w.heap.size, 0, none⟩) locs.length locs.length, .slice (some ⟨w.heap.size + 1 + 1, 0, none⟩) 1 1, .slice none 0 0] T4)
  have s4 := aset w3 (.cells #[.slice (some ⟨w.heap.size, 0, none⟩) locs.length locs.length, .slice (some ⟨w.heap.size + 1 + 1, 0, none⟩) 1 1, .slice none 0 0] T4)
  have e4 : w3.heap.size = w.heap.size + 1 + 1 + 1 := by omega
  generalize w3.alloc (.cells #[.slice (some ⟨w.heap.size, 0, none⟩) locs.length locs.length, .slice (some ⟨w.heap.size + 1 + 1, 0, none⟩) 1 1, .slice none 0 0] T4) = w4 at *
  rw [e4] at X
  rw [hL] at a
  rw [hI, e1] at b
  rw [show w2.heap.size = w.heap.size + 1 + 1 by omega] at c
  refine ⟨_, _, _, by rw [cOf X]; rfl, by rw [cOf X]; rfl, by rw [cOf X]; rfl, a.below (bel (bel s2 s3) s4), ⟨_, rfl, c.below s4, fun i v hv => ?_⟩, ⟨rfl, .inl ⟨rfl, _, _, rfl⟩⟩⟩
  match i, hv with
  | 0, hv => simp at hv; subst hv; exact ⟨_, rfl, b.below (bel s3 s4)⟩
  | i + 1, hv => simp at hv
theorem chkMF {x : Ins} {locs foll : Int} (h1 : known x.op = true) (h2 : x = needM x) (h3 : namesM x locs = true) (h4 : fitsM x = true) (h5 : 0 ≤ x.skip) (h6 : x.skip ≤ foll) : chkM x locs foll = 0 := by
  unfold chkM
  rw [if_neg (by rintro (h | h); exact absurd (h1.symm.trans h) (by decide); exact h h2), if_neg (by rw [h3]; decide), if_neg (by rw [h4]; decide), if_neg (by omega)]
theorem chkLineC {x : Ins} {r : List Ins} {locs : Int} (h1 : chkM x locs r.length = 0) (h2 : chkLine locs r = 0) : chkLine locs (x :: r) = 0 := by
  rw [chkLine, if_pos h1]; exact h2

/-- the test of awake -/
def awkI : List Ins := [⟨9, 0, 0, false, 0, false, 0, false, false, 0, 0, 0, 0⟩, ⟨16, 0, 0, true, 0, false, 1, false, false, 0, 0, 0, 1⟩, ⟨10, 0, 1, true, 0, false, 0, false, false, 0, 0, 0, 0⟩]
def awkT : TestM := ⟨[([120], 0), ([121], 0)], [awkI], []⟩
theorem awk_good : chkTest awkT = 0 := by
  rw [chk0]
  refine ⟨by decide, by kernel_rfl, ?_, by kernel_rfl⟩
  rw [thr0]
  intro l hl
  simp only [awkT, List.mem_cons, List.not_mem_nil, or_false] at hl
  subst hl
  exact chkLineC (chkMF (by decide) rfl (by decide) (by decide) (by decide) (by decide)) (chkLineC (chkMF (by decide) rfl (by decide) (by decide) (by decide) (by decide)) (chkLineC (chkMF (by decide) rfl (by decide) (by decide) (by decide) (by decide)) rfl))
theorem awk_ok : TestOk awkT := ⟨by decide, by decide, by decide, by decide⟩
theorem awk_name : ∀ l ∈ awkT.locs, l.1.length ≤ 1000000000 := by decide
theorem awk_num : NumOk awkT := by
  intro l hl x hx
  simp only [awkT, List.mem_cons, List.not_mem_nil, or_false] at hl
  subst hl
  simp only [awkI, List.mem_cons, List.not_mem_nil, or_false] at hx
  rcases hx with rfl | rfl | rfl <;> decide
def awkC1 : CtxM := ⟨[(true, 2), (false, 0)], [false, false]⟩
def awkC2 : CtxM := ⟨[(false, 0), (false, 0)], [false, false]⟩
theorem awk_ctx1 : CtxOk awkC1 := ⟨by decide, by decide, by decide⟩
theorem awk_ctx2 : CtxOk awkC2 := ⟨by decide, by decide, by decide⟩
theorem awk_n : memT awkT.thr = 2 := rfl
theorem awk_f1 : (flowM awkC1 awkT.thr).state = [1, 1] ∧ (flowM awkC1 awkT.thr).wr = [(false, 0), (true, 2)] ∧ (flowM awkC1 awkT.thr).value = [0, 1] ∧ (flowM awkC1 awkT.thr).fpath = [0, 1] ∧ (flowM awkC1 awkT.thr).whole = true := ⟨by rfl, by rfl, by rfl, by rfl, by rfl⟩
theorem awk_f2 : (flowM awkC2 awkT.thr).state = [1, 0] ∧ (flowM awkC2 awkT.thr).whole = false := ⟨by rfl, by rfl⟩
theorem awk_cells1 {W : World} {K : WkB} (h : FlIn W K 2 1 (flowM awkC1 awkT.thr)) : W.cell? ⟨K.fb, 0, none⟩ = some (.slice (some ⟨K.st, 0, none⟩) 2 2) ∧ W.cell? ⟨K.fb, 1, none⟩ = some (.slice (some ⟨K.wr, 0, none⟩) 2 2) ∧ W.cell? ⟨K.fb, 4, none⟩ = some (.slice (some ⟨K.va, 0, none⟩) 2 2) ∧ W.cell? ⟨K.fb, 5, none⟩ = some (.slice (some ⟨K.fp, 0, none⟩) 2 2) ∧ W.cell? ⟨K.fb, 8, none⟩ = some (.bool true)
    ∧ W.cell? ⟨K.st, 1, none⟩ = some (.int .i64 1) ∧ W.cell? ⟨K.wr, 2, none⟩ = some (.bool true) ∧ W.cell? ⟨K.wr, 3, none⟩ = some (.int .u64 2) ∧ W.cell? ⟨K.va, 1, none⟩ = some (.int .u64 1) ∧ W.cell? ⟨K.fp, 1, none⟩ = some (.int .u64 1) := by
  obtain ⟨f1, f2, f3, f4, f5⟩ := awk_f1
  obtain ⟨a, b, c, _, _, d, e, _, _⟩ := h
  rw [f1] at b; rw [f2] at c; rw [f3] at d; rw [f4] at e; rw [f5] at a
  refine ⟨?_, ?_, ?_, ?_, ?_, ?_, ?_, ?_, ?_, ?_⟩
  all_goals first | rw [cOf a] | rw [cOf b] | rw [cOf c] | rw [cOf d] | rw [cOf e]
  all_goals rfl
theorem awk_cells2 {W : World} {K : WkB} (h : FlIn W K 2 1 (flowM awkC2 awkT.thr)) : W.cell? ⟨K.fb, 0, none⟩ = some (.slice (some ⟨K.st, 0, none⟩) 2 2) ∧ W.cell? ⟨K.fb, 8, none⟩ = some (.bool false) ∧ W.cell? ⟨K.st, 1, none⟩ = some (.int .i64 0) := by
  obtain ⟨f1, f2⟩ := awk_f2
  obtain ⟨a, b, _⟩ := h
  rw [f1] at b; rw [f2] at a
  refine ⟨?_, ?_, ?_⟩
  all_goals first | rw [cOf a] | rw [cOf b]
  all_goals rfl
theorem made_bool (n : Nat) : madeCells (Value.bool false).cells (n * 1) = ((List.replicate n false).map Value.bool).toArray := by
  apply Array.ext_getElem?
  intro j
  by_cases hj : j < n
  · simp [madeCells, hj, Value.cells, Nat.mod_one]
  · simp [madeCells, hj]
theorem info_mb : (Try.prog.info? 4).map (fun i => (i.zero, i.size, i.bytes)) = some (some (.bool false), 1, 1) := by kernel_rfl
set_option maxHeartbeats 12800000 in
theorem awake13_any (w : World) :
    Calls Try.prog 8 #[] w fun e w' => e = .returned (.bool true) ∧ Below w.heap.size w w' := by
  have k3 : ∀ W : World, (Instr.makeSlice 27 (.int .i64 2) (.int .i64 2)).run Try.prog W = .ok (.slice (some ⟨W.heap.size, 0, none⟩) 2 2) (W.alloc (.cells #[.bool false, .int .u64 0, .bool false, .int .u64 0] 74)) := fun W => by
    have := mk_row (T := 27) Try.underlying27 info_mv (by decide) 2 (by decide) W
    rw [made_val] at this
    exact this
  have k4 : ∀ W : World, (Instr.makeSlice 28 (.int .i64 2) (.int .i64 2)).run Try.prog W = .ok (.slice (some ⟨W.heap.size, 0, none⟩) 2 2) (W.alloc (.cells #[.bool false, .bool false] 4)) := fun W => by
    have := mk_row (T := 28) Try.underlying28 info_mb (by decide) 2 (by decide) W
    rw [made_bool] at this
    exact this
  have C1 := Bx.mk (fun b rv wv W (h : TestAt W b awkT) hr hw => flowOf_any b awkT awk_ok awk_name awk_good awk_num awkC1 awk_ctx1 rv wv W h hr hw)
  have C2 := Bx.mk (fun b rv wv W (h : TestAt W b awkT) hr hw => flowOf_any b awkT awk_ok awk_name awk_good awk_num awkC2 awk_ctx2 rv wv W h hr hw)
  obtain ⟨E, hE⟩ : ∃ E, E = (((w.alloc (.cells #[.string ⟨#[120]⟩, .int .u64 0, .string ⟨#[121]⟩, .int .u64 0] 83)).alloc (.cells #[.int .i64 9, .int .i64 0, .int .i64 0, .bool false, .int .u64 0, .bool false, .int .u64 0, .bool false, .bool false, .int .i64 0, .int .i64 0, .int .i64 0, .int .i64 0, .int .i64 16, .int .i64 0, .int .i64 0, .bool true, .int .u64 0, .bool false, .int .u64 1, .bool false, .bool false, .int .i64 0, .int .i64 0, .int .i64 0, .int .i64 1, .int .i64 10, .int .i64 0, .int .i64 1, .bool true, .int .u64 0, .bool false, .int .u64 0, .bool false, .bool false, .int .i64 0, .int .i64 0, .int .i64 0, .int .i64 0] 85)).alloc (.cells #[.slice (some ⟨w.heap.size + 1, 0, none⟩) 3 3] 86)).alloc (.cells #[.slice (some ⟨w.heap.size, 0, none⟩) 2 2, .slice (some ⟨w.heap.size + 1 + 1, 0, none⟩) 1 1, .slice none 0 0] 26) := ⟨_, rfl⟩
  have T0 : TestAt E (w.heap.size + 1 + 1 + 1) awkT := by rw [hE]; exact test1 w _ rfl _ _ 2 3 _ awkI _ _ _ _ rfl rfl rfl rfl
  have B0 : Below w.heap.size w E := by rw [hE]; exact bel (bel (bel (aset _ _) (aset _ _)) (aset _ _)) (aset _ _)
  have S1 : SlIn ((E.alloc (.cells #[.bool true, .int .u64 2, .bool false, .int .u64 0] 74)).alloc (.cells #[.bool false, .bool false] 4)) (.slice (some ⟨E.heap.size, 0, none⟩) 2 2) 2 2 (nV awkC1.reads) := (slNewF E #[.bool true, .int .u64 2, .bool false, .int .u64 0] 74 2 2 rfl).below (aset _ _)
  have S2 : SlIn ((E.alloc (.cells #[.bool true, .int .u64 2, .bool false, .int .u64 0] 74)).alloc (.cells #[.bool false, .bool false] 4)) (.slice (some ⟨E.heap.size + 1, 0, none⟩) 2 2) 1 2 (awkC1.works.map Value.bool) := by
    have := slNewF (E.alloc (.cells #[.bool true, .int .u64 2, .bool false, .int .u64 0] 74)) #[.bool false, .bool false] 4 1 2 rfl
    simpa [awkC1] using this
  have B1 : Below E.heap.size E ((E.alloc (.cells #[.bool true, .int .u64 2, .bool false, .int .u64 0] 74)).alloc (.cells #[.bool false, .bool false] 4)) := bel (aset _ _) (aset _ _)
  have HT := Bx.mk T0; have HB0 := Bx.mk B0; have HS1 := Bx.mk S1; have HS2 := Bx.mk S2; have HB1 := Bx.mk B1
  clear T0 B0 S1 S2 B1
  go_enter Try.func8, Try.ntmps8
  go_upto_region 2 with fail
  rw [← hE]
  clear hE
  go_upto_region 3 with (go_at_call 14; ((with_reducible refine (C1.out _ _ _ _ (HT.out.below HB1.out) HS1.out HS2.out).mono ?_); rintro e w5 ⟨K1, rfl, f1, _, b5⟩; have F1 := Bx.mk f1; have HB5 := Bx.mk (bel HB1.out b5); clear f1 b5))
  have hb5 := ltOf F1.out.fb
  obtain ⟨TF, hTF⟩ : ∃ TF, TF = flowM awkC1 awkT.thr := ⟨_, rfl⟩
  have BE5 := Bx.mk (bel HB0.out HB5.out)
  have HT5 := Bx.mk (HT.out.below HB5.out)
  have A1 : ∀ W : World, SlIn ((W.alloc (.cells #[.bool false, .int .u64 0, .bool false, .int .u64 0] 74)).alloc (.cells #[.bool false, .bool false] 4)) (.slice (some ⟨W.heap.size, 0, none⟩) 2 2) 2 2 (nV awkC2.reads) := fun W => (slNewF W #[.bool false, .int .u64 0, .bool false, .int .u64 0] 74 2 2 rfl).below (aset _ _)
  have A2 : ∀ W : World, SlIn ((W.alloc (.cells #[.bool false, .int .u64 0, .bool false, .int .u64 0] 74)).alloc (.cells #[.bool false, .bool false] 4)) (.slice (some ⟨W.heap.size + 1, 0, none⟩) 2 2) 1 2 (awkC2.works.map Value.bool) := fun W => by
    have := slNewF (W.alloc (.cells #[.bool false, .int .u64 0, .bool false, .int .u64 0] 74)) #[.bool false, .bool false] 4 1 2 rfl
    simpa [awkC2] using this
  have A3 : ∀ W : World, SlIn ((W.alloc (.cells #[.bool false, .bool false] 4)).alloc (.cells #[.bool false, .int .u64 0, .bool false, .int .u64 0] 74)) (.slice (some ⟨W.heap.size + 1, 0, none⟩) 2 2) 2 2 (nV awkC2.reads) := fun W => by
    have := slNewF (W.alloc (.cells #[.bool false, .bool false] 4)) #[.bool false, .int .u64 0, .bool false, .int .u64 0] 74 2 2 rfl
    simpa [awkC2, nV, vC] using this
  have A4 : ∀ W : World, SlIn ((W.alloc (.cells #[.bool false, .bool false] 4)).alloc (.cells #[.bool false, .int .u64 0, .bool false, .int .u64 0] 74)) (.slice (some ⟨W.heap.size, 0, none⟩) 2 2) 1 2 (awkC2.works.map Value.bool) := fun W => (slNewF W #[.bool false, .bool false] 4 1 2 rfl).below (aset _ _)
  have AA := Bx.mk A1; have AB := Bx.mk A2; have AC := Bx.mk A3; have AD := Bx.mk A4
  clear A1 A2 A3 A4 hTF
  have L2 : Bx (∀ (W : World) (u v : Obj), Below W.heap.size W ((W.alloc u).alloc v)) := ⟨fun W u v => bel (aset _ _) (aset _ _)⟩
  have D5 : Bx (∀ W : World, Below W.heap.size W W.drew) := ⟨fun W => ⟨rfl, rfl, rfl, Nat.le_refl _, fun _ _ => rfl⟩⟩
  go_region_held3 (fun _ => True) (trivial)
    (first
      | (go_at_call 14; ((with_reducible refine (C2.out _ _ _ _ ((HT5.out.below (L2.out _ _ _)).below (D5.out _)) ((AA.out _).below (D5.out _)) ((AB.out _).below (D5.out _))).mono ?_); rintro e w6 ⟨K2, rfl, f2, _, b6⟩; have b56 := bel (bel (L2.out w5 _ _) (D5.out _)) b6; have F1' := F1.out.bel b56; have BE6 := Bx.mk (bel BE5.out b56); obtain ⟨c0, c1, c2, c3, c4, c5, c6, c7, c8, c9⟩ := awk_cells1 F1'; obtain ⟨d0, d1, d2⟩ := awk_cells2 f2; clear b6 b56 f2 F1'))
      | (go_at_call 14; ((with_reducible refine (C2.out _ _ _ _ ((HT5.out.below (L2.out _ _ _)).below (D5.out _)) ((AC.out _).below (D5.out _)) ((AD.out _).below (D5.out _))).mono ?_); rintro e w6 ⟨K2, rfl, f2, _, b6⟩; have b56 := bel (bel (L2.out w5 _ _) (D5.out _)) b6; have F1' := F1.out.bel b56; have BE6 := Bx.mk (bel BE5.out b56); obtain ⟨c0, c1, c2, c3, c4, c5, c6, c7, c8, c9⟩ := awk_cells1 F1'; obtain ⟨d0, d1, d2⟩ := awk_cells2 f2; clear b6 b56 f2 F1')))
  all_goals
    go_wp2_with fail
    go_ret
    exact ⟨rfl, BE6.out⟩
end Go.Proofs.Yteeicedhnojdaaa
