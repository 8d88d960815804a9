/- Contracts of flow: a thread's numbers; are all known? -/
import Derived.Test.YtccjekgbhablpaaGd
import Derived.Test.YtccjekgbhablpaaTolA
namespace Go.Proofs.Ytccjekgbhablpaa
set_option maxRecDepth 100000
open Go.RowKit

theorem res_cell1 {P : Program} {fn : Func} {p : Tmp} {ty : TypeId} {tmps : Array Value} {w : World} {a : Addr} {v : Value} (h : fn.results = #[.cell p ty]) (ht : tmps.getD p undef = .pointer (some a)) (hl : (loadVar ty a).run P w = .ok v w) :
    (results fn tmps).run P w = .ok v w := by
  have ht' : tmps[p]?.getD undef = .pointer (some a) := by rw [← Array.getD_eq_getD_getElem?]; exact ht
  simp only [results, h]
  simp [ht', hl, asAddr]
theorem ld_wanted {P : Program} {ops : Array Oper} {rest : List Oper} {op : Oper} {a : Act} {w : World} {Q : Exit → Act → World → Prop} (hwt : Region.wanted op (yielded ops a.tmps) = true) (ty : TypeId) (x : Operand) (ho : op.op = .load ty x)
    (b o : Nat) (hx : a.eval x = .pointer (some ⟨b, o, none⟩)) (cs : List Value) (d : TypeDesc) (hc : w.rangeAt b o cs)
    (hu : P.underlying ty = some d) (hd : d.isRow = true) (hi : (P.info? ty).map (·.size) = some cs.length)
    (h : wpList P ops Q rest (a.put op.dst (.agg cs.toArray)) w) : wpList P ops Q (op :: rest) a w := by
  unfold wpList
  rw [if_pos hwt]
  exact Or.inl (wp_load_mid ty x ho b o hx cs d hc hu hd hi h)
theorem nV_len (l : List (Bool × Nat)) : (nV l).length = l.length * 2 := by
  unfold nV
  induction l with
  | nil => rfl
  | cons a l ih => rw [List.flatMap_cons, List.length_append, ih]; simp [vC]; omega
theorem nV_one (l : List (Bool × Nat)) : ∀ u ∈ nV l, u.oneCell' = true := by
  intro u hu
  unfold nV at hu
  obtain ⟨x, _, hx⟩ := List.mem_flatMap.1 hu
  simp only [vC, List.mem_cons, List.not_mem_nil, or_false] at hx
  rcases hx with rfl | rfl <;> rfl
theorem info_v8 : (Try.prog.info? 76).map (·.size) = some 16 := by kernel_rfl
theorem info_c8 : (Try.prog.info? 96).map (·.size) = some 24 := by kernel_rfl
theorem index_cn (l : List Cn) (hl : l.length = 8) (k : Nat) (c : Cn) (hc : l[k]? = some c) (W : World) : (Instr.index 96 (.agg (cC l).toArray) (.int .i64 (k : Int))).run Try.prog W = .ok (.agg #[.bool c.k, .int .u64 (c.v : Int), .int .u64 (c.f : Int)]) W := by
  have hk : k < 8 := by have := (List.getElem?_eq_some_iff.1 hc).1; omega
  match l, hl with
  | [c0, c1, c2, c3, c4, c5, c6, c7], _ =>
    have hu := Try.underlying96
    have hu2 := Try.underlying95
    match k, hk, hc with
    | 0, _, hc => simp at hc; subst hc; rfl
    | 1, _, hc => simp at hc; subst hc; rfl
    | 2, _, hc => simp at hc; subst hc; rfl
    | 3, _, hc => simp at hc; subst hc; rfl
    | 4, _, hc => simp at hc; subst hc; rfl
    | 5, _, hc => simp at hc; subst hc; rfl
    | 6, _, hc => simp at hc; subst hc; rfl
    | 7, _, hc => simp at hc; subst hc; rfl
def valsJ (l : List Cn) (j : Nat) : List (Bool × Nat) := (List.range 8).map fun i => if i < j then ((cnAt l i).k, (cnAt l i).v) else (false, 0)
theorem valsJ_len (l : List Cn) (j : Nat) : (valsJ l j).length = 8 := by simp [valsJ]
theorem valsJ_set (l : List Cn) (j : Nat) (h : j < 8) {c : Cn} (hc : l[j]? = some c) : (valsJ l j).set j (c.k, c.v) = valsJ l (j + 1) := by
  have e : cnAt l j = c := by unfold cnAt; rw [List.getD_eq_getElem?_getD, hc]; rfl
  apply List.ext_getElem?
  intro i
  unfold valsJ
  rw [List.getElem?_set]
  by_cases hij : j = i
  · subst hij
    rw [if_pos rfl]
    simp [h, e]
  · rw [if_neg hij]
    by_cases hi : i < 8
    · simp only [List.getElem?_map, List.getElem?_range hi, Option.map_some]
      by_cases h1 : i < j
      · rw [if_pos h1, if_pos (by omega)]
      · rw [if_neg h1, if_neg (by omega)]
    · rw [List.getElem?_eq_none (by simp; omega), List.getElem?_eq_none (by simp; omega)]
theorem valsJ_full (l : List Cn) (hl : l.length = 8) : valsJ l 8 = valsM l := by
  match l, hl with
  | [c0, c1, c2, c3, c4, c5, c6, c7], _ => rfl
theorem rngCn {W : World} {K : WkB} {n m : Nat} {s : WkM} (h : WkIn W K n m s) (hr : s.regs.length = 8) : W.rangeAt K.kb 5 (cC s.regs) := fun j v hv => by
  have hj : j < 24 := by have := (List.getElem?_eq_some_iff.1 hv).1; rw [cC_len, hr] at this; omega
  rw [cOf h.kb]
  simp only [List.getElem?_toArray]
  unfold wkC
  rw [List.getElem?_append_left (by simp [cC_len, hr]; omega), List.getElem?_append_right (by simp)]
  simpa using hv
theorem rngOf {w : World} {b : Nat} {cs : List Value} {T : TypeId} (h : w.heap[b]? = some (.cells cs.toArray T (0, 0))) : w.rangeAt b 0 cs := fun j v hv => by
  rw [cOf h, Nat.zero_add]
  simpa using hv
theorem thrOf {w : World} {b : Nat} {Z : Array Value} {T : TypeId} (h : w.heap[b]? = some (.cells Z T (0, 0))) {o n : Nat} (hn : o + n ≤ Z.size) : w.there b o n := fun j hj =>
  ⟨by rw [cOf h]; simp; omega, tOf h _⟩
/-- a row of cells that is stored into a block -/
theorem heapSets {b : Nat} {T : TypeId} : ∀ (cs : List Value) (w : World) (p z q : List Value), z.length = cs.length → w.heap[b]? = some (.cells (p ++ z ++ q).toArray T (0, 0)) →
    (w.setCells b p.length cs).heap[b]? = some (.cells (p ++ cs ++ q).toArray T (0, 0))
  | [], w, p, z, q, h, hh => by
    have : z = [] := List.eq_nil_of_length_eq_zero h
    subst this; exact hh
  | c :: cs, w, p, z, q, h, hh => by
    cases z with
    | nil => simp at h
    | cons y z =>
      rw [World.setCells]
      have e := heapSet' hh p.length c
      have e2 : ((p ++ y :: z ++ q).toArray).setIfInBounds p.length c = ((p ++ [c]) ++ z ++ q).toArray := by simp
      rw [e2] at e
      have ih := heapSets cs _ (p ++ [c]) z q (by simpa using h) e
      rw [List.length_append, List.length_singleton] at ih
      rw [ih]; simp
theorem heapSets' {a b : Nat} (h : b ≠ a) : ∀ (cs : List Value) (w : World) (o : Nat), (w.setCells a o cs).heap[b]? = w.heap[b]?
  | [], w, o => rfl
  | c :: cs, w, o => by
    rw [World.setCells, heapSets' h cs]; exact hset h
theorem belSets {B : Nat} {W : World} {a : Nat} (ha : B ≤ a) : ∀ (cs : List Value) (W' : World) (o : Nat), Below B W W' → Below B W (W'.setCells a o cs)
  | [], _, _, h => h
  | c :: cs, W', o, h => by
    rw [World.setCells]; exact belSets ha cs _ (o + 1) (belSet h a o c ha)

set_option maxHeartbeats 6400000 in
theorem values_any (K : WkB) (n m : Nat) (s : WkM) (hr : s.regs.length = 8) (w : World) (hw : WkIn w K n m s) :
    Calls Try.prog 25 #[.pointer (some ⟨K.kb, 0, none⟩)] w fun e w' => e = .returned (.agg (nV (valsM s.regs)).toArray) ∧ Below w.heap.size w w' := by
  have hkl := ltOf hw.kb
  have ZZ : Bx (nV (valsJ s.regs 0) = [.bool false, .int .u64 0, .bool false, .int .u64 0, .bool false, .int .u64 0, .bool false, .int .u64 0, .bool false, .int .u64 0, .bool false, .int .u64 0, .bool false, .int .u64 0, .bool false, .int .u64 0]) := ⟨rfl⟩
  have R0 : Bx (∀ u v : Obj, ((w.alloc u).alloc v).rangeAt K.kb 5 (cC s.regs)) := ⟨fun u v => rngCn (hw.bel ((aset w u).alloc (by simp) v)) hr⟩
  have IC : (Try.prog.info? 96).map (·.size) = some (cC s.regs).length := by rw [cC_len, hr]; exact info_c8
  have hu := Try.underlying96
  have hu2 := Try.underlying76
  have B0 : Bx (∀ u v : Obj, Below w.heap.size w ((w.alloc u).alloc v)) := ⟨fun u v => (aset w u).alloc (by simp) v⟩
  have HW := Bx.mk hw
  clear hw
  go_enter Try.func25, Try.ntmps25
  go_wp2_with (first
    | ((with_reducible refine ld_at 96 (.tmp 8) ?_); refine wpList_load_mid rfl 96 (.tmp 8) (by rfl) K.kb 5 (by rfl) (cC s.regs) _ (R0.out _ _) hu rfl IC ?_))
  go_loopw [10] (fun q wr => ∃ j : Nat, q = .int .i64 (j : Int) ∧ j ≤ 8 ∧ Bx (wr.heap[w.heap.size + 1]? = some (.cells (nV (valsJ s.regs j)).toArray 76 (0, 0))) ∧ Bx (wr.heap[w.heap.size]? = some (.cells (nV (valsJ s.regs 0)).toArray 76 (0, 0))) ∧ Bx (Below w.heap.size w wr)) (fun q _ => 8 - (intOf q).toNat)
  case atStart =>
    refine ⟨0, rfl, by omega, ⟨?_⟩, ⟨?_⟩, ⟨B0.out _ _⟩⟩
    · rw [ZZ.out]
      have := heap_alloc_new (w.alloc (.cells #[.bool false, .int .u64 0, .bool false, .int .u64 0, .bool false, .int .u64 0, .bool false, .int .u64 0, .bool false, .int .u64 0, .bool false, .int .u64 0, .bool false, .int .u64 0, .bool false, .int .u64 0] 76)) (.cells #[.bool false, .int .u64 0, .bool false, .int .u64 0, .bool false, .int .u64 0, .bool false, .int .u64 0, .bool false, .int .u64 0, .bool false, .int .u64 0, .bool false, .int .u64 0, .bool false, .int .u64 0] 76)
      simpa using this
    · rw [ZZ.out]
      exact ((aset _ _).block w.heap.size (by simp)).trans (heap_alloc_new _ _)
  case round =>
    obtain ⟨j, rfl, hj, hb1, hb0, hbl⟩ := hrel
    have hsz := ltOf hb1.out
    by_cases hlt : j < 8
    · obtain ⟨c, hc⟩ : ∃ c, s.regs[j]? = some c := ⟨_, List.getElem?_eq_getElem (by omega)⟩
      have ix := fun W => index_cn s.regs hr j c hc W
      have e1 := valsJ_set s.regs j hlt hc
      have g0 : wr.cell? ⟨w.heap.size + 1, j * 2, none⟩ = some (.bool ((valsJ s.regs j).getD j (false, 0)).1) := by
        rw [cOf hb1.out]
        have := nV_get (l := valsJ s.regs j) (k := j) (p := (valsJ s.regs j).getD j (false, 0)) (by rw [List.getD_eq_getElem?_getD, List.getElem?_eq_getElem (by rw [valsJ_len]; exact hlt)]; rfl) 0 (by decide)
        simpa [vC] using this
      have g1 : wr.cell? ⟨w.heap.size + 1, j * 2 + 1, none⟩ = some (.int .u64 (((valsJ s.regs j).getD j (false, 0)).2 : Int)) := by
        rw [cOf hb1.out]
        have := nV_get (l := valsJ s.regs j) (k := j) (p := (valsJ s.regs j).getD j (false, 0)) (by rw [List.getD_eq_getElem?_getD, List.getElem?_eq_getElem (by rw [valsJ_len]; exact hlt)]; rfl) 1 (by decide)
        simpa [vC] using this
      have gf0 := tOf hb1.out (j * 2); have gf1 := tOf hb1.out (j * 2 + 1)
      have hji : (j : Int) < 8 := by omega
      have hj0 : (0 : Int) ≤ (j : Int) := by omega
      have E1 := Bx.mk e1
      clear hc e1
      go_wp2_with fail
      go_roundw
      case rel =>
        refine ⟨j + 1, by go_num, by omega, ⟨?_⟩, ⟨?_⟩, ⟨?_⟩⟩
        · refine ((aset _ _).block _ (by first | (simp; done) | (simp; omega))).trans ?_
          rw [heapSet' (heapSet' hb1.out _ _) _ _, nV_set, E1.out]
        · refine ((aset _ _).block _ (by first | (simp; done) | (simp; omega))).trans ?_
          rw [hset (by omega), hset (by omega)]
          exact hb0.out
        · have q := belSet (belSet hbl.out (w.heap.size + 1) (j * 2) (.bool c.k) (by omega)) (w.heap.size + 1) (j * 2 + 1) (.int .u64 (c.v : Int)) (by omega)
          exact bel' q q.size (aset _ _)
      case measure => simp [intOf] <;> omega
    · obtain rfl : j = 8 := by omega
      rw [valsJ_full s.regs hr] at hb1
      have hvl : (nV (valsM s.regs)).length = 16 := by rw [nV_len]; simp [valsM, hr]
      have R1 := Bx.mk (rngOf hb1.out)
      have IV : (Try.prog.info? 76).map (·.size) = some (nV (valsM s.regs)).length := by rw [hvl]; exact info_v8
      have IV2 : (Try.prog.info? 76).map (·.size) = some (nV (valsM s.regs)).toArray.size := by rw [IV]; simp
      have TH : Bx (wr.there w.heap.size 0 (nV (valsM s.regs)).toArray.size) := ⟨thrOf hb0.out (by simp [nV_len, valsJ_len, hvl])⟩
      have ON := Bx.mk (all_oneCell_toArray (nV_one (valsM s.regs)))
      have fin : (wr.setCells w.heap.size 0 (nV (valsM s.regs)).toArray.toList).heap[w.heap.size]? = some (.cells (nV (valsM s.regs)).toArray 76 (0, 0)) := by
        have := heapSets (b := w.heap.size) (T := 76) (nV (valsM s.regs)) wr [] (nV (valsJ s.regs 0)) [] (by rw [hvl, nV_len, valsJ_len]) (by simpa using hb0.out)
        simpa using this
      have FIN := Bx.mk fin
      clear fin
      go_wp2_with (first
        | ((with_reducible refine ld_at 76 (.tmp 3) ?_); refine wpList_load_mid rfl 76 (.tmp 3) (by rfl) (w.heap.size + 1) 0 (by rfl) (nV (valsM s.regs)) _ R1.out hu2 rfl IV ?_)
        | ((with_reducible refine st_at 76 (.tmp 2) (.tmp 19) ?_); refine wpList_store_mid rfl 76 (.tmp 2) (.tmp 19) (by rfl) w.heap.size 0 (nV (valsM s.regs)).toArray (by rfl) (by rfl) TH.out IV2 ON.out ?_))
      exact bodyPost_ret (v := .agg (nV (valsM s.regs)).toArray) (res_cell1 rfl rfl (run_loadVar_mid _ _ _ _ _ _ (rngOf FIN.out) hu2 rfl IV)) rfl ⟨rfl, belSets (Nat.le_refl _) _ _ _ hbl.out⟩

/-- the place of the first number that isn't known -/
def unkAt : List (Bool × Nat) → Nat → Int
  | [], _ => -1
  | p :: r, k => if p.1 then unkAt r (k + 1) else (k : Int)
theorem unkAt_any (L : List (Bool × Nat)) : ∀ k, decide (0 ≤ unkAt L k) = !(allK L) := by
  induction L with
  | nil => intro k; rfl
  | cons p r ih =>
    intro k
    rw [unkAt]
    unfold allK at ih ⊢
    rw [List.all_cons]
    cases h : p.1
    · simp
    · simp only [if_true, Bool.true_and]; exact ih (k + 1)
theorem known1_any (p : Bool × Nat) (w : World) :
    Calls Try.prog 43 #[.agg #[.bool p.1, .int .u64 (p.2 : Int)]] w fun e w' => e = .returned (.bool (!p.1)) ∧ Below w.heap.size w w' := by
  obtain ⟨a, b⟩ := p
  cases a
  all_goals
    go_enter Try.func43, Try.ntmps43
    go_wp2
    go_ret
    exact ⟨rfl, aset _ _⟩
set_option maxHeartbeats 1600000 in
theorem unkIdx_any (b : Nat) (L : List (Bool × Nat)) (hL : L.length = 8) (w : World) (h : w.heap[b]? = some (.cells (nV L).toArray 76 (0, 0))) :
    Calls Try.prog 76 #[.slice (some ⟨b, 0, none⟩) 8 8, .func (.func 43) #[] #[]] w fun e w' => e = .returned (.int .i64 (unkAt L 0)) ∧ Below w.heap.size w w' := by
  have HH := Bx.mk h
  have ck := Bx.mk (fun p W => known1_any p W)
  clear h
  go_enter Try.func76, Try.ntmps76
  go_wp2_with fail
  go_loopw [8] (fun i wr => ∃ k : Nat, i = .int .i64 (k : Int) ∧ k ≤ 8 ∧ Bx (unkAt L 0 = unkAt (L.drop k) k) ∧ Bx (Below w.heap.size w wr)) (fun i _ => 8 - (intOf i).toNat)
  case atStart => exact ⟨0, rfl, by omega, ⟨rfl⟩, ⟨Below.refl _ _⟩⟩
  case round =>
    obtain ⟨k, rfl, hkn, hch, hb⟩ := hrel
    by_cases hlt : k < 8
    · obtain ⟨p, hp⟩ : ∃ p, L[k]? = some p := ⟨_, List.getElem?_eq_getElem (by omega)⟩
      have hh := (hb.out.block b (ltOf HH.out)).trans HH.out
      have r0 : wr.cell? ⟨b, k * 2, none⟩ = some (.bool p.1) := by
        rw [cOf hh]; have := nV_get hp 0 (by decide); simpa [vC] using this
      have r1 : wr.cell? ⟨b, k * 2 + 1, none⟩ = some (.int .u64 (p.2 : Int)) := by
        rw [cOf hh]; have := nV_get hp 1 (by decide); simpa [vC] using this
      have e := hch.out
      rw [show L.drop k = p :: L.drop (k + 1) from by
        rw [List.drop_eq_getElem_cons (by omega)]
        congr 1
        rw [List.getElem?_eq_getElem (by omega)] at hp
        exact Option.some.inj hp, unkAt] at e
      have cp := fun W => ck.out p W
      obtain ⟨pk, pv⟩ := p
      cases pk
      all_goals
        have E := Bx.mk e; have CP := Bx.mk cp
        clear e cp hp hh hch
        go_wp2_with (go_at_call 43; ((with_reducible refine (CP.out _).mono ?_); rintro e w' ⟨rfl, b1⟩; have B1 := Bx.mk b1; clear b1))
      · go_ret
        exact ⟨by rw [E.out]; rfl, bel hb.out B1.out⟩
      · go_roundw
        case rel => exact ⟨k + 1, by go_num, by omega, ⟨by rw [E.out]; rfl⟩, ⟨bel hb.out B1.out⟩⟩
        case measure => simp [intOf] <;> omega
    · obtain rfl : k = 8 := by omega
      have he : unkAt L 0 = -1 := by rw [hch.out, List.drop_of_length_le (by omega)]; rfl
      have HE := Bx.mk he
      clear he hch
      go_wp2
      go_ret
      rw [HE.out]
      exact ⟨rfl, hb.out⟩
theorem unkHas_any (b : Nat) (L : List (Bool × Nat)) (hL : L.length = 8) (w : World) (h : w.heap[b]? = some (.cells (nV L).toArray 76 (0, 0))) :
    Calls Try.prog 44 #[.slice (some ⟨b, 0, none⟩) 8 8, .func (.func 43) #[] #[]] w fun e w' => e = .returned (.bool (!(allK L))) ∧ Below w.heap.size w w' := by
  have c := unkIdx_any b L hL w h
  rw [← unkAt_any L 0]
  generalize unkAt L 0 = R at *
  have C := Bx.mk c
  clear c h
  by_cases hR : 0 ≤ R
  all_goals
    have h1 := hR
    go_enter Try.func44, Try.ntmps44
    go_wp2_with (go_at_call 76; ((with_reducible refine (C.out).mono ?_); rintro e w' ⟨rfl, b1⟩; have B1 := Bx.mk b1; clear b1))
    go_ret
    exact ⟨by simp [hR], B1.out⟩
theorem allKnown_any (L : List (Bool × Nat)) (hL : L.length = 8) (w : World) :
    Calls Try.prog 26 #[.agg (nV L).toArray] w fun e w' => e = .returned (.bool (allK L)) ∧ Below w.heap.size w w' := by
  have c := fun W h => unkHas_any w.heap.size L hL W h
  have X := heap_alloc_new w (.cells (nV L).toArray 76)
  have b0 := aset w (.cells (nV L).toArray 76)
  generalize (nV L).toArray = A at *
  have C := Bx.mk c; have XX := Bx.mk X; have B0 := Bx.mk b0
  clear c X b0
  go_enter Try.func26, Try.ntmps26
  go_wp2_with (go_at_call 44; ((with_reducible refine (C.out _ XX.out).mono ?_); rintro e w' ⟨rfl, b1⟩; have B1 := Bx.mk (bel B0.out b1); clear b1))
  go_ret
  exact ⟨by simp, B1.out⟩
end Go.Proofs.Ytccjekgbhablpaa
