/- Contracts of outcome: Good. -/
import Derived.Test.YtnlcmdgjoikljaaDoorOutB
namespace Go.Proofs.YtnlcmdgjoikljaaDoor
set_option maxRecDepth 100000
open Go.RowKit

theorem at_load {P : Program} {ops : Array Oper} {Q : Exit → Act → World → Prop} {rest : List Oper} {a : Act} {w : World} (T : TypeId) (x : Operand) {dst : Option Tmp} {ty : TypeId} {pos : String} {after : Array Edge} {guard : Option (Nat × Bool)}
    (h : wpList P ops Q (⟨dst, .load T x, ty, pos, after, guard⟩ :: rest) a w) : wpList P ops Q (⟨dst, .load T x, ty, pos, after, guard⟩ :: rest) a w := h
theorem at_store {P : Program} {ops : Array Oper} {Q : Exit → Act → World → Prop} {rest : List Oper} {a : Act} {w : World} (T : TypeId) (x y : Operand) {dst : Option Tmp} {ty : TypeId} {pos : String} {after : Array Edge} {guard : Option (Nat × Bool)}
    (h : wpList P ops Q (⟨dst, .store T x y, ty, pos, after, guard⟩ :: rest) a w) : wpList P ops Q (⟨dst, .store T x y, ty, pos, after, guard⟩ :: rest) a w := h
theorem wpList_load_wanted {P : Program} {ops : Array Oper} {rest : List Oper} {op : Oper} {a : Act} {w : World} {Q : Exit → Act → World → Prop} (hwt : Region.wanted op (yielded ops a.tmps) = true) (ty : TypeId) (x : Operand) (ho : op.op = .load ty x)
    (b o : Nat) (hx : a.eval x = .pointer (some ⟨b, o, none⟩)) (cs : List Value) (d : TypeDesc) (hc : w.rangeAt b o cs)
    (hu : P.underlying ty = some d) (hd : d.isRow = true) (hi : (P.info? ty).map (·.size) = some cs.length)
    (h : wpList P ops Q rest (a.put op.dst (.agg cs.toArray)) w) : wpList P ops Q (op :: rest) a w := by
  unfold wpList
  rw [if_pos hwt]
  exact Or.inl (wp_load_mid ty x ho b o hx cs d hc hu hd hi h)

theorem setCells_alloc (w : World) (T : TypeId) : ∀ (cs : List Value) (p z : List Value), z.length = cs.length → (w.alloc (.cells (p ++ z).toArray T)).setCells w.heap.size p.length cs = w.alloc (.cells (p ++ cs).toArray T)
  | [], p, z, h => by
    have : z = [] := List.eq_nil_of_length_eq_zero h
    subst this; rfl
  | c :: cs, p, z, h => by
    cases z with
    | nil => simp at h
    | cons y z =>
      rw [World.setCells, World.setCell_alloc_new]
      have e : ((p ++ y :: z).toArray).setIfInBounds p.length c = ((p ++ [c]) ++ z).toArray := by
        simp
      rw [e]
      have ih := setCells_alloc w T cs (p ++ [c]) z (by simpa using h)
      rw [List.length_append, List.length_singleton] at ih
      rw [ih]
      simp
/-- a value that fills a block that was just made -/
theorem allocSet (w : World) (T : TypeId) (Z : Array Value) (cs : List Value) (h : Z.size = cs.length) : (w.alloc (.cells Z T)).setCells w.heap.size 0 cs = w.alloc (.cells cs.toArray T) := by
  have := setCells_alloc w T cs [] Z.toList (by simpa using h)
  simpa using this
theorem info_st : (Tryd.prog.info? 44).map (·.size) = some 41 := by kernel_rfl
theorem info_sz (s : StM) : (Tryd.prog.info? 44).map (·.size) = some (stC s).length := by rw [stC_len (stOk s)]; exact info_st
theorem info_sa (s : StM) : (Tryd.prog.info? 44).map (·.size) = some (stA s).size := by rw [info_sz s]; simp [stA]
theorem rangeSl {w : World} {bb off : Nat} {X : List StM} (hcl : ∀ i u, (X.flatMap stC)[i]? = some u → w.cell? ⟨bb, off + i, none⟩ = some u) {k : Nat} {x : StM} (hx : X[k]? = some x) : w.rangeAt bb (off + k * 41) (stC x) := fun j v hv => by
  have hj : j < 41 := by
    have := (List.getElem?_eq_some_iff.1 hv).1
    rwa [stC_len (stOk x)] at this
  have := flatAt stC 41 (fun y => stC_len (stOk y)) X k j x hx hj
  rw [Nat.add_assoc]
  exact hcl _ _ (this.trans hv)
theorem rangeBel {w w' : World} {b o : Nat} {cs : List Value} (h : w.rangeAt b o cs) (hb : Below w.heap.size w w') : w'.rangeAt b o cs := fun j v hv => cBel (h j v hv) hb
theorem rangeNew (w : World) (s : StM) (T : TypeId) : (w.alloc (.cells (stA s) T)).rangeAt w.heap.size 0 (stC s) := fun j v hv => by
  rw [cOf (heap_alloc_new _ _), Nat.zero_add]
  simpa [stA] using hv
theorem thereNew (w : World) (Z : Array Value) (T : TypeId) : (w.alloc (.cells Z T)).there w.heap.size 0 Z.size := fun j hj => by
  have hh := heap_alloc_new w (.cells Z T)
  exact ⟨by rw [cOf hh, Nat.zero_add]; simp [hj], tOf hh _⟩

/-- may it be a set of states of n numbers each? -/
def goodM (n : Int) : Option StM → List StM → Bool
  | _, [] => true
  | pv, x :: r => decide (x.n = n) && isSt x && (match pv with | none => true | some p => decide (cmpSt p x < 0)) && goodM n (some x) r
theorem goodM_cons (n : Int) (pv : Option StM) (x : StM) (r : List StM) : goodM n pv (x :: r) = (decide (x.n = n) && isSt x && (match pv with | none => true | some p => decide (cmpSt p x < 0)) && goodM n (some x) r) := by
  cases pv <;> rfl
set_option maxHeartbeats 3200000 in
theorem good_any (v : Value) (X : List StM) (n : Int) (hl : X.length ≤ 1000000) (w : World) (h : SlIn w v 41 X.length (X.flatMap stC)) :
    Calls Tryd.prog 18 #[v, .int .i64 n] w fun e w' => e = .returned (.bool (goodM n none X)) ∧ Below w.heap.size w w' := by
  obtain ⟨p, c, rfl⟩ := h.slice
  have H := Bx.mk h
  clear h
  have hu := Tryd.underlying44
  go_enter Tryd.func18, Tryd.ntmps18
  go_wp2_with fail
  go_loopw [9] (fun i wr => ∃ (k : Nat) (pv : Option StM), i = .int .i64 (k : Int) ∧ k ≤ X.length ∧ Bx (goodM n none X = goodM n pv (X.drop k)) ∧ Bx ((k = 0 ∧ pv = none) ∨ ∃ j l, k = j + 1 ∧ X[j]? = some l ∧ pv = some l) ∧ Bx (Below w.heap.size w wr)) (fun i _ => X.length - (intOf i).toNat)
  case atStart => exact ⟨0, none, rfl, by omega, ⟨rfl⟩, ⟨.inl ⟨rfl, rfl⟩⟩, ⟨Below.refl _ _⟩⟩
  case round =>
    obtain ⟨k, pv, rfl, hk, hg, hpv, hb⟩ := hrel
    by_cases hlt : k < X.length
    · obtain ⟨bb, off, c', hv, hbl, hcl⟩ := H.out.at (by omega)
      obtain ⟨rfl, _, rfl⟩ := Value.slice.inj hv
      obtain ⟨x, hx⟩ : ∃ x, X[k]? = some x := ⟨_, List.getElem?_eq_getElem hlt⟩
      have hcw : ∀ i u, (X.flatMap stC)[i]? = some u → wr.cell? ⟨bb, off + i, none⟩ = some u := fun i u hu => (hb.out.cell hbl).trans (hcl i u hu)
      have R1 := Bx.mk (rangeSl hcw hx)
      have e := hg.out
      rw [atDrop hx, goodM_cons] at e
      have I1 := Bx.mk (info_sz x)
      have I2 := Bx.mk (info_sa x)
      have O1 := Bx.mk (all_oneCell_toArray (stC_one x))
      have hAS : (wr.alloc (.cells #[.int .i64 0, .int .u64 0, .int .u64 0, .int .u64 0, .int .u64 0, .int .u64 0, .int .u64 0, .int .u64 0, .int .u64 0, .int .u64 0, .int .u64 0, .int .u64 0, .int .u64 0, .int .u64 0, .int .u64 0, .int .u64 0, .int .u64 0, .int .u64 0, .int .u64 0, .int .u64 0, .int .u64 0, .int .u64 0, .int .u64 0, .int .u64 0, .int .u64 0, .int .u64 0, .int .u64 0, .int .u64 0, .int .u64 0, .int .u64 0, .int .u64 0, .int .u64 0, .int .u64 0, .int .u64 0, .int .u64 0, .int .u64 0, .int .u64 0, .int .u64 0, .int .u64 0, .int .u64 0, .int .u64 0] 44)).setCells wr.heap.size 0 (stA x).toList = wr.alloc (.cells (stA x) 44) := by
        have := allocSet wr 44 #[.int .i64 0, .int .u64 0, .int .u64 0, .int .u64 0, .int .u64 0, .int .u64 0, .int .u64 0, .int .u64 0, .int .u64 0, .int .u64 0, .int .u64 0, .int .u64 0, .int .u64 0, .int .u64 0, .int .u64 0, .int .u64 0, .int .u64 0, .int .u64 0, .int .u64 0, .int .u64 0, .int .u64 0, .int .u64 0, .int .u64 0, .int .u64 0, .int .u64 0, .int .u64 0, .int .u64 0, .int .u64 0, .int .u64 0, .int .u64 0, .int .u64 0, .int .u64 0, .int .u64 0, .int .u64 0, .int .u64 0, .int .u64 0, .int .u64 0, .int .u64 0, .int .u64 0, .int .u64 0, .int .u64 0] (stC x) (by rw [stC_len (stOk x)]; rfl)
        simpa using this
      have hTH : (wr.alloc (.cells #[.int .i64 0, .int .u64 0, .int .u64 0, .int .u64 0, .int .u64 0, .int .u64 0, .int .u64 0, .int .u64 0, .int .u64 0, .int .u64 0, .int .u64 0, .int .u64 0, .int .u64 0, .int .u64 0, .int .u64 0, .int .u64 0, .int .u64 0, .int .u64 0, .int .u64 0, .int .u64 0, .int .u64 0, .int .u64 0, .int .u64 0, .int .u64 0, .int .u64 0, .int .u64 0, .int .u64 0, .int .u64 0, .int .u64 0, .int .u64 0, .int .u64 0, .int .u64 0, .int .u64 0, .int .u64 0, .int .u64 0, .int .u64 0, .int .u64 0, .int .u64 0, .int .u64 0, .int .u64 0, .int .u64 0] 44)).there wr.heap.size 0 (stA x).size := by
        have := thereNew wr #[.int .i64 0, .int .u64 0, .int .u64 0, .int .u64 0, .int .u64 0, .int .u64 0, .int .u64 0, .int .u64 0, .int .u64 0, .int .u64 0, .int .u64 0, .int .u64 0, .int .u64 0, .int .u64 0, .int .u64 0, .int .u64 0, .int .u64 0, .int .u64 0, .int .u64 0, .int .u64 0, .int .u64 0, .int .u64 0, .int .u64 0, .int .u64 0, .int .u64 0, .int .u64 0, .int .u64 0, .int .u64 0, .int .u64 0, .int .u64 0, .int .u64 0, .int .u64 0, .int .u64 0, .int .u64 0, .int .u64 0, .int .u64 0, .int .u64 0, .int .u64 0, .int .u64 0, .int .u64 0, .int .u64 0] 44
        have e2 : (stA x).size = 41 := by simp [stC_len (stOk x)]
        rw [e2]; exact this
      have AS := Bx.mk hAS; have TH := Bx.mk hTH
      have q0 := (stA_at (heap_alloc_new wr (.cells (stA x) 44))).1
      clear hAS hTH
      have R2 := Bx.mk (rangeNew wr x 44)
      have cl := fun W => isState_any x (stOk x) W
      have hcw' := Bx.mk hcw
      clear hv hcw
      by_cases hn : x.n = n
      · rw [decide_eq_true hn, Bool.true_and] at e
        have hq : ((x.n : Int) != n) = false := by simp [hn]
        clear hn
        cases hst : isSt x
        · rw [hst] at e cl
          rw [Bool.false_and, Bool.false_and] at e
          have CL := Bx.mk cl; have E := Bx.mk e
          clear cl e hst hg hpv hx hcl
          go_wp2_with (first
            | ((with_reducible refine at_load 44 (.tmp 12) ?_); refine wpList_load_mid rfl 44 (.tmp 12) (by rfl) bb (off + k * 41) (by rfl) (stC x) _ R1.out hu rfl I1.out ?_)
            | ((with_reducible refine at_store 44 (.tmp 6) (.tmp 13) ?_); refine wpList_store_mid rfl 44 (.tmp 6) (.tmp 13) (by rfl) wr.heap.size 0 (stA x) (by rfl) (by rfl) TH.out I2.out O1.out ?_; rw [AS.out])
            | ((with_reducible refine at_load 44 (.tmp 6) ?_); refine wpList_load_wanted (by rfl) 44 (.tmp 6) rfl wr.heap.size 0 (by rfl) (stC x) _ R2.out hu rfl I1.out ?_)
            | (go_at_call 37; ((with_reducible refine (CL.out _).mono ?_); rintro e w2 ⟨rfl, hb2⟩; have B2 := Bx.mk (bel (aset wr _) hb2); have R3 := Bx.mk (rangeBel R2.out hb2); clear hb2)))
          go_ret
          rw [E.out]
          exact ⟨rfl, bel hb.out B2.out⟩
        · rw [hst] at e cl
          rw [Bool.true_and] at e
          have CL := Bx.mk cl
          clear cl hst
          rcases hpv.out with ⟨rfl, rfl⟩ | ⟨j, y, rfl, hy, rfl⟩
          · have e : goodM n none X = goodM n (some x) (X.drop (0 + 1)) := by rw [e]; rfl
            have E := Bx.mk e
            clear e hg hpv hcl
            have HXX := Bx.mk hx
            clear hx
            have R10 : Bx (wr.rangeAt bb off (stC x)) := ⟨by have := R1.out; simpa using this⟩
            go_wp2_with (first
              | ((with_reducible refine at_load 44 (.tmp 12) ?_); refine wpList_load_mid rfl 44 (.tmp 12) (by rfl) bb off (by rfl) (stC x) _ R10.out hu rfl I1.out ?_)
              | ((with_reducible refine at_store 44 (.tmp 6) (.tmp 13) ?_); refine wpList_store_mid rfl 44 (.tmp 6) (.tmp 13) (by rfl) wr.heap.size 0 (stA x) (by rfl) (by rfl) TH.out I2.out O1.out ?_; rw [AS.out])
              | ((with_reducible refine at_load 44 (.tmp 6) ?_); refine wpList_load_wanted (by rfl) 44 (.tmp 6) rfl wr.heap.size 0 (by rfl) (stC x) _ R2.out hu rfl I1.out ?_)
              | (go_at_call 37; ((with_reducible refine (CL.out _).mono ?_); rintro e w2 ⟨rfl, hb2⟩; have B2 := Bx.mk (bel (aset wr _) hb2); have R3 := Bx.mk (rangeBel R2.out hb2); clear hb2)))
            go_quiet (fail)
            go_wp2
            go_roundw
            case rel => exact ⟨1, some x, rfl, by omega, E, ⟨.inr ⟨0, x, rfl, HXX.out, rfl⟩⟩, ⟨belDr (bel hb.out B2.out) _⟩⟩
            case measure => simp [intOf] <;> omega
          · have hy1 : Bx (wr.rangeAt bb (off + j * 41) (stC y)) := ⟨rangeSl hcw'.out hy⟩
            have cc := fun W => compareSt_any y x (stOk y) (stOk x) W
            have I3 := Bx.mk (info_sz y)
            obtain ⟨r, hr⟩ : ∃ r, r = cmpSt y x := ⟨_, rfl⟩
            have e : goodM n none X = (decide (r < 0) && goodM n (some x) (X.drop (j + 1 + 1))) := by rw [e, hr]
            rw [← hr] at cc
            have CC := Bx.mk cc; have E := Bx.mk e
            have HXX := Bx.mk hx
            clear cc e hr hg hpv hcl hx hy
            have hj1 : (0 : Int) < (j : Int) + 1 := by omega
            have hj2 : (0 : Int) ≤ (j : Int) := by omega
            have hj3 : (j : Int) < (X.length : Int) := by omega
            have hj4 : IntKind.i64.wrap (j : Int) = (j : Int) := IntWalk.i64_in _ (by omega)
            have hj5 : IntKind.i64.wrap ((j : Int) + 1 - 1) = (j : Int) := by rw [IntWalk.i64_in _ (by omega)]; omega
            go_wp2_with (first
              | ((with_reducible refine at_load 44 (.tmp 12) ?_); refine wpList_load_mid rfl 44 (.tmp 12) (by rfl) bb (off + (j + 1) * 41) (by rfl) (stC x) _ R1.out hu rfl I1.out ?_)
              | ((with_reducible refine at_store 44 (.tmp 6) (.tmp 13) ?_); refine wpList_store_mid rfl 44 (.tmp 6) (.tmp 13) (by rfl) wr.heap.size 0 (stA x) (by rfl) (by rfl) TH.out I2.out O1.out ?_; rw [AS.out])
              | ((with_reducible refine at_load 44 (.tmp 6) ?_); refine wpList_load_wanted (by rfl) 44 (.tmp 6) rfl wr.heap.size 0 (by rfl) (stC x) _ R2.out hu rfl I1.out ?_)
              | (go_at_call 37; ((with_reducible refine (CL.out _).mono ?_); rintro e w2 ⟨rfl, hb2⟩; have B2 := Bx.mk (bel (aset wr _) hb2); have R3 := Bx.mk (rangeBel R2.out hb2); clear hb2)))
            have RY := Bx.mk (rangeBel hy1.out B2.out)
            have i1 := I1.out
            have i3 := I3.out
            refine wp_region_held_drew (S := fun w' => w'.rangeAt bb (off + j * 41) (stC y) ∧ w'.rangeAt wr.heap.size 0 (stC x) ∧ Below w.heap.size w w') (by kernel_rfl) ⟨(World.rangeAt_drew _ _ _ _).2 RY.out, (World.rangeAt_drew _ _ _ _).2 R3.out, (bel hb.out B2.out).drew⟩ (fun hHeld => ?_)
            clear R3 RY
            generalize w2.drew = wd at *
            refine wpAnyH_take (i := 0) (v := .int .i64 ((j : Int) + 1)) rfl (by kernel_rfl) (by kernel_rfl) (by kernel_rfl) (fun _ _ _ h => h) (Or.inl ⟨by rfl, fun w' _ => by go_simp; try rfl⟩) hHeld ?_
            refine wpAnyH_take (i := 1) (v := .bool true) rfl (by kernel_rfl) (by kernel_rfl) (by kernel_rfl) (fun _ _ _ h => h) (Or.inl ⟨by rfl, fun w' _ => by go_simp; try rfl⟩) hHeld ?_
            refine wpAnyH_take (i := 2) (v := .bool true) rfl (by kernel_rfl) (by kernel_rfl) (by kernel_rfl) (fun _ _ _ h => h) (Or.inl ⟨by rfl, fun w' _ => by go_simp; try rfl⟩) hHeld ?_
            refine wpAnyH_take (i := 3) (v := .slice (some ⟨bb, off, none⟩) X.length c) rfl (by kernel_rfl) (by kernel_rfl) (by kernel_rfl) (fun _ _ _ h => h) (Or.inl ⟨by rfl, fun w' _ => by go_simp; try rfl⟩) hHeld ?_
            refine wpAnyH_take (i := 4) (v := .int .i64 ((j : Int) + 1)) rfl (by kernel_rfl) (by kernel_rfl) (by kernel_rfl) (fun _ _ _ h => h) (Or.inl ⟨by rfl, fun w' _ => by go_simp; try rfl⟩) hHeld ?_
            refine wpAnyH_take (i := 5) (v := .int .i64 (j : Int)) rfl (by kernel_rfl) (by kernel_rfl) (by kernel_rfl) (fun _ _ _ h => h) (Or.inl ⟨by rfl, fun w' _ => by go_simp; try rfl⟩) hHeld ?_
            refine wpAnyH_take (i := 6) (v := .pointer (some ⟨bb, off + j * 41, none⟩)) rfl (by kernel_rfl) (by kernel_rfl) (by kernel_rfl) (fun _ _ _ h => h) (Or.inl ⟨by rfl, fun w' _ => by go_simp; try rfl⟩) hHeld ?_
            simp only [Act.put, List.getElem_toArray, List.getElem_cons_succ, List.getElem_cons_zero, List.setIfInBounds_toArray, List.set_cons_zero, List.set_cons_succ]
            refine wpAnyH_take (i := 7) (v := _) rfl (by kernel_rfl) (by kernel_rfl) (by kernel_rfl) (fun _ _ _ h => h) (yieldsIf_load_mid (by rfl) _ _ rfl _ _ rfl (stC y) _ (fun w' h => h.1) hu rfl i3) hHeld ?_
            simp only [Act.put, List.getElem_toArray, List.getElem_cons_succ, List.getElem_cons_zero, List.setIfInBounds_toArray, List.set_cons_zero, List.set_cons_succ]
            refine wpAnyH_take (i := 8) (v := _) rfl (by kernel_rfl) (by kernel_rfl) (by kernel_rfl) (fun _ _ _ h => h) (yieldsIf_load_mid (by rfl) _ _ rfl _ _ rfl (stC x) _ (fun w' h => h.2.1) hu rfl i1) hHeld ?_
            refine wpAnyH_ready (rs := [9]) (by kernel_rfl) (by simp) ?_
            refine AllReadyH.cons rfl (fun K hK => ?_) AllReadyH.nil
            go_simp
            go_at_call 17; ((with_reducible refine (CC.out _).mono ?_); rintro e w3 ⟨rfl, hb3⟩)
            refine hK.out _ _ ⟨rangeBel hHeld.1 hb3, rangeBel hHeld.2.1 hb3, bel hHeld.2.2 hb3⟩ (fun hHeld => ?_)
            clear hK K hb3
            by_cases hc : r < 0
            · have hd : decide (0 ≤ r) = false := by simp; omega
              refine wpAnyH_take (i := 10) (v := .bool false) rfl (by kernel_rfl) (by kernel_rfl) (by kernel_rfl) (fun _ _ _ h => h) (Or.inl ⟨by rfl, fun w' _ => by go_simp; try rfl⟩) hHeld ?_
              refine wpAnyH_take (i := 11) (v := .bool false) rfl (by kernel_rfl) (by kernel_rfl) (by kernel_rfl) (fun _ _ _ h => h) (Or.inl ⟨by rfl, fun w' _ => by go_simp; try rfl⟩) hHeld ?_
              have E2 := E.out
              rw [decide_eq_true hc, Bool.true_and] at E2
              have E3 := Bx.mk E2
              clear E2 E hc
              refine wpAnyH_done (by kernel_rfl) ?_ _
              have HB := Bx.mk hHeld.2.2
              clear hHeld
              go_wp2_with fail
              go_roundw
              case rel => exact ⟨j + 1 + 1, some x, by go_num, by omega, E3, ⟨.inr ⟨j + 1, x, rfl, HXX.out, rfl⟩⟩, HB⟩
              case measure => simp [intOf] <;> omega
            · have hd : decide (0 ≤ r) = true := by simp; omega
              refine wpAnyH_take (i := 10) (v := .bool true) rfl (by kernel_rfl) (by kernel_rfl) (by kernel_rfl) (fun _ _ _ h => h) (Or.inl ⟨by rfl, fun w' _ => by go_simp; try rfl⟩) hHeld ?_
              refine wpAnyH_take (i := 11) (v := .bool true) rfl (by kernel_rfl) (by kernel_rfl) (by kernel_rfl) (fun _ _ _ h => h) (Or.inl ⟨by rfl, fun w' _ => by go_simp; try rfl⟩) hHeld ?_
              have E2 := E.out
              rw [decide_eq_false hc, Bool.false_and] at E2
              have E3 := Bx.mk E2
              clear E2 E hc
              refine wpAnyH_done (by kernel_rfl) ?_ _
              have HB := Bx.mk hHeld.2.2
              clear hHeld
              go_wp2_with fail
              go_ret
              rw [E3.out]
              exact ⟨rfl, HB.out⟩
      · rw [decide_eq_false hn, Bool.false_and, Bool.false_and, Bool.false_and] at e
        have hq : ((x.n : Int) != n) = true := by simp [hn]
        have E := Bx.mk e
        clear e hg hpv hx hcl hn cl
        go_wp2_with (first
          | ((with_reducible refine at_load 44 (.tmp 12) ?_); refine wpList_load_mid rfl 44 (.tmp 12) (by rfl) bb (off + k * 41) (by rfl) (stC x) _ R1.out hu rfl I1.out ?_)
          | ((with_reducible refine at_store 44 (.tmp 6) (.tmp 13) ?_); refine wpList_store_mid rfl 44 (.tmp 6) (.tmp 13) (by rfl) wr.heap.size 0 (stA x) (by rfl) (by rfl) TH.out I2.out O1.out ?_; rw [AS.out])
          | ((with_reducible refine at_load 44 (.tmp 6) ?_); refine wpList_load_wanted (by rfl) 44 (.tmp 6) rfl wr.heap.size 0 (by rfl) (stC x) _ R2.out hu rfl I1.out ?_)
          | fail)
        go_ret
        rw [E.out]
        exact ⟨rfl, hb.out.alloc hb.out.size _⟩
    · obtain rfl : k = X.length := by omega
      have e : goodM n none X = true := by rw [hg.out, List.drop_length]; cases pv <;> rfl
      have E := Bx.mk e
      clear e hg hpv
      go_wp2
      go_ret
      rw [E.out]
      exact ⟨rfl, hb.out⟩
end Go.Proofs.YtnlcmdgjoikljaaDoor
