/- Contracts of outcome: Slots. -/
import Derived.Test.YtnlcmdgjoikljaaDoorOutC
import Derived.Test.YtnlcmdgjoikljaaDoorLitW
import Derived.Test.YtnlcmdgjoikljaaDoorLitY
namespace Go.Proofs.YtnlcmdgjoikljaaDoor
set_option maxRecDepth 100000
open Go.RowKit

def slC (p : Int × Int) : List Value := [.int .i64 p.1, .int .i64 p.2]
/-- the registers that threads set, from thread i on -/
def thrSl : Nat → List (List Ins) → List (Int × Int)
  | _, [] => []
  | i, l :: r => (regsM l).map (fun x => ((i : Int), x)) ++ thrSl (i + 1) r
def locSl (n : Nat) : List (Int × Int) := (List.range n).map fun (i : Nat) => ((-1 : Int), (i : Int))
/-- what the places of a test's states are -/
def slotsM (t : TestM) : List (Int × Int) := thrSl 0 t.thr ++ locSl t.locs.length
theorem locSl_succ (n : Nat) : locSl (n + 1) = locSl n ++ [(-1, (n : Int))] := by simp [locSl, List.range_succ]
theorem regsM_le (l : List Ins) : (regsM l).length ≤ l.length := by
  unfold regsM
  exact Nat.le_trans (compact_le _) (by rw [sortZ_length]; exact regsOf_le l)
theorem info_slot : (Tryd.prog.info? 54).map (fun i => (i.zero, i.size, i.bytes)) = some (some (.agg #[.int .i64 0, .int .i64 0]), 2, 16) := by kernel_rfl
/-- what Slots answers -/
def SlotsP (w : World) (t : TestM) (e : Ending) (w' : World) : Prop :=
  ∃ u, e = .returned u ∧ w'.ownsRow w.heap.size 54 2 u (slotsM t).length ((slotsM t).flatMap slC) ∧ Below w.heap.size w w'

set_option maxHeartbeats 6400000 in
theorem slots_any (b : Nat) (t : TestM) (hk : TestOk t) (w : World) (h : TestAt w b t) :
    Calls Tryd.prog 11 #[.pointer (some ⟨b, 0, none⟩)] w (SlotsP w t) := by
  obtain ⟨i0, hi, hz0, hz1, hz2⟩ := info_parts info_slot
  have HA := Bx.mk h
  obtain ⟨lv, tv, av, h0, h1, h2, ⟨hlo, ⟨vs, _, hth, _⟩, _⟩⟩ := h.test
  obtain ⟨lp, lc, rfl⟩ := hlo.slice
  obtain ⟨tp, tc, rfl⟩ := hth.slice
  have hnl := hk.locs
  have hnt := hk.thr
  have HK := Bx.mk hk
  have H0 := Bx.mk h0
  clear h h0 h2 hlo hth hk
  go_enter Tryd.func11, Tryd.ntmps11
  go_wp2_with fail
  go_loopw [3, 13] (fun v i wr => ∃ (k : Nat) (D : List (Int × Int)), i = .int .i64 (k : Int) ∧ k ≤ t.thr.length ∧ D.length ≤ k * 1000000 ∧ Bx (thrSl 0 t.thr = D ++ thrSl k (t.thr.drop k)) ∧ Bx (wr.ownsRow w.heap.size 54 2 v D.length (D.flatMap slC)) ∧ Bx (Below w.heap.size w wr) ∧ ∃ p q c, v = .slice p q c) (fun _ i _ => t.thr.length - (intOf i).toNat)
  case atStart => exact ⟨0, [], rfl, by omega, by simp, ⟨rfl⟩, ⟨World.ownsRow_nil _ _ _ _⟩, ⟨Below.refl _ _⟩, _, _, _, rfl⟩
  case round =>
    obtain ⟨k, D, rfl, hk, hD, heq, hrow, hb, p, q, c, rfl⟩ := hrel
    obtain ⟨wo, rfl⟩ : ∃ wo : World, wo = wr := ⟨_, rfl⟩
    obtain rfl : q = D.length := by
      rcases hrow.out.2 with ⟨hh, h0⟩ | ⟨g, cap, cur, hh, _⟩
      · obtain ⟨_, h3, _⟩ := Value.slice.inj hh; omega
      · obtain ⟨_, h3, _⟩ := Value.slice.inj hh; exact h3
    by_cases hlt : k < t.thr.length
    · obtain ⟨l, hl⟩ : ∃ l, t.thr[k]? = some l := ⟨_, List.getElem?_eq_getElem hlt⟩
      have hll := HK.out.ins l (List.mem_of_getElem? hl)
      have cr := regs_any b t HK.out k l hl wo (HA.out.below hb.out)
      have hrl := regsM_le l
      have e := heq.out
      rw [atDrop hl, thrSl] at e
      obtain ⟨R, hR⟩ : ∃ R, R = regsM l := ⟨_, rfl⟩
      unfold RegsP at cr
      rw [← hR] at cr e hrl
      have CR := Bx.mk cr; have E := Bx.mk e
      have hkm : k * 1000000 + 1000000 = (k + 1) * 1000000 := by omega
      have hk6 : k * 1000000 ≤ 1000000000000 := by omega
      have HKM := Bx.mk hkm
      clear cr e hl heq hR hkm
      go_wp2_with (go_at_call 28; ((with_reducible refine (CR.out).mono ?_); rintro e w2 ⟨u, rfl, hu, hb2, hf2⟩; obtain ⟨up, uc, rfl⟩ := hu.slice; have HU := Bx.mk hu; have B2 := Bx.mk hb2; have HF := Bx.mk hf2; clear hu hb2 hf2))
      have hsz : w.heap.size ≤ wo.heap.size := hb.out.size
      go_loopw [3, 20] (fun v i wq => ∃ (m : Nat), i = .int .i64 (m : Int) ∧ m ≤ R.length ∧ Bx (wq.ownsRow w.heap.size 54 2 v (D ++ (R.take m).map (fun x => ((k : Int), x))).length ((D ++ (R.take m).map (fun x => ((k : Int), x))).flatMap slC)) ∧ Bx (SlIn wq (.slice up R.length uc) 1 R.length (R.map (Value.int .i64)) ∧ ∀ g, v.ownBlock = some g → (Value.slice up R.length uc).ownBlock ≠ some g) ∧ Bx (Below w.heap.size w wq) ∧ ∃ p q c, v = .slice p q c) (fun _ i _ => R.length - (intOf i).toNat)
      case atStart =>
        refine ⟨0, rfl, by omega, ⟨?_⟩, ⟨HU.out, fun g hg hu => ?_⟩, ⟨bel hb.out B2.out⟩, _, _, _, rfl⟩
        · simpa using rowBel hrow.out B2.out
        · have h1 := (rowLt hrow.out g hg).2
          have h2 := HF.out g hu
          omega
      case round =>
        obtain ⟨m, rfl, hm, hrow2, hkeep, hb3, p3, q3, c3, rfl⟩ := hrel
        have hlen : (D ++ (R.take m).map (fun x => ((k : Int), x))).length = D.length + m := by
          rw [List.length_append, List.length_map, List.length_take]; omega
        obtain ⟨E2, hE2⟩ : ∃ E2, E2 = D ++ (R.take m).map (fun x => ((k : Int), x)) := ⟨_, rfl⟩
        rw [← hE2] at hlen hrow2
        have hEb : E2.length ≤ 1000001000000 := by omega
        have hEd : D.length ≤ E2.length := by omega
        have hEm : E2.length ≤ D.length + 1000000 := by omega
        clear hlen
        obtain rfl : q3 = E2.length := by
          rcases hrow2.out.2 with ⟨hh, h0⟩ | ⟨g, cap, cur, hh, _⟩
          · obtain ⟨_, h3, _⟩ := Value.slice.inj hh; omega
          · obtain ⟨_, h3, _⟩ := Value.slice.inj hh; exact h3
        by_cases hlm : m < R.length
        · obtain ⟨ub, uo, uc', huv, hul, huc⟩ := hkeep.out.1.at (by omega)
          obtain ⟨rfl, _, rfl⟩ := Value.slice.inj huv
          obtain ⟨x, hx⟩ : ∃ x, R[m]? = some x := ⟨_, List.getElem?_eq_getElem hlm⟩
          have qx : wr.cell? ⟨ub, uo + m, none⟩ = some (.int .i64 x) := huc m _ (by rw [List.getElem?_map, hx]; rfl)
          have hE3 : D ++ (R.take (m + 1)).map (fun x => ((k : Int), x)) = E2 ++ [((k : Int), x)] := by
            rw [List.take_add_one, hx, hE2]; simp
          have hne : (Value.slice p3 E2.length c3).ownBlock ≠ some ub := fun h => hkeep.out.2 ub h rfl
          have HE3 := Bx.mk hE3; have HE2 := Bx.mk hE2; have HNE := Bx.mk hne; have HUC := Bx.mk huc
          have hul' : ub < wr.heap.size := hul
          clear hE3 hE2 huv hx hne huc
          have hsq := hb3.out.size
          go_wp2_with (at_builtin; refine wpList_append_lies _ rfl (.tmp 24) (.tmp 28) 48 rfl w.heap.size 54 i0 _ 2 16 Tryd.underlying48 hi hz0 hz1 hz2 rfl (by omega) _ E2.length (E2.flatMap slC) rfl (hrow2.out.alloc _) ⟨wr.heap.size, 0, none⟩ 1 1 [.int .i64 (k : Int), .int .i64 x] rfl rfl (World.news_of_block (cs := #[.int .i64 (k : Int), .int .i64 x]) (t := 54) (fr := (0, 0)) (heap_alloc_new _ _)) (by simp [Value.oneCell']) (by omega) (by unfold maxLen; omega) (by omega) (by simp; omega) (wr.heap.size + 1) (by simp) ?_; intro g cap w4 hown3 hgrow hat hlt3; have B4 : Bx (Below w.heap.size w w4) := ⟨(hb3.out.alloc hb3.out.size _).grown hgrow (by simp; omega) (fun k hk => (rowLt hrow2.out k hk).1)⟩; have UB : Bx (w4.heap[ub]? = wr.heap[ub]?) := ⟨grownC (aset wr _) hgrow hul' HNE.out⟩; have HAT : Bx (g ≠ ub) := ⟨fun e => hat.elim (fun h => HNE.out (e ▸ h)) (fun h => by omega)⟩; have PU := Bx.mk hown3; clear hown3 hgrow hat hlt3)
          go_roundw
          case rel =>
            refine ⟨m + 1, by go_num, by omega, ⟨?_⟩, ⟨⟨by simp, .inr ⟨ub, uo, uc, rfl, ?_, fun i u hu => keepC UB.out (HUC.out i u hu)⟩⟩, fun g' hg' hu' => ?_⟩, B4, _, _, _, rfl⟩
            · rw [HE3.out, List.length_append, List.flatMap_append]
              exact PU.out
            · have := World.block_lt_of_cell? _ _ (keepC UB.out qx)
              exact this
            · have h1 : g = g' := by simpa [Value.ownBlock] using hg'
              have h2 : ub = g' := by simpa [Value.ownBlock] using hu'
              exact HAT.out (by omega)
          case measure => simp [intOf] <;> omega
        · obtain rfl : m = R.length := by omega
          have hE4 : E2 = D ++ R.map (fun x => ((k : Int), x)) := by rw [hE2, List.take_length]
          have HE4 := Bx.mk hE4
          clear hE4 hE2
          go_wp2
          go_roundw
          case rel => exact ⟨k + 1, E2, by go_num, by omega, by have := HKM.out; omega, ⟨by rw [E.out, HE4.out, List.append_assoc]⟩, hrow2, hb3, _, _, _, rfl⟩
          case measure => simp [intOf] <;> omega
    · obtain rfl : k = t.thr.length := by omega
      have hD0 : D = thrSl 0 t.thr := by
        have := heq.out
        rw [List.drop_length, thrSl, List.append_nil] at this
        exact this.symm
      have HD0 := Bx.mk hD0
      have hDb : D.length ≤ 1000000000000 := by omega
      have g0 : wo.cell? ⟨b, 0, none⟩ = some (.slice lp t.locs.length lc) := cBel H0.out hb.out
      clear hD0 heq hD
      go_wp2_with fail
      go_loopw [3, 37] (fun v i wq => ∃ (m : Nat), i = .int .i64 (m : Int) ∧ m ≤ t.locs.length ∧ Bx (wq.ownsRow w.heap.size 54 2 v (D ++ locSl m).length ((D ++ locSl m).flatMap slC)) ∧ Bx (Below w.heap.size w wq) ∧ ∃ p q c, v = .slice p q c) (fun _ i _ => t.locs.length - (intOf i).toNat)
      case atStart =>
        refine ⟨0, rfl, by omega, ⟨?_⟩, hb, _, _, _, rfl⟩
        have e0 : D ++ locSl 0 = D := by simp [locSl]
        rw [e0]; exact hrow.out
      case round =>
        obtain ⟨m, rfl, hm, hrow2, hb3, p3, q3, c3, rfl⟩ := hrel
        have hlen : (D ++ locSl m).length = D.length + m := by simp [locSl]
        obtain ⟨E2, hE2⟩ : ∃ E2, E2 = D ++ locSl m := ⟨_, rfl⟩
        rw [← hE2] at hlen hrow2
        have hEb : E2.length ≤ 1000001000000 := by omega
        clear hlen
        obtain rfl : q3 = E2.length := by
          rcases hrow2.out.2 with ⟨hh, h0⟩ | ⟨g, cap, cur, hh, _⟩
          · obtain ⟨_, h3, _⟩ := Value.slice.inj hh; omega
          · obtain ⟨_, h3, _⟩ := Value.slice.inj hh; exact h3
        have HE2 := Bx.mk hE2
        clear hE2
        have hsq := hb3.out.size
        by_cases hlm : m < t.locs.length
        · go_wp2_with (at_builtin; refine wpList_append_lies _ rfl (.tmp 40) (.tmp 43) 48 rfl w.heap.size 54 i0 _ 2 16 Tryd.underlying48 hi hz0 hz1 hz2 rfl (by omega) _ E2.length (E2.flatMap slC) rfl (hrow2.out.alloc _) ⟨wr.heap.size, 0, none⟩ 1 1 [.int .i64 (-1), .int .i64 (m : Int)] rfl rfl (World.news_of_block (cs := #[.int .i64 (-1), .int .i64 (m : Int)]) (t := 54) (fr := (0, 0)) (heap_alloc_new _ _)) (by simp [Value.oneCell']) (by omega) (by unfold maxLen; omega) (by omega) (by simp; omega) (wr.heap.size + 1) (by simp) ?_; intro g cap w4 hown3 hgrow hat hlt3; have B4 : Bx (Below w.heap.size w w4) := ⟨(hb3.out.alloc hb3.out.size _).grown hgrow (by simp; omega) (fun k hk => (rowLt hrow2.out k hk).1)⟩; have PU := Bx.mk hown3; clear hown3 hgrow hat hlt3)
          go_roundw
          case rel =>
            refine ⟨m + 1, by go_num, by omega, ⟨?_⟩, B4, _, _, _, rfl⟩
            have e3 : D ++ locSl (m + 1) = E2 ++ [((-1 : Int), (m : Int))] := by rw [locSl_succ, HE2.out, List.append_assoc]
            rw [e3, List.length_append, List.flatMap_append]
            exact PU.out
          case measure => simp [intOf] <;> omega
        · obtain rfl : m = t.locs.length := by omega
          have e9 : E2 = slotsM t := by rw [HE2.out, HD0.out]; rfl
          have HE9 := Bx.mk e9
          clear e9
          go_wp2
          go_ret
          unfold SlotsP
          rw [← HE9.out]
          exact ⟨_, rfl, hrow2.out, hb3.out⟩
end Go.Proofs.YtnlcmdgjoikljaaDoor
