/- The reference's places of a test. -/
import Derived.Test.YtnlcmdgjoikljaaDoorTolG
import Derived.Test.YtnlcmdgjoikljaaDoorOutS
namespace Go.Proofs.YtnlcmdgjoikljaaDoor
set_option maxRecDepth 100000
open Go.RowKit

theorem info_rslot : (Tryd.prog.info? 53).map (fun i => (i.zero, i.size, i.bytes)) = some (some (.agg #[.int .i64 0, .int .i64 0]), 2, 16) := by kernel_rfl
theorem nIS : (3 : TypeId) ≠ 53 := by decide
/-- registers that a machine has -/
def RdOk (t : TestM) : Prop := ∀ l ∈ t.thr, ∀ x ∈ l, 0 ≤ x.rd ∧ x.rd < 8
set_option maxHeartbeats 6400000 in
theorem refSlots_any (lv tv av : Value) (t : TestM) (hk : TestOk t) (hrd : RdOk t) (w : World) (h : TestIn w lv tv av t) :
    Calls Tryd.prog 12 #[.agg #[lv, tv, av]] w fun e w' => (∃ u, e = .returned u ∧ w'.ownsRow w.heap.size 53 2 u (slotsM t).length ((slotsM t).flatMap slC)) ∧ Below w.heap.size w w' := by
  obtain ⟨i0, hi, hz0, hz1, hz2⟩ := info_parts info_rslot
  obtain ⟨hlo, ⟨vs, hvl, hth, hins⟩, hasks⟩ := h
  obtain ⟨lp, lc, rfl⟩ := hlo.slice
  obtain ⟨tp, tc, rfl⟩ := hth.slice
  have hnl := hk.locs
  have hnt := hk.thr
  have HTH := Bx.mk hth; have HIN := Bx.mk hins; have HVL := Bx.mk hvl; have HKI := Bx.mk hk.ins; have HRD := Bx.mk hrd
  clear hlo hth hins hasks hvl hk hrd
  go_enter Tryd.func12, Tryd.ntmps12
  go_wp2_with fail
  go_loopw [3, 13] (fun v i wr => ∃ (k : Nat) (D : List (Int × Int)) (p : Option Addr) (q c : Nat), v = .slice p q c ∧ i = .int .i64 (k : Int) ∧ k ≤ t.thr.length ∧ D.length ≤ k * 8 ∧ Bx (thrSl 0 t.thr = D ++ thrSl k (t.thr.drop k)) ∧ Bx (wr.ownsRow (w.heap.size + 1) 53 2 v D.length (D.flatMap slC)) ∧ Bx (wr.heap[w.heap.size]? = some (.cells #[.slice lp t.locs.length lc, .slice tp t.thr.length tc, av] 36)) ∧ Bx (Below w.heap.size w wr)) (fun _ i _ => t.thr.length - (intOf i).toNat)
  case atStart =>
    have hs : (w.alloc (.cells #[.slice lp t.locs.length lc, .slice tp t.thr.length tc, av] 36)).heap.size = w.heap.size + 1 := by simp
    have hr := newRowE (w.alloc (.cells #[.slice lp t.locs.length lc, .slice tp t.thr.length tc, av] 36)) 53 2
    rw [hs] at hr
    exact ⟨0, [], _, _, _, rfl, rfl, by omega, by simp, ⟨rfl⟩, ⟨hr⟩, ⟨((aset _ _).block _ (by rw [hs]; omega)).trans (heap_alloc_new _ _)⟩, ⟨bel (aset _ _) (aset _ _)⟩⟩
  case round =>
    obtain ⟨k, D, p, q, c, rfl, rfl, hkn, hD, heq, hrow, hbx, hb⟩ := hrel
    obtain ⟨wo, rfl⟩ : ∃ wo : World, wo = wr := ⟨_, rfl⟩
    obtain rfl : q = D.length := sliceLen hrow.out
    have hbl0 : w.heap.size < wo.heap.size := by
      rcases Nat.lt_or_ge w.heap.size wo.heap.size with e | e
      · exact e
      · have := hbx.out; rw [Array.getElem?_eq_none e] at this; cases this
    by_cases hlt : k < t.thr.length
    · obtain ⟨bb, off, c', hv, hbl, hcl⟩ := HTH.out.at (by omega)
      obtain ⟨rfl, _, rfl⟩ := Value.slice.inj hv
      obtain ⟨u, hvk⟩ : ∃ u, vs[k]? = some u := ⟨_, List.getElem?_eq_getElem (by rw [HVL.out]; exact hlt)⟩
      obtain ⟨l, hlk, hsl⟩ := HIN.out k u hvk
      obtain ⟨ip, ic, rfl⟩ := hsl.slice
      have hll := HKI.out l (List.mem_of_getElem? hlk)
      have hre := regs_eq l (HRD.out l (List.mem_of_getElem? hlk))
      have q0 : wo.cell? ⟨bb, off + k, none⟩ = some (.slice ip l.length ic) := (hb.out.cell hbl).trans (hcl k _ hvk)
      have cr := refRegs_any (.slice ip l.length ic) l hll wo (hsl.below hb.out)
      have hrl := regF_len l 8
      have e := heq.out
      rw [atDrop hlk, thrSl] at e
      rw [hre] at cr hrl
      obtain ⟨R, hR⟩ : ∃ R, R = regsM l := ⟨_, rfl⟩
      rw [← hR] at cr e hrl
      have CR := Bx.mk cr; have E := Bx.mk e
      have hk8 : k * 8 ≤ 8000000 := by omega
      clear cr e hcl hv hvk hlk hsl heq hR hre
      go_wp2_with (go_at_call 29; ((with_reducible refine (CR.out).mono ?_); rintro e w2 ⟨⟨u, rfl, hu⟩, hb2⟩; obtain ⟨up, uc, rfl⟩ := rowSlice hu; have HU := Bx.mk hu; have B2 := Bx.mk hb2; clear hu hb2))
      have hsz : w.heap.size ≤ wo.heap.size := hb.out.size
      go_loopw [3, 21] (fun v i wq => ∃ (m : Nat) (p : Option Addr) (q c : Nat), v = .slice p q c ∧ i = .int .i64 (m : Int) ∧ m ≤ R.length ∧ Bx (wq.ownsRow (w.heap.size + 1) 53 2 v (D ++ (R.take m).map (fun x => ((k : Int), x))).length ((D ++ (R.take m).map (fun x => ((k : Int), x))).flatMap slC)) ∧ Bx (wq.ownsRow wo.heap.size 3 1 (.slice up R.length uc) R.length (R.map (Value.int .i64))) ∧ Bx (wq.heap[w.heap.size]? = some (.cells #[.slice lp t.locs.length lc, .slice (some ⟨bb, off, none⟩) t.thr.length tc, av] 36)) ∧ Bx (Below w.heap.size w wq)) (fun _ i _ => R.length - (intOf i).toNat)
      case atStart =>
        exact ⟨0, _, _, _, rfl, rfl, by omega, ⟨by simpa using rowBel hrow.out B2.out⟩, HU, ⟨(B2.out.block _ hbl0).trans hbx.out⟩, ⟨bel hb.out B2.out⟩⟩
      case round =>
        obtain ⟨m, p3, q3, c3, rfl, rfl, hm, hrow2, hur, hbx2, hb3⟩ := hrel
        have hlen : (D ++ (R.take m).map (fun x => ((k : Int), x))).length = D.length + m := by
          rw [List.length_append, List.length_map, List.length_take]; omega
        obtain ⟨E2, hE2⟩ : ∃ E2, E2 = D ++ (R.take m).map (fun x => ((k : Int), x)) := ⟨_, rfl⟩
        rw [← hE2] at hlen hrow2
        obtain rfl : q3 = E2.length := sliceLen hrow2.out
        have hEb : E2.length ≤ 9000000 := by omega
        have hEd : E2.length ≤ D.length + 8 := by omega
        clear hlen
        by_cases hlm : m < R.length
        · obtain ⟨ub, uo, uc', huv, hul, huc⟩ := (rowSlIn hur.out).1.at (by omega)
          obtain ⟨rfl, _, rfl⟩ := Value.slice.inj huv
          obtain ⟨x, hx⟩ : ∃ x, R[m]? = some x := ⟨_, List.getElem?_eq_getElem hlm⟩
          have qx : wr.cell? ⟨ub, uo + m, none⟩ = some (.int .i64 x) := huc m _ (by rw [List.getElem?_map, hx]; rfl)
          have hE3 : D ++ (R.take (m + 1)).map (fun x => ((k : Int), x)) = E2 ++ [((k : Int), x)] := by
            rw [List.take_add_one, hx, hE2]; simp
          have HE3 := Bx.mk hE3; have HE2 := Bx.mk hE2
          clear hE3 hE2 huv hx huc
          have hsq := hb3.out.size
          have hbl2 : w.heap.size < wr.heap.size := by
            rcases Nat.lt_or_ge w.heap.size wr.heap.size with e | e
            · exact e
            · have := hbx2.out; rw [Array.getElem?_eq_none e] at this; cases this
          go_wp2_with (at_builtin; refine wpList_append_lies _ rfl (.tmp 25) (.tmp 29) 50 rfl (w.heap.size + 1) 53 i0 _ 2 16 Tryd.underlying50 hi hz0 hz1 hz2 rfl (by omega) _ E2.length (E2.flatMap slC) rfl (hrow2.out.alloc _) ⟨wr.heap.size, 0, none⟩ 1 1 [.int .i64 (k : Int), .int .i64 x] rfl rfl (World.news_of_block (cs := #[.int .i64 (k : Int), .int .i64 x]) (t := 53) (fr := (0, 0)) (heap_alloc_new _ _)) (by simp [Value.oneCell']) (by omega) (by unfold maxLen; omega) (by omega) (by first | (simp; done) | (simp; omega)) (wr.heap.size + 1) (by simp) ?_; intro g cap w4 hown3 hgrow hat hlt3; have B4 : Bx (Below w.heap.size w w4) := ⟨(hb3.out.alloc hb3.out.size _).grown hgrow (by first | (simp; done) | (simp; omega)) (fun k hk => by have := (rowLt hrow2.out k hk).1; omega)⟩; have U4 : Bx (w4.ownsRow wo.heap.size 3 1 (.slice (some ⟨ub, uo, none⟩) R.length uc) R.length (R.map (Value.int .i64))) := ⟨rowKeep hur.out fun k hk => grownC (aset wr _) hgrow (rowLt hur.out k hk).2 (rowApart hur.out hrow2.out nIS k hk)⟩; have X4 : Bx (w4.heap[w.heap.size]? = some (.cells #[.slice lp t.locs.length lc, .slice (some ⟨bb, off, none⟩) t.thr.length tc, av] 36)) := ⟨(grownC (aset wr _) hgrow hbl2 (fun e => by have := (rowLt hrow2.out _ e).1; omega)).trans hbx2.out⟩; have PU := Bx.mk hown3; clear hown3 hgrow hat hlt3)
          go_roundw
          case rel =>
            refine ⟨m + 1, _, _, _, rfl, by go_num, by omega, ⟨?_⟩, U4, X4, B4⟩
            rw [HE3.out, List.length_append, List.flatMap_append]
            exact PU.out
          case measure => simp [intOf] <;> omega
        · obtain rfl : m = R.length := by omega
          have hE4 : E2 = D ++ R.map (fun x => ((k : Int), x)) := by rw [hE2, List.take_length]
          have HE4 := Bx.mk hE4
          clear hE4 hE2
          go_wp2
          go_roundw
          case rel => exact ⟨k + 1, E2, _, _, _, rfl, by go_num, by omega, by omega, ⟨by rw [E.out, HE4.out, List.append_assoc]⟩, hrow2, hbx2, hb3⟩
          case measure => simp [intOf] <;> omega
    · obtain rfl : k = t.thr.length := by omega
      have hD0 : D = thrSl 0 t.thr := by
        have := heq.out
        rw [List.drop_length, thrSl, List.append_nil] at this
        exact this.symm
      have HD0 := Bx.mk hD0
      have hDb : D.length ≤ 8000000 := by omega
      have g0 : wo.cell? ⟨w.heap.size, 0, none⟩ = some (.slice lp t.locs.length lc) := by rw [cOf hbx.out]; rfl
      clear hD0 heq hD
      go_wp2_with fail
      go_loopw [3, 36] (fun v i wq => ∃ (m : Nat) (p : Option Addr) (q c : Nat), v = .slice p q c ∧ i = .int .i64 (m : Int) ∧ m ≤ t.locs.length ∧ Bx (wq.ownsRow (w.heap.size + 1) 53 2 v (D ++ locSl m).length ((D ++ locSl m).flatMap slC)) ∧ Bx (Below w.heap.size w wq)) (fun _ i _ => t.locs.length - (intOf i).toNat)
      case atStart =>
        refine ⟨0, _, _, _, rfl, rfl, by omega, ⟨?_⟩, hb⟩
        have e0 : D ++ locSl 0 = D := by simp [locSl]
        rw [e0]; exact hrow.out
      case round =>
        obtain ⟨m, p3, q3, c3, rfl, rfl, hm, hrow2, hb3⟩ := hrel
        have hlen : (D ++ locSl m).length = D.length + m := by simp [locSl]
        obtain ⟨E2, hE2⟩ : ∃ E2, E2 = D ++ locSl m := ⟨_, rfl⟩
        rw [← hE2] at hlen hrow2
        have hEb : E2.length ≤ 9000000 := by omega
        obtain rfl : q3 = E2.length := sliceLen hrow2.out
        clear hlen
        by_cases hlm : m < t.locs.length
        · have hE3 : D ++ locSl (m + 1) = E2 ++ [((-1 : Int), (m : Int))] := by rw [locSl_succ, hE2, List.append_assoc]
          have HE3 := Bx.mk hE3
          have hsq := hb3.out.size
          clear hE3 hE2
          go_wp2_with (at_builtin; refine wpList_append_lies _ rfl (.tmp 39) (.tmp 42) 50 rfl (w.heap.size + 1) 53 i0 _ 2 16 Tryd.underlying50 hi hz0 hz1 hz2 rfl (by omega) _ E2.length (E2.flatMap slC) rfl (hrow2.out.alloc _) ⟨wr.heap.size, 0, none⟩ 1 1 [.int .i64 (-1), .int .i64 (m : Int)] rfl rfl (World.news_of_block (cs := #[.int .i64 (-1), .int .i64 (m : Int)]) (t := 53) (fr := (0, 0)) (heap_alloc_new _ _)) (by simp [Value.oneCell']) (by omega) (by unfold maxLen; omega) (by omega) (by first | (simp; done) | (simp; omega)) (wr.heap.size + 1) (by simp) ?_; intro g cap w4 hown3 hgrow hat hlt3; have B4 : Bx (Below w.heap.size w w4) := ⟨(hb3.out.alloc hb3.out.size _).grown hgrow (by first | (simp; done) | (simp; omega)) (fun k hk => by have := (rowLt hrow2.out k hk).1; omega)⟩; have PU := Bx.mk hown3; clear hown3 hgrow hat hlt3)
          go_roundw
          case rel =>
            refine ⟨m + 1, _, _, _, rfl, by go_num, by omega, ⟨?_⟩, B4⟩
            rw [HE3.out, List.length_append, List.flatMap_append]
            exact PU.out
          case measure => simp [intOf] <;> omega
        · obtain rfl : m = t.locs.length := by omega
          have HF : Bx (E2 = slotsM t) := ⟨by rw [hE2, HD0.out]; rfl⟩
          clear hE2
          go_wp2_with fail
          go_ret
          exact ⟨⟨_, rfl, by rw [← HF.out]; exact rowMono hrow2.out (by omega)⟩, hb3.out⟩
end Go.Proofs.YtnlcmdgjoikljaaDoor
