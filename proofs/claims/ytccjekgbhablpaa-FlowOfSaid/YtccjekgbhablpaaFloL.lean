/- Contracts of flow: the Ops of a test. -/
import Derived.Test.YtccjekgbhablpaaGe
import Derived.Test.YtccjekgbhablpaaGb
namespace Go.Proofs.Ytccjekgbhablpaa
set_option maxRecDepth 100000
open Go.RowKit

theorem info_op : (Try.prog.info? 45).map (fun i => (i.zero, i.size, i.bytes)) = some (some (.agg #[.int .i64 0, .int .i64 0]), 2, 16) := by kernel_rfl
/-- what Ops answers -/
def OpsP (w : World) (t : List (List Ins)) (e : Ending) (w' : World) : Prop :=
  ∃ u, e = .returned u ∧ w'.ownsRow w.heap.size 45 2 u (opsM 0 t).length ((opsM 0 t).flatMap opC) ∧ Below w.heap.size w w'

set_option maxHeartbeats 6400000 in
theorem ops_any (b : Nat) (t : TestM) (hk : TestOk t) (w : World) (h : TestAt w b t) :
    Calls Try.prog 8 #[.pointer (some ⟨b, 0, none⟩)] w (OpsP w t.thr) := by
  obtain ⟨i0, hi, hz0, hz1, hz2⟩ := info_parts info_op
  obtain ⟨lv, tv, av, h0, h1, h2, ⟨_, ⟨vs, hvl, hth, hins⟩, _⟩⟩ := h
  obtain ⟨tp, tc, rfl⟩ := hth.slice
  have hnt := hk.thr
  have HK := Bx.mk hk; have HTH := Bx.mk hth; have HVL := Bx.mk hvl; have HIN := Bx.mk hins
  clear h0 h2 hth hk hvl hins
  go_enter Try.func8, Try.ntmps8
  go_wp2_with fail
  go_loopw [3, 13] (fun v i wr => ∃ (k : Nat) (D : List (Nat × Nat)), i = .int .i64 (k : Int) ∧ k ≤ t.thr.length ∧ D.length ≤ k * 1000000 ∧ Bx (D = opsM 0 (t.thr.take k)) ∧ Bx (wr.ownsRow w.heap.size 45 2 v D.length (D.flatMap opC)) ∧ Bx (Below w.heap.size w wr) ∧ ∃ p q c, v = .slice p q c) (fun _ i _ => t.thr.length - (intOf i).toNat)
  case atStart => exact ⟨0, [], rfl, by omega, by simp, ⟨by simp [opsM]⟩, ⟨World.ownsRow_nil _ _ _ _⟩, ⟨Below.refl _ _⟩, _, _, _, rfl⟩
  case round =>
    obtain ⟨k, D, rfl, hk, hD, heq, hrow, hb, p, q, c, rfl⟩ := hrel
    obtain ⟨wo, rfl⟩ : ∃ wo : World, wo = wr := ⟨_, rfl⟩
    obtain rfl : q = D.length := by
      rcases hrow.out.2 with ⟨hh, h0⟩ | ⟨g, cap, cur, hh, _⟩
      · obtain ⟨_, h3, _⟩ := Value.slice.inj hh; omega
      · obtain ⟨_, h3, _⟩ := Value.slice.inj hh; exact h3
    by_cases hlt : k < t.thr.length
    · obtain ⟨bb, off, c', hv, hbl, hcl⟩ := HTH.out.at (by omega)
      obtain ⟨rfl, _, rfl⟩ := Value.slice.inj hv
      obtain ⟨u, hvk⟩ : ∃ u, vs[k]? = some u := ⟨_, List.getElem?_eq_getElem (by rw [HVL.out]; exact hlt)⟩
      obtain ⟨l, hlk, hsl⟩ := HIN.out k u hvk
      obtain ⟨ip, ic, rfl⟩ := hsl.slice
      have hll := HK.out.ins l (List.mem_of_getElem? hlk)
      have q0 : wo.cell? ⟨bb, off + k, none⟩ = some (.slice ip l.length ic) := (hb.out.cell hbl).trans (hcl k _ hvk)
      have HSL := Bx.mk hsl
      have HLK := Bx.mk hlk
      have hkm : k * 1000000 + 1000000 = (k + 1) * 1000000 := by omega
      have hk6 : k * 1000000 ≤ 1000000000000 := by omega
      have HKM := Bx.mk hkm
      have hsz : w.heap.size ≤ wo.heap.size := hb.out.size
      clear hcl hv hvk hsl hlk hkm
      go_wp2_with fail
      go_loopw [3, 20] (fun v i wq => ∃ (j : Nat) (E : List (Nat × Nat)), i = .int .i64 (j : Int) ∧ j ≤ l.length ∧ E.length ≤ D.length + j ∧ Bx (E = D ++ opsL k 0 (l.take j)) ∧ Bx (wq.ownsRow w.heap.size 45 2 v E.length (E.flatMap opC)) ∧ Bx (Below w.heap.size w wq) ∧ ∃ p q c, v = .slice p q c) (fun _ i _ => l.length - (intOf i).toNat)
      case atStart => exact ⟨0, D, rfl, by omega, by omega, ⟨by simp [opsL]⟩, hrow, hb, _, _, _, rfl⟩
      case round =>
        obtain ⟨j, E, rfl, hjl, hEl, hE, hrow2, hb3, p3, q3, c3, rfl⟩ := hrel
        obtain rfl : q3 = E.length := by
          rcases hrow2.out.2 with ⟨hh, h0⟩ | ⟨g, cap, cur, hh, _⟩
          · obtain ⟨_, h3, _⟩ := Value.slice.inj hh; omega
          · obtain ⟨_, h3, _⟩ := Value.slice.inj hh; exact h3
        by_cases hjlt : j < l.length
        · obtain ⟨ib, io, ic', hiv, hil, hicl⟩ := HSL.out.at (by omega)
          obtain ⟨rfl, _, rfl⟩ := Value.slice.inj hiv
          obtain ⟨x, hx⟩ : ∃ x, l[j]? = some x := ⟨_, List.getElem?_eq_getElem hjlt⟩
          obtain ⟨y0, y1, y2, y3, y4, y5, y6, y7, y8, y9, y10, y11, y12⟩ : InsAt wr ib (io + j * 13) x := (SlIn.ins hicl hx).below hb3.out
          have hsz3 := hb3.out.size
          have EX := Bx.mk (opsL_take k hx)
          have cm : ∀ W, Calls Try.prog 21 #[insV x] W fun e w' => e = .returned (.bool (isMem x.op)) ∧ Below W.heap.size W w' := fun W => isMemory_any x W
          rw [insV_eq] at cm
          have CM := Bx.mk cm
          have HB1 := Bx.mk (bel hb3.out (aset wr (.cells #[.int .i64 x.op, .int .i64 x.rd, .int .i64 x.loc, .bool x.ar, .int .u64 x.an, .bool x.br, .int .u64 x.bn, .bool x.acq, .bool x.rel, .int .i64 x.dep, .int .i64 x.pred, .int .i64 x.succ, .int .i64 x.skip] 84)))
          have ROW1 := Bx.mk (rowBel hrow2.out (aset wr (.cells #[.int .i64 x.op, .int .i64 x.rd, .int .i64 x.loc, .bool x.ar, .int .u64 x.an, .bool x.br, .int .u64 x.bn, .bool x.acq, .bool x.rel, .int .i64 x.dep, .int .i64 x.pred, .int .i64 x.succ, .int .i64 x.skip] 84)))
          clear hicl hiv hx cm
          cases hM : isMem x.op
          · rw [hM] at CM EX
            go_wp2_with (go_at_call 21; ((with_reducible refine (CM.out _).mono ?_); rintro e w5 ⟨rfl, hb5⟩; have HB5 := Bx.mk (bel HB1.out hb5); have ROW5 := Bx.mk (rowBel ROW1.out hb5); clear hb5))
            go_roundw
            case rel => exact ⟨j + 1, E, by go_num, by omega, by omega, ⟨by rw [EX.out, hE.out]; simp⟩, ROW5, HB5, _, _, _, rfl⟩
            case measure => simp [intOf] <;> omega
          · rw [hM] at CM EX
            go_wp2_with (first
              | (go_at_call 21; ((with_reducible refine (CM.out _).mono ?_); rintro e w5 ⟨rfl, hb5⟩; have HB5 := Bx.mk (bel HB1.out hb5); have ROW5 := Bx.mk (rowBel ROW1.out hb5); have hs5 := HB5.out.size; clear hb5))
              | (at_builtin; refine wpList_append_lies _ rfl (.tmp 27) (.tmp 31) 39 rfl w.heap.size 45 i0 _ 2 16 Try.underlying39 hi hz0 hz1 hz2 rfl (by omega) _ E.length (E.flatMap opC) rfl (ROW5.out.alloc _) ⟨w5.heap.size, 0, none⟩ 1 1 [.int .i64 (k : Int), .int .i64 (j : Int)] rfl rfl (World.news_of_block (cs := #[.int .i64 (k : Int), .int .i64 (j : Int)]) (t := 45) (fr := (0, 0)) (heap_alloc_new _ _)) (by simp [Value.oneCell']) (by omega) (by unfold maxLen; omega) (by omega) (by simp; omega) (w5.heap.size + 1) (by simp) ?_; intro g cap w4 hown3 hgrow hat hlt3; have B4 : Bx (Below w.heap.size w w4) := ⟨(HB5.out.alloc HB5.out.size _).grown hgrow (by simp; omega) (fun k hk => (rowLt ROW5.out k hk).1)⟩; have PU := Bx.mk hown3; clear hown3 hgrow hat hlt3))
            go_roundw
            case rel =>
              have e3 : D ++ opsL k 0 (l.take (j + 1)) = E ++ [(k, j)] := by rw [EX.out, hE.out]; simp
              refine ⟨j + 1, E ++ [(k, j)], by go_num, by omega, by simp; omega, ⟨e3.symm⟩, ⟨?_⟩, B4, _, _, _, rfl⟩
              rw [List.length_append, List.flatMap_append]
              exact PU.out
            case measure => simp [intOf] <;> omega
        · obtain rfl : j = l.length := by omega
          have hE2 : E = opsM 0 (t.thr.take (k + 1)) := by rw [hE.out, heq.out, List.take_length, opsM_take HLK.out]
          have HE2 := Bx.mk hE2
          clear hE2 hE heq
          go_wp2
          go_roundw
          case rel => exact ⟨k + 1, E, by go_num, by omega, by have := HKM.out; omega, HE2, hrow2, hb3, _, _, _, rfl⟩
          case measure => simp [intOf] <;> omega
    · obtain rfl : k = t.thr.length := by omega
      have hD0 : D = opsM 0 t.thr := by rw [heq.out, List.take_length]
      have HD0 := Bx.mk hD0
      clear hD0 heq hD
      go_wp2_with fail
      go_ret
      unfold OpsP
      rw [← HD0.out]
      exact ⟨_, rfl, hrow.out, hb.out⟩
end Go.Proofs.Ytccjekgbhablpaa
