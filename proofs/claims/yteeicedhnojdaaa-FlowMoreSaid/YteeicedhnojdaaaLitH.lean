/- Contracts of litmus: checkThreads. -/
import Derived.Test.YteeicedhnojdaaaLitG
import Derived.Test.YteeicedhnojdaaaLitE
namespace Go.Proofs.Yteeicedhnojdaaa
set_option maxRecDepth 100000
open Go.RowKit

/-- the first thing that is wrong with instructions, each of which the rest of its thread follows -/
def chkLine (locs : Int) : List Ins → Nat
  | [] => 0
  | x :: r => if chkM x locs r.length = 0 then chkLine locs r else chkM x locs r.length
def chkThr (locs : Int) : List (List Ins) → Nat
  | [] => 0
  | l :: t => if chkLine locs l = 0 then chkThr locs t else chkLine locs l
theorem dropAt' {α : Type} {l : List α} {j : Nat} {a : α} (h : l[j]? = some a) : l.drop j = a :: l.drop (j + 1) := by
  obtain ⟨h', rfl⟩ := List.getElem?_eq_some_iff.1 h
  exact List.drop_eq_getElem_cons h'

set_option maxHeartbeats 6400000 in
theorem checkThreads_any (b : Nat) (t : TestM) (hk : TestOk t) (w : World) (h : TestAt w b t) :
    Calls Try.prog 23 #[.pointer (some ⟨b, 0, none⟩)] w fun e w' => e = .returned (.int .i64 (chkThr t.locs.length t.thr : Nat)) ∧ Below w.heap.size w w' := by
  have HTA := Bx.mk h
  obtain ⟨lv, tv, av, h0, h1, h2, ⟨hlo, ⟨vs, hvl, hth, hins⟩, _⟩⟩ := h.test
  obtain ⟨tp, tc, rfl⟩ := hth.slice
  obtain ⟨lp, lc, rfl⟩ := hlo.slice
  have hn := hk.thr
  have hnl := hk.locs
  have H0 := Bx.mk h0
  have HI := Bx.mk hins; have HT := Bx.mk hth; have HV := Bx.mk hvl; have HK := Bx.mk hk
  clear h hins h2 hvl hth hk hlo HTA
  go_enter Try.func23, Try.ntmps23
  go_wp2_with fail
  go_loopw [14] (fun i wr => ∃ k : Nat, i = .int .i64 (k : Int) ∧ k ≤ t.thr.length ∧ Bx (chkThr t.locs.length t.thr = chkThr t.locs.length (t.thr.drop k)) ∧ Bx (Below w.heap.size w wr)) (fun i _ => t.thr.length - (intOf i).toNat)
  case atStart => exact ⟨0, rfl, by omega, ⟨rfl⟩, ⟨Below.refl _ _⟩⟩
  case round =>
    obtain ⟨k, rfl, hkn, hch, hb⟩ := hrel
    by_cases hlt : k < t.thr.length
    · obtain ⟨bb, off, c, hv, hbl, hcl⟩ := HT.out.at (by omega)
      obtain ⟨rfl, _, rfl⟩ := Value.slice.inj hv
      obtain ⟨v, hvk⟩ : ∃ v, vs[k]? = some v := ⟨_, List.getElem?_eq_getElem (by rw [HV.out]; exact hlt)⟩
      obtain ⟨l, hlk, hsl⟩ := HI.out k v hvk
      obtain ⟨p2, c2, rfl⟩ := hsl.slice
      have hc0 : wr.cell? ⟨bb, off + k, none⟩ = some (.slice p2 l.length c2) := by rw [hb.out.cell hbl]; exact hcl k _ hvk
      have hll := HK.out.ins l (List.mem_of_getElem? hlk)
      have e := hch.out
      rw [dropAt' hlk, chkThr] at e
      have HE := Bx.mk e; have HSL := Bx.mk hsl
      clear hv hcl hvk hlk hsl e hch
      go_wp2
      go_loopw [20] (fun i wr => ∃ j : Nat, i = .int .i64 (j : Int) ∧ j ≤ l.length ∧ Bx (chkLine t.locs.length l = chkLine t.locs.length (l.drop j)) ∧ Bx (Below w.heap.size w wr)) (fun i _ => l.length - (intOf i).toNat)
      case atStart => exact ⟨0, rfl, by omega, ⟨rfl⟩, hb⟩
      case round =>
        obtain ⟨j, rfl, hjn, hcl, hq⟩ := hrel
        by_cases hjl : j < l.length
        · obtain ⟨bi, oi, ci, hvi, hbi, hci⟩ := HSL.out.at (by omega)
          obtain ⟨rfl, _, rfl⟩ := Value.slice.inj hvi
          obtain ⟨x, hx⟩ : ∃ x, l[j]? = some x := ⟨_, List.getElem?_eq_getElem hjl⟩
          have hia := SlIn.ins hci hx
          have e := hcl.out
          rw [dropAt' hx, chkLine] at e
          obtain ⟨fo, hfo⟩ : ∃ fo, fo = (l.drop (j + 1)).length := ⟨_, rfl⟩
          have hfo2 : fo = l.length - 1 - j := by rw [hfo, List.length_drop]; omega
          rw [← hfo] at e
          have cc := fun W => check_any x t.locs.length fo W
          rw [insV_eq] at cc
          have hbw : bi < wr.heap.size := Nat.lt_of_lt_of_le hbi hq.out.size
          obtain ⟨q0, q1, q2, q3, q4, q5, q6, q7, q8, q9, q10, q11, q12⟩ : InsAt wr bi (oi + j * 13) x := ⟨(hq.out.cell hbi).trans hia.c0, (hq.out.cell hbi).trans hia.c1, (hq.out.cell hbi).trans hia.c2, (hq.out.cell hbi).trans hia.c3, (hq.out.cell hbi).trans hia.c4, (hq.out.cell hbi).trans hia.c5, (hq.out.cell hbi).trans hia.c6, (hq.out.cell hbi).trans hia.c7, (hq.out.cell hbi).trans hia.c8, (hq.out.cell hbi).trans hia.c9, (hq.out.cell hbi).trans hia.c10, (hq.out.cell hbi).trans hia.c11, (hq.out.cell hbi).trans hia.c12⟩
          have g0 : wr.cell? ⟨b, 0, none⟩ = _ := cBel H0.out hq.out
          have hbb : b < wr.heap.size := World.block_lt_of_cell? wr _ g0
          have hsub : (l.length : Int) - 1 - (j : Int) = (fo : Int) := by omega
          obtain ⟨r, hr⟩ : ∃ r, r = chkM x t.locs.length fo := ⟨_, rfl⟩
          rw [← hr] at cc e
          have CC := Bx.mk cc
          clear cc hvi hci hx hia hcl hr hfo hfo2
          by_cases h0 : r = 0
          · subst h0
            rw [if_pos rfl] at e
            have E := Bx.mk e
            clear e
            go_wp2_with fail
            go_region_with (go_at_call 43; ((with_reducible refine (CC.out _).mono ?_); rintro e w1 ⟨rfl, b1⟩))
            all_goals
              have B1 := Bx.mk ((hq.out.alloc hq.out.size _).drew.trans (b1.mono (by have := hq.out.size; simp; omega)))
              clear b1
              go_wp2_with fail
              go_roundw
              case rel => exact ⟨j + 1, by go_num, by omega, E, B1⟩
              case measure => simp [intOf] <;> omega
          · have hr0 : ((r : Int) == 0) = false := by rw [beq_eq_false_iff_ne]; omega
            rw [if_neg h0] at e
            have e2 := HE.out
            rw [e, if_neg h0] at e2
            have E := Bx.mk e2
            clear e e2 h0
            go_wp2_with fail
            go_region_with (go_at_call 43; ((with_reducible refine (CC.out _).mono ?_); rintro e w1 ⟨rfl, b1⟩))
            all_goals
              have B1 := Bx.mk ((hq.out.alloc hq.out.size _).drew.trans (b1.mono (by have := hq.out.size; simp; omega)))
              clear b1
              go_wp2_with fail
              go_ret
              rw [E.out]
              exact ⟨rfl, B1.out⟩
        · obtain rfl : j = l.length := by omega
          have he : chkLine t.locs.length l = 0 := by rw [hcl.out, List.drop_length]; rfl
          have he2 := HE.out
          rw [if_pos he] at he2
          have E := Bx.mk he2
          clear he he2 hcl
          go_wp2
          go_roundw
          case rel => exact ⟨k + 1, by go_num, by omega, E, hq⟩
          case measure => simp [intOf] <;> omega
    · obtain rfl : k = t.thr.length := by omega
      have he : chkThr t.locs.length t.thr = 0 := by rw [hch.out, List.drop_length]; rfl
      have HE := Bx.mk he
      clear he hch
      go_wp2
      go_ret
      rw [HE.out]
      exact ⟨rfl, hb.out⟩
end Go.Proofs.Yteeicedhnojdaaa
