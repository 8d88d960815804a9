/- LitH, LitP, LitR, LitX, in one text. -/
import Derived.Test.YtccjekgbhablpaaGb
import Derived.Test.YtccjekgbhablpaaLitE
import Derived.Test.YtccjekgbhablpaaGj
namespace Go.Proofs.Ytccjekgbhablpaa
set_option maxRecDepth 100000
open Go.RowKit

/-- the first thing that is wrong with instructions, each of which the rest of its thread follows -/
def chkLine (locs : Int) : List Ins → Nat
  | [] => 0
  | x :: r => if chkM x locs r.length = 0 then chkLine locs r else chkM x locs r.length
def chkThr (locs : Int) : List (List Ins) → Nat
  | [] => 0
  | l :: t => if chkLine locs l = 0 then chkThr locs t else chkLine locs l
theorem dropAt' {α : Type} {l : List α} {j : Nat} {a : α} (h : l[j]? = some a) : l.drop j = a :: l.drop (j + 1) := by
  obtain ⟨h', rfl⟩ := List.getElem?_eq_some_iff.1 h
  exact List.drop_eq_getElem_cons h'

set_option maxHeartbeats 6400000 in
theorem checkThreads_any (b : Nat) (t : TestM) (hk : TestOk t) (w : World) (h : TestAt w b t) :
    Calls Try.prog 18 #[.pointer (some ⟨b, 0, none⟩)] w fun e w' => e = .returned (.int .i64 (chkThr t.locs.length t.thr : Nat)) ∧ Below w.heap.size w w' := by
  have HTA := Bx.mk h
  obtain ⟨lv, tv, av, h0, h1, h2, ⟨hlo, ⟨vs, hvl, hth, hins⟩, _⟩⟩ := h.test
  obtain ⟨tp, tc, rfl⟩ := hth.slice
  obtain ⟨lp, lc, rfl⟩ := hlo.slice
  have hn := hk.thr
  have hnl := hk.locs
  have H0 := Bx.mk h0
  have HI := Bx.mk hins; have HT := Bx.mk hth; have HV := Bx.mk hvl; have HK := Bx.mk hk
  clear h hins h2 hvl hth hk hlo HTA
  go_enter Try.func18, Try.ntmps18
  go_wp2_with fail
  go_loopw [14] (fun i wr => ∃ k : Nat, i = .int .i64 (k : Int) ∧ k ≤ t.thr.length ∧ Bx (chkThr t.locs.length t.thr = chkThr t.locs.length (t.thr.drop k)) ∧ Bx (Below w.heap.size w wr)) (fun i _ => t.thr.length - (intOf i).toNat)
  case atStart => exact ⟨0, rfl, by omega, ⟨rfl⟩, ⟨Below.refl _ _⟩⟩
  case round =>
    obtain ⟨k, rfl, hkn, hch, hb⟩ := hrel
    by_cases hlt : k < t.thr.length
    · obtain ⟨bb, off, c, hv, hbl, hcl⟩ := HT.out.at (by omega)
      obtain ⟨rfl, _, rfl⟩ := Value.slice.inj hv
      obtain ⟨v, hvk⟩ : ∃ v, vs[k]? = some v := ⟨_, List.getElem?_eq_getElem (by rw [HV.out]; exact hlt)⟩
      obtain ⟨l, hlk, hsl⟩ := HI.out k v hvk
      obtain ⟨p2, c2, rfl⟩ := hsl.slice
      have hc0 : wr.cell? ⟨bb, off + k, none⟩ = some (.slice p2 l.length c2) := by rw [hb.out.cell hbl]; exact hcl k _ hvk
      have hll := HK.out.ins l (List.mem_of_getElem? hlk)
      have e := hch.out
      rw [dropAt' hlk, chkThr] at e
      have HE := Bx.mk e; have HSL := Bx.mk hsl
      clear hv hcl hvk hlk hsl e hch
      go_wp2
      go_loopw [20] (fun i wr => ∃ j : Nat, i = .int .i64 (j : Int) ∧ j ≤ l.length ∧ Bx (chkLine t.locs.length l = chkLine t.locs.length (l.drop j)) ∧ Bx (Below w.heap.size w wr)) (fun i _ => l.length - (intOf i).toNat)
      case atStart => exact ⟨0, rfl, by omega, ⟨rfl⟩, hb⟩
      case round =>
        obtain ⟨j, rfl, hjn, hcl, hq⟩ := hrel
        by_cases hjl : j < l.length
        · obtain ⟨bi, oi, ci, hvi, hbi, hci⟩ := HSL.out.at (by omega)
          obtain ⟨rfl, _, rfl⟩ := Value.slice.inj hvi
          obtain ⟨x, hx⟩ : ∃ x, l[j]? = some x := ⟨_, List.getElem?_eq_getElem hjl⟩
          have hia := SlIn.ins hci hx
          have e := hcl.out
          rw [dropAt' hx, chkLine] at e
          obtain ⟨fo, hfo⟩ : ∃ fo, fo = (l.drop (j + 1)).length := ⟨_, rfl⟩
          have hfo2 : fo = l.length - 1 - j := by rw [hfo, List.length_drop]; omega
          rw [← hfo] at e
          have cc := fun W => check_any x t.locs.length fo W
          rw [insV_eq] at cc
          have hbw : bi < wr.heap.size := Nat.lt_of_lt_of_le hbi hq.out.size
          obtain ⟨q0, q1, q2, q3, q4, q5, q6, q7, q8, q9, q10, q11, q12⟩ : InsAt wr bi (oi + j * 13) x := ⟨(hq.out.cell hbi).trans hia.c0, (hq.out.cell hbi).trans hia.c1, (hq.out.cell hbi).trans hia.c2, (hq.out.cell hbi).trans hia.c3, (hq.out.cell hbi).trans hia.c4, (hq.out.cell hbi).trans hia.c5, (hq.out.cell hbi).trans hia.c6, (hq.out.cell hbi).trans hia.c7, (hq.out.cell hbi).trans hia.c8, (hq.out.cell hbi).trans hia.c9, (hq.out.cell hbi).trans hia.c10, (hq.out.cell hbi).trans hia.c11, (hq.out.cell hbi).trans hia.c12⟩
          have g0 : wr.cell? ⟨b, 0, none⟩ = _ := cBel H0.out hq.out
          have hbb : b < wr.heap.size := World.block_lt_of_cell? wr _ g0
          have hsub : (l.length : Int) - 1 - (j : Int) = (fo : Int) := by omega
          obtain ⟨r, hr⟩ : ∃ r, r = chkM x t.locs.length fo := ⟨_, rfl⟩
          rw [← hr] at cc e
          have CC := Bx.mk cc
          clear cc hvi hci hx hia hcl hr hfo hfo2
          by_cases h0 : r = 0
          · subst h0
            rw [if_pos rfl] at e
            have E := Bx.mk e
            clear e
            go_wp2_with fail
            go_region_with (go_at_call 33; ((with_reducible refine (CC.out _).mono ?_); rintro e w1 ⟨rfl, b1⟩))
            all_goals
              have B1 := Bx.mk ((hq.out.alloc hq.out.size _).drew.trans (b1.mono (by have := hq.out.size; simp; omega)))
              clear b1
              go_wp2_with fail
              go_roundw
              case rel => exact ⟨j + 1, by go_num, by omega, E, B1⟩
              case measure => simp [intOf] <;> omega
          · have hr0 : ((r : Int) == 0) = false := by rw [beq_eq_false_iff_ne]; omega
            rw [if_neg h0] at e
            have e2 := HE.out
            rw [e, if_neg h0] at e2
            have E := Bx.mk e2
            clear e e2 h0
            go_wp2_with fail
            go_region_with (go_at_call 33; ((with_reducible refine (CC.out _).mono ?_); rintro e w1 ⟨rfl, b1⟩))
            all_goals
              have B1 := Bx.mk ((hq.out.alloc hq.out.size _).drew.trans (b1.mono (by have := hq.out.size; simp; omega)))
              clear b1
              go_wp2_with fail
              go_ret
              rw [E.out]
              exact ⟨rfl, B1.out⟩
        · obtain rfl : j = l.length := by omega
          have he : chkLine t.locs.length l = 0 := by rw [hcl.out, List.drop_length]; rfl
          have he2 := HE.out
          rw [if_pos he] at he2
          have E := Bx.mk he2
          clear he he2 hcl
          go_wp2
          go_roundw
          case rel => exact ⟨k + 1, by go_num, by omega, E, hq⟩
          case measure => simp [intOf] <;> omega
    · obtain rfl : k = t.thr.length := by omega
      have he : chkThr t.locs.length t.thr = 0 := by rw [hch.out, List.drop_length]; rfl
      have HE := Bx.mk he
      clear he hch
      go_wp2
      go_ret
      rw [HE.out]
      exact ⟨rfl, hb.out⟩
end Go.Proofs.Ytccjekgbhablpaa
namespace Go.Proofs.Ytccjekgbhablpaa
set_option maxRecDepth 100000
open Go.RowKit

theorem isLong_any (p : Option Addr) (n c : Nat) (hn : n ≤ 1000000) (w : World) :
    Calls Try.prog 29 #[.slice p n c] w fun e w' => e = .returned (.bool (decide (8 < n))) ∧ w = w' := by
  by_cases h : 8 < n
  all_goals
    go_enter Try.func29, Try.ntmps29
    go_wp2
    go_ret
    exact ⟨by simp [h] <;> omega, rfl⟩
/-- where the first thread that is too long lies -/
def longAt : List (List Ins) → Nat → Int
  | [], _ => -1
  | l :: r, k => if 8 < l.length then (k : Int) else longAt r (k + 1)
theorem longAt_any (L : List (List Ins)) : ∀ k, decide (0 ≤ longAt L k) = L.any (fun l => decide (8 < l.length)) := by
  induction L with
  | nil => intro k; rfl
  | cons l r ih =>
    intro k
    rw [longAt, List.any_cons]
    by_cases h : 8 < l.length
    · rw [if_pos h]; simp [h]
    · rw [if_neg h, ih]; simp [h]
set_option maxHeartbeats 1600000 in
theorem indexLong_any (tv : Value) (T : List (List Ins)) (vs : List Value) (w : World) (hn : T.length ≤ 1000000) (hm : ∀ l ∈ T, l.length ≤ 1000000) (hvl : vs.length = T.length) (hth : SlIn w tv 1 T.length vs) (hins : ∀ (i : Nat) (v : Value), vs[i]? = some v → ∃ l : List Ins, T[i]? = some l ∧ SlIn w v 13 l.length (l.flatMap insC)) :
    Calls Try.prog 52 #[tv, .func (.func 29) #[] #[]] w fun e w' => e = .returned (.int .i64 (longAt T 0)) ∧ Below w.heap.size w w' := by
  obtain ⟨tp, tc, rfl⟩ := hth.slice
  have HI := Bx.mk hins; have HT := Bx.mk hth; have HV := Bx.mk hvl; have HK := Bx.mk hm
  clear hins hvl hth hm
  go_enter Try.func52, Try.ntmps52
  go_wp2_with fail
  go_loopw [8] (fun i wr => ∃ k : Nat, i = .int .i64 (k : Int) ∧ k ≤ T.length ∧ Bx (longAt T 0 = longAt (T.drop k) k) ∧ Bx (Below w.heap.size w wr)) (fun i _ => T.length - (intOf i).toNat)
  case atStart => exact ⟨0, rfl, by omega, ⟨rfl⟩, ⟨Below.refl _ _⟩⟩
  case round =>
    obtain ⟨k, rfl, hkn, hch, hb⟩ := hrel
    by_cases hlt : k < T.length
    · obtain ⟨bb, off, c, hv, hbl, hcl⟩ := HT.out.at (by omega)
      obtain ⟨rfl, _, rfl⟩ := Value.slice.inj hv
      obtain ⟨v, hvk⟩ : ∃ v, vs[k]? = some v := ⟨_, List.getElem?_eq_getElem (by rw [HV.out]; exact hlt)⟩
      obtain ⟨l, hlk, hsl⟩ := HI.out k v hvk
      obtain ⟨p2, c2, rfl⟩ := hsl.slice
      have hc0 : wr.cell? ⟨bb, off + k, none⟩ = some (.slice p2 l.length c2) := by rw [hb.out.cell hbl]; exact hcl k _ hvk
      have hll := HK.out l (List.mem_of_getElem? hlk)
      have e := hch.out
      rw [atDrop hlk, longAt] at e
      have cl := fun W => isLong_any p2 l.length c2 hll W
      by_cases h8 : 8 < l.length
      · rw [if_pos h8] at e
        rw [decide_eq_true h8] at cl
        have CL := Bx.mk cl; have E := Bx.mk e
        clear cl e hv hcl hvk hlk hsl hch h8
        go_wp2_with (go_at_call 29; ((with_reducible refine (CL.out _).mono ?_); rintro e w' ⟨rfl, rfl⟩))
        go_ret
        rw [E.out]
        exact ⟨rfl, hb.out⟩
      · rw [if_neg h8] at e
        rw [decide_eq_false h8] at cl
        have CL := Bx.mk cl; have E := Bx.mk e
        clear cl e hv hcl hvk hlk hsl hch h8
        go_wp2_with (go_at_call 29; ((with_reducible refine (CL.out _).mono ?_); rintro e w' ⟨rfl, rfl⟩))
        go_roundw
        case rel => exact ⟨k + 1, by go_num, by omega, E, hb⟩
        case measure => simp [intOf] <;> omega
    · obtain rfl : k = T.length := by omega
      have he : longAt T 0 = -1 := by rw [hch.out, List.drop_length]; rfl
      have HE := Bx.mk he
      clear he hch
      go_wp2
      go_ret
      rw [HE.out]
      exact ⟨rfl, hb.out⟩
theorem hasLong_any (tv : Value) (T : List (List Ins)) (vs : List Value) (w : World) (hn : T.length ≤ 1000000) (hm : ∀ l ∈ T, l.length ≤ 1000000) (hvl : vs.length = T.length) (hth : SlIn w tv 1 T.length vs) (hins : ∀ (i : Nat) (v : Value), vs[i]? = some v → ∃ l : List Ins, T[i]? = some l ∧ SlIn w v 13 l.length (l.flatMap insC)) :
    Calls Try.prog 30 #[tv, .func (.func 29) #[] #[]] w fun e w' => e = .returned (.bool (T.any (fun l => decide (8 < l.length)))) ∧ Below w.heap.size w w' := by
  have c := indexLong_any tv T vs w hn hm hvl hth hins
  rw [← longAt_any T 0]
  generalize longAt T 0 = R at *
  have C := Bx.mk c
  clear c hn hm hvl hth hins
  by_cases hR : 0 ≤ R
  all_goals
    go_enter Try.func30, Try.ntmps30
    go_wp2_with (go_at_call 52; ((with_reducible refine (C.out).mono ?_); rintro e w' ⟨rfl, hb⟩))
    go_ret
    exact ⟨by simp [hR], hb⟩
def chkSizes (t : TestM) : Nat := if t.thr.length = 0 then 15 else if 4 < t.thr.length ∨ 8 < t.locs.length ∨ 40 < t.asks.length then 12 else if (t.thr.any (fun l => decide (8 < l.length))) = true ∨ 8 < evM t.thr then 12 else 0
set_option maxHeartbeats 1600000 in
theorem checkSizes_any (b : Nat) (t : TestM) (hk : TestOk t) (w : World) (h : TestAt w b t) :
    Calls Try.prog 16 #[.pointer (some ⟨b, 0, none⟩)] w fun e w' => e = .returned (.int .i64 (chkSizes t : Nat)) ∧ Below w.heap.size w w' := by
  have c2 : ∀ W, Below w.heap.size w W → Calls Try.prog 31 #[.pointer (some ⟨b, 0, none⟩)] W fun e w' => e = .returned (.int .i64 (evM t.thr : Nat)) ∧ Below w.heap.size w w' := fun W hW => (events_any b t hk W (h.below hW)).mono fun e w' ⟨x, y⟩ => ⟨x, bel hW y⟩
  obtain ⟨lv, tv, av, h0, h1, h2, ⟨hlo, ⟨vs, hvl, hth, hins⟩, has⟩⟩ := h.test
  have c1 := hasLong_any tv t.thr vs w hk.thr hk.ins hvl hth hins
  obtain ⟨lp, lc, rfl⟩ := hlo.slice
  obtain ⟨tp, tc, rfl⟩ := hth.slice
  obtain ⟨ap, ac, rfl⟩ := has.slice
  have n1 := hk.thr; have n2 := hk.locs; have n3 := hk.asks
  obtain ⟨e1, he1⟩ : ∃ x, x = chkSizes t := ⟨_, rfl⟩
  rw [← he1]
  unfold chkSizes at he1
  clear h hlo hth hvl hins has hk
  generalize t.thr.any (fun l => decide (8 < l.length)) = A at *
  generalize evM t.thr = V at *
  generalize t.thr.length = l1 at *
  generalize t.locs.length = l2 at *
  generalize t.asks.length = l3 at *
  have C1 := Bx.mk c1; have C2 := Bx.mk c2
  clear c1 c2
  have hc : (l1 = 0 ∧ e1 = 15) ∨ (0 < l1 ∧ 4 < l1 ∧ e1 = 12) ∨ (0 < l1 ∧ l1 ≤ 4 ∧ 8 < l2 ∧ e1 = 12) ∨ (0 < l1 ∧ l1 ≤ 4 ∧ l2 ≤ 8 ∧ 40 < l3 ∧ e1 = 12) ∨ (0 < l1 ∧ l1 ≤ 4 ∧ l2 ≤ 8 ∧ l3 ≤ 40 ∧ A = true ∧ e1 = 12) ∨ (0 < l1 ∧ l1 ≤ 4 ∧ l2 ≤ 8 ∧ l3 ≤ 40 ∧ A = false ∧ 8 < V ∧ e1 = 12) ∨ (0 < l1 ∧ l1 ≤ 4 ∧ l2 ≤ 8 ∧ l3 ≤ 40 ∧ A = false ∧ V ≤ 8 ∧ e1 = 0) := by
    cases A <;> simp at he1 <;> split at he1 <;> (try split at he1) <;> (try split at he1) <;> simp <;> omega
  clear he1
  rcases hc with ⟨rfl, rfl⟩ | ⟨k1, k2, rfl⟩ | ⟨k1, k2, k3, rfl⟩ | ⟨k1, k2, k3, k4, rfl⟩ | ⟨k1, k2, k3, k4, rfl, rfl⟩ | ⟨k1, k2, k3, k4, rfl, k5, rfl⟩ | ⟨k1, k2, k3, k4, rfl, k5, rfl⟩
  case inl =>
    go_enter Try.func16, Try.ntmps16
    go_wp2_with fail
    go_ret
    exact ⟨rfl, Below.refl _ _⟩
  all_goals
    have hz : ((l1 : Int) == 0) = false := by rw [beq_eq_false_iff_ne]; omega
    go_enter Try.func16, Try.ntmps16
    go_wp2_with (first
      | (go_at_call 30; ((with_reducible refine (C1.out).mono ?_); rintro e w' ⟨rfl, hb⟩))
      | (go_at_call 31; ((with_reducible refine (C2.out _ (by assumption)).mono ?_); rintro e w' ⟨rfl, hb⟩)))
    go_ret
    exact ⟨rfl, by first | assumption | exact Below.refl _ _⟩
end Go.Proofs.Ytccjekgbhablpaa
namespace Go.Proofs.Ytccjekgbhablpaa
set_option maxRecDepth 100000
open Go.RowKit

def chkTest (t : TestM) : Int := firstNZ [((chkSizes t : Nat) : Int), ((chkLocs none t.locs : Nat) : Int), ((chkThr t.locs.length t.thr : Nat) : Int), ((chkAsks t none t.asks : Nat) : Int)]
set_option maxHeartbeats 3200000 in
theorem check_test (b : Nat) (t : TestM) (hk : TestOk t) (hs : ∀ l ∈ t.locs, l.1.length ≤ 1000000000) (w : World) (h : TestAt w b t) :
    Calls Try.prog 6 #[.pointer (some ⟨b, 0, none⟩)] w fun e w' => e = .returned (.int .i64 (chkTest t)) ∧ Below w.heap.size w w' := by
  have c1 := fun W (hW : Below w.heap.size w W) => (checkSizes_any b t hk W (h.below hW)).mono fun e w' ⟨x, y⟩ => (⟨x, bel hW y⟩ : _ ∧ Below w.heap.size w w')
  have c2 := fun W (hW : Below w.heap.size w W) => (checkLocs_any b t hk hs W (h.below hW)).mono fun e w' ⟨x, y⟩ => (⟨x, bel hW y⟩ : _ ∧ Below w.heap.size w w')
  have c3 := fun W (hW : Below w.heap.size w W) => (checkThreads_any b t hk W (h.below hW)).mono fun e w' ⟨x, y⟩ => (⟨x, bel hW y⟩ : _ ∧ Below w.heap.size w w')
  have c4 := fun W (hW : Below w.heap.size w W) => (checkAsks_any b t hk W (h.below hW)).mono fun e w' ⟨x, y⟩ => (⟨x, bel hW y⟩ : _ ∧ Below w.heap.size w w')
  have c5 : ∀ W : World, Calls Try.prog 15 #[.slice (some ⟨W.heap.size, 0, none⟩) 4 4] (W.alloc (.cells #[.int .i64 ((chkSizes t : Nat) : Int), .int .i64 ((chkLocs none t.locs : Nat) : Int), .int .i64 ((chkThr t.locs.length t.thr : Nat) : Int), .int .i64 ((chkAsks t none t.asks : Nat) : Int)] 31)) fun e w' => e = .returned (.int .i64 (chkTest t)) ∧ (W.alloc (.cells #[.int .i64 ((chkSizes t : Nat) : Int), .int .i64 ((chkLocs none t.locs : Nat) : Int), .int .i64 ((chkThr t.locs.length t.thr : Nat) : Int), .int .i64 ((chkAsks t none t.asks : Nat) : Int)] 31)) = w' := fun W =>
    orErr_any [((chkSizes t : Nat) : Int), ((chkLocs none t.locs : Nat) : Int), ((chkThr t.locs.length t.thr : Nat) : Int), ((chkAsks t none t.asks : Nat) : Int)] W.heap.size 4 rfl (by decide) _ (fun j x hx => by
      rw [cOf (heap_alloc_new _ _)]
      match j, hx with
      | 0, hx => simp at hx; subst hx; rfl
      | 1, hx => simp at hx; subst hx; rfl
      | 2, hx => simp at hx; subst hx; rfl
      | 3, hx => simp at hx; subst hx; rfl
      | j + 4, hx => simp at hx)
  generalize chkTest t = R at *
  generalize ((chkSizes t : Nat) : Int) = r1 at *
  generalize ((chkLocs none t.locs : Nat) : Int) = r2 at *
  generalize ((chkThr t.locs.length t.thr : Nat) : Int) = r3 at *
  generalize ((chkAsks t none t.asks : Nat) : Int) = r4 at *
  have C1 := Bx.mk c1; have C2 := Bx.mk c2; have C3 := Bx.mk c3; have C4 := Bx.mk c4; have C5 := Bx.mk c5
  clear c1 c2 c3 c4 c5 hk hs
  go_enter Try.func6, Try.ntmps6
  have hb0 : Below w.heap.size w w := Below.refl _ _
  clear h
  go_wp2_with (first
      | (go_at_call 16; ((with_reducible refine (C1.out _ (by assumption)).mono ?_); rintro e w1 ⟨rfl, hb1⟩))
      | (go_at_call 17; ((with_reducible refine (C2.out _ (by assumption)).mono ?_); rintro e w2 ⟨rfl, hb2⟩))
      | (go_at_call 18; ((with_reducible refine (C3.out _ (by assumption)).mono ?_); rintro e w3 ⟨rfl, hb3⟩))
      | (go_at_call 19; ((with_reducible refine (C4.out _ (by assumption)).mono ?_); rintro e w4 ⟨rfl, hb4⟩))
      | (go_at_call 15; ((with_reducible refine (C5.out _).mono ?_); rintro e w5 ⟨rfl, rfl⟩)))
  go_ret
  exact ⟨rfl, hb4.alloc hb4.size _⟩
end Go.Proofs.Ytccjekgbhablpaa
namespace Go.Proofs.Ytccjekgbhablpaa
set_option maxRecDepth 100000
open Go.RowKit

theorem first0 (l : List Int) : firstNZ l = 0 ↔ ∀ x ∈ l, x = 0 := by
  induction l with
  | nil => simp [firstNZ]
  | cons x r ih =>
    rw [firstNZ]
    by_cases h : x = 0
    · rw [if_pos h, ih]; simp [h]
    · rw [if_neg h]; simp [h]
theorem chk0 (t : TestM) : chkTest t = 0 ↔ chkSizes t = 0 ∧ chkLocs none t.locs = 0 ∧ chkThr t.locs.length t.thr = 0 ∧ chkAsks t none t.asks = 0 := by
  unfold chkTest
  rw [first0]
  simp only [List.mem_cons, List.not_mem_nil, or_false, forall_eq_or_imp, forall_eq]
  omega
theorem thr0 (locs : Int) (t : List (List Ins)) : chkThr locs t = 0 ↔ ∀ l ∈ t, chkLine locs l = 0 := by
  induction t with
  | nil => simp [chkThr]
  | cons x r ih =>
    rw [chkThr]
    by_cases h : chkLine locs x = 0
    · rw [if_pos h, ih]; simp [h]
    · rw [if_neg h]; simp [h]
theorem line0 (locs : Int) (l : List Ins) : chkLine locs l = 0 ↔ ∀ (i : Nat) (x : Ins), l[i]? = some x → chkM x locs ((l.length : Int) - 1 - i) = 0 := by
  induction l with
  | nil => simp [chkLine]
  | cons y r ih =>
    rw [chkLine]
    have e0 : (((y :: r).length : Int) - 1 - ((0 : Nat) : Int)) = (r.length : Int) := by simp
    by_cases h : chkM y locs r.length = 0
    · rw [if_pos h, ih]
      constructor
      · intro hh i x hx
        cases i with
        | zero => simp at hx; subst hx; rw [e0]; exact h
        | succ i =>
          have := hh i x (by simpa using hx)
          rw [show ((y :: r).length : Int) - 1 - ((i + 1 : Nat) : Int) = (r.length : Int) - 1 - (i : Int) by simp; omega]
          exact this
      · intro hh i x hx
        have := hh (i + 1) x (by simpa using hx)
        rw [show ((y :: r).length : Int) - 1 - ((i + 1 : Nat) : Int) = (r.length : Int) - 1 - (i : Int) by simp; omega] at this
        exact this
    · rw [if_neg h]
      constructor
      · intro hh; exact absurd hh h
      · intro hh
        have := hh 0 y rfl
        rwa [e0] at this
theorem chkM0 (x : Ins) (locs foll foll' : Int) (h : chkM x locs foll = 0) (hs : x.skip ≤ foll') : chkM x locs foll' = 0 := by
  unfold chkM at h ⊢
  by_cases h1 : known x.op = false ∨ x ≠ needM x
  · rw [if_pos h1] at h; omega
  rw [if_neg h1] at h ⊢
  by_cases h2 : namesM x locs = false
  · rw [if_pos h2] at h; omega
  rw [if_neg h2] at h ⊢
  by_cases h3 : fitsM x = false
  · rw [if_pos h3] at h; omega
  rw [if_neg h3] at h ⊢
  by_cases h4 : x.skip < 0 ∨ foll < x.skip
  · rw [if_pos h4] at h; omega
  · rw [if_neg (by omega)]
theorem chkM_skip (x : Ins) (locs foll : Int) (h : chkM x locs foll = 0) : 0 ≤ x.skip ∧ x.skip ≤ foll := by
  unfold chkM at h
  by_cases h1 : known x.op = false ∨ x ≠ needM x
  · rw [if_pos h1] at h; omega
  rw [if_neg h1] at h
  by_cases h2 : namesM x locs = false
  · rw [if_pos h2] at h; omega
  rw [if_neg h2] at h
  by_cases h3 : fitsM x = false
  · rw [if_pos h3] at h; omega
  rw [if_neg h3] at h
  by_cases h4 : x.skip < 0 ∨ foll < x.skip
  · rw [if_pos h4] at h; omega
  · omega

def noAsks (t : TestM) : TestM := { t with asks := [] }
def lessM (t : TestM) : TestM := { noAsks t with thr := t.thr.take (t.thr.length - 1) }
def shortM (t : TestM) (k : Nat) (l : List Ins) : TestM := { noAsks t with thr := t.thr.set k (l.take (l.length - 1)) }
theorem sizes0 (t : TestM) : chkSizes t = 0 ↔ t.thr.length ≠ 0 ∧ t.thr.length ≤ 4 ∧ t.locs.length ≤ 8 ∧ t.asks.length ≤ 40 ∧ (∀ l ∈ t.thr, l.length ≤ 8) ∧ evM t.thr ≤ 8 := by
  unfold chkSizes
  by_cases h1 : t.thr.length = 0
  · rw [if_pos h1]; simp [h1]
  rw [if_neg h1]
  by_cases h2 : 4 < t.thr.length ∨ 8 < t.locs.length ∨ 40 < t.asks.length
  · rw [if_pos h2]
    constructor
    · intro h; omega
    · rintro ⟨_, a, b, c, _⟩; omega
  rw [if_neg h2]
  have e : (t.thr.any (fun l => decide (8 < l.length))) = true ↔ ¬ ∀ l ∈ t.thr, l.length ≤ 8 := by
    rw [List.any_eq_true]
    constructor
    · rintro ⟨l, hl, hd⟩ hh
      have := hh l hl
      have := of_decide_eq_true hd
      omega
    · intro hh
      apply Classical.byContradiction
      intro hn
      apply hh
      intro l hl
      apply Classical.byContradiction
      intro hc
      exact hn ⟨l, hl, decide_eq_true (by omega)⟩
  by_cases h3 : ∀ l ∈ t.thr, l.length ≤ 8
  · by_cases h4 : 8 < evM t.thr
    · rw [if_pos (.inr h4)]
      constructor
      · intro h; omega
      · rintro ⟨_, _, _, _, _, h5⟩; omega
    · rw [if_neg (by
        rintro (h | h)
        · exact e.1 h h3
        · exact h4 h)]
      exact ⟨fun _ => ⟨h1, by omega, by omega, by omega, h3, by omega⟩, fun _ => rfl⟩
  · rw [if_pos (.inl (e.2 h3))]
    constructor
    · intro h; omega
    · rintro ⟨_, _, _, _, h5, _⟩; exact absurd h5 h3
theorem evM_take_le (t : List (List Ins)) : ∀ k, evM (t.take k) ≤ evM t := by
  induction t with
  | nil => intro k; simp
  | cons x r ih =>
    intro k
    cases k with
    | zero => simp [evM]
    | succ k =>
      have := ih k
      unfold evM at *
      simp only [List.take_succ_cons, List.map_cons, List.sum_cons]
      omega
theorem evL_take_le (l : List Ins) : ∀ k, evL (l.take k) ≤ evL l := by
  induction l with
  | nil => intro k; simp
  | cons x r ih =>
    intro k
    cases k with
    | zero => simp [evL]
    | succ k =>
      have := ih k
      unfold evL at *
      simp only [List.take_succ_cons, List.map_cons, List.sum_cons]
      omega
theorem evM_set_le (t : List (List Ins)) : ∀ (k : Nat) (l l' : List Ins), t[k]? = some l → evL l' ≤ evL l → evM (t.set k l') ≤ evM t := by
  induction t with
  | nil => intro k l l' h _; simp at h
  | cons x r ih =>
    intro k l l' h hl
    cases k with
    | zero =>
      simp at h; subst h
      unfold evM
      simp only [List.set_cons_zero, List.map_cons, List.sum_cons]
      omega
    | succ k =>
      have := ih k l l' (by simpa using h) hl
      unfold evM at *
      simp only [List.set_cons_succ, List.map_cons, List.sum_cons]
      omega
theorem plain_good (t : TestM) (h : chkTest t = 0) : chkTest (noAsks t) = 0 := by
  rw [chk0] at h ⊢
  obtain ⟨h1, h2, h3, _⟩ := h
  rw [sizes0] at h1
  refine ⟨(sizes0 _).2 ⟨h1.1, h1.2.1, h1.2.2.1, by simp [noAsks], h1.2.2.2.2⟩, h2, h3, rfl⟩
theorem less_good (t : TestM) (h : chkTest t = 0) (h1 : 1 < t.thr.length) : chkTest (lessM t) = 0 := by
  have hp := plain_good t h
  rw [chk0] at hp ⊢
  obtain ⟨g1, g2, g3, _⟩ := hp
  rw [sizes0] at g1
  obtain ⟨a1, a2, a3, a4, a5, a6⟩ := g1
  have hl : (lessM t).thr.length = t.thr.length - 1 := by simp [lessM]
  refine ⟨(sizes0 _).2 ⟨by omega, by have : (noAsks t).thr.length = t.thr.length := rfl; omega, a3, a4, fun l hl => a5 l (List.mem_of_mem_take hl), Nat.le_trans (evM_take_le t.thr _) a6⟩, g2, ?_, rfl⟩
  rw [thr0] at g3 ⊢
  exact fun l hl => g3 l (List.mem_of_mem_take hl)
theorem mem_set {α : Type} {l : List α} {k : Nat} {a x : α} (h : x ∈ l.set k a) : x ∈ l ∨ x = a := List.mem_or_eq_of_mem_set h
theorem short_good (t : TestM) (h : chkTest t = 0) (k : Nat) (l : List Ins) (hk : t.thr[k]? = some l)
    (hb : ∀ (i : Nat) (x : Ins), l[i]? = some x → ¬ (x.skip = (l.length : Int) - 1 - i ∧ 0 < x.skip)) : chkTest (shortM t k l) = 0 ∧ evM (shortM t k l).thr ≤ evM t.thr := by
  have hp := plain_good t h
  rw [chk0] at hp ⊢
  obtain ⟨g1, g2, g3, _⟩ := hp
  rw [sizes0] at g1
  obtain ⟨a1, a2, a3, a4, a5, a6⟩ := g1
  have hm := List.mem_of_getElem? hk
  have hll : l.length ≤ 8 := a5 l hm
  have hlen : (shortM t k l).thr.length = t.thr.length := by simp [shortM]
  have hev : evM (shortM t k l).thr ≤ evM t.thr := evM_set_le t.thr k l _ hk (evL_take_le l _)
  refine ⟨⟨(sizes0 _).2 ⟨by rw [hlen]; exact a1, by rw [hlen]; exact a2, a3, a4, fun x hx => ?_, Nat.le_trans hev a6⟩, g2, ?_, rfl⟩, hev⟩
  · rcases mem_set hx with hx | rfl
    · exact a5 x hx
    · rw [List.length_take]; omega
  · rw [thr0] at g3 ⊢
    intro x hx
    rcases mem_set hx with hx | rfl
    · exact g3 x hx
    · have hg := g3 l hm
      rw [line0] at hg ⊢
      intro i y hy
      have hy' : l[i]? = some y := by
        rw [List.getElem?_take] at hy
        split at hy
        · exact hy
        · cases hy
      have hi : i < l.length - 1 := by
        have := (List.getElem?_eq_some_iff.1 hy).1
        rw [List.length_take] at this; omega
      have q := hg i y hy'
      have s := chkM_skip _ _ _ q
      have nb := hb i y hy'
      refine chkM0 _ _ _ _ q ?_
      rw [List.length_take]
      omega
end Go.Proofs.Ytccjekgbhablpaa
