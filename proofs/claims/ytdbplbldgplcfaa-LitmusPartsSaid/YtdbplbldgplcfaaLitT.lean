/- Contracts of litmus: HasPairs. -/
import Derived.Test.YtdbplbldgplcfaaLitS
namespace Go.Proofs.Ytdbplbldgplcfaa
set_option maxRecDepth 100000
open Go.RowKit

theorem inner_any (tv : Value) (T : List Ins) (g : Nat) (w : World) (hn : T.length ≤ 1000000) (hth : SlIn w tv 13 T.length (T.flatMap insC)) (hg : w.cell? ⟨g, 0, none⟩ = some (.func (.func 21) #[] #[])) :
    Calls Try.prog 23 #[tv, .pointer (some ⟨g, 0, none⟩)] w fun e w' => e = .returned (.bool (T.any pairM)) ∧ Below w.heap.size w w' := by
  have c := hasPair_any tv T w hn hth
  have C := Bx.mk c
  clear c hn hth
  go_enter Try.func23, Try.ntmps23
  go_wp2_with (go_at_call 24; ((with_reducible refine (C.out).mono ?_); rintro e w' ⟨rfl, hb⟩))
  go_ret
  exact ⟨rfl, hb⟩
/-- where the first thread that holds one of a pair lies -/
def pairsAt : List (List Ins) → Nat → Int
  | [], _ => -1
  | l :: r, k => if l.any pairM = true then (k : Int) else pairsAt r (k + 1)
theorem pairsAt_any (L : List (List Ins)) : ∀ k, decide (0 ≤ pairsAt L k) = L.any (fun l => l.any pairM) := by
  induction L with
  | nil => intro k; rfl
  | cons l r ih =>
    intro k
    rw [pairsAt, List.any_cons]
    by_cases h : l.any pairM = true
    · rw [if_pos h, h]; simp
    · rw [if_neg h, ih]; simp only [Bool.not_eq_true] at h; rw [h, Bool.false_or]
set_option maxHeartbeats 1600000 in
theorem indexPairs_any (tv : Value) (T : List (List Ins)) (vs : List Value) (g : Nat) (w : World) (hn : T.length ≤ 1000000) (hm : ∀ l ∈ T, l.length ≤ 1000000) (hvl : vs.length = T.length) (hth : SlIn w tv 1 T.length vs) (hins : ∀ (i : Nat) (v : Value), vs[i]? = some v → ∃ l : List Ins, T[i]? = some l ∧ SlIn w v 13 l.length (l.flatMap insC)) (hg : w.cell? ⟨g, 0, none⟩ = some (.func (.func 21) #[] #[])) :
    Calls Try.prog 33 #[tv, (.func (.func 23) #[] #[.pointer (some ⟨g, 0, none⟩)])] w fun e w' => e = .returned (.int .i64 (pairsAt T 0)) ∧ Below w.heap.size w w' := by
  obtain ⟨tp, tc, rfl⟩ := hth.slice
  have HI := Bx.mk hins; have HT := Bx.mk hth; have HV := Bx.mk hvl; have HK := Bx.mk hm; have HG := Bx.mk hg
  clear hins hvl hth hm hg
  go_enter Try.func33, Try.ntmps33
  go_wp2_with fail
  go_loopw [8] (fun i wr => ∃ k : Nat, i = .int .i64 (k : Int) ∧ k ≤ T.length ∧ Bx (pairsAt T 0 = pairsAt (T.drop k) k) ∧ Bx (Below w.heap.size w wr)) (fun i _ => T.length - (intOf i).toNat)
  case atStart => exact ⟨0, rfl, by omega, ⟨rfl⟩, ⟨Below.refl _ _⟩⟩
  case round =>
    obtain ⟨k, rfl, hkn, hch, hb⟩ := hrel
    by_cases hlt : k < T.length
    · obtain ⟨bb, off, c, hv, hbl, hcl⟩ := HT.out.at (by omega)
      obtain ⟨rfl, _, rfl⟩ := Value.slice.inj hv
      obtain ⟨v, hvk⟩ : ∃ v, vs[k]? = some v := ⟨_, List.getElem?_eq_getElem (by rw [HV.out]; exact hlt)⟩
      obtain ⟨l, hlk, hsl⟩ := HI.out k v hvk
      have cl := inner_any v l g wr (HK.out l (List.mem_of_getElem? hlk)) (hsl.below hb.out) (cBel HG.out hb.out)
      obtain ⟨p2, c2, rfl⟩ := hsl.slice
      have hc0 : wr.cell? ⟨bb, off + k, none⟩ = some (.slice p2 l.length c2) := by rw [hb.out.cell hbl]; exact hcl k _ hvk
      have e := hch.out
      rw [atDrop hlk, pairsAt] at e
      have cl := cl.mono fun e w' ⟨x, y⟩ => (⟨x, ⟨bel hb.out y⟩⟩ : _ ∧ Bx (Below w.heap.size w w'))
      cases h8 : l.any pairM
      · rw [h8] at e
        rw [if_neg (by decide)] at e
        rw [h8] at cl
        have CL := Bx.mk cl; have E := Bx.mk e
        clear cl e hv hcl hvk hlk hsl hch h8
        go_wp2_with (go_at_call 23; ((with_reducible refine (CL.out).mono ?_); rintro e w' ⟨rfl, hbq⟩))
        go_roundw
        case rel => exact ⟨k + 1, by go_num, by omega, E, hbq⟩
        case measure => simp [intOf] <;> omega
      · rw [h8] at e
        rw [if_pos rfl] at e
        rw [h8] at cl
        have CL := Bx.mk cl; have E := Bx.mk e
        clear cl e hv hcl hvk hlk hsl hch h8
        go_wp2_with (go_at_call 23; ((with_reducible refine (CL.out).mono ?_); rintro e w' ⟨rfl, hbq⟩))
        go_ret
        rw [E.out]
        exact ⟨rfl, hbq.out⟩
    · obtain rfl : k = T.length := by omega
      have he : pairsAt T 0 = -1 := by rw [hch.out, List.drop_length]; rfl
      have HE := Bx.mk he
      clear he hch
      go_wp2
      go_ret
      rw [HE.out]
      exact ⟨rfl, hb.out⟩
theorem hasPairs_in (tv : Value) (T : List (List Ins)) (vs : List Value) (g : Nat) (w : World) (hn : T.length ≤ 1000000) (hm : ∀ l ∈ T, l.length ≤ 1000000) (hvl : vs.length = T.length) (hth : SlIn w tv 1 T.length vs) (hins : ∀ (i : Nat) (v : Value), vs[i]? = some v → ∃ l : List Ins, T[i]? = some l ∧ SlIn w v 13 l.length (l.flatMap insC)) (hg : w.cell? ⟨g, 0, none⟩ = some (.func (.func 21) #[] #[])) :
    Calls Try.prog 22 #[tv, (.func (.func 23) #[] #[.pointer (some ⟨g, 0, none⟩)])] w fun e w' => e = .returned (.bool (T.any (fun l => l.any pairM))) ∧ Below w.heap.size w w' := by
  have c := indexPairs_any tv T vs g w hn hm hvl hth hins hg
  rw [← pairsAt_any T 0]
  generalize pairsAt T 0 = R at *
  have C := Bx.mk c
  clear c hn hm hvl hth hins hg
  by_cases hR : 0 ≤ R
  all_goals
    go_enter Try.func22, Try.ntmps22
    go_wp2_with (go_at_call 33; ((with_reducible refine (C.out).mono ?_); rintro e w' ⟨rfl, hb⟩))
    go_ret
    exact ⟨by simp [hR], hb⟩
set_option maxHeartbeats 1600000 in
theorem hasPairs_any (b : Nat) (t : TestM) (hk : TestOk t) (w : World) (h : TestAt w b t) :
    Calls Try.prog 11 #[.pointer (some ⟨b, 0, none⟩)] w fun e w' => e = .returned (.bool (t.thr.any (fun l => l.any pairM))) ∧ Below w.heap.size w w' := by
  obtain ⟨lv, tv, av, h0, h1, h2, ⟨_, ⟨vs, hvl, hth, hins⟩, _⟩⟩ := h.test
  have c := fun (o : Obj) ho => hasPairs_in tv t.thr vs w.heap.size (w.alloc o) hk.thr hk.ins hvl (hth.below (aset w o)) (fun i v hv => by obtain ⟨l, x, y⟩ := hins i v hv; exact ⟨l, x, y.below (aset w o)⟩) ho
  obtain ⟨tp, tc, rfl⟩ := hth.slice
  have hbb : b < w.heap.size := World.block_lt_of_cell? w _ h0
  have c := fun (o : Obj) ho => (c o ho).mono fun e w' ⟨x, y⟩ => (⟨x, ⟨bel (aset w o) y⟩⟩ : _ ∧ Bx (Below w.heap.size w w'))
  have C := Bx.mk c
  clear c h h0 h2 hvl hth hins hk
  have hst : ∀ (W : World) (a : Addr), (store a (.func (.func 21) #[] #[])).run Try.prog W = _ := fun W a => run_store _ W a _ _ rfl
  go_enter Try.func11, Try.ntmps11
  go_wp2_with (go_at_call 22; ((with_reducible refine (C.out _ ?_).mono ?_); (focus simp); rintro e w' ⟨rfl, hb⟩))
  go_ret
  exact ⟨rfl, hb.out⟩
end Go.Proofs.Ytdbplbldgplcfaa
