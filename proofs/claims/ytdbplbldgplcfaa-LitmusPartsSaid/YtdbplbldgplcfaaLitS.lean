/- Contracts of litmus: what HasPairs asks of an instruction. -/
import Derived.Test.YtdbplbldgplcfaaLitR
namespace Go.Proofs.Ytdbplbldgplcfaa
set_option maxRecDepth 100000
open Go.RowKit

def pairM (x : Ins) : Bool := x.op == 13 || x.op == 14
set_option maxHeartbeats 1600000 in
theorem isPair_any (x : Ins) (w : World) :
    Calls Try.prog 21 #[insV x] w fun e w' => e = .returned (.bool (pairM x)) ∧ Below w.heap.size w w' := by
  rw [insV_eq]
  unfold pairM
  generalize x.op = o at *
  generalize x.rd = o1; generalize x.loc = o2; generalize x.ar = o3; generalize x.an = o4; generalize x.br = o5; generalize x.bn = o6; generalize x.acq = o7; generalize x.rel = o8; generalize x.dep = o9; generalize x.pred = o10; generalize x.succ = o11; generalize x.skip = o12
  by_cases h1 : o = 13
  · subst h1
    go_enter Try.func21, Try.ntmps21
    go_wp2_with fail
    all_goals go_ret
    all_goals exact ⟨rfl, aset _ _⟩
  · have h2 : ((o : Int) == 13) = false := by rw [beq_eq_false_iff_ne]; exact h1
    rw [h2, Bool.false_or]
    cases h3 : ((o : Int) == 14)
    all_goals
      go_enter Try.func21, Try.ntmps21
      go_wp2_with fail
      go_ret
      exact ⟨rfl, aset _ _⟩
/-- where the first instruction of a pair lies -/
def pairAt : List Ins → Nat → Int
  | [], _ => -1
  | x :: r, k => if pairM x = true then (k : Int) else pairAt r (k + 1)
theorem pairAt_any (L : List Ins) : ∀ k, decide (0 ≤ pairAt L k) = L.any pairM := by
  induction L with
  | nil => intro k; rfl
  | cons l r ih =>
    intro k
    rw [pairAt, List.any_cons]
    by_cases h : pairM l = true
    · rw [if_pos h]; simp [h]
    · rw [if_neg h, ih]; simp [h]
set_option maxHeartbeats 3200000 in
theorem indexPair_any (tv : Value) (T : List Ins) (w : World) (hn : T.length ≤ 1000000) (hth : SlIn w tv 13 T.length (T.flatMap insC)) :
    Calls Try.prog 34 #[tv, .func (.func 21) #[] #[]] w fun e w' => e = .returned (.int .i64 (pairAt T 0)) ∧ Below w.heap.size w w' := by
  obtain ⟨tp, tc, rfl⟩ := hth.slice
  have HT := Bx.mk hth
  clear hth
  go_enter Try.func34, Try.ntmps34
  go_wp2_with fail
  go_loopw [8] (fun i wr => ∃ k : Nat, i = .int .i64 (k : Int) ∧ k ≤ T.length ∧ Bx (pairAt T 0 = pairAt (T.drop k) k) ∧ Bx (Below w.heap.size w wr)) (fun i _ => T.length - (intOf i).toNat)
  case atStart => exact ⟨0, rfl, by omega, ⟨rfl⟩, ⟨Below.refl _ _⟩⟩
  case round =>
    obtain ⟨k, rfl, hkn, hch, hb⟩ := hrel
    by_cases hlt : k < T.length
    · obtain ⟨bb, off, c, hv, hbl, hcl⟩ := HT.out.at (by omega)
      obtain ⟨rfl, _, rfl⟩ := Value.slice.inj hv
      obtain ⟨x, hx⟩ : ∃ x, T[k]? = some x := ⟨_, List.getElem?_eq_getElem hlt⟩
      have hia := SlIn.ins hcl hx
      obtain ⟨q0, q1, q2, q3, q4, q5, q6, q7, q8, q9, q10, q11, q12⟩ : InsAt wr bb (off + k * 13) x := ⟨(hb.out.cell hbl).trans hia.c0, (hb.out.cell hbl).trans hia.c1, (hb.out.cell hbl).trans hia.c2, (hb.out.cell hbl).trans hia.c3, (hb.out.cell hbl).trans hia.c4, (hb.out.cell hbl).trans hia.c5, (hb.out.cell hbl).trans hia.c6, (hb.out.cell hbl).trans hia.c7, (hb.out.cell hbl).trans hia.c8, (hb.out.cell hbl).trans hia.c9, (hb.out.cell hbl).trans hia.c10, (hb.out.cell hbl).trans hia.c11, (hb.out.cell hbl).trans hia.c12⟩
      have e := hch.out
      rw [atDrop hx, pairAt] at e
      have cl := fun W => isPair_any x W
      rw [insV_eq] at cl
      cases h8 : pairM x
      · rw [h8] at e
        rw [if_neg (by decide)] at e
        rw [h8] at cl
        have CL := Bx.mk cl; have E := Bx.mk e
        clear cl e hv hcl hx hch h8 hia
        go_wp2_with (go_at_call 21; ((with_reducible refine (CL.out _).mono ?_); rintro e w' ⟨rfl, hbq⟩))
        go_roundw
        case rel => exact ⟨k + 1, by go_num, by omega, E, ⟨bel hb.out hbq⟩⟩
        case measure => simp [intOf] <;> omega
      · rw [h8] at e
        rw [if_pos rfl] at e
        rw [h8] at cl
        have CL := Bx.mk cl; have E := Bx.mk e
        clear cl e hv hcl hx hch h8 hia
        go_wp2_with (go_at_call 21; ((with_reducible refine (CL.out _).mono ?_); rintro e w' ⟨rfl, hbq⟩))
        go_ret
        rw [E.out]
        exact ⟨rfl, bel hb.out hbq⟩
    · obtain rfl : k = T.length := by omega
      have he : pairAt T 0 = -1 := by rw [hch.out, List.drop_length]; rfl
      have HE := Bx.mk he
      clear he hch
      go_wp2
      go_ret
      rw [HE.out]
      exact ⟨rfl, hb.out⟩
theorem hasPair_any (tv : Value) (T : List Ins) (w : World) (hn : T.length ≤ 1000000) (hth : SlIn w tv 13 T.length (T.flatMap insC)) :
    Calls Try.prog 24 #[tv, .func (.func 21) #[] #[]] w fun e w' => e = .returned (.bool (T.any pairM)) ∧ Below w.heap.size w w' := by
  have c := indexPair_any tv T w hn hth
  rw [← pairAt_any T 0]
  generalize pairAt T 0 = R at *
  have C := Bx.mk c
  clear c hn hth
  by_cases hR : 0 ≤ R
  all_goals
    go_enter Try.func24, Try.ntmps24
    go_wp2_with (go_at_call 34; ((with_reducible refine (C.out).mono ?_); rintro e w' ⟨rfl, hb⟩))
    go_ret
    exact ⟨by simp [hR], hb⟩
end Go.Proofs.Ytdbplbldgplcfaa
