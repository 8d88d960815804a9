/- Contracts of litmus: checkSizes. -/
import Derived.Test.YteeicedhnojdaaaLitO
import Derived.Test.YteeicedhnojdaaaLitH
namespace Go.Proofs.Yteeicedhnojdaaa
set_option maxRecDepth 100000
open Go.RowKit

theorem isLong_any (p : Option Addr) (n c : Nat) (hn : n ≤ 1000000) (w : World) :
    Calls Try.prog 39 #[.slice p n c] w fun e w' => e = .returned (.bool (decide (8 < n))) ∧ w = w' := by
  by_cases h : 8 < n
  all_goals
    go_enter Try.func39, Try.ntmps39
    go_wp2
    go_ret
    exact ⟨by simp [h] <;> omega, rfl⟩
/-- where the first thread that is too long lies -/
def longAt : List (List Ins) → Nat → Int
  | [], _ => -1
  | l :: r, k => if 8 < l.length then (k : Int) else longAt r (k + 1)
theorem longAt_any (L : List (List Ins)) : ∀ k, decide (0 ≤ longAt L k) = L.any (fun l => decide (8 < l.length)) := by
  induction L with
  | nil => intro k; rfl
  | cons l r ih =>
    intro k
    rw [longAt, List.any_cons]
    by_cases h : 8 < l.length
    · rw [if_pos h]; simp [h]
    · rw [if_neg h, ih]; simp [h]
set_option maxHeartbeats 1600000 in
theorem indexLong_any (tv : Value) (T : List (List Ins)) (vs : List Value) (w : World) (hn : T.length ≤ 1000000) (hm : ∀ l ∈ T, l.length ≤ 1000000) (hvl : vs.length = T.length) (hth : SlIn w tv 1 T.length vs) (hins : ∀ (i : Nat) (v : Value), vs[i]? = some v → ∃ l : List Ins, T[i]? = some l ∧ SlIn w v 13 l.length (l.flatMap insC)) :
    Calls Try.prog 59 #[tv, .func (.func 39) #[] #[]] w fun e w' => e = .returned (.int .i64 (longAt T 0)) ∧ Below w.heap.size w w' := by
  obtain ⟨tp, tc, rfl⟩ := hth.slice
  have HI := Bx.mk hins; have HT := Bx.mk hth; have HV := Bx.mk hvl; have HK := Bx.mk hm
  clear hins hvl hth hm
  go_enter Try.func59, Try.ntmps59
  go_wp2_with fail
  go_loopw [8] (fun i wr => ∃ k : Nat, i = .int .i64 (k : Int) ∧ k ≤ T.length ∧ Bx (longAt T 0 = longAt (T.drop k) k) ∧ Bx (Below w.heap.size w wr)) (fun i _ => T.length - (intOf i).toNat)
  case atStart => exact ⟨0, rfl, by omega, ⟨rfl⟩, ⟨Below.refl _ _⟩⟩
  case round =>
    obtain ⟨k, rfl, hkn, hch, hb⟩ := hrel
    by_cases hlt : k < T.length
    · obtain ⟨bb, off, c, hv, hbl, hcl⟩ := HT.out.at (by omega)
      obtain ⟨rfl, _, rfl⟩ := Value.slice.inj hv
      obtain ⟨v, hvk⟩ : ∃ v, vs[k]? = some v := ⟨_, List.getElem?_eq_getElem (by rw [HV.out]; exact hlt)⟩
      obtain ⟨l, hlk, hsl⟩ := HI.out k v hvk
      obtain ⟨p2, c2, rfl⟩ := hsl.slice
      have hc0 : wr.cell? ⟨bb, off + k, none⟩ = some (.slice p2 l.length c2) := by rw [hb.out.cell hbl]; exact hcl k _ hvk
      have hll := HK.out l (List.mem_of_getElem? hlk)
      have e := hch.out
      rw [atDrop hlk, longAt] at e
      have cl := fun W => isLong_any p2 l.length c2 hll W
      by_cases h8 : 8 < l.length
      · rw [if_pos h8] at e
        rw [decide_eq_true h8] at cl
        have CL := Bx.mk cl; have E := Bx.mk e
        clear cl e hv hcl hvk hlk hsl hch h8
        go_wp2_with (go_at_call 39; ((with_reducible refine (CL.out _).mono ?_); rintro e w' ⟨rfl, rfl⟩))
        go_ret
        rw [E.out]
        exact ⟨rfl, hb.out⟩
      · rw [if_neg h8] at e
        rw [decide_eq_false h8] at cl
        have CL := Bx.mk cl; have E := Bx.mk e
        clear cl e hv hcl hvk hlk hsl hch h8
        go_wp2_with (go_at_call 39; ((with_reducible refine (CL.out _).mono ?_); rintro e w' ⟨rfl, rfl⟩))
        go_roundw
        case rel => exact ⟨k + 1, by go_num, by omega, E, hb⟩
        case measure => simp [intOf] <;> omega
    · obtain rfl : k = T.length := by omega
      have he : longAt T 0 = -1 := by rw [hch.out, List.drop_length]; rfl
      have HE := Bx.mk he
      clear he hch
      go_wp2
      go_ret
      rw [HE.out]
      exact ⟨rfl, hb.out⟩
theorem hasLong_any (tv : Value) (T : List (List Ins)) (vs : List Value) (w : World) (hn : T.length ≤ 1000000) (hm : ∀ l ∈ T, l.length ≤ 1000000) (hvl : vs.length = T.length) (hth : SlIn w tv 1 T.length vs) (hins : ∀ (i : Nat) (v : Value), vs[i]? = some v → ∃ l : List Ins, T[i]? = some l ∧ SlIn w v 13 l.length (l.flatMap insC)) :
    Calls Try.prog 40 #[tv, .func (.func 39) #[] #[]] w fun e w' => e = .returned (.bool (T.any (fun l => decide (8 < l.length)))) ∧ Below w.heap.size w w' := by
  have c := indexLong_any tv T vs w hn hm hvl hth hins
  rw [← longAt_any T 0]
  generalize longAt T 0 = R at *
  have C := Bx.mk c
  clear c hn hm hvl hth hins
  by_cases hR : 0 ≤ R
  all_goals
    go_enter Try.func40, Try.ntmps40
    go_wp2_with (go_at_call 59; ((with_reducible refine (C.out).mono ?_); rintro e w' ⟨rfl, hb⟩))
    go_ret
    exact ⟨by simp [hR], hb⟩
def chkSizes (t : TestM) : Nat := if t.thr.length = 0 then 15 else if 4 < t.thr.length ∨ 8 < t.locs.length ∨ 40 < t.asks.length then 12 else if (t.thr.any (fun l => decide (8 < l.length))) = true ∨ 8 < evM t.thr then 12 else 0
set_option maxHeartbeats 1600000 in
theorem checkSizes_any (b : Nat) (t : TestM) (hk : TestOk t) (w : World) (h : TestAt w b t) :
    Calls Try.prog 21 #[.pointer (some ⟨b, 0, none⟩)] w fun e w' => e = .returned (.int .i64 (chkSizes t : Nat)) ∧ Below w.heap.size w w' := by
  have c2 : ∀ W, Below w.heap.size w W → Calls Try.prog 41 #[.pointer (some ⟨b, 0, none⟩)] W fun e w' => e = .returned (.int .i64 (evM t.thr : Nat)) ∧ Below w.heap.size w w' := fun W hW => (events_any b t hk W (h.below hW)).mono fun e w' ⟨x, y⟩ => ⟨x, bel hW y⟩
  obtain ⟨lv, tv, av, h0, h1, h2, ⟨hlo, ⟨vs, hvl, hth, hins⟩, has⟩⟩ := h.test
  have c1 := hasLong_any tv t.thr vs w hk.thr hk.ins hvl hth hins
  obtain ⟨lp, lc, rfl⟩ := hlo.slice
  obtain ⟨tp, tc, rfl⟩ := hth.slice
  obtain ⟨ap, ac, rfl⟩ := has.slice
  have n1 := hk.thr; have n2 := hk.locs; have n3 := hk.asks
  obtain ⟨e1, he1⟩ : ∃ x, x = chkSizes t := ⟨_, rfl⟩
  rw [← he1]
  unfold chkSizes at he1
  clear h hlo hth hvl hins has hk
  generalize t.thr.any (fun l => decide (8 < l.length)) = A at *
  generalize evM t.thr = V at *
  generalize t.thr.length = l1 at *
  generalize t.locs.length = l2 at *
  generalize t.asks.length = l3 at *
  have C1 := Bx.mk c1; have C2 := Bx.mk c2
  clear c1 c2
  have hc : (l1 = 0 ∧ e1 = 15) ∨ (0 < l1 ∧ 4 < l1 ∧ e1 = 12) ∨ (0 < l1 ∧ l1 ≤ 4 ∧ 8 < l2 ∧ e1 = 12) ∨ (0 < l1 ∧ l1 ≤ 4 ∧ l2 ≤ 8 ∧ 40 < l3 ∧ e1 = 12) ∨ (0 < l1 ∧ l1 ≤ 4 ∧ l2 ≤ 8 ∧ l3 ≤ 40 ∧ A = true ∧ e1 = 12) ∨ (0 < l1 ∧ l1 ≤ 4 ∧ l2 ≤ 8 ∧ l3 ≤ 40 ∧ A = false ∧ 8 < V ∧ e1 = 12) ∨ (0 < l1 ∧ l1 ≤ 4 ∧ l2 ≤ 8 ∧ l3 ≤ 40 ∧ A = false ∧ V ≤ 8 ∧ e1 = 0) := by
    cases A <;> simp at he1 <;> split at he1 <;> (try split at he1) <;> (try split at he1) <;> simp <;> omega
  clear he1
  rcases hc with ⟨rfl, rfl⟩ | ⟨k1, k2, rfl⟩ | ⟨k1, k2, k3, rfl⟩ | ⟨k1, k2, k3, k4, rfl⟩ | ⟨k1, k2, k3, k4, rfl, rfl⟩ | ⟨k1, k2, k3, k4, rfl, k5, rfl⟩ | ⟨k1, k2, k3, k4, rfl, k5, rfl⟩
  case inl =>
    go_enter Try.func21, Try.ntmps21
    go_wp2_with fail
    go_ret
    exact ⟨rfl, Below.refl _ _⟩
  all_goals
    have hz : ((l1 : Int) == 0) = false := by rw [beq_eq_false_iff_ne]; omega
    go_enter Try.func21, Try.ntmps21
    go_wp2_with (first
      | (go_at_call 40; ((with_reducible refine (C1.out).mono ?_); rintro e w' ⟨rfl, hb⟩))
      | (go_at_call 41; ((with_reducible refine (C2.out _ (by assumption)).mono ?_); rintro e w' ⟨rfl, hb⟩)))
    go_ret
    exact ⟨rfl, by first | assumption | exact Below.refl _ _⟩
end Go.Proofs.Yteeicedhnojdaaa
