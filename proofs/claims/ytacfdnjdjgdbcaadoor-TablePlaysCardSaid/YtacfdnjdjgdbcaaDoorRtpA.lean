/- Tables: Clone; the reference's Within and Bytes. -/
import Derived.Test.YtacfdnjdjgdbcaaDoorTj
import Derived.Test.YtacfdnjdjgdbcaaDoorHn
import Derived.Test.YtacfdnjdjgdbcaaDoorRefI
import Derived.Test.YtacfdnjdjgdbcaaDoorMShelf
import Derived.BigQuiet
namespace Go.Proofs.YtacfdnjdjgdbcaaDoor
set_option maxRecDepth 100000
open Go.RowKit Go.Maps Go.Sort M

/-! ### Clone -/
theorem tcloneM_any (m : Nat) (l : List Ent) (w : World) (h : MapE w m l) :
    Calls Tryd.prog 21 #[.map (some m)] w fun e w' => e = .returned (.map (some w.heap.size)) ∧ MapE w' w.heap.size l ∧ w'.heap.size = w.heap.size + 1 ∧ Below w.heap.size w w' := by
  obtain ⟨es, clock, hb, h2, h3⟩ := h.ex
  have hc : Calls Tryd.prog 21 #[.map (some m)] w fun e w' => e = .returned (.map (some w.heap.size)) ∧ w' = w.alloc (.map es clock) := AnyW.maps_Clone Tryd.cloneT m es clock w hb
  exact hc.mono fun e w' ⟨he, hw⟩ => ⟨he, by rw [hw]; exact ⟨⟨es, clock, (MapKept.heap_alloc w _).1, h2, h3⟩, h.nd, h.size⟩, by rw [hw]; simp, by rw [hw]; exact aset22 _ _⟩
/-- what Clone leaves -/
def TCloP (l : List Ent) (w : World) (e : Ending) (w' : World) : Prop :=
  ∃ tb mo, e = .returned (.pointer (some ⟨tb, 0, none⟩)) ∧ Tab w' tb mo l ∧ Below w.heap.size w w'
theorem tab_box (W : World) (mo : Option Nat) (l : List Ent) (h0 : mo = none → l = []) (h1 : ∀ m, mo = some m → MapE W m l) :
    Tab (W.alloc (.cells #[.map mo] 52)) W.heap.size mo l := by
  have t : (W.alloc (.cells #[.map mo] 52)).heap[W.heap.size]? = some (.cells #[.map mo] 52 (0, 0)) := heap_alloc_new W _
  refine ⟨by simp only [World.cell?, t]; rfl, by simp only [World.frozen?, t]; rfl, h0, fun m e => ⟨fun e2 => ?_, ?_⟩⟩
  · have := (h1 m e).lt; omega
  · exact (h1 m e).keep ((aset22 W _).block m (h1 m e).lt)
theorem tclone_any (b : Nat) (mo : Option Nat) (l : List Ent) (w : World) (h : Tab w b mo l) :
    Calls Tryd.prog 9 #[.pointer (some ⟨b, 0, none⟩)] w (TCloP l w) := by
  have c0 := h.cell
  cases mo with
  | none =>
    have hl := h.empt rfl
    have cc : Calls Tryd.prog 21 #[.map none] w fun e w' => e = .returned (.map none) ∧ w' = w := AnyW.maps_Clone_nil Tryd.cloneT w
    have CC := Box.mk cc; have HL := Box.mk hl
    clear cc h hl
    go_enter Tryd.func9, Tryd.ntmps9
    go_wp2_with (go_at_call 21; ((with_reducible refine CC.out.mono ?_); rintro e w1 ⟨rfl, rfl⟩))
    go_ret
    exact ⟨_, none, rfl, tab_box _ _ _ (fun _ => HL.out) (fun m e => by cases e), aset22 _ _⟩
  | some m =>
    have cc := tcloneM_any m l w (h.mapd m rfl).2
    have CC := Box.mk cc
    clear cc h
    go_enter Tryd.func9, Tryd.ntmps9
    go_wp2_with (go_at_call 21; ((with_reducible refine CC.out.mono ?_); rintro e w1 ⟨rfl, m1, z1, b1⟩; have M1 := Box.mk m1; have B1 := Box.mk b1; clear m1 z1 b1))
    go_ret
    exact ⟨_, some w.heap.size, rfl, tab_box _ _ _ (fun e => by cases e) (fun k e => by cases e; exact M1.out), B1.out.alloc B1.out.size _⟩

/-! ### the reference's Within -/
/-- the names of a list that rises are unlike -/
theorem rising_key {R : List Ent} (h : Rising R) {x y : Ent} (hx : x ∈ R) (hy : y ∈ R) (e : x.key = y.key) : x = y := by
  induction R with
  | nil => simp at hx
  | cons z R ih =>
    have h1 := List.pairwise_cons.1 h
    have ne : ∀ u ∈ R, z.key ≠ u.key := fun u hu => by
      have := h1.1 u hu
      intro e
      unfold cfE kkE at this
      rw [e, cb_self] at this
      exact absurd this (by decide)
    rcases List.mem_cons.1 hx with hx | hx <;> rcases List.mem_cons.1 hy with hy | hy
    · rw [hx, hy]
    · exact absurd (by rw [← hx]; exact e) (ne y hy)
    · exact absurd (by rw [← hy]; exact e.symm) (ne x hx)
    · exact ih h1.2 hx hy
/-- what the reference's Within answers -/
def RWithP (R Q : List Ent) (w : World) (e : Ending) (w' : World) : Prop :=
  ∃ β : Bool, e = .returned (.bool β) ∧ (β = true ↔ ∀ x ∈ R, x ∈ Q) ∧ Below w.heap.size w w'
set_option maxRecDepth 100000 in
set_option maxHeartbeats 4000000 in
theorem rwithin_any (R Q : List Ent) (v u : Value) (w : World) (h : RefIn w v R) (k : RefIn w u Q) (hr : Rising Q) (hR : R.length ≤ 1000) (hQ : Q.length ≤ 1000) :
    Calls Tryd.prog 8 #[v, u] w (RWithP R Q w) := by
  obtain ⟨vp, vc, rfl⟩ := h.val
  obtain ⟨up, uc, rfl⟩ := k.val
  have H := Box.mk h; have K := Box.mk k; have HR := Box.mk hr
  have cf := fun (x : Ent) (W : World) (hb : Below w.heap.size w W) => tfind_any Q x _ W (k.below hb) (by omega)
  have CF := Box.mk cf
  clear h k cf hr
  go_enter Tryd.func8, Tryd.ntmps8
  go_wp2_with fail
  go_loopw [10] (fun i wr => ∃ (j : Nat), i = .int .i64 (j : Int) ∧ j ≤ R.length ∧ Box (∀ y ∈ R.take j, y ∈ Q) ∧ Box (Below w.heap.size w wr)) (fun i _ => R.length - (intOf i).toNat)
  case atStart => exact ⟨0, rfl, by omega, ⟨fun y hy => by simp at hy⟩, ⟨Below.refl _ _⟩⟩
  case round =>
    obtain ⟨j, rfl, hj, hn, hb⟩ := hrel
    by_cases hlt : j < R.length
    · obtain ⟨g, c, hv, hg, hc⟩ := H.out.cells (by omega)
      obtain ⟨rfl, _, rfl⟩ := Value.slice.inj hv
      obtain ⟨y, hy⟩ : ∃ y, R[j]? = some y := ⟨_, List.getElem?_eq_getElem hlt⟩
      obtain ⟨c0, c1⟩ := hc j y hy
      have q0 : wr.cell? ⟨g, j * 2, none⟩ = some (.string (bs y.key)) := (hb.out.cell hg).trans c0
      have q1 : wr.cell? ⟨g, j * 2 + 1, none⟩ = some (.string y.text) := (hb.out.cell hg).trans c1
      have hke : R.take (j + 1) = R.take j ++ [y] := by rw [List.take_add_one, hy, Option.toList_some]
      obtain ⟨W1, hW1⟩ : ∃ W, W = wr.alloc (.cells #[.string (bs y.key), .string y.text] 42) := ⟨_, rfl⟩
      have b1 : Below w.heap.size w W1 := by rw [hW1]; exact hb.out.alloc hb.out.size _
      have t1 : W1.heap[wr.heap.size]? = some (.cells #[.string (bs y.key), .string y.text] 42 (0, 0)) := by rw [hW1]; exact heap_alloc_new wr _
      have z0 : W1.cell? ⟨wr.heap.size, 0, none⟩ = some (.string (bs y.key)) := by simp only [World.cell?, t1]; rfl
      have z1 : W1.cell? ⟨wr.heap.size, 1, none⟩ = some (.string y.text) := by simp only [World.cell?, t1]; rfl
      have cf := CF.out y W1 b1
      have hmem : y ∈ R := List.mem_of_getElem? hy
      obtain ⟨A, hA⟩ : ∃ A, A = bs y.key := ⟨_, rfl⟩
      rw [← hA] at q0 hW1 z0 cf
      have KE := Box.mk hke; have CFY := Box.mk cf; have B1 := Box.mk b1; have HW1 := Box.mk hW1; have HM := Box.mk hmem
      clear hv hc c0 c1 hke hA b1 t1 cf hW1 hmem
      go_upto_region 5 with (go_at_call 13; ((rw [← HW1.out]; with_reducible refine CFY.out.mono ?_); rintro e w2 ⟨b2, h2⟩; have ev : ∃ k, e = .returned (.int .i64 k) := (by rcases h2 with ⟨rfl, _⟩ | ⟨_, _, rfl, _⟩; exact ⟨_, rfl⟩; exact ⟨_, rfl⟩); obtain ⟨kv, rfl⟩ := ev; have B2 := Box.mk (B1.out.trans (b2.mono B1.out.size)); have H2 := Box.mk h2; have y1 : w2.cell? ⟨wr.heap.size, 1, none⟩ = some (.string y.text) := (b2.cell (World.block_lt_of_cell? _ _ z1)).trans z1; clear b2 h2))
      rcases H2.out with ⟨he, hno⟩ | ⟨i, x, he, hx, hk⟩
      · simp only [Ending.returned.injEq, Value.int.injEq, true_and] at he
        subst he
        have hnot : ¬ ∀ x ∈ R, x ∈ Q := fun hh => hno y (hh y HM.out) rfl
        have HN := Box.mk hnot
        clear hno hnot H2
        go_quiet (fail)
        go_wp2_with fail
        go_ret
        exact ⟨false, rfl, ⟨fun e => (by cases e), fun e => absurd e HN.out⟩, ⟨B2.out.os, B2.out.tape, B2.out.output, B2.out.size, B2.out.block⟩⟩
      · simp only [Ending.returned.injEq, Value.int.injEq, true_and] at he
        subst he
        have hil := (List.getElem?_eq_some_iff.1 hx).1
        obtain ⟨g2, c2, hv2, hg2, hc2⟩ := K.out.cells (by omega)
        obtain ⟨rfl, _, rfl⟩ := Value.slice.inj hv2
        have x1 : w2.cell? ⟨g2, i * 2 + 1, none⟩ = some (.string x.text) := (B2.out.cell hg2).trans (hc2 i x hx).2
        have i1 : (0 : Int) ≤ (i : Int) := by omega
        have i2 : (i : Int) < (Q.length : Int) := by omega
        have i3 : ¬ ((i : Int) < 0) := by omega
        have hxm : x ∈ Q := List.mem_of_getElem? hx
        have heq := str_beq x.text y.text
        have heq2 := str_beq y.text x.text
        have hiff : x.text = y.text ↔ y ∈ Q := ⟨fun e => by rw [Ent.eq hk.symm e.symm]; exact hxm, fun hyq => by rw [rising_key HR.out hxm hyq hk]⟩
        by_cases ht : x.text = y.text
        · have HYQ := Box.mk (hiff.1 ht)
          rw [decide_eq_true ht] at heq
          rw [decide_eq_true ht.symm] at heq2
          rw [ht] at x1
          have hss := str_beq y.text y.text
          rw [decide_eq_true rfl] at hss
          clear hv2 hc2 hx hk hxm hiff ht H2 heq heq2
          go_quiet (fail)
          go_wp2_with fail
          go_roundw
          case rel => exact ⟨j + 1, by go_num, by omega, ⟨fun z hz => by
            rw [KE.out] at hz
            rcases List.mem_append.1 hz with h | h
            · exact hn.out z h
            · have : z = y := by simpa using h
              rw [this]; exact HYQ.out⟩, ⟨⟨B2.out.os, B2.out.tape, B2.out.output, B2.out.size, B2.out.block⟩⟩⟩
          case measure => simp [intOf] <;> omega
        · rw [decide_eq_false ht] at heq
          rw [decide_eq_false (fun e => ht e.symm)] at heq2
          have HN := Box.mk (fun (hh : ∀ x ∈ R, x ∈ Q) => ht (hiff.2 (hh y HM.out)))
          clear hv2 hc2 hx hk hxm hiff ht H2
          go_quiet (fail)
          go_wp2_with fail
          go_ret
          exact ⟨false, rfl, ⟨fun e => (by cases e), fun e => absurd e HN.out⟩, ⟨B2.out.os, B2.out.tape, B2.out.output, B2.out.size, B2.out.block⟩⟩
    · obtain rfl : j = R.length := by omega
      have HN := Box.mk (show ∀ y ∈ R, y ∈ Q from fun y hy => hn.out y (by rw [List.take_length]; exact hy))
      clear hn
      go_wp2_with fail
      go_ret
      exact ⟨true, rfl, ⟨fun _ => HN.out, fun _ => rfl⟩, hb.out⟩
end Go.Proofs.YtacfdnjdjgdbcaaDoor
