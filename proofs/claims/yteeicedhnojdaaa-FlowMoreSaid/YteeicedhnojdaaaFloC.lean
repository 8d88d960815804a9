/- Contracts of flow: what is read, Scs that work, two numbers. -/
import Derived.Test.YteeicedhnojdaaaFloB
namespace Go.Proofs.Yteeicedhnojdaaa
set_option maxRecDepth 100000
open Go.RowKit

/-- what is given lies so -/
structure CtxIn (w : World) (K : WkB) (c : CtxM) : Prop where
  reads : SlIn w K.reads 2 c.reads.length (nV c.reads)
  works : SlIn w K.works 1 c.works.length (c.works.map Value.bool)
theorem CtxIn.bel {w w' : World} {K : WkB} {c : CtxM} (h : CtxIn w K c) (hb : Below w.heap.size w w') : CtxIn w' K c := ⟨h.reads.below hb, h.works.below hb⟩
theorem nV_get {l : List (Bool × Nat)} {k : Nat} {p : Bool × Nat} (h : l[k]? = some p) (j : Nat) (hj : j < 2) : (nV l)[k * 2 + j]? = (vC p)[j]? := flatAt vC 2 (fun _ => rfl) l k j p h hj

set_option maxHeartbeats 1600000 in
theorem read_any (K : WkB) (n m : Nat) (s : WkM) (c : CtxM) (hl : c.reads.length ≤ 1000000) (k : Nat) (hk : k ≤ 1000000) (w : World) (hw : WkIn w K n m s) (hc : CtxIn w K c) :
    Calls Try.prog 76 #[.pointer (some ⟨K.kb, 0, none⟩), .int .i64 (k : Int)] w fun e w' => e = .returned (.agg #[.bool (readM c k).1, .int .u64 ((readM c k).2 : Int)]) ∧ Below w.heap.size w w' := by
  have hkl := ltOf hw.kb
  obtain ⟨_, _, q2, _, _⟩ := hw.head
  obtain ⟨p, cc, hp⟩ := hc.reads.slice
  rw [hp] at q2
  by_cases hlt : k < c.reads.length
  · obtain ⟨b, off, c2, hv, hbl, hcl⟩ := hc.reads.at (by omega)
    rw [hp] at hv
    obtain ⟨rfl, _, rfl⟩ := Value.slice.inj hv
    obtain ⟨r, hr⟩ : ∃ r, c.reads[k]? = some r := ⟨_, List.getElem?_eq_getElem hlt⟩
    have g0 := nV_get hr 0 (by decide)
    have g1 := nV_get hr 1 (by decide)
    have r0 : w.cell? ⟨b, off + k * 2, none⟩ = some (.bool r.1) := hcl (k * 2 + 0) _ g0
    have r1 : w.cell? ⟨b, off + k * 2 + 1, none⟩ = some (.int .u64 (r.2 : Int)) := by rw [Nat.add_assoc]; exact hcl (k * 2 + 1) _ g1
    have e : readM c k = if r.1 then r else (false, 0) := by unfold readM; simp [List.getD_eq_getElem?_getD, hr]
    rw [e]
    have d1 : decide (c.reads.length ≤ k) = false := by simp; omega
    generalize c.reads.length = N at *
    obtain ⟨rb, rv⟩ := r
    clear hw hc hp e hr g0 g1 hcl
    cases rb
    · go_enter Try.func76, Try.ntmps76
      go_wp2
      exact bodyPost_ret (v := .agg #[.bool false, .int .u64 0]) (by simp [results, go_sem]) rfl ⟨rfl, (Below.refl _ _).alloc (Nat.le_refl _) _⟩
    · go_enter Try.func76, Try.ntmps76
      go_wp2
      exact bodyPost_ret (v := .agg #[.bool true, .int .u64 (rv : Int)]) (by simp [results, go_sem]) rfl ⟨rfl, (Below.refl _ _).alloc (Nat.le_refl _) _⟩
  · have e : readM c k = (false, 0) := by unfold readM; simp [List.getD_eq_getElem?_getD, List.getElem?_eq_none (Nat.le_of_not_lt hlt)]
    rw [e]
    have d1 : decide (c.reads.length ≤ k) = true := by simp; omega
    generalize c.reads.length = N at *
    clear hw hc hp e
    go_enter Try.func76, Try.ntmps76
    go_wp2
    exact bodyPost_ret (v := .agg #[.bool false, .int .u64 0]) (by simp [results, go_sem]) rfl ⟨rfl, (Below.refl _ _).alloc (Nat.le_refl _) _⟩
set_option maxHeartbeats 1600000 in
theorem succeeds_any (K : WkB) (n m : Nat) (s : WkM) (c : CtxM) (hl : c.works.length ≤ 1000000) (k : Nat) (hk : k ≤ 1000000) (w : World) (hw : WkIn w K n m s) (hc : CtxIn w K c) :
    Calls Try.prog 74 #[.pointer (some ⟨K.kb, 0, none⟩), .int .i64 (k : Int)] w fun e w' => e = .returned (.bool (worksM c k)) ∧ w = w' := by
  have hkl := ltOf hw.kb
  obtain ⟨_, _, _, q3, _⟩ := hw.head
  obtain ⟨p, cc, hp⟩ := hc.works.slice
  rw [hp] at q3
  by_cases hlt : k < c.works.length
  · obtain ⟨b, off, c2, hv, hbl, hcl⟩ := hc.works.at (by omega)
    rw [hp] at hv
    obtain ⟨rfl, _, rfl⟩ := Value.slice.inj hv
    obtain ⟨r, hr⟩ : ∃ r, c.works[k]? = some r := ⟨_, List.getElem?_eq_getElem hlt⟩
    have r0 : w.cell? ⟨b, off + k, none⟩ = some (.bool r) := hcl k _ (by rw [List.getElem?_map, hr]; rfl)
    have e : worksM c k = r := by unfold worksM; simp [List.getD_eq_getElem?_getD, hr]
    rw [e]
    have d1 : decide (k < c.works.length) = true := by simp; omega
    generalize c.works.length = N at *
    clear hw hc hp e hr hcl
    go_enter Try.func74, Try.ntmps74
    go_wp2
    go_ret
    exact ⟨rfl, rfl⟩
  · have e : worksM c k = false := by unfold worksM; simp [List.getD_eq_getElem?_getD, List.getElem?_eq_none (Nat.le_of_not_lt hlt)]
    rw [e]
    have d1 : decide (k < c.works.length) = false := by simp; omega
    generalize c.works.length = N at *
    clear hw hc hp e
    go_enter Try.func74, Try.ntmps74
    go_wp2
    go_ret
    exact ⟨rfl, rfl⟩

/-- the functions that are handed in -/
theorem eqlF_any (xb : Nat) (op : Int) (a b : Nat) (w : World) (hx : w.cell? ⟨xb, 0, none⟩ = some (.int .i64 op)) :
    Calls Try.prog 80 #[.int .u64 (a : Int), .int .u64 (b : Int), .pointer (some ⟨xb, 0, none⟩)] w fun e w' => e = .returned (.int .u64 ((eqlM op a b : Nat) : Int)) ∧ Below w.heap.size w w' := by
  have fin : eqlM op a b = (if decide (a = b) == decide (op = 16) then 1 else 0) := rfl
  have h1 : ((a : Int) == (b : Int)) = decide (a = b) := by
    rw [Bool.eq_iff_iff]; simp only [beq_iff_eq, decide_eq_true_eq]; omega
  have h2 : (op == 16) = decide (op = 16) := by
    rw [Bool.eq_iff_iff]; simp
  generalize decide (a = b) = u at *
  generalize decide (op = 16) = v at *
  generalize eqlM op a b = r at *
  have F := Bx.mk fin
  clear fin
  cases u <;> cases v
  all_goals
    go_enter Try.func80, Try.ntmps80
    go_wp2
    go_ret
    exact ⟨by rw [F.out]; rfl, Below.refl _ _⟩
theorem reckF_any (xb : Nat) (op : Int) (a b : Nat) (ha : a < 18446744073709551616) (hb : b < 18446744073709551616) (w : World) (hx : w.cell? ⟨xb, 0, none⟩ = some (.int .i64 op)) :
    Calls Try.prog 81 #[.int .u64 (a : Int), .int .u64 (b : Int), .pointer (some ⟨xb, 0, none⟩)] w fun e w' => e = .returned (.int .u64 ((reckM op a b : Nat) : Int)) ∧ Below w.heap.size w w' := by
  have c1 := Bx.mk (fun W => reckon_any op a b ha hb W)
  clear ha hb
  go_enter Try.func81, Try.ntmps81
  go_wp2_with (go_at_call 17; ((with_reducible refine (c1.out _).mono ?_); rintro e w1 ⟨rfl, rfl⟩))
  go_ret
  exact ⟨rfl, Below.refl _ _⟩
theorem addF_any (a b : Nat) (w : World) :
    Calls Try.prog 89 #[.int .u64 (a : Int), .int .u64 (b : Int)] w fun e w' => e = .returned (.int .u64 ((addM a b : Nat) : Int)) ∧ Below w.heap.size w w' := by
  have e2 := Bx.mk (u64add (a := a) (b := b))
  go_enter Try.func89, Try.ntmps89
  go_wp2
  go_ret
  exact ⟨by rw [e2.out]; rfl, Below.refl _ _⟩
set_option maxHeartbeats 1600000 in
theorem comb_reck (xb : Nat) (op : Int) (p q : Bool × Nat) (hp : p.2 < 18446744073709551616) (hq : q.2 < 18446744073709551616) (w : World) (hx : w.cell? ⟨xb, 0, none⟩ = some (.int .i64 op)) :
    Calls Try.prog 79 #[.agg #[.bool p.1, .int .u64 (p.2 : Int)], .agg #[.bool q.1, .int .u64 (q.2 : Int)], .func (.func 81) #[] #[.pointer (some ⟨xb, 0, none⟩)]] w fun e w' => e = .returned (.agg #[.bool (combM p q (reckM op)).1, .int .u64 ((combM p q (reckM op)).2 : Int)]) ∧ Below w.heap.size w w' := by
  obtain ⟨pk, a⟩ := p
  obtain ⟨qk, b⟩ := q
  have cf := Bx.mk (fun W hx => reckF_any xb op a b hp hq W hx)
  have B0 : ∀ u v x : Obj, Below w.heap.size w (((w.alloc u).alloc v).alloc x) := fun u v x => ((aset _ _).alloc (by simp) _).alloc (by simp; omega) _
  have BB := Bx.mk B0
  clear B0 hp hq
  cases pk <;> cases qk
  rotate_right
  · have ck := Bx.mk (fun v W => known_any v W)
    have HX := Bx.mk hx
    go_enter Try.func79, Try.ntmps79
    go_wp2_with (first
      | (go_at_call 81; ((with_reducible refine (cf.out _ (cBel HX.out (BB.out _ _ _))).mono ?_); rintro e w1 ⟨rfl, b1⟩; have X := nBlock b1; have B1 := Bx.mk (bel (BB.out _ _ _) b1); clear b1))
      | (go_at_call 71; ((with_reducible refine (ck.out _ _).mono ?_); rintro e w2 ⟨rfl, b2⟩; have X := (b2.block _ (ltOf X)).trans X; have x0 := cOf X 0; have x1 := cOf X 1; have xf := tOf X 0; have xf1 := tOf X 1; simp at x0 x1 xf xf1; have B2 := Bx.mk (bel B1.out b2); clear b2)))
    exact bodyPost_ret (v := .agg #[.bool true, .int .u64 ((reckM op) a b : Nat)]) (by simp [results, go_sem, x0, x1]) rfl ⟨rfl, (B2.out.setCell (p := ⟨w.heap.size + 1 + 1, 0, none⟩) (by simp; omega) _).setCell (p := ⟨w.heap.size + 1 + 1, 1, none⟩) (by simp; omega) _⟩
  all_goals
    clear cf
    go_enter Try.func79, Try.ntmps79
    go_wp2
    exact bodyPost_ret (v := .agg #[.bool false, .int .u64 0]) (by simp [results, go_sem]) rfl ⟨rfl, BB.out _ _ _⟩
set_option maxHeartbeats 1600000 in
theorem comb_eql (xb : Nat) (op : Int) (p q : Bool × Nat) (w : World) (hx : w.cell? ⟨xb, 0, none⟩ = some (.int .i64 op)) :
    Calls Try.prog 79 #[.agg #[.bool p.1, .int .u64 (p.2 : Int)], .agg #[.bool q.1, .int .u64 (q.2 : Int)], .func (.func 80) #[] #[.pointer (some ⟨xb, 0, none⟩)]] w fun e w' => e = .returned (.agg #[.bool (combM p q (eqlM op)).1, .int .u64 ((combM p q (eqlM op)).2 : Int)]) ∧ Below w.heap.size w w' := by
  obtain ⟨pk, a⟩ := p
  obtain ⟨qk, b⟩ := q
  have cf := Bx.mk (fun W hx => eqlF_any xb op a b W hx)
  have B0 : ∀ u v x : Obj, Below w.heap.size w (((w.alloc u).alloc v).alloc x) := fun u v x => ((aset _ _).alloc (by simp) _).alloc (by simp; omega) _
  have BB := Bx.mk B0
  clear B0
  cases pk <;> cases qk
  rotate_right
  · have ck := Bx.mk (fun v W => known_any v W)
    have HX := Bx.mk hx
    go_enter Try.func79, Try.ntmps79
    go_wp2_with (first
      | (go_at_call 80; ((with_reducible refine (cf.out _ (cBel HX.out (BB.out _ _ _))).mono ?_); rintro e w1 ⟨rfl, b1⟩; have X := nBlock b1; have B1 := Bx.mk (bel (BB.out _ _ _) b1); clear b1))
      | (go_at_call 71; ((with_reducible refine (ck.out _ _).mono ?_); rintro e w2 ⟨rfl, b2⟩; have X := (b2.block _ (ltOf X)).trans X; have x0 := cOf X 0; have x1 := cOf X 1; have xf := tOf X 0; have xf1 := tOf X 1; simp at x0 x1 xf xf1; have B2 := Bx.mk (bel B1.out b2); clear b2)))
    exact bodyPost_ret (v := .agg #[.bool true, .int .u64 ((eqlM op) a b : Nat)]) (by simp [results, go_sem, x0, x1]) rfl ⟨rfl, (B2.out.setCell (p := ⟨w.heap.size + 1 + 1, 0, none⟩) (by simp; omega) _).setCell (p := ⟨w.heap.size + 1 + 1, 1, none⟩) (by simp; omega) _⟩
  all_goals
    clear cf
    go_enter Try.func79, Try.ntmps79
    go_wp2
    exact bodyPost_ret (v := .agg #[.bool false, .int .u64 0]) (by simp [results, go_sem]) rfl ⟨rfl, BB.out _ _ _⟩
set_option maxHeartbeats 1600000 in
theorem comb_add (p q : Bool × Nat) (w : World) :
    Calls Try.prog 79 #[.agg #[.bool p.1, .int .u64 (p.2 : Int)], .agg #[.bool q.1, .int .u64 (q.2 : Int)], .func (.func 89) #[] #[]] w fun e w' => e = .returned (.agg #[.bool (combM p q addM).1, .int .u64 ((combM p q addM).2 : Int)]) ∧ Below w.heap.size w w' := by
  obtain ⟨pk, a⟩ := p
  obtain ⟨qk, b⟩ := q
  have cf := Bx.mk (fun W => addF_any a b W)
  have B0 : ∀ u v x : Obj, Below w.heap.size w (((w.alloc u).alloc v).alloc x) := fun u v x => ((aset _ _).alloc (by simp) _).alloc (by simp; omega) _
  have BB := Bx.mk B0
  clear B0
  cases pk <;> cases qk
  rotate_right
  · have ck := Bx.mk (fun v W => known_any v W)

    go_enter Try.func79, Try.ntmps79
    go_wp2_with (first
      | (go_at_call 89; ((with_reducible refine (cf.out _).mono ?_); rintro e w1 ⟨rfl, b1⟩; have X := nBlock b1; have B1 := Bx.mk (bel (BB.out _ _ _) b1); clear b1))
      | (go_at_call 71; ((with_reducible refine (ck.out _ _).mono ?_); rintro e w2 ⟨rfl, b2⟩; have X := (b2.block _ (ltOf X)).trans X; have x0 := cOf X 0; have x1 := cOf X 1; have xf := tOf X 0; have xf1 := tOf X 1; simp at x0 x1 xf xf1; have B2 := Bx.mk (bel B1.out b2); clear b2)))
    exact bodyPost_ret (v := .agg #[.bool true, .int .u64 (addM a b : Nat)]) (by simp [results, go_sem, x0, x1]) rfl ⟨rfl, (B2.out.setCell (p := ⟨w.heap.size + 1 + 1, 0, none⟩) (by simp; omega) _).setCell (p := ⟨w.heap.size + 1 + 1, 1, none⟩) (by simp; omega) _⟩
  all_goals
    clear cf
    go_enter Try.func79, Try.ntmps79
    go_wp2
    exact bodyPost_ret (v := .agg #[.bool false, .int .u64 0]) (by simp [results, go_sem]) rfl ⟨rfl, BB.out _ _ _⟩
end Go.Proofs.Yteeicedhnojdaaa
