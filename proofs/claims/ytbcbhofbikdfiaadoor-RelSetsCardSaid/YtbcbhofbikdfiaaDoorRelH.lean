/- Contracts of rel: lowestFree, Order. -/
import Derived.Test.YtbcbhofbikdfiaaDoorRelG
namespace Go.Proofs.YtbcbhofbikdfiaaDoor
set_option maxRecDepth 100000
open Go.RowKit M
attribute [local go_sem] Oper.semAt_some

theorem results_two {P : Program} {fn : Func} {p q : Tmp} {ty tz : TypeId} {tmps : Array Value} {w : World} {a b : Addr} {v u : Value} (h : fn.results = #[.cell p ty, .cell q tz]) (ht : tmps.getD p undef = .pointer (some a)) (hq : tmps.getD q undef = .pointer (some b)) (hl : (loadVar ty a).run P w = .ok v w) (hm : (loadVar tz b).run P w = .ok u w) :
    (results fn tmps).run P w = .ok (.tuple #[v, u]) w := by
  have ht' : tmps[p]?.getD undef = .pointer (some a) := by rw [← Array.getD_eq_getD_getElem?]; exact ht
  have hq' : tmps[q]?.getD undef = .pointer (some b) := by rw [← Array.getD_eq_getD_getElem?]; exact hq
  simp only [results, h]
  simp [ht', hq', hl, hm, asAddr]
theorem low_at {t : List Nat} {s x : Nat} {pre : List Nat} (h : (pre ++ [x]) <+: R.els s) (hn : ∀ a ∈ pre, R.g t a &&& s ≠ 0) (hx : R.g t x &&& s = 0) : R.low t s = some x := by
  obtain ⟨l, hl⟩ := h
  unfold R.low
  rw [← hl, List.append_assoc, List.find?_append, List.find?_eq_none.2 (fun a ha => by simpa using hn a ha)]
  simp [hx]
theorem low_no {t : List Nat} {s : Nat} (hn : ∀ a ∈ R.els s, R.g t a &&& s ≠ 0) : R.low t s = none := by
  unfold R.low
  exact List.find?_eq_none.2 (fun a ha => by simpa using hn a ha)

theorem Kp.setC {B Bn b : Nat} {C : Array Value} {T : TypeId} {fr : Nat × Nat} {W : World} (h : W.heap[b]? = some (.cells C T fr)) (hne : Bn ≠ b) (x : Nat) (v : Value) : Kp B Bn W (W.setCell ⟨b, x, none⟩ v) :=
  ⟨Below.heap_setCell W ⟨b, x, none⟩ v Bn hne, fun k o _ hk ho => (Below.heap_setCell W ⟨b, x, none⟩ v k (fun e => by
    have e' : k = b := e
    subst e'
    rw [h] at hk; cases hk; cases ho)).trans hk⟩
theorem hOther {W : World} {a b o : Nat} {v : Value} (h : b ≠ a) : (W.setCell ⟨a, o, none⟩ v).heap[b]? = W.heap[b]? := Below.heap_setCell _ _ _ _ h
theorem load_i {w : World} {b : Nat} {v : Value} (h : w.heap[b]? = some (.cells #[v] 3 (0, 0))) : (loadVar 3 ⟨b, 0, none⟩).run Tryd.prog w = .ok v w := by
  have hc : w.cell? ⟨b, 0, none⟩ = some v := by simp [World.cell?, h]
  go_simp
theorem load_b {w : World} {b : Nat} {v : Value} (h : w.heap[b]? = some (.cells #[v] 4 (0, 0))) : (loadVar 4 ⟨b, 0, none⟩).run Tryd.prog w = .ok v w := by
  have hc : w.cell? ⟨b, 0, none⟩ = some v := by simp [World.cell?, h]
  go_simp
def lowV (o : Option Nat) : Value := match o with | some a => .tuple #[.int .i64 (a : Int), .bool true] | none => .tuple #[.int .i64 0, .bool false]
set_option maxRecDepth 100000 in
set_option maxHeartbeats 2000000 in
theorem lowest_any (t : List Nat) (ht : R.Wf t) (s : Nat) (hs : s < 65536) (w : World) (hT : Tab64 w) :
    Calls Tryd.prog 40 #[.agg (w16 t).toArray, .int .u16 (s : Int)] w fun e w' => e = .returned (lowV (R.low t s)) ∧ Below w.heap.size w w' := by
  refine callsIn_wide.1 (callsIn_of_wp_marks (n := 0) Tryd.func40 rfl trivial ?_ rfl)
  rw [wpIn_wide]
  simp only [Tryd.ntmps40, List.size_toArray, List.length_cons, List.length_nil, Nat.reduceAdd, Nat.reduceSub, Array.replicate_succ, Array.replicate_zero, List.push_toArray, List.append_toArray, List.nil_append, List.cons_append]
  have HT := Box.mk hT
  have HR := Box.mk ht
  clear hT ht
  go_wp2_with (go_at_call 39; refine (elements_any s _).mono ?_; rintro e w' ⟨rfl, rfl⟩)
  have hb0 : Below w.heap.size w (((((w.alloc (.cells (w16 t).toArray 25)).alloc (.cells #[.int .u16 (s : Int)] 23)).alloc (.cells #[.int .i64 0] 3)).alloc (.cells #[.bool false] 4)).alloc (.cells #[.int .u16 (s : Int)] 23)) := (aset w _).trans (((aset _ _).trans (((aset _ _).trans (((aset _ _).trans ((aset _ _).mono (by simp))).mono (by simp))).mono (by simp))).mono (by simp))
  have r0 := ((((RB.new w t).alloc (.cells #[.int .u16 (s : Int)] 23)).alloc (.cells #[.int .i64 0] 3)).alloc (.cells #[.bool false] 4)).alloc (.cells #[.int .u16 (s : Int)] 23)
  have hk : ∀ (W : World) (o : Obj) (k : Nat) (p : Obj), W.heap[k]? = some p → (W.alloc o).heap[k]? = some p := fun W o k p h => (Below.heap_alloc W o k (Array.getElem?_eq_some_iff.1 h).1).trans h
  have r1 := hk _ (.cells #[.int .u16 (s : Int)] 23) _ _ (hk _ (.cells #[.bool false] 4) _ _ (hk _ (.cells #[.int .i64 0] 3) _ _ (SB.new (w.alloc (.cells (w16 t).toArray 25)) s)))
  have r2 := hk _ (.cells #[.int .u16 (s : Int)] 23) _ _ (hk _ (.cells #[.bool false] 4) _ _ (heap_alloc_new ((w.alloc (.cells (w16 t).toArray 25)).alloc (.cells #[.int .u16 (s : Int)] 23)) (.cells #[.int .i64 0] 3)))
  have r3 := hk _ (.cells #[.int .u16 (s : Int)] 23) _ _ (heap_alloc_new (((w.alloc (.cells (w16 t).toArray 25)).alloc (.cells #[.int .u16 (s : Int)] 23)).alloc (.cells #[.int .i64 0] 3)) (.cells #[.bool false] 4))
  have r4 := SB.new ((((w.alloc (.cells (w16 t).toArray 25)).alloc (.cells #[.int .u16 (s : Int)] 23)).alloc (.cells #[.int .i64 0] 3)).alloc (.cells #[.bool false] 4)) s
  simp only [World.size_alloc] at r1 r2 r3 r4
  generalize hWx : (((((w.alloc (.cells (w16 t).toArray 25)).alloc (.cells #[.int .u16 (s : Int)] 23)).alloc (.cells #[.int .i64 0] 3)).alloc (.cells #[.bool false] 4)).alloc (.cells #[.int .u16 (s : Int)] 23)) = Wx at *
  have hsz : Wx.heap.size = w.heap.size + 1 + 1 + 1 + 1 + 1 := by rw [← hWx]; simp
  clear hWx hk
  have hT' : ∀ W, Below w.heap.size w W → Tab64 W := fun W h => tab_bel HT.out h
  refine wp_els (Bn := w.heap.size + 1 + 1 + 1 + 1) (s := s) rfl hs r4
    (fun pre W => (∀ a ∈ pre, R.g t a &&& s ≠ 0) ∧ RB W w.heap.size t ∧ SB W (w.heap.size + 1) s ∧ W.heap[w.heap.size + 1 + 1]? = some (.cells #[.int .i64 0] 3 (0, 0)) ∧ W.heap[w.heap.size + 1 + 1 + 1]? = some (.cells #[.bool false] 4 (0, 0)) ∧ Below w.heap.size w W)
    (fun c pre W => ∃ a : Nat, R.low t s = some a ∧ W.heap[w.heap.size + 1 + 1]? = some (.cells #[.int .i64 (a : Int)] 3 (0, 0)) ∧ W.heap[w.heap.size + 1 + 1 + 1]? = some (.cells #[.bool true] 4 (0, 0)) ∧ Below w.heap.size w W)
    (fun pre W W' h hs => ⟨h.1, hs.rb h.2.1 (by omega), hs.same _ _ h.2.2.1 (by omega) (.inr rfl), hs.same _ _ h.2.2.2.1 (by omega) (.inr rfl), hs.same _ _ h.2.2.2.2.1 (by omega) (.inr rfl), hs.below h.2.2.2.2.2 (by omega) (by omega)⟩)
    (fun c pre W W' h hs => by obtain ⟨a, h1, h2, h3, h4⟩ := h; exact ⟨a, h1, hs.same _ _ h2 (by omega) (.inr rfl), hs.same _ _ h3 (by omega) (.inr rfl), hs.below h4 (by omega) (by omega)⟩)
    (fun pre W h => hT' W h.2.2.2.2.2)
    ⟨fun a h => (by cases h), r0, r1, r2, r3, hb0⟩
    (fun x => { tmps := #[.agg (w16 t).toArray, .int .u16 (s : Int), .pointer (some ⟨w.heap.size, 0, none⟩), .pointer (some ⟨w.heap.size + 1, 0, none⟩), .pointer (some ⟨w.heap.size + 1 + 1, 0, none⟩), .pointer (some ⟨w.heap.size + 1 + 1 + 1, 0, none⟩), .int .i64 (x : Int), .int .u16 (s : Int), .func (.func 44) #[] #[.pointer (some ⟨w.heap.size + 1 + 1 + 1 + 1, 0, none⟩)], .int .i64 (x : Int), undef, undef, undef, undef, undef, undef, undef], defers := [] }) ?assign ?body ?done ?stop
  case assign =>
    intro l x W K hK
    gi_wp2
    exact hK
  case body =>
    rintro l pre x W ⟨g0, g1, g2, g3, g4, g5⟩ hx hpre
    have c1 := g1.cell HR.out hx
    have c2 := g2.cell
    have c3 : W.cell? ⟨w.heap.size + 1 + 1, 0, none⟩ = some (.int .i64 0) := by simp [World.cell?, g3]
    have c4 : W.cell? ⟨w.heap.size + 1 + 1 + 1, 0, none⟩ = some (.bool false) := by simp [World.cell?, g4]
    have z3 : W.frozen? ⟨w.heap.size + 1 + 1, 0, none⟩ = false := by simp [World.frozen?, g3]
    have z4 : W.frozen? ⟨w.heap.size + 1 + 1 + 1, 0, none⟩ = false := by simp [World.frozen?, g4]
    have n0 := and16 (HR.out.lt x) hs
    have i3 : (0 : Int) ≤ (x : Int) := by omega
    have i4 : (x : Int) < 16 := by omega
    have G0 := Box.mk g0; have G1 := Box.mk g1; have G2 := Box.mk g2; have G3 := Box.mk g3; have G4 := Box.mk g4; have G5 := Box.mk g5
    have hmo : Tryd.prog.follows .mixedOrders = true := by kernel_rfl
    by_cases h0 : R.g t x &&& s = 0
    · have hlow := low_at hpre g0 h0
      have HL := Box.mk hlow
      rw [h0] at n0
      clear g0 g1 g2 g3 g4 g5 hlow h0
      generalize R.g t x = y at *
      gi_wp2
      gi_region_with_o (fail)
      all_goals gi_wp2
      all_goals
        have e2 : ((W.setCell ⟨w.heap.size + 1 + 1, 0, none⟩ (.int .i64 (x : Int))).setCell ⟨w.heap.size + 1 + 1 + 1, 0, none⟩ (.bool true)).heap[w.heap.size + 1 + 1]? = some (.cells #[.int .i64 (x : Int)] 3 (0, 0)) := by
          rw [hOther (by omega), setHeap G3.out]; rfl
        have e3 : ((W.setCell ⟨w.heap.size + 1 + 1, 0, none⟩ (.int .i64 (x : Int))).setCell ⟨w.heap.size + 1 + 1 + 1, 0, none⟩ (.bool true)).heap[w.heap.size + 1 + 1 + 1]? = some (.cells #[.bool true] 4 (0, 0)) := by
          rw [setHeap ((hOther (by omega)).trans G4.out)]; rfl
        have k1 := (Kp.setC (B := Wx.heap.size) G3.out (show w.heap.size + 1 + 1 + 1 + 1 ≠ w.heap.size + 1 + 1 by omega) 0 (.int .i64 (x : Int))).trans (Kp.setC (B := Wx.heap.size) ((hOther (by omega)).trans G4.out) (show w.heap.size + 1 + 1 + 1 + 1 ≠ w.heap.size + 1 + 1 + 1 by omega) 0 (.bool true))
        exact ⟨⟨k1.bn, k1.oth⟩, x, HL.out, e2, e3, (bset (bset G5.out _ _ _ (by omega)) _ _ _ (by omega)).drew⟩
    · have hne : ((R.g t x &&& s : Nat) : Int) ≠ 0 := by omega
      have H0 := Box.mk h0
      clear g0 g1 g2 g3 g4 g5 h0
      generalize hy : R.g t x = y at *
      generalize hz : (y &&& s) = z at *
      gi_wp2
      gi_region_with_o (fail)
      all_goals gi_wp2
      all_goals exact ⟨⟨rfl, fun _ _ _ h _ => h⟩, (fun a ha => by
        rcases List.mem_append.1 ha with ha | ha
        · exact G0.out a ha
        · have e : a = x := by simpa using ha
          rw [e, hy, hz]; omega), G1.out, G2.out, G3.out, G4.out, G5.out.drew⟩
  case done =>
    rintro D W hD ⟨g0, g1, g2, g3, g4, g5⟩ hK
    have hlow := low_no g0
    have c3 : W.cell? ⟨w.heap.size + 1 + 1, 0, none⟩ = some (.int .i64 0) := by simp [World.cell?, g3]
    have c4 : W.cell? ⟨w.heap.size + 1 + 1 + 1, 0, none⟩ = some (.bool false) := by simp [World.cell?, g4]
    have z3 : W.frozen? ⟨w.heap.size + 1 + 1, 0, none⟩ = false := by simp [World.frozen?, g3]
    have z4 : W.frozen? ⟨w.heap.size + 1 + 1 + 1, 0, none⟩ = false := by simp [World.frozen?, g4]
    have G3 := Box.mk g3; have G4 := Box.mk g4; have G5 := Box.mk g5; have GK := Box.mk hK; have HL := Box.mk hlow
    clear g0 g1 g2 g3 g4 g5 hK hlow
    go_wp2_with fail
    have e2 : ((W.setCell ⟨w.heap.size + 1 + 1, 0, none⟩ (.int .i64 0)).setCell ⟨w.heap.size + 1 + 1 + 1, 0, none⟩ (.bool false)).heap[w.heap.size + 1 + 1]? = some (.cells #[.int .i64 0] 3 (0, 0)) := by
      rw [hOther (by omega), setHeap G3.out]; rfl
    have e3 : ((W.setCell ⟨w.heap.size + 1 + 1, 0, none⟩ (.int .i64 0)).setCell ⟨w.heap.size + 1 + 1 + 1, 0, none⟩ (.bool false)).heap[w.heap.size + 1 + 1 + 1]? = some (.cells #[.bool false] 4 (0, 0)) := by
      rw [setHeap ((hOther (by omega)).trans G4.out)]; rfl
    have eb : Below w.heap.size w ((W.setCell ⟨w.heap.size + 1 + 1, 0, none⟩ (.int .i64 0)).setCell ⟨w.heap.size + 1 + 1 + 1, 0, none⟩ (.bool false)) := bset (bset G5.out _ _ _ (by omega)) _ _ _ (by omega)
    have eD : ((W.setCell ⟨w.heap.size + 1 + 1, 0, none⟩ (.int .i64 0)).setCell ⟨w.heap.size + 1 + 1 + 1, 0, none⟩ (.bool false)).heap[D]? = some (.deferred (some [])) := by
      rw [hOther (by omega), hOther (by omega)]; exact GK.out
    have hm : Mk w.heap.size (D + 1) [{ target := .collected D, args := #[] }] ((W.setCell ⟨w.heap.size + 1 + 1, 0, none⟩ (.int .i64 0)).setCell ⟨w.heap.size + 1 + 1 + 1, 0, none⟩ (.bool false)) := (Mk.nil w.heap.size w.heap.size _).cons (Nat.le_refl _) (by omega) (by omega) eD
    refine leave_marks (B := w.heap.size) _ _ hm eb.size (fun W' hc hb' => ?_)
    have w2 := hc _ _ e2 rfl
    have w3 := hc _ _ e3 rfl
    refine ⟨.tuple #[.int .i64 0, .bool false], results_two rfl (by rfl) (by rfl) (load_i w2) (load_b w3), by rw [HL.out]; rfl, eb.trans hb'⟩
  case stop =>
    rintro D pre W hD hpre ⟨a, h1, h2, h3, h4⟩ hK
    go_wp2_with fail
    have hm : Mk w.heap.size (D + 1) [{ target := .collected D, args := #[] }] W := (Mk.nil w.heap.size w.heap.size _).cons (Nat.le_refl _) (by omega) (by omega) hK
    refine leave_marks (B := w.heap.size) _ _ hm h4.size (fun W' hc hb' => ?_)
    have w2 := hc _ _ h2 rfl
    have w3 := hc _ _ h3 rfl
    refine ⟨.tuple #[.int .i64 (a : Int), .bool true], results_two rfl (by rfl) (by rfl) (load_i w2) (load_b w3), by rw [h1]; rfl, h4.trans hb'⟩
end Go.Proofs.YtbcbhofbikdfiaaDoor
