/- The reference's relations: Has, With. -/
import Derived.Test.YtbcbhofbikdfiaaDoorPaiA
namespace Go.Proofs.YtbcbhofbikdfiaaDoor
set_option maxRecDepth 100000
open Go.RowKit M

/-- is a pair among others? -/
def hasQ (l : List (Nat × Nat)) (a b : Int) : Bool := l.any fun p => (p.1 : Int) == a && (p.2 : Int) == b
theorem hasQ_yes {l : List (Nat × Nat)} {a b : Int} {i : Nat} {p : Nat × Nat} (h : l[i]? = some p) (h1 : (p.1 : Int) = a) (h2 : (p.2 : Int) = b) : hasQ l a b = true := List.any_eq_true.2 ⟨p, List.mem_of_getElem? h, by simp [h1, h2]⟩
theorem hasQ_no {l : List (Nat × Nat)} {a b : Int} (h : ∀ (i : Nat) p, l[i]? = some p → ¬ ((p.1 : Int) = a ∧ (p.2 : Int) = b)) : hasQ l a b = false := by
  apply List.any_eq_false.2
  intro p hp
  obtain ⟨i, hi⟩ := List.getElem?_of_mem hp
  have := h i p hi
  simpa using this
theorem pair_eql (a b c d : Int) (w : World) : (Op.equalIn 10000 36 (.agg #[.int .i64 a, .int .i64 b]) (.agg #[.int .i64 c, .int .i64 d])).run Tryd.prog w = .ok (a == c && b == d) w := by
  rw [run_equalIn_agg w 9999 36 _ _ (by kernel_rfl) (by kernel_rfl)]
  go_simp
  by_cases h1 : a = c <;> by_cases h2 : b = d <;> simp [h1, h2]
set_option maxRecDepth 100000 in
set_option maxHeartbeats 2000000 in
theorem hasR_any (l : List (Nat × Nat)) (hl : l.length ≤ 100000) (v : Value) (a b : Int) (w : World) (h : PIn w v l) :
    Calls Tryd.prog 13 #[v, .agg #[.int .i64 a, .int .i64 b]] w fun e w' => e = .returned (.bool (hasQ l a b)) ∧ Below w.heap.size w w' := by
  obtain ⟨p0, c0, rfl⟩ := SlIn.slice h
  have HY := Box.mk (fun (i : Nat) (p : Nat × Nat) (h : l[i]? = some p) (h1 : (p.1 : Int) = a) (h2 : (p.2 : Int) = b) => hasQ_yes h h1 h2)
  have HN := Box.mk (fun (h : ∀ (i : Nat) p, l[i]? = some p → ¬ ((p.1 : Int) = a ∧ (p.2 : Int) = b)) => hasQ_no (l := l) (a := a) (b := b) h)
  generalize hasQ l a b = q at *
  have H := Box.mk (h.below (aset w (.cells #[.int .i64 a, .int .i64 b] 36)))
  have BB := Box.mk (aset w (.cells #[.int .i64 a, .int .i64 b] 36))
  have PB : Box ((w.alloc (.cells #[.int .i64 a, .int .i64 b] 36)).heap[w.heap.size]? = some (.cells #[.int .i64 a, .int .i64 b] 36 (0, 0))) := ⟨heap_alloc_new _ _⟩
  clear h
  go_enter Tryd.func13, Tryd.ntmps13
  go_wp2_with fail
  generalize (w.alloc (.cells #[.int .i64 a, .int .i64 b] 36)) = W at *
  generalize hm : l.length = m at *
  have HM := Box.mk hm
  clear hm
  go_loopw [9] (fun iv wr => ∃ i : Nat, i ≤ m ∧ iv = .int .i64 (i : Int) ∧ Box (∀ (j : Nat) p, j < i → l[j]? = some p → ¬ ((p.1 : Int) = a ∧ (p.2 : Int) = b)) ∧ Box (PIn wr (.slice p0 m c0) l) ∧ Box (wr.heap[w.heap.size]? = some (.cells #[.int .i64 a, .int .i64 b] 36 (0, 0))) ∧ Box (Below w.heap.size w wr)) (fun iv _ => m - (intOf iv).toNat)
  case atStart => exact ⟨0, by omega, rfl, ⟨fun j p hj => by omega⟩, H, PB, BB⟩
  case round =>
    clear H PB BB
    obtain ⟨i, hi, rfl, NO, H, PB, BB⟩ := hrel
    by_cases hlt : i < m
    · obtain ⟨⟨x, y⟩, hxy⟩ : ∃ p, l[i]? = some p := ⟨_, List.getElem?_eq_getElem (by rw [HM.out]; exact hlt)⟩
      obtain ⟨bk, off, cc, hv, hbl, k0, k1⟩ := H.out.at hxy
      rw [HM.out] at hv
      obtain ⟨rfl, _, rfl⟩ := Value.slice.inj hv
      have l0 := BB.out.size
      have q0 : ∀ o : Obj, (wr.alloc o).cell? ⟨w.heap.size, 0, none⟩ = some (.int .i64 a) := fun o => by
        have := (Below.heap_alloc wr o w.heap.size (Array.getElem?_eq_some_iff.1 PB.out).1).trans PB.out
        rw [cOf' this]; rfl
      have q1 : ∀ o : Obj, (wr.alloc o).cell? ⟨w.heap.size, 1, none⟩ = some (.int .i64 b) := fun o => by
        have := (Below.heap_alloc wr o w.heap.size (Array.getElem?_eq_some_iff.1 PB.out).1).trans PB.out
        rw [cOf' this]; rfl
      have pe := fun w => pair_eql (x : Int) (y : Int) a b w
      have HX := Box.mk hxy
      clear hxy hv
      have PB' := Box.mk ((Below.heap_alloc wr (.cells #[.int .i64 (x : Int), .int .i64 (y : Int)] 36) w.heap.size (Array.getElem?_eq_some_iff.1 PB.out).1).trans PB.out)
      have BB' := Box.mk (bel' BB.out l0 (aset wr (.cells #[.int .i64 (x : Int), .int .i64 (y : Int)] 36)))
      have H' := Box.mk (H.out.below (aset wr (.cells #[.int .i64 (x : Int), .int .i64 (y : Int)] 36)))
      clear PB BB H
      by_cases hxa : (x : Int) = a ∧ (y : Int) = b
      · have e := HY.out i (x, y) HX.out hxa.1 hxa.2
        subst e
        obtain ⟨rfl, rfl⟩ := hxa
        simp only [BEq.rfl, Bool.and_self] at pe
        go_wp2_with fail
        go_ret
        exact ⟨rfl, BB'.out⟩
      · have e : ((x : Int) == a && (y : Int) == b) = false := by
          rw [Bool.eq_false_iff]; intro h; simp at h; exact hxa h
        rw [e] at pe
        have XA := Box.mk hxa
        clear e hxa
        go_wp2_with fail
        go_roundw
        case rel =>
          refine ⟨i + 1, by omega, by go_num, ⟨fun j p hj hp => ?_⟩, H', PB', BB'⟩
          rcases Nat.lt_or_ge j i with h1 | h1
          · exact NO.out j p h1 hp
          · obtain rfl : j = i := by omega
            rw [HX.out] at hp
            cases hp
            exact XA.out
        case measure => simp [intOf]; omega
    · obtain rfl : m = i := by omega
      have e := HN.out fun j p hj => NO.out j p (by have := (List.getElem?_eq_some_iff.1 hj).1; rw [HM.out] at this; exact this) hj
      subst e
      have i5 : ((m : Int) < (m : Int)) = False := by simp
      clear hlt
      go_wp2_with fail
      go_ret
      exact ⟨rfl, BB.out⟩
end Go.Proofs.YtbcbhofbikdfiaaDoor
