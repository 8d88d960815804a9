/- The reference of layer 3: over, Root. -/
import Derived.Test.YteilmohlgfgmnaaDoorRefA
import Derived.Deep.QuietTactic
import Derived.BigQuiet
namespace Go.Proofs.YteilmohlgfgmnaaDoor
set_option maxRecDepth 100000
open Go.RowKit

/-- p moved left by n parts -/
def movB (p n : Nat) : List Nat := [0, 0, 0, 0, 0, 0, 0, 0].set n p
theorem movB_len (p n : Nat) : (movB p n).length = 8 := by simp [movB]
theorem movB_val (p n : Nat) (hn : n < 8) : M.valB (movB p n) = p * 4294967296 ^ n := by
  have h := M.valB_set [0, 0, 0, 0, 0, 0, 0, 0] n p 0 (by
    have : n = 0 ∨ n = 1 ∨ n = 2 ∨ n = 3 ∨ n = 4 ∨ n = 5 ∨ n = 6 ∨ n = 7 := by omega
    rcases this with rfl | rfl | rfl | rfl | rfl | rfl | rfl | rfl <;> rfl)
  have h0 : M.valB [0, 0, 0, 0, 0, 0, 0, 0] = 0 := by decide
  rw [h0, Nat.zero_mul, Nat.add_zero, Nat.zero_add] at h
  exact h
theorem dropEq {a b : List Nat} {j x : Nat} (ha : a[j]? = some x) (hb : b[j]? = some x) (h : a.drop (j + 1) = b.drop (j + 1)) : a.drop j = b.drop j := by
  obtain ⟨h1, e1⟩ := List.getElem?_eq_some_iff.1 ha
  obtain ⟨h2, e2⟩ := List.getElem?_eq_some_iff.1 hb
  rw [List.drop_eq_getElem_cons h1, List.drop_eq_getElem_cons h2, e1, e2, h]
theorem belDrR {B : Nat} {w0 w : World} (h : Below B w0 w) (n : Nat) : Below B w0 (w.drewN n) := ⟨h.os, h.tape, h.output, h.size, h.block⟩
set_option maxHeartbeats 3200000 in
theorem over_any (a : List Nat) (p n : Nat) (ha : a.length = 8) (hal : ∀ z ∈ a, z < 4294967296) (hp : p < 4294967296) (hn : n < 8) (w : World) :
    Calls Tryd.prog 41 #[.agg (bigC a), .int .u64 (p : Int), .int .i64 (n : Int)] w fun e w' => e = .returned (.bool (M.overM (M.valB a) p n)) ∧ Below w.heap.size w w' := by
  have hni : (n : Int) < 8 := by omega
  have hn0 : (0 : Int) ≤ (n : Int) := by omega
  obtain ⟨b, hb⟩ : ∃ b, b = movB p n := ⟨_, rfl⟩
  have hbv : M.valB b = p * 4294967296 ^ n := by rw [hb]; exact movB_val p n hn
  have hbl : b.length = 8 := by rw [hb]; exact movB_len p n
  have hbs : ∀ z ∈ b, z < 4294967296 := by
    rw [hb]
    intro z hz
    rcases List.mem_or_eq_of_mem_set hz with hz | rfl
    · simp at hz; omega
    · exact hp
  have hs1 : (w.alloc (.cells (bigC a) 89)).heap.size = w.heap.size + 1 := by simp
  have HB1 : Bx (((w.alloc (.cells (bigC a) 89)).alloc (.cells #[.int .u64 0, .int .u64 0, .int .u64 0, .int .u64 0, .int .u64 0, .int .u64 0, .int .u64 0, .int .u64 0] 89)).heap[w.heap.size + 1]? = some (.cells (bigC [0, 0, 0, 0, 0, 0, 0, 0]) 89 (0, 0))) := ⟨by
    have := heap_alloc_new (w.alloc (.cells (bigC a) 89)) (.cells #[.int .u64 0, .int .u64 0, .int .u64 0, .int .u64 0, .int .u64 0, .int .u64 0, .int .u64 0, .int .u64 0] 89)
    rw [hs1] at this
    exact this⟩
  have HB0 : Bx (((w.alloc (.cells (bigC a) 89)).alloc (.cells #[.int .u64 0, .int .u64 0, .int .u64 0, .int .u64 0, .int .u64 0, .int .u64 0, .int .u64 0, .int .u64 0] 89)).heap[w.heap.size]? = some (.cells (bigC a) 89 (0, 0))) := ⟨((asetR _ _).block _ (by rw [hs1]; omega)).trans (heap_alloc_new _ _)⟩
  have HBB : Bx (Below w.heap.size w ((w.alloc (.cells (bigC a) 89)).alloc (.cells #[.int .u64 0, .int .u64 0, .int .u64 0, .int .u64 0, .int .u64 0, .int .u64 0, .int .u64 0, .int .u64 0] 89))) := ⟨bel (asetR _ _) (asetR _ _)⟩
  have HBV := Bx.mk hbv; have HB := Bx.mk hb
  clear hbv hb hs1
  go_enter Tryd.func41, Tryd.ntmps41
  go_upto_region 2 with fail
  generalize ((w.alloc (.cells (bigC a) 89)).alloc (.cells #[.int .u64 0, .int .u64 0, .int .u64 0, .int .u64 0, .int .u64 0, .int .u64 0, .int .u64 0, .int .u64 0] 89)) = w2 at *
  have hz0 : ([0, 0, 0, 0, 0, 0, 0, 0] : List Nat)[n]? = some 0 := by
    have : n = 0 ∨ n = 1 ∨ n = 2 ∨ n = 3 ∨ n = 4 ∨ n = 5 ∨ n = 6 ∨ n = 7 := by omega
    rcases this with rfl | rfl | rfl | rfl | rfl | rfl | rfl | rfl <;> rfl
  have qz : w2.cell? ⟨w.heap.size + 1, n, none⟩ = some (.int .u64 0) := by rw [cellR HB1.out, bigC_get _ _ _ hz0]; rfl
  have qf : w2.frozen? ⟨w.heap.size + 1, n, none⟩ = false := frozR HB1.out _
  have K1 : Bx ((w2.setCell ⟨w.heap.size + 1, n, none⟩ (.int .u64 (p : Int))).heap[w.heap.size + 1]? = some (.cells (bigC b) 89 (0, 0))) := ⟨by
    have := setR HB1.out n (.int .u64 (p : Int))
    rwa [bigC_set, show ([0, 0, 0, 0, 0, 0, 0, 0] : List Nat).set n p = b from HB.out.symm] at this⟩
  have K0 : Bx ((w2.setCell ⟨w.heap.size + 1, n, none⟩ (.int .u64 (p : Int))).heap[w.heap.size]? = some (.cells (bigC a) 89 (0, 0))) := ⟨(Below.heap_setCell _ _ _ _ (by show w.heap.size ≠ w.heap.size + 1; omega)).trans HB0.out⟩
  have KB : Bx (Below w.heap.size w (w2.setCell ⟨w.heap.size + 1, n, none⟩ (.int .u64 (p : Int)))) := ⟨HBB.out.setCell (p := ⟨w.heap.size + 1, n, none⟩) (by show w.heap.size ≤ w.heap.size + 1; omega) _⟩
  clear hz0 HB0 HB1 HBB
  go_upto_region 3 with fail
  generalize w2.setCell ⟨w.heap.size + 1, n, none⟩ (.int .u64 (p : Int)) = w3 at *
  go_wp2_with fail
  go_loopw [8] (fun t wr => ∃ (r : Nat) (v : Int), t = .int .i64 v ∧ v = (r : Int) - 1 ∧ r ≤ 8 ∧ Bx (a.drop r = b.drop r) ∧ Bx (Below w3.heap.size w3 wr)) (fun t _ => (intOf t + 1).toNat)
  case atStart => exact ⟨8, 7, rfl, by omega, by omega, ⟨by rw [List.drop_eq_nil_of_le (by omega), List.drop_eq_nil_of_le (by omega)]⟩, ⟨Below.refl _ _⟩⟩
  case round =>
    obtain ⟨r, v, rfl, hv, hr8, hd, hbw⟩ := hrel
    cases r with
    | zero =>
      have hv1 : v = -1 := by omega
      subst hv1
      have HF : Bx (M.overM (M.valB a) p n = false) := ⟨by
        have h1 := hd.out
        rw [List.drop_zero, List.drop_zero] at h1
        unfold M.overM
        rw [h1, HBV.out]; simp⟩
      clear hv
      go_wp2_with fail
      go_ret
      exact ⟨by rw [HF.out]; rfl, bel KB.out hbw.out⟩
    | succ j =>
      have hv1 : v = (j : Int) := by omega
      subst hv1
      obtain ⟨x, hx⟩ : ∃ x, a[j]? = some x := ⟨_, List.getElem?_eq_getElem (by omega)⟩
      obtain ⟨y, hy⟩ : ∃ y, b[j]? = some y := ⟨_, List.getElem?_eq_getElem (by omega)⟩
      have q0 : wr.cell? ⟨w.heap.size, j, none⟩ = some (.int .u64 (x : Int)) := by
        rw [cellR ((hbw.out.block _ (ltR K0.out)).trans K0.out), bigC_get _ _ _ hx]
      have q1 : wr.cell? ⟨w.heap.size + 1, j, none⟩ = some (.int .u64 (y : Int)) := by
        rw [cellR ((hbw.out.block _ (ltR K1.out)).trans K1.out), bigC_get _ _ _ hy]
      have hji : (j : Int) < 8 := by omega
      have hj0 : (0 : Int) ≤ (j : Int) := by omega
      by_cases hxy : x = y
      · subst hxy
        have HD := Bx.mk (dropEq hx hy hd.out)
        clear hx hy hv
        go_wp2_with fail
        go_quiet (fail)
        go_wp2_with fail
        go_roundw
        case rel => exact ⟨j, _, rfl, by omega, by omega, HD, ⟨belDrR hbw.out _⟩⟩
        case measure => simp [intOf] <;> omega
      · have hq : ((x : Int) == (y : Int)) = false := by rw [beq_eq_false_iff_ne]; omega
        have hq2 : ((x : Int) != (y : Int)) = true := by rw [bne, hq]; rfl
        have HF : Bx (M.overM (M.valB a) p n = decide (y < x)) := ⟨by
          unfold M.overM
          rw [← HBV.out]
          rcases Nat.lt_or_gt_of_ne hxy with h1 | h1
          · have := M.valB_cmp a b j x y hx hy hd.out hal h1
            rw [decide_eq_false (by omega), decide_eq_false (by omega)]
          · have := M.valB_cmp b a j y x hy hx hd.out.symm hbs h1
            rw [decide_eq_true this, decide_eq_true h1]⟩
        clear hx hy hv
        by_cases hlt : y < x
        · have HT : Bx (decide (y < x) = true) := ⟨by simpa using hlt⟩
          have hlti : (y : Int) < (x : Int) := by omega
          clear hxy
          go_wp2_with fail
          go_quiet (fail)
          go_wp2_with fail
          go_quiet (fail)
          go_wp2_with fail
          go_ret
          exact ⟨by rw [HF.out, HT.out]; rfl, by first | exact bel KB.out (belDrR (belDrR hbw.out _) _) | exact bel KB.out (belDrR hbw.out _)⟩
        · have HT : Bx (decide (y < x) = false) := ⟨by simpa using hlt⟩
          have hlti : ¬ (y : Int) < (x : Int) := by omega
          clear hxy
          go_wp2_with fail
          go_quiet (fail)
          go_wp2_with fail
          go_quiet (fail)
          go_wp2_with fail
          go_ret
          exact ⟨by rw [HF.out, HT.out]; rfl, by first | exact bel KB.out (belDrR (belDrR hbw.out _) _) | exact bel KB.out (belDrR hbw.out _)⟩
end Go.Proofs.YteilmohlgfgmnaaDoor
