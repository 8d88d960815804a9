/- The reference of layer 3: Made. -/
import Derived.Test.YteilmohlgfgmnaaDoorRefD
import Derived.Deep.AppendLies
import Derived.Deep.RegionHeld3
import Derived.Deep.RegionLaw
namespace Go.Proofs.YteilmohlgfgmnaaDoor
set_option maxRecDepth 100000
open Go.RowKit

def u32s (l : List Nat) : List Value := l.map fun (q : Nat) => Value.int .u32 (q : Int)
theorem u32s_get {l : List Nat} {k q : Nat} (h : l[k]? = some q) : (u32s l)[k]? = some (.int .u32 (q : Int)) := by unfold u32s; rw [List.getElem?_map, h]; rfl
theorem info_u32 : (Tryd.prog.info? 27).map (fun i => (i.zero, i.size, i.bytes)) = some (some (.int .u32 0), 1, 4) := by kernel_rfl
theorem rootM_lt (p d : Nat) : M.rootM p d < 4294967296 := Nat.mod_lt _ (by decide)
/-- the roots of the first k -/
def rootsM (P : List Nat) (d k : Nat) : List Nat := (P.take k).map fun p => M.rootM p d
theorem rootsM_succ (P : List Nat) (d k q : Nat) (h : P[k]? = some q) : rootsM P d (k + 1) = rootsM P d k ++ [M.rootM q d] := by
  unfold rootsM
  rw [List.take_add_one, h]; simp
abbrev nilV : Value := .slice none 0 0
/-- what Made holds -/
structure MadeS (w W : World) (S T : Value) : Prop where
  r : W.heap[w.heap.size]? = some (.cells #[nilV, nilV] 25 (0, 0))
  t : W.heap[w.heap.size + 1]? = some (.cells #[S, T] 25 (0, 0))
  b : Below w.heap.size w W
theorem MadeS.step {w W W2 : World} {S T : Value} (h : MadeS w W S T) (hb : Below W.heap.size W W2) : MadeS w W2 S T :=
  ⟨(hb.block _ (ltR h.r)).trans h.r, (hb.block _ (ltR h.t)).trans h.t, _root_.Go.Proofs.YteilmohlgfgmnaaDoor.bel h.b hb⟩
theorem MadeS.drew {w W : World} {S T : Value} (h : MadeS w W S T) : MadeS w W.drew S T := ⟨h.r, h.t, h.b.drew⟩
theorem MadeS.grown {w W W2 : World} {S T v : Value} {e z n : Nat} {xs : List Value} (h : MadeS w W S T) (row : W.ownsRow (w.heap.size + 1 + 1) e z v n xs) (hg : W.grownBy W2 v.ownBlock) : MadeS w W2 S T :=
  ⟨(hg.block _ (ltR h.r) (fun e => by have := (rowLt row _ e.symm).1; omega)).trans h.r, (hg.block _ (ltR h.t) (fun e => by have := (rowLt row _ e.symm).1; omega)).trans h.t, h.b.grown hg h.b.size (fun k hk => by have := (rowLt row k hk).1; omega)⟩
theorem MadeS.set0 {w W : World} {S T : Value} (h : MadeS w W S T) (V : Value) : MadeS w (W.setCell ⟨w.heap.size + 1, 0, none⟩ V) V T :=
  ⟨(Below.heap_setCell _ _ _ _ (by show w.heap.size ≠ w.heap.size + 1; omega)).trans h.r, by have := setR h.t 0 V; simpa using this, h.b.setCell (p := ⟨w.heap.size + 1, 0, none⟩) (by show w.heap.size ≤ w.heap.size + 1; omega) _⟩
theorem MadeS.set1 {w W : World} {S T : Value} (h : MadeS w W S T) (V : Value) : MadeS w (W.setCell ⟨w.heap.size + 1, 1, none⟩ V) S V :=
  ⟨(Below.heap_setCell _ _ _ _ (by show w.heap.size ≠ w.heap.size + 1; omega)).trans h.r, by have := setR h.t 1 V; simpa using this, h.b.setCell (p := ⟨w.heap.size + 1, 1, none⟩) (by show w.heap.size ≤ w.heap.size + 1; omega) _⟩
theorem rowSet {w W : World} {e z n o : Nat} {v V : Value} {xs : List Value} (row : W.ownsRow (w.heap.size + 1 + 1) e z v n xs) : (W.setCell ⟨w.heap.size + 1, o, none⟩ V).ownsRow (w.heap.size + 1 + 1) e z v n xs :=
  rowKeep row fun k hk => Below.heap_setCell _ _ _ _ (by have := (rowLt row k hk).1; show k ≠ w.heap.size + 1; omega)
theorem u32Ne : 30 ≠ 27 := by decide
set_option maxHeartbeats 6400000 in
theorem made_any (w : World) :
    Calls Tryd.prog 6 #[] w fun e w' => (∃ S T, e = .returned (.agg #[S, T]) ∧ w'.ownsRow w.heap.size 27 1 S 8 (u32s (rootsM (M.primesM 8) 2 8)) ∧ w'.ownsRow w.heap.size 27 1 T 64 (u32s (rootsM (M.primesM 64) 3 64))) ∧ Below w.heap.size w w' := by
  obtain ⟨i0, hi, hz0, hz1, hz2⟩ := info_parts info_u32
  obtain ⟨P, hP⟩ : ∃ P, P = M.primesM 8 := ⟨_, rfl⟩
  obtain ⟨P2, hP2⟩ : ∃ P2, P2 = M.primesM 64 := ⟨_, rfl⟩
  have hPl : P.length = 8 := by rw [hP, M.primes8]; rfl
  have hPl2 : P2.length = 64 := by rw [hP2, M.primes64]; rfl
  have hPb : ∀ q ∈ P, q < 4294967296 := by rw [hP, M.primes8]; decide
  have hPb2 : ∀ q ∈ P2, q < 4294967296 := by rw [hP2, M.primes64]; decide
  have c8 := fun W => primes_any 8 (by omega) W
  have c64 := fun W => primes_any 64 (by omega) W
  simp only [← hP, hPl, show ((8 : Nat) : Int) = 8 from rfl] at c8
  simp only [← hP2, hPl2, show ((64 : Nat) : Int) = 64 from rfl] at c64
  rw [← hP, ← hP2]
  clear hP hP2
  have C8 := Bx.mk c8; have C64 := Bx.mk c64
  clear c8 c64
  go_enter Tryd.func6, Tryd.ntmps6
  have M0 : Bx (MadeS w ((w.alloc (.cells #[nilV, nilV] 25)).alloc (.cells #[nilV, nilV] 25)) nilV nilV) := ⟨⟨((asetR _ _).block _ (by simp)).trans (heap_alloc_new _ _), by have := heap_alloc_new (w.alloc (.cells #[nilV, nilV] 25)) (.cells #[nilV, nilV] 25); rwa [show (w.alloc (.cells #[nilV, nilV] 25)).heap.size = w.heap.size + 1 by simp] at this, bel (asetR _ _) (asetR _ _)⟩⟩
  go_wp2_with (go_at_call 22; ((with_reducible refine (C8.out _).mono ?_); rintro e w1 ⟨⟨g, cap, rfl, ho⟩, hb1⟩))
  have O1 := Bx.mk (rowMono (C := w.heap.size + 1 + 1) ho (by simp))
  have M1 := Bx.mk (M0.out.step hb1)
  clear ho hb1 M0
  go_loopw [9] (fun kx wr => ∃ (k : Nat) (S : Value), kx = .int .i64 (k : Int) ∧ k ≤ 8 ∧ Bx (MadeS w wr S nilV) ∧ Bx (wr.ownsRow (w.heap.size + 1 + 1) 27 1 S k (u32s (rootsM P 2 k))) ∧ Bx (wr.ownsRow (w.heap.size + 1 + 1) 30 1 (.slice (some ⟨g, 0, none⟩) 8 cap) 8 (u64s P))) (fun kx _ => 8 - (intOf kx).toNat)
  case atStart => exact ⟨0, nilV, rfl, by omega, M1, ⟨World.ownsRow_nil _ _ _ _⟩, O1⟩
  case round =>
    obtain ⟨k, S, rfl, hk8, hM, hS, hO⟩ := hrel
    obtain ⟨wo, rfl⟩ : ∃ wo : World, wo = wr := ⟨_, rfl⟩
    by_cases hk : k < 8
    · have hki : (k : Int) < 8 := by omega
      obtain ⟨q, hq⟩ : ∃ q, P[k]? = some q := ⟨_, List.getElem?_eq_getElem (by omega)⟩
      have hqb := hPb q (List.mem_of_getElem? hq)
      have q0 : wo.cell? ⟨g, k, none⟩ = some (.int .u64 (q : Int)) := by rw [hO.out.cellAt k (by omega), u64s_get hq]
      have q1 : wo.cell? ⟨w.heap.size + 1, 0, none⟩ = some S := by rw [cellR hM.out.t]; rfl
      have HRS := Bx.mk (rootsM_succ P 2 k q hq)
      have hrl := rootM_lt q 2
      have cr := fun W => root_any q 2 hqb (by omega) (by omega) W
      simp only [show ((2 : Nat) : Int) = 2 from rfl] at cr
      have CR := Bx.mk cr
      obtain ⟨m, hm⟩ : ∃ m, m = M.rootM q 2 := ⟨_, rfl⟩
      rw [← hm] at HRS CR hrl
      clear hq hm cr
      go_wp2_with fail
      have q1d : wo.drew.cell? ⟨w.heap.size + 1, 0, none⟩ = some S := q1
      go_region_law (first
        | (go_simp; ((refine (CR.out _).mono ?_); rintro e w2 ⟨rfl, hb2⟩; have q2 := cell_below hb2 q1d; have q3 : ∀ o, (w2.alloc o).cell? ⟨w.heap.size + 1, 0, none⟩ = some S := fun o => cell_below (asetR _ _) q2))
        | (refine step_append_lies _ (by rfl) _ _ _ (by rfl) (w.heap.size + 1 + 1) 27 i0 _ 1 4 Tryd.underlying23 hi hz0 hz1 hz2 rfl (by omega) _ _ _ (by rfl) ((rowBel hS.out.drew hb2).alloc _) ⟨w2.heap.size, 0, none⟩ 1 1 [.int .u32 (m : Int)] (by rfl) (by rfl) (World.news_of_block (cs := #[.int .u32 (m : Int)]) (t := 27) (fr := (0, 0)) (heap_alloc_new _ _)) (by simp [Value.oneCell']) (by omega) (by unfold maxLen; omega) (by omega) (by have := (hM.out.drew.step hb2).t; have := ltR this; simp; omega) (w2.heap.size + 1) (by simp) ?_; intro g2 cap2 w4 hown3 hgrow hat hlt3; have MA := Bx.mk (((hM.out.drew.step hb2).step (asetR _ _)).grown ((rowBel hS.out.drew hb2).alloc _) hgrow); have OA := Bx.mk (((rowBel hO.out.drew hb2).alloc _).kept hgrow (.inr fun e => rowApart hO.out hS.out u32Ne g rfl e.symm)); have PU := Bx.mk hown3; have r4 : w4.cell? ⟨w.heap.size + 1, 0, none⟩ = some S := (by rw [cellR MA.out.t]; rfl); have f4 : w4.frozen? ⟨w.heap.size + 1, 0, none⟩ = false := frozR MA.out.t _; clear hown3 hgrow hat hlt3))
      all_goals
        go_wp2_with fail
        go_roundw
        case rel => exact ⟨k + 1, .slice (some ⟨g2, 0, none⟩) (k + 1) cap2, by go_num, by omega, ⟨MA.out.set0 _⟩, ⟨by rw [HRS.out]; exact rowSet (by simpa [u32s] using PU.out)⟩, ⟨rowSet OA.out⟩⟩
        case measure => simp [intOf] <;> omega
    · obtain rfl : k = 8 := by omega
      have HSZ : w.heap.size + 1 < wo.heap.size := ltR hM.out.t
      have HS8 := hS
      obtain ⟨B2, hB2⟩ : ∃ B2, B2 = wo.heap.size := ⟨_, rfl⟩
      have HSB : Bx (∀ b, S.ownBlock = some b → b < B2) := ⟨fun b hb => by rw [hB2]; exact (rowLt hS.out b hb).2⟩
      go_wp2_with (go_at_call 22; ((with_reducible refine (C64.out _).mono ?_); rintro e w1 ⟨⟨h, cap2, rfl, ho2⟩, hb2⟩))
      rw [← hB2] at ho2
      have HZ2 : Bx (B2 ≤ w1.heap.size) := ⟨by rw [hB2]; exact hb2.size⟩
      have O2 := Bx.mk (rowMono (C := w.heap.size + 1 + 1) ho2 (by omega))
      have M2 := Bx.mk (hM.out.step hb2)
      have S2 := Bx.mk (rowBel hS.out hb2)
      have HBB : Bx (w.heap.size + 1 + 1 ≤ B2) := ⟨by omega⟩
      clear ho2 hb2 hM hS hO HS8 hB2 HSZ
      go_loopw [23] (fun kx wr => ∃ (k : Nat) (T : Value), kx = .int .i64 (k : Int) ∧ k ≤ 64 ∧ Bx (MadeS w wr S T) ∧ Bx (wr.ownsRow (w.heap.size + 1 + 1) 27 1 S 8 (u32s (rootsM P 2 8))) ∧ Bx (wr.ownsRow B2 27 1 T k (u32s (rootsM P2 3 k))) ∧ Bx (wr.ownsRow (w.heap.size + 1 + 1) 30 1 (.slice (some ⟨h, 0, none⟩) 64 cap2) 64 (u64s P2)) ∧ Bx (B2 ≤ wr.heap.size)) (fun kx _ => 64 - (intOf kx).toNat)
      case atStart => exact ⟨0, nilV, rfl, by omega, M2, S2, ⟨World.ownsRow_nil _ _ _ _⟩, O2, HZ2⟩
      case round =>
        obtain ⟨k, T, rfl, hk64, hM, hS, hT, hO, hZ⟩ := hrel
        obtain ⟨wi, rfl⟩ : ∃ wi : World, wi = wr := ⟨_, rfl⟩
        have hT2 := Bx.mk (rowMono hT.out HBB.out)
        by_cases hk : k < 64
        · have hki : (k : Int) < 64 := by omega
          obtain ⟨q, hq⟩ : ∃ q, P2[k]? = some q := ⟨_, List.getElem?_eq_getElem (by omega)⟩
          have hqb := hPb2 q (List.mem_of_getElem? hq)
          have q0 : wi.cell? ⟨h, k, none⟩ = some (.int .u64 (q : Int)) := by rw [hO.out.cellAt k (by omega), u64s_get hq]
          have q1 : wi.cell? ⟨w.heap.size + 1, 1, none⟩ = some T := by rw [cellR hM.out.t]; rfl
          have HRS := Bx.mk (rootsM_succ P2 3 k q hq)
          have hrl := rootM_lt q 3
          have cr := fun W => root_any q 3 hqb (by omega) (by omega) W
          simp only [show ((3 : Nat) : Int) = 3 from rfl] at cr
          have CR := Bx.mk cr
          obtain ⟨m, hm⟩ : ∃ m, m = M.rootM q 3 := ⟨_, rfl⟩
          rw [← hm] at HRS CR hrl
          clear hq hm cr
          go_wp2_with fail
          have q1d : wi.drew.cell? ⟨w.heap.size + 1, 1, none⟩ = some T := q1
          go_region_law (first
            | (go_simp; ((refine (CR.out _).mono ?_); rintro e w2 ⟨rfl, hb2⟩; have q2 := cell_below hb2 q1d; have q3 : ∀ o, (w2.alloc o).cell? ⟨w.heap.size + 1, 1, none⟩ = some T := fun o => cell_below (asetR _ _) q2; have HZ5 : Bx (B2 ≤ w2.heap.size) := ⟨Nat.le_trans hZ.out hb2.size⟩))
            | (refine step_append_lies _ (by rfl) _ _ _ (by rfl) B2 27 i0 _ 1 4 Tryd.underlying23 hi hz0 hz1 hz2 rfl (by omega) _ _ _ (by rfl) ((rowBel hT.out.drew hb2).alloc _) ⟨w2.heap.size, 0, none⟩ 1 1 [.int .u32 (m : Int)] (by rfl) (by rfl) (World.news_of_block (cs := #[.int .u32 (m : Int)]) (t := 27) (fr := (0, 0)) (heap_alloc_new _ _)) (by simp [Value.oneCell']) (by omega) (by unfold maxLen; omega) (by omega) (by have := HZ5.out; simp; omega) (w2.heap.size + 1) (by simp) ?_; intro g2 cap3 w4 hown3 hgrow hat hlt3; have MA := Bx.mk (((hM.out.drew.step hb2).step (asetR _ _)).grown ((rowBel hT2.out.drew hb2).alloc _) hgrow); have OA := Bx.mk (((rowBel hO.out.drew hb2).alloc _).kept hgrow (.inr fun e => rowApart hO.out hT.out u32Ne h rfl e.symm)); have SA := Bx.mk (((rowBel hS.out.drew hb2).alloc _).kept hgrow (by rcases hsb : S.ownBlock with _ | b; exact .inl rfl; exact .inr fun e => by have e1 := HSB.out b hsb; have e2 := (rowLt hT.out b e.symm).1; omega)); have PU := Bx.mk hown3; have r4 : w4.cell? ⟨w.heap.size + 1, 1, none⟩ = some T := (by rw [cellR MA.out.t]; rfl); have f4 : w4.frozen? ⟨w.heap.size + 1, 1, none⟩ = false := frozR MA.out.t _; have HZ4 : Bx (B2 ≤ w4.heap.size) := ⟨Nat.le_trans (Nat.le_trans HZ5.out (asetR _ _).size) hgrow.size⟩; clear hown3 hgrow hat hlt3))
          all_goals
            go_wp2_with fail
            go_roundw
            case rel => exact ⟨k + 1, .slice (some ⟨g2, 0, none⟩) (k + 1) cap3, by go_num, by omega, ⟨MA.out.set1 _⟩, ⟨rowSet SA.out⟩, ⟨by rw [HRS.out]; exact rowKeep (by simpa [u32s] using PU.out) fun b hb => Below.heap_setCell _ _ _ _ (by have := (rowLt PU.out b hb).1; have := HBB.out; show b ≠ w.heap.size + 1; omega)⟩, ⟨rowSet OA.out⟩, ⟨by have := HZ4.out; simpa using this⟩⟩
            case measure => simp [intOf] <;> omega
        · obtain rfl : k = 64 := by omega
          have n1 : wi.cell? ⟨w.heap.size + 1, 0, none⟩ = some S := by rw [cellR hM.out.t]; rfl
          have n2 : wi.cell? ⟨w.heap.size + 1, 1, none⟩ = some T := by rw [cellR hM.out.t]; rfl
          have n3 : wi.cell? ⟨w.heap.size, 0, none⟩ = some nilV := by rw [cellR hM.out.r]; rfl
          have n4 : wi.cell? ⟨w.heap.size, 1, none⟩ = some nilV := by rw [cellR hM.out.r]; rfl
          have n5 : wi.frozen? ⟨w.heap.size, 0, none⟩ = false := frozR hM.out.r _
          have n6 : wi.frozen? ⟨w.heap.size, 1, none⟩ = false := frozR hM.out.r _
          have hS3 := hS
          have hT3 := hT2
          obtain ⟨gs, cs, rfl, _, _⟩ := hS.out.form (by omega)
          obtain ⟨gt, ct, rfl, _, _⟩ := hT.out.form (by omega)
          go_wp2_with fail
          refine bodyPost_ret (v := .agg #[.slice (some ⟨gs, 0, none⟩) 8 cs, .slice (some ⟨gt, 0, none⟩) 64 ct]) (by simp [results, go_sem, *]) rfl ⟨⟨_, _, rfl, ?_, ?_⟩, ?_⟩
          · exact rowMono (rowKeep (rowKeep hS3.out fun k hk => Below.heap_setCell _ _ _ _ (by have := (rowLt hS3.out k hk).1; show k ≠ w.heap.size; omega)) fun k hk => Below.heap_setCell _ _ _ _ (by have := (rowLt hS3.out k hk).1; show k ≠ w.heap.size; omega)) (by omega)
          · exact rowMono (rowKeep (rowKeep hT3.out fun k hk => Below.heap_setCell _ _ _ _ (by have := (rowLt hT3.out k hk).1; show k ≠ w.heap.size; omega)) fun k hk => Below.heap_setCell _ _ _ _ (by have := (rowLt hT3.out k hk).1; show k ≠ w.heap.size; omega)) (by omega)
          · exact (hM.out.b.setCell (p := ⟨w.heap.size, 0, none⟩) (by show w.heap.size ≤ w.heap.size; omega) _).setCell (p := ⟨w.heap.size, 1, none⟩) (by show w.heap.size ≤ w.heap.size; omega) _
end Go.Proofs.YteilmohlgfgmnaaDoor
