/- RefD, RefE, RefF, RefK, in one text. -/
import Derived.Test.YtacfdnjdjgdbcaaDoorRd
import Derived.Deep.AppendLies
import Derived.Deep.RegionHeld3
import Derived.Deep.RegionLaw
import Derived.Deep.RegionLawGrows
namespace Go.Proofs.YtacfdnjdjgdbcaaDoor
set_option maxRecDepth 100000
open Go.RowKit

def u64s (l : List Nat) : List Value := l.map fun (q : Nat) => Value.int .u64 (q : Int)
theorem u64s_get {l : List Nat} {k q : Nat} (h : l[k]? = some q) : (u64s l)[k]? = some (.int .u64 (q : Int)) := by unfold u64s; rw [List.getElem?_map, h]; rfl
theorem u64s_len (l : List Nat) : (u64s l).length = l.length := by simp [u64s]
theorem info_u64 : (Tryd.prog.info? 67).map (fun i => (i.zero, i.size, i.bytes)) = some (some (.int .u64 0), 1, 8) := by kernel_rfl
/-- no prime of those found divides p -/
def freeM (p : Nat) (l : List Nat) : Bool := l.all fun q => decide (p % q ≠ 0)
theorem freeM_take (p : Nat) (l : List Nat) (k q : Nat) (h : l[k]? = some q) : freeM p (l.take (k + 1)) = (freeM p (l.take k) && decide (p % q ≠ 0)) := by
  obtain ⟨hk, e⟩ := List.getElem?_eq_some_iff.1 h
  unfold freeM
  rw [List.take_add_one, h, List.all_append]
  simp
theorem pgo_more {n f p : Nat} {out : List Nat} (h : out.length < n) : M.primesGo n (f + 1) p out = M.primesGo n f (p + 1) (if freeM p out = true then out ++ [p] else out) := by
  rw [M.primesGo, if_pos h]; rfl
theorem pgo_end {n f p : Nat} {out : List Nat} (h : ¬ out.length < n) : M.primesGo n f p out = out := by
  cases f with
  | zero => rfl
  | succ f => rw [M.primesGo, if_neg h]
set_option maxHeartbeats 6400000 in
theorem primes_any (n : Nat) (hn : n ≤ 1000) (w : World) :
    Calls Tryd.prog 31 #[.int .i64 (n : Int)] w fun e w' => (∃ g cap, e = .returned (.slice (some ⟨g, 0, none⟩) (M.primesM n).length cap) ∧ w'.ownsRow w.heap.size 67 1 (.slice (some ⟨g, 0, none⟩) (M.primesM n).length cap) (M.primesM n).length (u64s (M.primesM n))) ∧ Below w.heap.size w w' := by
  obtain ⟨i0, hi, hz0, hz1, hz2⟩ := info_parts info_u64
  go_enter Tryd.func31, Tryd.ntmps31
  go_wp2_with fail
  go_loopw [3, 4] (fun r pv wr => ∃ (f p : Nat) (out : List Nat) (g cap : Nat), pv = .int .u64 (p : Int) ∧ p + f = 400 ∧ 2 ≤ p ∧ out.length ≤ p ∧ r = .slice (some ⟨g, 0, none⟩) out.length cap ∧ Bx (wr.ownsRow w.heap.size 67 1 (.slice (some ⟨g, 0, none⟩) out.length cap) out.length (u64s out)) ∧ Bx (M.primesM n = M.primesGo n f p out) ∧ Bx (∀ q ∈ out, 2 ≤ q ∧ q < 400) ∧ Bx (Below w.heap.size w wr)) (fun _ pv _ => 400 - (intOf pv).toNat)
  case atStart => exact ⟨398, 2, [], w.heap.size, 0, rfl, by omega, by omega, by simp, rfl, ⟨World.ownsRow_lit w #[] 0 (Nat.le_refl _) (by unfold maxLen; omega) (by rfl)⟩, ⟨rfl⟩, ⟨by simp⟩, ⟨asetR _ _⟩⟩
  case round =>
    obtain ⟨f, p, out, g, cap, rfl, hpf, hp2, hop, rfl, hO, hM, hS, hb⟩ := hrel
    obtain ⟨wo, rfl⟩ : ∃ wo : World, wo = wr := ⟨_, rfl⟩
    obtain ⟨N, hN⟩ : ∃ N, N = out.length := ⟨_, rfl⟩
    rw [← hN] at hO hop
    rw [← hN]
    by_cases hp : p < 400
    · have hpi : (p : Int) < 400 := by omega
      by_cases hl : N < n
      · have hli : (N : Int) < (n : Int) := by omega
        obtain ⟨f2, rfl⟩ : ∃ f2, f = f2 + 1 := ⟨f - 1, by omega⟩
        have HM := Bx.mk (hM.out.trans (pgo_more (by rw [← hN]; exact hl)))
        have HN := Bx.mk hN
        clear hN hM
        go_wp2_with fail
        go_loopw [5, 21] (fun fl kx wr => ∃ k : Nat, kx = .int .i64 (k : Int) ∧ k ≤ N ∧ fl = .bool (freeM p (out.take k)) ∧ wo = wr) (fun _ kx _ => N - (intOf kx).toNat)
        case atStart => exact ⟨0, rfl, by omega, by rw [List.take_zero]; rfl, rfl⟩
        case round =>
          obtain ⟨k, rfl, hk, rfl, rfl⟩ := hrel
          by_cases hkN : k < N
          · have hki : (k : Int) < (N : Int) := by omega
            obtain ⟨q, hq⟩ : ∃ q, out[k]? = some q := ⟨_, List.getElem?_eq_getElem (by rw [← HN.out]; exact hkN)⟩
            obtain ⟨hq2, hq4⟩ := hS.out q (List.mem_of_getElem? hq)
            have q0 : wo.cell? ⟨g, k, none⟩ = some (.int .u64 (q : Int)) := by rw [hO.out.cellAt k (by omega), u64s_get hq]
            have hft := freeM_take p out k q hq
            obtain ⟨m, hm⟩ : ∃ m, m = p % q := ⟨_, rfl⟩
            rw [← hm] at hft
            have hmi : (p : Int) % (q : Int) = (m : Int) := by rw [hm]; exact (Int.natCast_emod p q).symm
            have hmt : (p : Int).tmod (q : Int) = (m : Int) := by rw [Int.tmod_eq_emod_of_nonneg (by omega)]; exact hmi
            have hml : m < 400 := by have := Nat.mod_lt p (show 0 < q by omega); omega
            have HFT := Bx.mk hft
            clear hft hm hq
            by_cases hm0 : m = 0
            · subst hm0
              go_wp2_with fail
              go_roundw
              case rel => exact ⟨k + 1, by go_num, by omega, by rw [HFT.out]; simp, trivial⟩
              case measure => simp [intOf] <;> omega
            · have hme : ((m : Int) == 0) = false := by rw [beq_eq_false_iff_ne]; omega
              go_wp2_with fail
              go_roundw
              case rel => exact ⟨k + 1, by go_num, by omega, by rw [HFT.out]; simp [hm0], trivial⟩
              case measure => simp [intOf] <;> omega
          · obtain rfl : k = N := by omega
            have HT : Bx (out.take k = out) := ⟨by rw [HN.out, List.take_length]⟩
            rw [HT.out]
            cases hf : freeM p out
            · have HG : Bx (M.primesM n = M.primesGo n f2 (p + 1) out) := ⟨by rw [HM.out, hf]; rfl⟩
              clear hf
              go_wp2_with fail
              go_roundw
              case rel => exact ⟨f2, p + 1, out, g, cap, by go_num, by omega, by omega, by rw [← HN.out]; omega, by rw [← HN.out], by rw [← HN.out]; exact hO, HG, hS, hb⟩
              case measure => simp [intOf] <;> omega
            · have HG : Bx (M.primesM n = M.primesGo n f2 (p + 1) (out ++ [p])) := ⟨by rw [HM.out, hf]; rfl⟩
              have HSZ : w.heap.size ≤ wo.heap.size := hb.out.size
              have HS2 : Bx (∀ q ∈ out ++ [p], 2 ≤ q ∧ q < 400) := ⟨fun q hq => by
                rcases List.mem_append.1 hq with h | h
                · exact hS.out q h
                · obtain rfl : q = p := by simpa using h
                  exact ⟨hp2, hp⟩⟩
              clear hf
              go_wp2_with (at_builtin; refine wpList_append_lies _ rfl (.tmp 31) (.tmp 33) 79 rfl w.heap.size 67 i0 _ 1 8 Tryd.underlying79 hi hz0 hz1 hz2 rfl (by omega) _ k (u64s out) rfl (hO.out.alloc _) ⟨wo.heap.size, 0, none⟩ 1 1 [.int .u64 (p : Int)] rfl rfl (World.news_of_block (cs := #[.int .u64 (p : Int)]) (t := 67) (fr := (0, 0)) (heap_alloc_new _ _)) (by simp [Value.oneCell']) (by omega) (by unfold maxLen; omega) (by omega) (by simp; omega) (wo.heap.size + 1) (by simp) ?_; intro g2 cap2 w4 hown3 hgrow hat hlt3; have B4 : Bx (Below w.heap.size w w4) := ⟨(hb.out.alloc (by omega) _).grown hgrow (by simp; omega) (fun k hk => (rowLt hO.out k hk).1)⟩; have PU := Bx.mk hown3; clear hown3 hgrow hat hlt3)
              go_roundw
              case rel => exact ⟨f2, p + 1, out ++ [p], g2, cap2, by go_num, by omega, by omega, by rw [List.length_append, ← HN.out]; show k + 1 ≤ _; omega, by rw [List.length_append, ← HN.out]; rfl, by rw [List.length_append, ← HN.out]; exact ⟨by simpa [u64s] using PU.out⟩, HG, HS2, B4⟩
              case measure => simp [intOf] <;> omega
      · have hli : ¬ (N : Int) < (n : Int) := by omega
        have HG : Bx (M.primesM n = out) := ⟨hM.out.trans (pgo_end (by rw [← hN]; exact hl))⟩
        go_wp2_with fail
        go_ret
        rw [HG.out, ← hN]
        exact ⟨⟨g, cap, rfl, hO.out⟩, hb.out⟩
    · have hpi : ¬ (p : Int) < 400 := by omega
      have HG : Bx (M.primesM n = out) := ⟨by rw [hM.out, show f = 0 by omega]; rfl⟩
      go_wp2_with fail
      go_ret
      rw [HG.out, ← hN]
      exact ⟨⟨g, cap, rfl, hO.out⟩, hb.out⟩
end Go.Proofs.YtacfdnjdjgdbcaaDoor
namespace Go.Proofs.YtacfdnjdjgdbcaaDoor
set_option maxRecDepth 100000
open Go.RowKit

def u32s (l : List Nat) : List Value := l.map fun (q : Nat) => Value.int .u32 (q : Int)
theorem u32s_get {l : List Nat} {k q : Nat} (h : l[k]? = some q) : (u32s l)[k]? = some (.int .u32 (q : Int)) := by unfold u32s; rw [List.getElem?_map, h]; rfl
theorem info_u32 : (Tryd.prog.info? 64).map (fun i => (i.zero, i.size, i.bytes)) = some (some (.int .u32 0), 1, 4) := by kernel_rfl
theorem rootM_lt (p d : Nat) : M.rootM p d < 4294967296 := Nat.mod_lt _ (by decide)
/-- the roots of the first k -/
def rootsM (P : List Nat) (d k : Nat) : List Nat := (P.take k).map fun p => M.rootM p d
theorem rootsM_succ (P : List Nat) (d k q : Nat) (h : P[k]? = some q) : rootsM P d (k + 1) = rootsM P d k ++ [M.rootM q d] := by
  unfold rootsM
  rw [List.take_add_one, h]; simp
abbrev nilV : Value := .slice none 0 0
/-- what Made holds -/
structure MadeS (w W : World) (S T : Value) : Prop where
  r : W.heap[w.heap.size]? = some (.cells #[nilV, nilV] 47 (0, 0))
  t : W.heap[w.heap.size + 1]? = some (.cells #[S, T] 47 (0, 0))
  b : Below w.heap.size w W
theorem MadeS.step {w W W2 : World} {S T : Value} (h : MadeS w W S T) (hb : Below W.heap.size W W2) : MadeS w W2 S T :=
  ⟨(hb.block _ (ltR h.r)).trans h.r, (hb.block _ (ltR h.t)).trans h.t, _root_.Go.Proofs.YtacfdnjdjgdbcaaDoor.bel h.b hb⟩
theorem MadeS.drew {w W : World} {S T : Value} (h : MadeS w W S T) : MadeS w W.drew S T := ⟨h.r, h.t, h.b.drew⟩
theorem MadeS.grown {w W W2 : World} {S T v : Value} {e z n : Nat} {xs : List Value} (h : MadeS w W S T) (row : W.ownsRow (w.heap.size + 1 + 1) e z v n xs) (hg : W.grownBy W2 v.ownBlock) : MadeS w W2 S T :=
  ⟨(hg.block _ (ltR h.r) (fun e => by have := (rowLt row _ e.symm).1; omega)).trans h.r, (hg.block _ (ltR h.t) (fun e => by have := (rowLt row _ e.symm).1; omega)).trans h.t, h.b.grown hg h.b.size (fun k hk => by have := (rowLt row k hk).1; omega)⟩
theorem MadeS.set0 {w W : World} {S T : Value} (h : MadeS w W S T) (V : Value) : MadeS w (W.setCell ⟨w.heap.size + 1, 0, none⟩ V) V T :=
  ⟨(Below.heap_setCell _ _ _ _ (by show w.heap.size ≠ w.heap.size + 1; omega)).trans h.r, by have := setR h.t 0 V; simpa using this, h.b.setCell (p := ⟨w.heap.size + 1, 0, none⟩) (by show w.heap.size ≤ w.heap.size + 1; omega) _⟩
theorem MadeS.set1 {w W : World} {S T : Value} (h : MadeS w W S T) (V : Value) : MadeS w (W.setCell ⟨w.heap.size + 1, 1, none⟩ V) S V :=
  ⟨(Below.heap_setCell _ _ _ _ (by show w.heap.size ≠ w.heap.size + 1; omega)).trans h.r, by have := setR h.t 1 V; simpa using this, h.b.setCell (p := ⟨w.heap.size + 1, 1, none⟩) (by show w.heap.size ≤ w.heap.size + 1; omega) _⟩
theorem rowSet {w W : World} {e z n o : Nat} {v V : Value} {xs : List Value} (row : W.ownsRow (w.heap.size + 1 + 1) e z v n xs) : (W.setCell ⟨w.heap.size + 1, o, none⟩ V).ownsRow (w.heap.size + 1 + 1) e z v n xs :=
  rowKeep row fun k hk => Below.heap_setCell _ _ _ _ (by have := (rowLt row k hk).1; show k ≠ w.heap.size + 1; omega)
theorem u32Ne : 67 ≠ 64 := by decide
set_option maxHeartbeats 6400000 in
theorem made_any (w : World) :
    Calls Tryd.prog 16 #[] w fun e w' => (∃ S T, e = .returned (.agg #[S, T]) ∧ w'.ownsRow w.heap.size 64 1 S 8 (u32s (rootsM (M.primesM 8) 2 8)) ∧ w'.ownsRow w.heap.size 64 1 T 64 (u32s (rootsM (M.primesM 64) 3 64))) ∧ Below w.heap.size w w' := by
  obtain ⟨i0, hi, hz0, hz1, hz2⟩ := info_parts info_u32
  obtain ⟨P, hP⟩ : ∃ P, P = M.primesM 8 := ⟨_, rfl⟩
  obtain ⟨P2, hP2⟩ : ∃ P2, P2 = M.primesM 64 := ⟨_, rfl⟩
  have hPl : P.length = 8 := by rw [hP, M.primes8]; rfl
  have hPl2 : P2.length = 64 := by rw [hP2, M.primes64]; rfl
  have hPb : ∀ q ∈ P, q < 4294967296 := by rw [hP, M.primes8]; decide
  have hPb2 : ∀ q ∈ P2, q < 4294967296 := by rw [hP2, M.primes64]; decide
  have c8 := fun W => primes_any 8 (by omega) W
  have c64 := fun W => primes_any 64 (by omega) W
  simp only [← hP, hPl, show ((8 : Nat) : Int) = 8 from rfl] at c8
  simp only [← hP2, hPl2, show ((64 : Nat) : Int) = 64 from rfl] at c64
  rw [← hP, ← hP2]
  clear hP hP2
  have C8 := Bx.mk c8; have C64 := Bx.mk c64
  clear c8 c64
  go_enter Tryd.func16, Tryd.ntmps16
  have M0 : Bx (MadeS w ((w.alloc (.cells #[nilV, nilV] 47)).alloc (.cells #[nilV, nilV] 47)) nilV nilV) := ⟨⟨((asetR _ _).block _ (by simp)).trans (heap_alloc_new _ _), by have := heap_alloc_new (w.alloc (.cells #[nilV, nilV] 47)) (.cells #[nilV, nilV] 47); rwa [show (w.alloc (.cells #[nilV, nilV] 47)).heap.size = w.heap.size + 1 by simp] at this, bel (asetR _ _) (asetR _ _)⟩⟩
  go_wp2_with (go_at_call 31; ((with_reducible refine (C8.out _).mono ?_); rintro e w1 ⟨⟨g, cap, rfl, ho⟩, hb1⟩))
  have O1 := Bx.mk (rowMono (C := w.heap.size + 1 + 1) ho (by simp))
  have M1 := Bx.mk (M0.out.step hb1)
  clear ho hb1 M0
  go_loopw [9] (fun kx wr => ∃ (k : Nat) (S : Value), kx = .int .i64 (k : Int) ∧ k ≤ 8 ∧ Bx (MadeS w wr S nilV) ∧ Bx (wr.ownsRow (w.heap.size + 1 + 1) 64 1 S k (u32s (rootsM P 2 k))) ∧ Bx (wr.ownsRow (w.heap.size + 1 + 1) 67 1 (.slice (some ⟨g, 0, none⟩) 8 cap) 8 (u64s P))) (fun kx _ => 8 - (intOf kx).toNat)
  case atStart => exact ⟨0, nilV, rfl, by omega, M1, ⟨World.ownsRow_nil _ _ _ _⟩, O1⟩
  case round =>
    obtain ⟨k, S, rfl, hk8, hM, hS, hO⟩ := hrel
    obtain ⟨wo, rfl⟩ : ∃ wo : World, wo = wr := ⟨_, rfl⟩
    by_cases hk : k < 8
    · have hki : (k : Int) < 8 := by omega
      obtain ⟨q, hq⟩ : ∃ q, P[k]? = some q := ⟨_, List.getElem?_eq_getElem (by omega)⟩
      have hqb := hPb q (List.mem_of_getElem? hq)
      have q0 : wo.cell? ⟨g, k, none⟩ = some (.int .u64 (q : Int)) := by rw [hO.out.cellAt k (by omega), u64s_get hq]
      have q1 : wo.cell? ⟨w.heap.size + 1, 0, none⟩ = some S := by rw [cellR hM.out.t]; rfl
      have HRS := Bx.mk (rootsM_succ P 2 k q hq)
      have hrl := rootM_lt q 2
      have cr := fun W => root_any q 2 hqb (by omega) (by omega) W
      simp only [show ((2 : Nat) : Int) = 2 from rfl] at cr
      have CR := Bx.mk cr
      obtain ⟨m, hm⟩ : ∃ m, m = M.rootM q 2 := ⟨_, rfl⟩
      rw [← hm] at HRS CR hrl
      clear hq hm cr
      go_wp2_with fail
      have q1d : wo.drew.cell? ⟨w.heap.size + 1, 0, none⟩ = some S := q1
      go_region_law (first
        | (go_simp; ((refine (CR.out _).mono ?_); rintro e w2 ⟨rfl, hb2⟩; have q2 := cell_below hb2 q1d; have q3 : ∀ o, (w2.alloc o).cell? ⟨w.heap.size + 1, 0, none⟩ = some S := fun o => cell_below (asetR _ _) q2))
        | (refine step_append_lies _ (by rfl) _ _ _ (by rfl) (w.heap.size + 1 + 1) 64 i0 _ 1 4 Tryd.underlying45 hi hz0 hz1 hz2 rfl (by omega) _ _ _ (by rfl) ((rowBel hS.out.drew hb2).alloc _) ⟨w2.heap.size, 0, none⟩ 1 1 [.int .u32 (m : Int)] (by rfl) (by rfl) (World.news_of_block (cs := #[.int .u32 (m : Int)]) (t := 64) (fr := (0, 0)) (heap_alloc_new _ _)) (by simp [Value.oneCell']) (by omega) (by unfold maxLen; omega) (by omega) (by have := (hM.out.drew.step hb2).t; have := ltR this; simp; omega) (w2.heap.size + 1) (by simp) ?_; intro g2 cap2 w4 hown3 hgrow hat hlt3; have MA := Bx.mk (((hM.out.drew.step hb2).step (asetR _ _)).grown ((rowBel hS.out.drew hb2).alloc _) hgrow); have OA := Bx.mk (((rowBel hO.out.drew hb2).alloc _).kept hgrow (.inr fun e => rowApart hO.out hS.out u32Ne g rfl e.symm)); have PU := Bx.mk hown3; have r4 : w4.cell? ⟨w.heap.size + 1, 0, none⟩ = some S := (by rw [cellR MA.out.t]; rfl); have f4 : w4.frozen? ⟨w.heap.size + 1, 0, none⟩ = false := frozR MA.out.t _; clear hown3 hgrow hat hlt3))
      all_goals
        go_wp2_with fail
        go_roundw
        case rel => exact ⟨k + 1, .slice (some ⟨g2, 0, none⟩) (k + 1) cap2, by go_num, by omega, ⟨MA.out.set0 _⟩, ⟨by rw [HRS.out]; exact rowSet (by simpa [u32s] using PU.out)⟩, ⟨rowSet OA.out⟩⟩
        case measure => simp [intOf] <;> omega
    · obtain rfl : k = 8 := by omega
      have HSZ : w.heap.size + 1 < wo.heap.size := ltR hM.out.t
      have HS8 := hS
      obtain ⟨B2, hB2⟩ : ∃ B2, B2 = wo.heap.size := ⟨_, rfl⟩
      have HSB : Bx (∀ b, S.ownBlock = some b → b < B2) := ⟨fun b hb => by rw [hB2]; exact (rowLt hS.out b hb).2⟩
      go_wp2_with (go_at_call 31; ((with_reducible refine (C64.out _).mono ?_); rintro e w1 ⟨⟨h, cap2, rfl, ho2⟩, hb2⟩))
      rw [← hB2] at ho2
      have HZ2 : Bx (B2 ≤ w1.heap.size) := ⟨by rw [hB2]; exact hb2.size⟩
      have O2 := Bx.mk (rowMono (C := w.heap.size + 1 + 1) ho2 (by omega))
      have M2 := Bx.mk (hM.out.step hb2)
      have S2 := Bx.mk (rowBel hS.out hb2)
      have HBB : Bx (w.heap.size + 1 + 1 ≤ B2) := ⟨by omega⟩
      clear ho2 hb2 hM hS hO HS8 hB2 HSZ
      go_loopw [23] (fun kx wr => ∃ (k : Nat) (T : Value), kx = .int .i64 (k : Int) ∧ k ≤ 64 ∧ Bx (MadeS w wr S T) ∧ Bx (wr.ownsRow (w.heap.size + 1 + 1) 64 1 S 8 (u32s (rootsM P 2 8))) ∧ Bx (wr.ownsRow B2 64 1 T k (u32s (rootsM P2 3 k))) ∧ Bx (wr.ownsRow (w.heap.size + 1 + 1) 67 1 (.slice (some ⟨h, 0, none⟩) 64 cap2) 64 (u64s P2)) ∧ Bx (B2 ≤ wr.heap.size)) (fun kx _ => 64 - (intOf kx).toNat)
      case atStart => exact ⟨0, nilV, rfl, by omega, M2, S2, ⟨World.ownsRow_nil _ _ _ _⟩, O2, HZ2⟩
      case round =>
        obtain ⟨k, T, rfl, hk64, hM, hS, hT, hO, hZ⟩ := hrel
        obtain ⟨wi, rfl⟩ : ∃ wi : World, wi = wr := ⟨_, rfl⟩
        have hT2 := Bx.mk (rowMono hT.out HBB.out)
        by_cases hk : k < 64
        · have hki : (k : Int) < 64 := by omega
          obtain ⟨q, hq⟩ : ∃ q, P2[k]? = some q := ⟨_, List.getElem?_eq_getElem (by omega)⟩
          have hqb := hPb2 q (List.mem_of_getElem? hq)
          have q0 : wi.cell? ⟨h, k, none⟩ = some (.int .u64 (q : Int)) := by rw [hO.out.cellAt k (by omega), u64s_get hq]
          have q1 : wi.cell? ⟨w.heap.size + 1, 1, none⟩ = some T := by rw [cellR hM.out.t]; rfl
          have HRS := Bx.mk (rootsM_succ P2 3 k q hq)
          have hrl := rootM_lt q 3
          have cr := fun W => root_any q 3 hqb (by omega) (by omega) W
          simp only [show ((3 : Nat) : Int) = 3 from rfl] at cr
          have CR := Bx.mk cr
          obtain ⟨m, hm⟩ : ∃ m, m = M.rootM q 3 := ⟨_, rfl⟩
          rw [← hm] at HRS CR hrl
          clear hq hm cr
          go_wp2_with fail
          have q1d : wi.drew.cell? ⟨w.heap.size + 1, 1, none⟩ = some T := q1
          go_region_law (first
            | (go_simp; ((refine (CR.out _).mono ?_); rintro e w2 ⟨rfl, hb2⟩; have q2 := cell_below hb2 q1d; have q3 : ∀ o, (w2.alloc o).cell? ⟨w.heap.size + 1, 1, none⟩ = some T := fun o => cell_below (asetR _ _) q2; have HZ5 : Bx (B2 ≤ w2.heap.size) := ⟨Nat.le_trans hZ.out hb2.size⟩))
            | (refine step_append_lies _ (by rfl) _ _ _ (by rfl) B2 64 i0 _ 1 4 Tryd.underlying45 hi hz0 hz1 hz2 rfl (by omega) _ _ _ (by rfl) ((rowBel hT.out.drew hb2).alloc _) ⟨w2.heap.size, 0, none⟩ 1 1 [.int .u32 (m : Int)] (by rfl) (by rfl) (World.news_of_block (cs := #[.int .u32 (m : Int)]) (t := 64) (fr := (0, 0)) (heap_alloc_new _ _)) (by simp [Value.oneCell']) (by omega) (by unfold maxLen; omega) (by omega) (by have := HZ5.out; simp; omega) (w2.heap.size + 1) (by simp) ?_; intro g2 cap3 w4 hown3 hgrow hat hlt3; have MA := Bx.mk (((hM.out.drew.step hb2).step (asetR _ _)).grown ((rowBel hT2.out.drew hb2).alloc _) hgrow); have OA := Bx.mk (((rowBel hO.out.drew hb2).alloc _).kept hgrow (.inr fun e => rowApart hO.out hT.out u32Ne h rfl e.symm)); have SA := Bx.mk (((rowBel hS.out.drew hb2).alloc _).kept hgrow (by rcases hsb : S.ownBlock with _ | b; exact .inl rfl; exact .inr fun e => by have e1 := HSB.out b hsb; have e2 := (rowLt hT.out b e.symm).1; omega)); have PU := Bx.mk hown3; have r4 : w4.cell? ⟨w.heap.size + 1, 1, none⟩ = some T := (by rw [cellR MA.out.t]; rfl); have f4 : w4.frozen? ⟨w.heap.size + 1, 1, none⟩ = false := frozR MA.out.t _; have HZ4 : Bx (B2 ≤ w4.heap.size) := ⟨Nat.le_trans (Nat.le_trans HZ5.out (asetR _ _).size) hgrow.size⟩; clear hown3 hgrow hat hlt3))
          all_goals
            go_wp2_with fail
            go_roundw
            case rel => exact ⟨k + 1, .slice (some ⟨g2, 0, none⟩) (k + 1) cap3, by go_num, by omega, ⟨MA.out.set1 _⟩, ⟨rowSet SA.out⟩, ⟨by rw [HRS.out]; exact rowKeep (by simpa [u32s] using PU.out) fun b hb => Below.heap_setCell _ _ _ _ (by have := (rowLt PU.out b hb).1; have := HBB.out; show b ≠ w.heap.size + 1; omega)⟩, ⟨rowSet OA.out⟩, ⟨by have := HZ4.out; simpa using this⟩⟩
            case measure => simp [intOf] <;> omega
        · obtain rfl : k = 64 := by omega
          have n1 : wi.cell? ⟨w.heap.size + 1, 0, none⟩ = some S := by rw [cellR hM.out.t]; rfl
          have n2 : wi.cell? ⟨w.heap.size + 1, 1, none⟩ = some T := by rw [cellR hM.out.t]; rfl
          have n3 : wi.cell? ⟨w.heap.size, 0, none⟩ = some nilV := by rw [cellR hM.out.r]; rfl
          have n4 : wi.cell? ⟨w.heap.size, 1, none⟩ = some nilV := by rw [cellR hM.out.r]; rfl
          have n5 : wi.frozen? ⟨w.heap.size, 0, none⟩ = false := frozR hM.out.r _
          have n6 : wi.frozen? ⟨w.heap.size, 1, none⟩ = false := frozR hM.out.r _
          have hS3 := hS
          have hT3 := hT2
          obtain ⟨gs, cs, rfl, _, _⟩ := hS.out.form (by omega)
          obtain ⟨gt, ct, rfl, _, _⟩ := hT.out.form (by omega)
          go_wp2_with fail
          refine bodyPost_ret (v := .agg #[.slice (some ⟨gs, 0, none⟩) 8 cs, .slice (some ⟨gt, 0, none⟩) 64 ct]) (by simp [results, go_sem, *]) rfl ⟨⟨_, _, rfl, ?_, ?_⟩, ?_⟩
          · exact rowMono (rowKeep (rowKeep hS3.out fun k hk => Below.heap_setCell _ _ _ _ (by have := (rowLt hS3.out k hk).1; show k ≠ w.heap.size; omega)) fun k hk => Below.heap_setCell _ _ _ _ (by have := (rowLt hS3.out k hk).1; show k ≠ w.heap.size; omega)) (by omega)
          · exact rowMono (rowKeep (rowKeep hT3.out fun k hk => Below.heap_setCell _ _ _ _ (by have := (rowLt hT3.out k hk).1; show k ≠ w.heap.size; omega)) fun k hk => Below.heap_setCell _ _ _ _ (by have := (rowLt hT3.out k hk).1; show k ≠ w.heap.size; omega)) (by omega)
          · exact (hM.out.b.setCell (p := ⟨w.heap.size, 0, none⟩) (by show w.heap.size ≤ w.heap.size; omega) _).setCell (p := ⟨w.heap.size, 1, none⟩) (by show w.heap.size ≤ w.heap.size; omega) _
end Go.Proofs.YtacfdnjdjgdbcaaDoor
namespace Go.Proofs.YtacfdnjdjgdbcaaDoor
set_option maxRecDepth 100000
open Go.RowKit

theorem rr_zeroR {x : Nat} : M.rr 0 x = x := by unfold M.rr; simp [Nat.mod_one]
set_option maxHeartbeats 3200000 in
theorem turnR_any (x n : Nat) (hx : x < 4294967296) (hn : n ≤ 32) (w : World) :
    Calls Tryd.prog 62 #[.int .u32 (x : Int), .int .i64 (n : Int)] w fun e w' => e = .returned (.int .u32 ((M.rr n x : Nat) : Int)) ∧ w = w' := by
  go_enter Tryd.func62, Tryd.ntmps62
  go_wp2_with fail
  go_loopw [0, 5] (fun xv kx wr => ∃ k : Nat, kx = .int .i64 (k : Int) ∧ k ≤ n ∧ xv = .int .u32 ((M.rr k x : Nat) : Int) ∧ w = wr) (fun _ kx _ => n - (intOf kx).toNat)
  case atStart => exact ⟨0, rfl, by omega, by rw [rr_zeroR], rfl⟩
  case round =>
    obtain ⟨k, rfl, hk, rfl, rfl⟩ := hrel
    have hlt := M.rr_lt (n := k) (by omega) hx
    by_cases hkn : k < n
    · have hki : (k : Int) < (n : Int) := by omega
      have hs := M.rr_succ (k := k) (x := x) (by omega)
      have hlt2 := M.rr_lt (n := k + 1) (by omega) hx
      obtain ⟨y, hy⟩ : ∃ y, y = M.rr k x := ⟨_, rfl⟩
      obtain ⟨z, hz⟩ : ∃ z, z = M.rr (k + 1) x := ⟨_, rfl⟩
      rw [← hy, ← hz] at hs
      rw [← hy] at hlt
      rw [← hz] at hlt2
      rw [← hy]
      have e1 : (y : Int) / 2 + (y : Int) % 2 * 2147483648 = (z : Int) := by omega
      have HZ := Bx.mk hz
      clear hy hz hs
      go_wp2_with fail
      go_roundw
      case rel => exact ⟨k + 1, by go_num, by omega, by rw [← HZ.out], trivial⟩
      case measure => simp [intOf] <;> omega
    · obtain rfl : k = n := by omega
      go_wp2_with fail
      go_ret
      exact ⟨rfl, rfl⟩
theorem not_any (x : Nat) (hx : x < 4294967296) (w : World) :
    Calls Tryd.prog 63 #[.int .u32 (x : Int)] w fun e w' => e = .returned (.int .u32 ((4294967295 - x : Nat) : Int)) ∧ w = w' := by
  have e : (4294967295 : Int) - (x : Int) = ((4294967295 - x : Nat) : Int) := by omega
  have h1 : 4294967295 - x < 4294967296 := by omega
  obtain ⟨y, hy⟩ : ∃ y, y = 4294967295 - x := ⟨_, rfl⟩
  rw [← hy] at e h1 ⊢
  clear hy
  go_enter Tryd.func63, Tryd.ntmps63
  go_wp2_with fail
  go_ret
  exact ⟨rfl, rfl⟩
end Go.Proofs.YtacfdnjdjgdbcaaDoor
namespace Go.Proofs.YtacfdnjdjgdbcaaDoor
set_option maxRecDepth 100000
open Go.RowKit

theorem run_append_kept {P : Program} {w : World} (t ty : TypeId) (base : Nat) (e : TypeId) (i : TypeInfo) (z : Value) (bytes : Nat) (ht : P.underlying t = some (.slice e)) (hi : P.info? e = some i) (hz : i.zero = some z)
    (hsize : i.size = 1) (hby : i.bytes = bytes) (hzs : z.cells.size = 1)
    (g0 n cap0 : Nat) (xs : List Value) (hown : w.ownsRow base e 1 (.slice (some ⟨g0, 0, none⟩) n cap0) n xs)
    (ad : Addr) (m c : Nat) (news : List Value) (hl : news.length = m * 1) (hnews : ∀ j u, news[j]? = some u → w.cell? (ad.add j) = some u) (h1 : ∀ u ∈ news, u.oneCell' = true)
    (hm : 0 < m) (h63 : n + m ≤ maxLen) (hbytes : (n + m) * bytes ≤ 140737488355328) (hbase : base ≤ w.heap.size) :
    ∃ g cap w', (Builtin.append_ #[t, t] ty #[.slice (some ⟨g0, 0, none⟩) n cap0, .slice (some ad) m c]).run P w = .ok (.slice (some ⟨g, 0, none⟩) (n + m) cap) w' ∧
      w'.ownsRow base e 1 (.slice (some ⟨g, 0, none⟩) (n + m) cap) (n + m) (xs ++ news) ∧ w.grownBy w' (some g0) ∧ g < w'.heap.size ∧ ∀ j u, xs[j]? = some u → w'.cell? ⟨g0, j, none⟩ = some u := by
  obtain ⟨g, cap, w', hr, h2, h3, h4, h5⟩ := run_append_lies (P := P) w t ty base e i z 1 bytes ht hi hz hsize hby hzs (by omega) _ n xs hown ad m c news hl hnews h1 hm h63 hbytes hbase w.heap.size rfl
  have hxl : xs.length = n := by have := hown.1; omega
  have old : ∀ j u, xs[j]? = some u → w.cell? ⟨g0, j, none⟩ = some u := fun j u hu => by
    have hj := (List.getElem?_eq_some_iff.1 hu).1
    rw [hown.cellAt j (by omega)]; exact hu
  refine ⟨g, cap, w', hr, h2, h3, h5, fun j u hu => ?_⟩
  have hj := (List.getElem?_eq_some_iff.1 hu).1
  obtain ⟨_, hg0⟩ := hown.lt g0 rfl
  rcases h4 with h4 | h4
  · have e0 : g0 = g := by simpa [Value.ownBlock] using h4
    rw [e0, h2.cellAt j (by omega), List.getElem?_append_left hj]; exact hu
  · rcases Nat.lt_or_ge cap0 (n + m) with hc | hc
    · obtain ⟨v'', w'', r, _, gr⟩ := run_append_arg_grows (P := P) w t ty e i z 1 bytes ht hi hz hsize hby hzs (by omega) ⟨g0, 0, none⟩ n cap0 xs (by omega) (fun j u hu => by rw [show ((⟨g0, 0, none⟩ : Addr).add j) = ⟨g0, j, none⟩ from (by rw [WideShapes.add_plain, Nat.zero_add])]; exact old j u hu) ad m c news hl hnews hc h63 hbytes
      rw [hr] at r
      obtain ⟨_, rfl⟩ := Result.ok.inj r
      rw [World.cell?_of_block (gr.block g0 hg0 (by simp))]
      exact old j u hu
    · exfalso
      rcases hown.2 with ⟨hv, _⟩ | ⟨g', cap', cur, hv, _, hg, _, _, hcs, _⟩
      · cases hv
      · cases hv
        have sp : ∀ q, q < news.length → w.cell? ⟨g0, 0 + n * i.size + q, none⟩ = cur[0 + n * i.size + q]? := fun q hq => by simp only [World.cell?, hg]; simp
        have r := run_append_room_cells (P := P) w t ty e i ht hi g0 0 n cap0 ad m c news (by rw [hsize]; exact hl) hnews h1 hc (fun q hq => by
          rw [sp q hq, hsize]
          have hlt : n + q < cur.size := by omega
          simp [hlt]) (fun q hq => by simp only [World.frozen?, hg]; simp)
        rw [hr] at r
        obtain ⟨e1, _⟩ := Result.ok.inj r
        have e2 := (Value.slice.inj e1).1
        simp at e2
        try omega
theorem step_append_kept {P : Program} {w : World} {ops : Array Oper} {o : Oper} {a : Act} {K : Act → World → Prop} {Q : Exit → Act → World → Prop} {E : Prop} (hgd : o.guard = none) (s x : Operand) (t : TypeId)
    (ho : o.op = .call { callee := .builtin .append, args := #[s, x], argTypes := #[t, t] })
    (base : Nat) (e : TypeId) (i : TypeInfo) (z : Value) (bytes : Nat) (ht : P.underlying t = some (.slice e)) (hi : P.info? e = some i) (hz : i.zero = some z)
    (hsize : i.size = 1) (hby : i.bytes = bytes) (hzs : z.cells.size = 1)
    (g0 n cap0 : Nat) (xs : List Value) (hs : a.eval s = .slice (some ⟨g0, 0, none⟩) n cap0) (hown : w.ownsRow base e 1 (.slice (some ⟨g0, 0, none⟩) n cap0) n xs)
    (ad : Addr) (m c : Nat) (news : List Value) (hx : a.eval x = .slice (some ad) m c) (hl : news.length = m * 1) (hnews : ∀ j u, news[j]? = some u → w.cell? (ad.add j) = some u) (h1 : ∀ u ∈ news, u.oneCell' = true)
    (hm : 0 < m) (h63 : n + m ≤ maxLen) (hbytes : (n + m) * bytes ≤ 140737488355328) (hbase : base ≤ w.heap.size)
    (h : ∀ g cap w', w'.ownsRow base e 1 (.slice (some ⟨g, 0, none⟩) (n + m) cap) (n + m) (xs ++ news) → w.grownBy w' (some g0) → g < w'.heap.size → (∀ j u, xs[j]? = some u → w'.cell? ⟨g0, j, none⟩ = some u) → K (a.put o.dst (.slice (some ⟨g, 0, none⟩) (n + m) cap)) w') :
    if Region.wanted o (yielded ops a.tmps) = true then Oper.wp P o a w K Q else E := by
  have hw : Region.wanted o (yielded ops a.tmps) = true := by simp [Region.wanted, hgd]
  rw [if_pos hw]
  obtain ⟨g, cap, w', hr, h2, h3, h4, h5⟩ := run_append_kept (P := P) (w := w) t o.type base e i z bytes ht hi hz hsize hby hzs g0 n cap0 xs hown ad m c news hl hnews h1 hm h63 hbytes hbase
  unfold Oper.wp execOp
  simp only [ho, resolve, invoke, builtin, Sem.run_bind, Sem.run_pure, Result.andThen_ok, List.map_toArray, List.map_cons, List.map_nil, hs, hx, hr]
  exact h g cap w' h2 h3 h4 h5
end Go.Proofs.YtacfdnjdjgdbcaaDoor
