/- A state's numbers; two lists that are the same. -/
import Derived.Test.YtnlcmdgjoikljaaDoorTolP
namespace Go.Proofs.YtnlcmdgjoikljaaDoor
set_option maxRecDepth 100000
open Go.RowKit

set_option maxHeartbeats 3200000 in
theorem toldSt_any (s : StM) (M : Nat) (hM : s.n = (M : Int)) (hM40 : M ≤ 40) (w : World) :
    Calls Tryd.prog 14 #[.agg (stA s)] w fun e w' => (∃ u, e = .returned u ∧ w'.ownsRow w.heap.size 40 1 u M ((s.v.take M).map (Value.int .u64))) ∧ Below w.heap.size w w' := by
  obtain ⟨i0, hi, hz0, hz1, hz2⟩ := info_parts info_u64
  obtain ⟨h0, hc⟩ := stA_at (heap_alloc_new w (.cells (stA s) 44))
  rw [hM] at h0
  have hlen := s.len
  generalize hSA : stA s = SA at *
  have HC := Bx.mk hc; have HSA := Bx.mk hSA
  have hb0 : Below w.heap.size w (w.alloc (.cells SA 44)) := aset _ _
  have HB0 := Bx.mk hb0
  clear hc hSA hb0
  have hmax : max (M : Int) 0 = (M : Int) := by omega
  have hmin : min (M : Int) 40 = (M : Int) := by omega
  have hneg : ¬ (M : Int) < 0 := by omega
  have hgt : ¬ (40 : Int) < (M : Int) := by omega
  go_enter Tryd.func14, Tryd.ntmps14
  go_wp2_with fail
  go_loopw [4, 5] (fun v i wr => ∃ (k : Nat) (p : Option Addr) (c : Nat), v = .slice p k c ∧ i = .int .i64 (k : Int) ∧ k ≤ M ∧ Bx (wr.ownsRow (w.heap.size + 1) 40 1 (.slice p k c) k ((s.v.take k).map (Value.int .u64))) ∧ Bx (∀ i x, s.v[i]? = some x → wr.cell? ⟨w.heap.size, 1 + i, none⟩ = some (.int .u64 x)) ∧ Bx (Below w.heap.size w wr)) (fun _ i _ => M - (intOf i).toNat)
  case atStart =>
    have hs : (w.alloc (.cells SA 44)).heap.size = w.heap.size + 1 := by simp
    have hr := newRowE (w.alloc (.cells SA 44)) 40 1
    rw [hs] at hr
    exact ⟨0, _, _, rfl, rfl, by omega, ⟨hr⟩, ⟨fun i x hx => cBel (HC.out i x hx) (aset _ _)⟩, ⟨bel HB0.out (aset _ _)⟩⟩
  case round =>
    obtain ⟨k, p, c, rfl, rfl, hkM, hrow, hcl, hb⟩ := hrel
    by_cases hlt : k < M
    · obtain ⟨x, hx⟩ : ∃ x, s.v[k]? = some x := ⟨_, List.getElem?_eq_getElem (by omega)⟩
      have qx : wr.cell? ⟨w.heap.size, 1 + k, none⟩ = some (.int .u64 x) := hcl.out k x hx
      have EE : Bx (s.v.take (k + 1) = s.v.take k ++ [x]) := ⟨by rw [List.take_add_one, hx]; rfl⟩
      have hki : (k : Int) < 40 := by omega
      have hsz := hb.out.size
      have hbl := World.block_lt_of_cell? _ _ qx
      clear hx
      go_wp2_with (at_builtin; refine wpList_append_lies _ rfl (.tmp 16) (.tmp 21) 27 rfl (w.heap.size + 1) 40 i0 _ 1 8 Tryd.underlying27 hi hz0 hz1 hz2 rfl (by omega) _ k ((s.v.take k).map (Value.int .u64)) rfl (hrow.out.alloc _) ⟨wr.heap.size, 0, none⟩ 1 1 [.int .u64 x] rfl rfl (World.news_of_block (cs := #[.int .u64 x]) (t := 40) (fr := (0, 0)) (heap_alloc_new _ _)) (by simp [Value.oneCell']) (by omega) (by unfold maxLen; omega) (by omega) (by first | (simp; done) | (simp; omega)) (wr.heap.size + 1) (by simp) ?_; intro g cap w4 hown3 hgrow hat hlt3; have B4 : Bx (Below w.heap.size w w4) := ⟨(hb.out.alloc hb.out.size _).grown hgrow (by first | (simp; done) | (simp; omega)) (fun k hk => by have := (rowLt hrow.out k hk).1; omega)⟩; have C4 : Bx (∀ i x, s.v[i]? = some x → w4.cell? ⟨w.heap.size, 1 + i, none⟩ = some (.int .u64 x)) := ⟨fun i x hx => keepC (grownC (aset wr _) hgrow hbl (fun e => by have := (rowLt hrow.out _ e).1; omega)) (hcl.out i x hx)⟩; have R4 : Bx (w4.ownsRow (w.heap.size + 1) 40 1 (.slice (some ⟨g, 0, none⟩) (k + 1) cap) (k + 1) ((s.v.take (k + 1)).map (Value.int .u64))) := ⟨(by rw [EE.out, List.map_append]; exact hown3)⟩; clear hown3 hgrow hat hlt3)
      go_roundw
      case rel => exact ⟨k + 1, _, _, rfl, by go_num, by omega, R4, C4, B4⟩
      case measure => simp [intOf] <;> omega
    · obtain rfl : k = M := by omega
      go_wp2_with fail
      go_ret
      exact ⟨⟨_, rfl, rowMono hrow.out (by omega)⟩, hb.out⟩
set_option maxHeartbeats 3200000 in
theorem refSame_any (va vb : Value) (A : List Int) (w : World) (hA : A.length ≤ 1000000) (h1 : SlIn w va 1 A.length (A.map (Value.int .u64))) (h2 : SlIn w vb 1 A.length (A.map (Value.int .u64))) :
    Calls Tryd.prog 13 #[va, vb] w fun e w' => e = .returned (.bool true) ∧ Below w.heap.size w w' := by
  obtain ⟨ap, ac, rfl⟩ := h1.slice
  obtain ⟨bp, bc, rfl⟩ := h2.slice
  have H1 := Bx.mk h1; have H2 := Bx.mk h2
  clear h1 h2
  go_enter Tryd.func13, Tryd.ntmps13
  go_wp2_with fail
  go_loopw [13] (fun i wr => ∃ (k : Nat), i = .int .i64 (k : Int) ∧ k ≤ A.length ∧ Bx (Below w.heap.size w wr)) (fun i _ => A.length - (intOf i).toNat)
  case atStart => exact ⟨0, rfl, by omega, ⟨Below.refl _ _⟩⟩
  case round =>
    obtain ⟨k, rfl, hk, hb⟩ := hrel
    by_cases hlt : k < A.length
    · obtain ⟨ab, ao, ac', hv, hl, hc⟩ := H1.out.at (by omega)
      obtain ⟨rfl, _, rfl⟩ := Value.slice.inj hv
      obtain ⟨bb, bo, bc', hv2, hl2, hc2⟩ := H2.out.at (by omega)
      obtain ⟨rfl, _, rfl⟩ := Value.slice.inj hv2
      obtain ⟨x, hx⟩ : ∃ x, A[k]? = some x := ⟨_, List.getElem?_eq_getElem hlt⟩
      have q0 : wr.cell? ⟨ab, ao + k, none⟩ = some (.int .u64 x) := cBel (hc k _ (by rw [List.getElem?_map, hx]; rfl)) hb.out
      have q1 : wr.cell? ⟨bb, bo + k, none⟩ = some (.int .u64 x) := cBel (hc2 k _ (by rw [List.getElem?_map, hx]; rfl)) hb.out
      have hki : (k : Int) < (A.length : Int) := by omega
      clear hv hv2 hc hc2 hx
      go_wp2_with fail
      go_quiet (fail)
      go_wp2_with fail
      go_roundw
      case rel => exact ⟨k + 1, by go_num, by omega, ⟨belDr hb.out _⟩⟩
      case measure => simp [intOf] <;> omega
    · obtain rfl : k = A.length := by omega
      go_wp2_with fail
      go_ret
      exact ⟨rfl, hb.out⟩
end Go.Proofs.YtnlcmdgjoikljaaDoor
