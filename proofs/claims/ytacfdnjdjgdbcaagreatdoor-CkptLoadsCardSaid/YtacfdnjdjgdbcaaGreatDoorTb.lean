/- TabC, TabD, TabE, in one text. -/
import Derived.Test.YtacfdnjdjgdbcaaGreatDoorTa
import Derived.RangeFuncNested
import Derived.RangeFuncBound
import Derived.RangeFuncCalls
import Derived.RangeFuncLeaves
import Derived.Sort.MapsRangeIn
import Derived.Sort.KeysCollected
import Derived.OwnWalkIn
import Derived.TacticsInMore
import Derived.RegionIn
import Derived.LoopNIn
import Derived.LoopIn
import Derived.Maps.AppendAt
import Derived.Maps.OwnIn
namespace Go.Proofs.YtacfdnjdjgdbcaaGreatDoor
set_option maxRecDepth 100000
open Go.RowKit Go.Maps Go.Sort Go.ChangeMaps M

theorem list32 : ∀ (A : List Value), A.length = 32 → ∃ a0 a1 a2 a3 a4 a5 a6 a7 a8 a9 a10 a11 a12 a13 a14 a15 a16 a17 a18 a19 a20 a21 a22 a23 a24 a25 a26 a27 a28 a29 a30 a31, A = [a0, a1, a2, a3, a4, a5, a6, a7, a8, a9, a10, a11, a12, a13, a14, a15, a16, a17, a18, a19, a20, a21, a22, a23, a24, a25, a26, a27, a28, a29, a30, a31]
  | [a0, a1, a2, a3, a4, a5, a6, a7, a8, a9, a10, a11, a12, a13, a14, a15, a16, a17, a18, a19, a20, a21, a22, a23, a24, a25, a26, a27, a28, a29, a30, a31], _ => ⟨a0, a1, a2, a3, a4, a5, a6, a7, a8, a9, a10, a11, a12, a13, a14, a15, a16, a17, a18, a19, a20, a21, a22, a23, a24, a25, a26, a27, a28, a29, a30, a31, rfl⟩
theorem build_entry (A : List Value) (hA : A.length = 32) (s : ByteArray) (w : World) : (Instr.build 86 #[(0, .agg A.toArray), (1, .string s)]).run Tryz.prog w = .ok (.agg (A ++ [Value.string s]).toArray) w := by
  obtain ⟨a0, a1, a2, a3, a4, a5, a6, a7, a8, a9, a10, a11, a12, a13, a14, a15, a16, a17, a18, a19, a20, a21, a22, a23, a24, a25, a26, a27, a28, a29, a30, a31, rfl⟩ := list32 A hA
  exact run_build w _ _ _ (by kernel_rfl)
theorem setBlock_other (w : World) (b : Nat) (o : Obj) {i : Nat} (h : i ≠ b) : (setBlock w b o).heap[i]? = w.heap[i]? := by
  unfold setBlock
  rw [Array.getElem?_setIfInBounds_ne (by omega)]
theorem tcell_keep {w w' : World} {a : Addr} (h : w'.heap[a.block]? = w.heap[a.block]?) : w'.cell? a = w.cell? a := by unfold World.cell?; rw [h]
theorem map_isnt (m : Nat) (W : World) : (binOp .eql 76 (.map (some m)) (.map none)).run Tryz.prog W = .ok (.bool false) W := by kernel_rfl
theorem map_is (W : World) : (binOp .eql 76 (.map none) (.map none)).run Tryz.prog W = .ok (.bool true) W := by kernel_rfl
theorem tsetBlock_cell (w : World) (b : Nat) (o : Obj) {a : Addr} {v : Value} (h : a.block ≠ b) (hc : w.cell? a = some v) : (setBlock w b o).cell? a = some v := by
  rw [← hc]
  exact tcell_keep (a := a) (setBlock_other w b o h)
theorem setBlock_range (w : World) (b : Nat) (o : Obj) {c f : Nat} {cs : List Value} (h : c ≠ b) (hc : w.rangeAt c f cs) : (setBlock w b o).rangeAt c f cs := fun j v hv => tsetBlock_cell w b o h (hc j v hv)
theorem wp_mapUpdate {op : Oper} {a : Act} {w w' : World} {K : Act → World → Prop} {Q : Exit → Act → World → Prop} (t : TypeId) (m x v : Operand) (ho : op.op = .mapUpdate t m x v) (vm vx vv : Value) (hm : a.eval m = vm) (hx : a.eval x = vx) (hv : a.eval v = vv)
    (hr : (Instr.mapUpdate t vm vx vv).run Tryz.prog w = .ok () w') (h : K (a.put op.dst undef) w') : op.wp Tryz.prog a w K Q := by
  unfold Oper.wp execOp
  simp only [ho, hm, hx, hv, Sem.run_bind, Sem.run_pure, hr, Result.andThen_ok]
  exact h
theorem yields_build2 {ops : Array Oper} {S : World → Prop} {op : Oper} {a : Act} (hw : Region.wanted op (yielded ops a.tmps) = true) (t : TypeId) (x y : Operand) (ho : op.op = .build t #[(0, x), (1, y)]) (vx vy : Value) (hx : a.eval x = vx) (hy : a.eval y = vy) (r : Value)
    (hr : ∀ w, (Instr.build t #[(0, vx), (1, vy)]).run Tryz.prog w = .ok r w) : YieldsIf Tryz.prog ops S op r a :=
  .inl ⟨hw, fun w' _ => by
    unfold execOp
    simp [ho, hx, hy, hr w']⟩

/-- what Put changes: the table's cell and its map alone of the old blocks -/
structure TExt (b : Nat) (mo mo' : Option Nat) (w w' : World) : Prop where
  os : w'.os = w.os
  tape : w'.tape = w.tape
  output : w'.output = w.output
  size : w.heap.size ≤ w'.heap.size
  block : ∀ k, k < w.heap.size → k ≠ b → mo ≠ some k → w'.heap[k]? = w.heap[k]?
  lies : mo' = mo ∨ ∀ k, mo' = some k → w.heap.size ≤ k

set_option maxHeartbeats 1000000 in
theorem putX_any (b : Nat) (mo : Option Nat) (A : List Value) (s : ByteArray) (cs : List Value) (w : World) (hA : A.length = 32) (hcs : cs.length = 33) (hc1 : ∀ v ∈ cs, v.oneCell' = true)
    (hc : (w.alloc (.cells A.toArray 24)).cell? ⟨b, 0, none⟩ = some (.map mo))
    (hl : ∀ W, Below w.heap.size w W → (Instr.lookup 76 (.map mo) (.agg A.toArray) true).run Tryz.prog W = .ok (.tuple #[.agg cs.toArray, .bool true]) W) : Calls Tryz.prog 30 #[.pointer (some ⟨b, 0, none⟩), .agg A.toArray, .string s] w fun e w' => e = .returned (.bool false) ∧ Below w.heap.size w w' := by
  have hb : Below w.heap.size w (w.alloc (.cells A.toArray 24)) := (Below.refl _ _).alloc (Nat.le_refl _) _
  obtain ⟨W1, hW1⟩ : ∃ W1, W1 = w.alloc (.cells A.toArray 24) := ⟨_, rfl⟩
  have hk : W1.rangeAt w.heap.size 0 A := by rw [hW1]; exact range_new _ _ _ _ rfl
  rw [← hW1] at hc hb
  have HL := Box.mk hl
  clear hl
  go_enter Tryz.func30, Tryz.ntmps30
  go_upto_region 1 with fail
  rw [← hW1]
  clear hW1
  refine wp_region_held_drew (S := LookS w b mo w.heap.size A) (by kernel_rfl) ⟨hc, hk, hb.drew⟩ (fun hHeld => ?_)
  refine wpAnyH_take (i := 0) (v := (.pointer (some ⟨b, 0, none⟩))) rfl (by kernel_rfl) (by kernel_rfl) (by kernel_rfl) (fun _ _ _ h => h) (Or.inl ⟨by rfl, fun w' hw' => by have q := hw'.cell; go_simp; try rfl⟩) hHeld ?_
  refine wpAnyH_take (i := 1) (v := (.pointer (some ⟨b, 0, none⟩))) rfl (by kernel_rfl) (by kernel_rfl) (by kernel_rfl) (fun _ _ _ h => h) (Or.inl ⟨by rfl, fun w' hw' => by have q := hw'.cell; go_simp; try rfl⟩) hHeld ?_
  refine wpAnyH_take (i := 2) (v := (.pointer (some ⟨b, 0, none⟩))) rfl (by kernel_rfl) (by kernel_rfl) (by kernel_rfl) (fun _ _ _ h => h) (Or.inl ⟨by rfl, fun w' hw' => by have q := hw'.cell; go_simp; try rfl⟩) hHeld ?_
  refine wpAnyH_take (i := 3) (v := .map mo) rfl (by kernel_rfl) (by kernel_rfl) (by kernel_rfl) (fun _ _ _ h => h) (Or.inl ⟨by rfl, fun w' hw' => by have q := hw'.cell; go_simp; try rfl⟩) hHeld ?_
  refine wpAnyH_take (i := 4) (v := .agg A.toArray) rfl (by kernel_rfl) (by kernel_rfl) (by kernel_rfl) (fun _ _ _ h => h) (yieldsIf_load_mid (by rfl) 24 (.tmp 4) rfl _ _ rfl A _ (fun w' h => h.key) und_hash rfl (by rw [hA]; exact info_hash)) hHeld ?_
  refine wpAnyH_take (i := 5) (v := .tuple #[.agg cs.toArray, .bool true]) rfl (by kernel_rfl) (by kernel_rfl) (by kernel_rfl) (fun _ _ _ h => h) (yields_lookup (by rfl) 76 (.tmp 13) (.tmp 14) rfl (.map mo) (.agg A.toArray) _ rfl rfl (fun w' h => HL.out _ h.bel)) hHeld ?_
  refine wpAnyH_take (i := 6) (v := .tuple #[.agg cs.toArray, .bool true]) rfl (by kernel_rfl) (by kernel_rfl) (by kernel_rfl) (fun _ _ _ h => h) (Or.inl ⟨by rfl, fun w' hw' => by have q := hw'.cell; go_simp; try rfl⟩) hHeld ?_
  refine wpAnyH_take (i := 7) (v := .agg cs.toArray) rfl (by kernel_rfl) (by kernel_rfl) (by kernel_rfl) (fun _ _ _ h => h) (Or.inl ⟨by rfl, fun w' hw' => by have q := hw'.cell; go_simp; try rfl⟩) hHeld ?_
  refine wpAnyH_take (i := 8) (v := .bool true) rfl (by kernel_rfl) (by kernel_rfl) (by kernel_rfl) (fun _ _ _ h => h) (Or.inl ⟨by rfl, fun w' hw' => by have q := hw'.cell; go_simp; try rfl⟩) hHeld ?_
  refine wpAnyH_ready (rs := [9]) (by kernel_rfl) (by simp) ?_
  refine AllReadyH.cons rfl (fun K hK => ?_) AllReadyH.nil
  go_simp
  refine hK.out _ _ ⟨(cell_new hHeld.cell).trans hHeld.cell, rng_new hHeld.key (Nat.zero_le _), hHeld.bel.trans (((Below.refl W1.heap.size W1.drew).alloc (Nat.le_refl _) _).mono hb.size)⟩ (fun hHeld => ?_)
  clear hK K
  revert hHeld
  generalize hg : World.drew _ = W2
  intro hHeld
  have ht : W2.there W1.heap.size 0 33 := by rw [← hg]; exact there_new W1.drew 86 (List.replicate 32 (Value.int .u8 0) ++ [Value.string ⟨#[]⟩]) W1.heap.size 0 33 rfl (by decide)
  have hz2 : W2.heap.size = W1.heap.size + 1 := by rw [← hg]; simp
  clear hg
  refine wpAnyH_ready (rs := [10]) (by kernel_rfl) (by simp) ?_
  refine AllReadyH.cons rfl (fun K hK => ?_) AllReadyH.nil
  rw [if_pos (by rfl)]
  refine wp_store_mid 86 (.tmp 7) (.tmp 16) rfl W1.heap.size 0 cs.toArray rfl rfl (by have e : cs.toArray.size = 33 := (by simp [hcs]); rw [e]; exact ht) (by have e : cs.toArray.size = 33 := (by simp [hcs]); rw [e]; exact info_entry) (all_oneCell_toArray hc1) ?_
  have hb3 := below_setCells (B := w.heap.size) (b := W1.heap.size) hb.size cs 0 w _ hHeld.bel
  have hs3 : LookS w b mo w.heap.size A (W2.setCells W1.heap.size 0 cs) := by
    refine ⟨?_, ?_, hb3⟩
    · rw [World.cell?_setCells_out W1.heap.size cs 0 W2 ⟨b, 0, none⟩ (fun e _ => absurd e (by have := World.block_lt_of_cell? _ _ hc; show b ≠ _; omega))]; exact hHeld.cell
    · exact World.rangeAt_setCells_apart hHeld.key _ _ _ (.inl (by have := World.block_lt_of_cell? _ _ (hk 0 A[0] (List.getElem?_eq_getElem (by omega))); show w.heap.size ≠ _; have h2 : w.heap.size < W1.heap.size := this; omega))
  refine hK.out _ _ hs3 (fun hHeld3 => ?_)
  clear hK K
  refine wpAnyH_take (i := 11) (v := .bool true) rfl (by kernel_rfl) (by kernel_rfl) (by kernel_rfl) (fun _ _ _ h => h) (Or.inl ⟨by rfl, fun w' hw' => by go_simp; try rfl⟩) hHeld3 ?_
  refine wpAnyH_done (by kernel_rfl) ?_ _
  have HS3 := Box.mk hs3
  generalize World.setCells W2 W1.heap.size 0 cs = W3 at HS3 ⊢
  clear hHeld hHeld3 hb3 hs3 hb hc hk ht HL hz2
  go_wp2
  go_ret
  exact ⟨rfl, HS3.out.bel⟩

/-- what Put's last region needs -/
structure KeyS (b m c : Nat) (A : List Value) (W : World) : Prop where
  cell : W.cell? ⟨b, 0, none⟩ = some (.map (some m))
  key : W.rangeAt c 0 A

set_option maxHeartbeats 1000000 in
theorem putS_any (b m : Nat) (A : List Value) (s : ByteArray) (cs : List Value) (w : World) (hA : A.length = 32) (hcs : cs.length = 33) (hc1 : ∀ v ∈ cs, v.oneCell' = true) (hbm : b ≠ m) (hm : m < w.heap.size) (R : World → Prop)
    (hc : (w.alloc (.cells A.toArray 24)).cell? ⟨b, 0, none⟩ = some (.map (some m)))
    (hl : ∀ W, Below w.heap.size w W → (Instr.lookup 76 (.map (some m)) (.agg A.toArray) true).run Tryz.prog W = .ok (.tuple #[.agg cs.toArray, .bool false]) W)
    (hup : ∀ W, Below w.heap.size w W → ∃ o, (Instr.mapUpdate 76 (.map (some m)) (.agg A.toArray) (.agg (A ++ [Value.string s]).toArray)).run Tryz.prog W = .ok () (setBlock W m o) ∧ R (setBlock W m o)) :
    Calls Tryz.prog 30 #[.pointer (some ⟨b, 0, none⟩), .agg A.toArray, .string s] w fun e w' => e = .returned (.bool true) ∧ R w' ∧ ∃ W o, Below w.heap.size w W ∧ w' = setBlock W m o := by
  have HU := Box.mk hup
  clear hup
  obtain ⟨mo, hmo⟩ : ∃ mo, mo = some m := ⟨_, rfl⟩
  rw [← hmo] at hc hl
  have hb : Below w.heap.size w (w.alloc (.cells A.toArray 24)) := (Below.refl _ _).alloc (Nat.le_refl _) _
  obtain ⟨W1, hW1⟩ : ∃ W1, W1 = w.alloc (.cells A.toArray 24) := ⟨_, rfl⟩
  have hk : W1.rangeAt w.heap.size 0 A := by rw [hW1]; exact range_new _ _ _ _ rfl
  rw [← hW1] at hc hb
  have HL := Box.mk hl
  clear hl
  go_enter Tryz.func30, Tryz.ntmps30
  go_upto_region 1 with fail
  rw [← hW1]
  clear hW1
  refine wp_region_held_drew (S := LookS w b mo w.heap.size A) (by kernel_rfl) ⟨hc, hk, hb.drew⟩ (fun hHeld => ?_)
  refine wpAnyH_take (i := 0) (v := (.pointer (some ⟨b, 0, none⟩))) rfl (by kernel_rfl) (by kernel_rfl) (by kernel_rfl) (fun _ _ _ h => h) (Or.inl ⟨by rfl, fun w' hw' => by have q := hw'.cell; go_simp; try rfl⟩) hHeld ?_
  refine wpAnyH_take (i := 1) (v := (.pointer (some ⟨b, 0, none⟩))) rfl (by kernel_rfl) (by kernel_rfl) (by kernel_rfl) (fun _ _ _ h => h) (Or.inl ⟨by rfl, fun w' hw' => by have q := hw'.cell; go_simp; try rfl⟩) hHeld ?_
  refine wpAnyH_take (i := 2) (v := (.pointer (some ⟨b, 0, none⟩))) rfl (by kernel_rfl) (by kernel_rfl) (by kernel_rfl) (fun _ _ _ h => h) (Or.inl ⟨by rfl, fun w' hw' => by have q := hw'.cell; go_simp; try rfl⟩) hHeld ?_
  refine wpAnyH_take (i := 3) (v := .map mo) rfl (by kernel_rfl) (by kernel_rfl) (by kernel_rfl) (fun _ _ _ h => h) (Or.inl ⟨by rfl, fun w' hw' => by have q := hw'.cell; go_simp; try rfl⟩) hHeld ?_
  refine wpAnyH_take (i := 4) (v := .agg A.toArray) rfl (by kernel_rfl) (by kernel_rfl) (by kernel_rfl) (fun _ _ _ h => h) (yieldsIf_load_mid (by rfl) 24 (.tmp 4) rfl _ _ rfl A _ (fun w' h => h.key) und_hash rfl (by rw [hA]; exact info_hash)) hHeld ?_
  refine wpAnyH_take (i := 5) (v := .tuple #[.agg cs.toArray, .bool false]) rfl (by kernel_rfl) (by kernel_rfl) (by kernel_rfl) (fun _ _ _ h => h) (yields_lookup (by rfl) 76 (.tmp 13) (.tmp 14) rfl (.map mo) (.agg A.toArray) _ rfl rfl (fun w' h => HL.out _ h.bel)) hHeld ?_
  refine wpAnyH_take (i := 6) (v := .tuple #[.agg cs.toArray, .bool false]) rfl (by kernel_rfl) (by kernel_rfl) (by kernel_rfl) (fun _ _ _ h => h) (Or.inl ⟨by rfl, fun w' hw' => by have q := hw'.cell; go_simp; try rfl⟩) hHeld ?_
  refine wpAnyH_take (i := 7) (v := .agg cs.toArray) rfl (by kernel_rfl) (by kernel_rfl) (by kernel_rfl) (fun _ _ _ h => h) (Or.inl ⟨by rfl, fun w' hw' => by have q := hw'.cell; go_simp; try rfl⟩) hHeld ?_
  refine wpAnyH_take (i := 8) (v := .bool false) rfl (by kernel_rfl) (by kernel_rfl) (by kernel_rfl) (fun _ _ _ h => h) (Or.inl ⟨by rfl, fun w' hw' => by have q := hw'.cell; go_simp; try rfl⟩) hHeld ?_
  refine wpAnyH_ready (rs := [9]) (by kernel_rfl) (by simp) ?_
  refine AllReadyH.cons rfl (fun K hK => ?_) AllReadyH.nil
  go_simp
  refine hK.out _ _ ⟨(cell_new hHeld.cell).trans hHeld.cell, rng_new hHeld.key (Nat.zero_le _), hHeld.bel.trans (((Below.refl W1.heap.size W1.drew).alloc (Nat.le_refl _) _).mono hb.size)⟩ (fun hHeld => ?_)
  clear hK K
  revert hHeld
  generalize hg : World.drew _ = W2
  intro hHeld
  have ht : W2.there W1.heap.size 0 33 := by rw [← hg]; exact there_new W1.drew 86 (List.replicate 32 (Value.int .u8 0) ++ [Value.string ⟨#[]⟩]) W1.heap.size 0 33 rfl (by decide)
  have hz2 : W2.heap.size = W1.heap.size + 1 := by rw [← hg]; simp
  clear hg
  refine wpAnyH_ready (rs := [10]) (by kernel_rfl) (by simp) ?_
  refine AllReadyH.cons rfl (fun K hK => ?_) AllReadyH.nil
  rw [if_pos (by rfl)]
  refine wp_store_mid 86 (.tmp 7) (.tmp 16) rfl W1.heap.size 0 cs.toArray rfl rfl (by have e : cs.toArray.size = 33 := (by simp [hcs]); rw [e]; exact ht) (by have e : cs.toArray.size = 33 := (by simp [hcs]); rw [e]; exact info_entry) (all_oneCell_toArray hc1) ?_
  have hb3 := below_setCells (B := w.heap.size) (b := W1.heap.size) hb.size cs 0 w _ hHeld.bel
  have hs3 : LookS w b mo w.heap.size A (W2.setCells W1.heap.size 0 cs) := by
    refine ⟨?_, ?_, hb3⟩
    · rw [World.cell?_setCells_out W1.heap.size cs 0 W2 ⟨b, 0, none⟩ (fun e _ => absurd e (by have := World.block_lt_of_cell? _ _ hc; show b ≠ _; omega))]; exact hHeld.cell
    · exact World.rangeAt_setCells_apart hHeld.key _ _ _ (.inl (by have := World.block_lt_of_cell? _ _ (hk 0 A[0] (List.getElem?_eq_getElem (by omega))); show w.heap.size ≠ _; have h2 : w.heap.size < W1.heap.size := this; omega))
  refine hK.out _ _ hs3 (fun hHeld3 => ?_)
  clear hK K
  refine wpAnyH_take (i := 11) (v := .bool false) rfl (by kernel_rfl) (by kernel_rfl) (by kernel_rfl) (fun _ _ _ h => h) (Or.inl ⟨by rfl, fun w' hw' => by go_simp; try rfl⟩) hHeld3 ?_
  refine wpAnyH_done (by kernel_rfl) ?_ _
  have HS3 := Box.mk hs3
  generalize World.setCells W2 W1.heap.size 0 cs = W3 at HS3 ⊢
  clear hHeld hHeld3 hb3 hs3 hb hc hk ht HL hz2
  have hc3 := HS3.out.cell
  subst hmo
  have hnot := map_isnt m W3
  go_upto_region 6 with fail
  clear hnot
  obtain ⟨W5, hW5⟩ : ∃ W5, W5 = W3 := ⟨_, rfl⟩
  have b5 := HS3.out.bel
  have k5 := HS3.out.key
  rw [← hW5] at hc3 b5 k5 ⊢
  clear hW5 HS3
  obtain ⟨o, hr, hR⟩ := HU.out W5.drew b5.drew
  have hkm : w.heap.size ≠ m := by omega
  have hc5 : W5.drew.cell? ⟨b, 0, none⟩ = some (.map (some m)) := hc3
  have hk5 : W5.drew.rangeAt w.heap.size 0 A := k5
  refine wp_region_held_drew (S := KeyS b m w.heap.size A) (by kernel_rfl) ⟨hc5, hk5⟩ (fun hHeld => ?_)
  refine wpAnyH_take (i := 0) (oi := { dst := some 28, op := Go.Op.move (Go.Operand.tmp 0), type := 27, pos := "table.go:49", after := #[], guard := none }) (v := (.pointer (some ⟨b, 0, none⟩))) rfl (by kernel_rfl) (by kernel_rfl) (by kernel_rfl) (fun _ _ _ h => h) (Or.inl ⟨by rfl, fun w' hw' => by have q := hw'.cell; go_simp; try rfl⟩) hHeld ?_
  simp only [Act.put, List.setIfInBounds_toArray, List.set_cons_zero, List.set_cons_succ]
  refine wpAnyH_take (i := 1) (oi := { dst := some 29, op := Go.Op.nilCheck (Go.Operand.tmp 28), type := 0, pos := "table.go:49", after := #[{ on := 0, ground := Go.Ground.data }], guard := none }) (v := (.pointer (some ⟨b, 0, none⟩))) rfl (by kernel_rfl) (by kernel_rfl) (by kernel_rfl) (fun _ _ _ h => h) (Or.inl ⟨by rfl, fun w' hw' => by have q := hw'.cell; go_simp; try rfl⟩) hHeld ?_
  simp only [Act.put, List.setIfInBounds_toArray, List.set_cons_zero, List.set_cons_succ]
  refine wpAnyH_take (i := 2) (oi := { dst := some 30, op := Go.Op.fieldAddr 78 (Go.Operand.tmp 29) 0, type := 0, pos := "table.go:49", after := #[{ on := 1, ground := Go.Ground.data }], guard := none }) (v := (.pointer (some ⟨b, 0, none⟩))) rfl (by kernel_rfl) (by kernel_rfl) (by kernel_rfl) (fun _ _ _ h => h) (Or.inl ⟨by rfl, fun w' hw' => by have q := hw'.cell; go_simp; try rfl⟩) hHeld ?_
  simp only [Act.put, List.setIfInBounds_toArray, List.set_cons_zero, List.set_cons_succ]
  refine wpAnyH_take (i := 3) (oi := { dst := some 31, op := Go.Op.load 76 (Go.Operand.tmp 30), type := 76, pos := "table.go:49", after := #[{ on := 2, ground := Go.Ground.data }], guard := none }) (v := .map (some m)) rfl (by kernel_rfl) (by kernel_rfl) (by kernel_rfl) (fun _ _ _ h => h) (Or.inl ⟨by rfl, fun w' hw' => by have q := hw'.cell; go_simp; try rfl⟩) hHeld ?_
  simp only [Act.put, List.setIfInBounds_toArray, List.set_cons_zero, List.set_cons_succ]
  refine wpAnyH_take (i := 4) (oi := { dst := some 32, op := Go.Op.load 24 (Go.Operand.tmp 4), type := 24, pos := "table.go:49", after := #[], guard := none }) (v := .agg A.toArray) rfl (by kernel_rfl) (by kernel_rfl) (by kernel_rfl) (fun _ _ _ h => h) (yieldsIf_load_mid (by rfl) 24 (.tmp 4) rfl _ _ rfl A _ (fun w' h => h.key) und_hash rfl (by rw [hA]; exact info_hash)) hHeld ?_
  simp only [Act.put, List.setIfInBounds_toArray, List.set_cons_zero, List.set_cons_succ]
  refine wpAnyH_take (i := 5) (oi := { dst := some 33, op := Go.Op.load 24 (Go.Operand.tmp 4), type := 24, pos := "table.go:49", after := #[], guard := none }) (v := .agg A.toArray) rfl (by kernel_rfl) (by kernel_rfl) (by kernel_rfl) (fun _ _ _ h => h) (yieldsIf_load_mid (by rfl) 24 (.tmp 4) rfl _ _ rfl A _ (fun w' h => h.key) und_hash rfl (by rw [hA]; exact info_hash)) hHeld ?_
  simp only [Act.put, List.setIfInBounds_toArray, List.set_cons_zero, List.set_cons_succ]
  refine wpAnyH_take (i := 6) (oi := { dst := some 34, op := Go.Op.move (Go.Operand.tmp 2), type := 9, pos := "table.go:49", after := #[], guard := none }) (v := .string s) rfl (by kernel_rfl) (by kernel_rfl) (by kernel_rfl) (fun _ _ _ h => h) (Or.inl ⟨by rfl, fun w' hw' => by have q := hw'.cell; go_simp; try rfl⟩) hHeld ?_
  simp only [Act.put, List.setIfInBounds_toArray, List.set_cons_zero, List.set_cons_succ]
  refine wpAnyH_take (i := 7) (oi := { dst := some 35, op := Go.Op.build 86 #[(0, Go.Operand.tmp 33), (1, Go.Operand.tmp 34)], type := 86, pos := "table.go:49", after := #[{ on := 5, ground := Go.Ground.data }, { on := 6, ground := Go.Ground.data }], guard := none }) (v := .agg (A ++ [Value.string s]).toArray) rfl (by kernel_rfl) (by kernel_rfl) (by kernel_rfl) (fun _ _ _ h => h) (yields_build2 (by rfl) 86 (.tmp 33) (.tmp 34) rfl (.agg A.toArray) (.string s) rfl rfl _ (fun w' => build_entry A hA s w')) hHeld ?_
  simp only [Act.put, List.setIfInBounds_toArray, List.set_cons_zero, List.set_cons_succ]
  refine wpAnyH_ready (rs := [8]) (by kernel_rfl) (by simp) ?_
  refine AllReadyH.cons rfl (fun K hK => ?_) AllReadyH.nil
  rw [if_pos (by rfl)]
  refine wp_mapUpdate 76 (.tmp 31) (.tmp 32) (.tmp 35) rfl (.map (some m)) (.agg A.toArray) (.agg (A ++ [Value.string s]).toArray) rfl rfl rfl hr ?_
  refine hK.out _ _ ⟨tsetBlock_cell _ _ _ hbm (by exact hc5), setBlock_range _ _ _ hkm (by exact hk5)⟩ (fun hHeld2 => ?_)
  clear hK K
  refine wpAnyH_done (by kernel_rfl) ?_ _
  obtain ⟨W6, hW6⟩ : ∃ W6, W6 = setBlock W5.drew m o := ⟨_, rfl⟩
  rw [← hW6]
  have FIN := Box.mk (show R W6 ∧ ∃ W o, Below w.heap.size w W ∧ W6 = setBlock W m o from ⟨by rw [hW6]; exact hR, _, o, b5.drew, hW6⟩)
  clear hW6 hHeld hHeld2 hr hR hc5 hk5 hc3 b5 k5 HU
  go_wp2
  go_ret
  exact ⟨rfl, FIN.out⟩

set_option maxHeartbeats 1000000 in
theorem putN_any (b : Nat) (mo : Option Nat) (hmo : mo = none) (A : List Value) (s : ByteArray) (cs : List Value) (w : World) (hA : A.length = 32) (hcs : cs.length = 33) (hc1 : ∀ v ∈ cs, v.oneCell' = true) (hbw : b < w.heap.size) (hfr : w.frozen? ⟨b, 0, none⟩ = false) (R : World → Nat → Prop)
    (hc : (w.alloc (.cells A.toArray 24)).cell? ⟨b, 0, none⟩ = some (.map mo))
    (hl : ∀ W, Below w.heap.size w W → (Instr.lookup 76 (.map mo) (.agg A.toArray) true).run Tryz.prog W = .ok (.tuple #[.agg cs.toArray, .bool false]) W)
    (hup : ∀ W m, w.heap.size ≤ m → W.heap[m]? = some (.map #[] 0) → W.cell? ⟨b, 0, none⟩ = some (.map (some m)) → W.frozen? ⟨b, 0, none⟩ = false → ∃ o, (Instr.mapUpdate 76 (.map (some m)) (.agg A.toArray) (.agg (A ++ [Value.string s]).toArray)).run Tryz.prog W = .ok () (setBlock W m o) ∧ R (setBlock W m o) m) :
    Calls Tryz.prog 30 #[.pointer (some ⟨b, 0, none⟩), .agg A.toArray, .string s] w fun e w' => e = .returned (.bool true) ∧ ∃ m W o, W.heap.size = m ∧ R w' m ∧ Below w.heap.size w W ∧ w' = setBlock ((W.setCell ⟨b, 0, none⟩ (.map (some m))).alloc (.map #[] 0)).drew m o := by
  have HU := Box.mk hup
  clear hup
  have hb : Below w.heap.size w (w.alloc (.cells A.toArray 24)) := (Below.refl _ _).alloc (Nat.le_refl _) _
  obtain ⟨W1, hW1⟩ : ∃ W1, W1 = w.alloc (.cells A.toArray 24) := ⟨_, rfl⟩
  have hk : W1.rangeAt w.heap.size 0 A := by rw [hW1]; exact range_new _ _ _ _ rfl
  rw [← hW1] at hc hb
  have HL := Box.mk hl
  clear hl
  go_enter Tryz.func30, Tryz.ntmps30
  go_upto_region 1 with fail
  rw [← hW1]
  clear hW1
  refine wp_region_held_drew (S := LookS w b mo w.heap.size A) (by kernel_rfl) ⟨hc, hk, hb.drew⟩ (fun hHeld => ?_)
  refine wpAnyH_take (i := 0) (v := (.pointer (some ⟨b, 0, none⟩))) rfl (by kernel_rfl) (by kernel_rfl) (by kernel_rfl) (fun _ _ _ h => h) (Or.inl ⟨by rfl, fun w' hw' => by have q := hw'.cell; go_simp; try rfl⟩) hHeld ?_
  refine wpAnyH_take (i := 1) (v := (.pointer (some ⟨b, 0, none⟩))) rfl (by kernel_rfl) (by kernel_rfl) (by kernel_rfl) (fun _ _ _ h => h) (Or.inl ⟨by rfl, fun w' hw' => by have q := hw'.cell; go_simp; try rfl⟩) hHeld ?_
  refine wpAnyH_take (i := 2) (v := (.pointer (some ⟨b, 0, none⟩))) rfl (by kernel_rfl) (by kernel_rfl) (by kernel_rfl) (fun _ _ _ h => h) (Or.inl ⟨by rfl, fun w' hw' => by have q := hw'.cell; go_simp; try rfl⟩) hHeld ?_
  refine wpAnyH_take (i := 3) (v := .map mo) rfl (by kernel_rfl) (by kernel_rfl) (by kernel_rfl) (fun _ _ _ h => h) (Or.inl ⟨by rfl, fun w' hw' => by have q := hw'.cell; go_simp; try rfl⟩) hHeld ?_
  refine wpAnyH_take (i := 4) (v := .agg A.toArray) rfl (by kernel_rfl) (by kernel_rfl) (by kernel_rfl) (fun _ _ _ h => h) (yieldsIf_load_mid (by rfl) 24 (.tmp 4) rfl _ _ rfl A _ (fun w' h => h.key) und_hash rfl (by rw [hA]; exact info_hash)) hHeld ?_
  refine wpAnyH_take (i := 5) (v := .tuple #[.agg cs.toArray, .bool false]) rfl (by kernel_rfl) (by kernel_rfl) (by kernel_rfl) (fun _ _ _ h => h) (yields_lookup (by rfl) 76 (.tmp 13) (.tmp 14) rfl (.map mo) (.agg A.toArray) _ rfl rfl (fun w' h => HL.out _ h.bel)) hHeld ?_
  refine wpAnyH_take (i := 6) (v := .tuple #[.agg cs.toArray, .bool false]) rfl (by kernel_rfl) (by kernel_rfl) (by kernel_rfl) (fun _ _ _ h => h) (Or.inl ⟨by rfl, fun w' hw' => by have q := hw'.cell; go_simp; try rfl⟩) hHeld ?_
  refine wpAnyH_take (i := 7) (v := .agg cs.toArray) rfl (by kernel_rfl) (by kernel_rfl) (by kernel_rfl) (fun _ _ _ h => h) (Or.inl ⟨by rfl, fun w' hw' => by have q := hw'.cell; go_simp; try rfl⟩) hHeld ?_
  refine wpAnyH_take (i := 8) (v := .bool false) rfl (by kernel_rfl) (by kernel_rfl) (by kernel_rfl) (fun _ _ _ h => h) (Or.inl ⟨by rfl, fun w' hw' => by have q := hw'.cell; go_simp; try rfl⟩) hHeld ?_
  refine wpAnyH_ready (rs := [9]) (by kernel_rfl) (by simp) ?_
  refine AllReadyH.cons rfl (fun K hK => ?_) AllReadyH.nil
  go_simp
  refine hK.out _ _ ⟨(cell_new hHeld.cell).trans hHeld.cell, rng_new hHeld.key (Nat.zero_le _), hHeld.bel.trans (((Below.refl W1.heap.size W1.drew).alloc (Nat.le_refl _) _).mono hb.size)⟩ (fun hHeld => ?_)
  clear hK K
  revert hHeld
  generalize hg : World.drew _ = W2
  intro hHeld
  have ht : W2.there W1.heap.size 0 33 := by rw [← hg]; exact there_new W1.drew 86 (List.replicate 32 (Value.int .u8 0) ++ [Value.string ⟨#[]⟩]) W1.heap.size 0 33 rfl (by decide)
  have hz2 : W2.heap.size = W1.heap.size + 1 := by rw [← hg]; simp
  clear hg
  refine wpAnyH_ready (rs := [10]) (by kernel_rfl) (by simp) ?_
  refine AllReadyH.cons rfl (fun K hK => ?_) AllReadyH.nil
  rw [if_pos (by rfl)]
  refine wp_store_mid 86 (.tmp 7) (.tmp 16) rfl W1.heap.size 0 cs.toArray rfl rfl (by have e : cs.toArray.size = 33 := (by simp [hcs]); rw [e]; exact ht) (by have e : cs.toArray.size = 33 := (by simp [hcs]); rw [e]; exact info_entry) (all_oneCell_toArray hc1) ?_
  have hb3 := below_setCells (B := w.heap.size) (b := W1.heap.size) hb.size cs 0 w _ hHeld.bel
  have hs3 : LookS w b mo w.heap.size A (W2.setCells W1.heap.size 0 cs) := by
    refine ⟨?_, ?_, hb3⟩
    · rw [World.cell?_setCells_out W1.heap.size cs 0 W2 ⟨b, 0, none⟩ (fun e _ => absurd e (by have := World.block_lt_of_cell? _ _ hc; show b ≠ _; omega))]; exact hHeld.cell
    · exact World.rangeAt_setCells_apart hHeld.key _ _ _ (.inl (by have := World.block_lt_of_cell? _ _ (hk 0 A[0] (List.getElem?_eq_getElem (by omega))); show w.heap.size ≠ _; have h2 : w.heap.size < W1.heap.size := this; omega))
  refine hK.out _ _ hs3 (fun hHeld3 => ?_)
  clear hK K
  refine wpAnyH_take (i := 11) (v := .bool false) rfl (by kernel_rfl) (by kernel_rfl) (by kernel_rfl) (fun _ _ _ h => h) (Or.inl ⟨by rfl, fun w' hw' => by go_simp; try rfl⟩) hHeld3 ?_
  refine wpAnyH_done (by kernel_rfl) ?_ _
  have HS3 := Box.mk hs3
  generalize World.setCells W2 W1.heap.size 0 cs = W3 at HS3 ⊢
  clear hHeld hHeld3 hb3 hs3 hb hc hk ht HL hz2
  have hc3 := HS3.out.cell
  subst hmo
  have hfr3 : W3.frozen? ⟨b, 0, none⟩ = false := by rw [World.frozen?_of_block (a := ⟨b, 0, none⟩) (HS3.out.bel.block b hbw)]; exact hfr
  have hb3l : b < W3.heap.size := Nat.lt_of_lt_of_le hbw HS3.out.bel.size
  have hnot := map_is W3
  have hmk : (Instr.makeMap 76 none).run Tryz.prog W3 = .ok (.map (some W3.heap.size)) (W3.alloc (.map #[] 0)) := by kernel_rfl
  go_upto_region 6 with fail
  clear hnot hmk
  have b3 := HS3.out.bel
  have k3 := HS3.out.key
  obtain ⟨m, hm⟩ : ∃ m, m = W3.heap.size := ⟨_, rfl⟩
  rw [← hm]
  obtain ⟨X, hX⟩ : ∃ X, X = W3.setCell ⟨b, 0, none⟩ (.map (some m)) := ⟨_, rfl⟩
  have hXs : X.heap.size = m := by rw [hX, hm]; simp
  have cX : X.cell? ⟨b, 0, none⟩ = some (.map (some m)) := by rw [hX]; exact World.cell?_setCell_same _ _ _ hc3
  have fX : X.frozen? ⟨b, 0, none⟩ = false := by rw [hX, frozen_setCell]; exact hfr3
  have kX : X.rangeAt w.heap.size 0 A := fun j v hv => by rw [hX, World.cell?_setCell_other _ _ _ _ (by intro e; injection e; omega)]; exact k3 j v hv
  have nX : (X.alloc (.map #[] 0)).heap[m]? = some (.map #[] 0) := by rw [← hXs]; exact (MapKept.heap_alloc X _).1
  have hbm : b ≠ m := by omega
  have hkm : w.heap.size ≠ m := by
    have := World.block_lt_of_cell? _ _ (k3 0 A[0] (List.getElem?_eq_getElem (by omega)))
    have h2 : w.heap.size < W3.heap.size := this
    omega
  rw [← hX]
  obtain ⟨W5, hW5⟩ : ∃ W5, W5 = X.alloc (.map #[] 0) := ⟨_, rfl⟩
  have hc5 : W5.drew.cell? ⟨b, 0, none⟩ = some (.map (some m)) := by rw [hW5]; exact (cell_new cX).trans cX
  have hk5 : W5.drew.rangeAt w.heap.size 0 A := by rw [hW5]; exact rng_new kX (Nat.zero_le _)
  have hf5 : W5.drew.frozen? ⟨b, 0, none⟩ = false := by
    have hXb : b < X.heap.size := by omega
    have : (X.alloc (.map #[] 0)).frozen? ⟨b, 0, none⟩ = X.frozen? ⟨b, 0, none⟩ := World.frozen?_alloc_past _ b 0 hXb
    rw [hW5]; exact this.trans fX
  have hn5 : W5.drew.heap[m]? = some (.map #[] 0) := by rw [hW5]; exact nX
  have le5 : w.heap.size ≤ m := by rw [hm]; exact b3.size
  rw [← hW5]
  obtain ⟨o, hr, hR⟩ := HU.out W5.drew m le5 hn5 hc5 hf5
  clear hn5 hf5 nX kX fX cX hXs k3
  refine wp_region_held_drew (S := KeyS b m w.heap.size A) (by kernel_rfl) ⟨hc5, hk5⟩ (fun hHeld => ?_)
  refine wpAnyH_take (i := 0) (oi := { dst := some 28, op := Go.Op.move (Go.Operand.tmp 0), type := 27, pos := "table.go:49", after := #[], guard := none }) (v := (.pointer (some ⟨b, 0, none⟩))) rfl (by kernel_rfl) (by kernel_rfl) (by kernel_rfl) (fun _ _ _ h => h) (Or.inl ⟨by rfl, fun w' hw' => by have q := hw'.cell; go_simp; try rfl⟩) hHeld ?_
  simp only [Act.put, List.setIfInBounds_toArray, List.set_cons_zero, List.set_cons_succ]
  refine wpAnyH_take (i := 1) (oi := { dst := some 29, op := Go.Op.nilCheck (Go.Operand.tmp 28), type := 0, pos := "table.go:49", after := #[{ on := 0, ground := Go.Ground.data }], guard := none }) (v := (.pointer (some ⟨b, 0, none⟩))) rfl (by kernel_rfl) (by kernel_rfl) (by kernel_rfl) (fun _ _ _ h => h) (Or.inl ⟨by rfl, fun w' hw' => by have q := hw'.cell; go_simp; try rfl⟩) hHeld ?_
  simp only [Act.put, List.setIfInBounds_toArray, List.set_cons_zero, List.set_cons_succ]
  refine wpAnyH_take (i := 2) (oi := { dst := some 30, op := Go.Op.fieldAddr 78 (Go.Operand.tmp 29) 0, type := 0, pos := "table.go:49", after := #[{ on := 1, ground := Go.Ground.data }], guard := none }) (v := (.pointer (some ⟨b, 0, none⟩))) rfl (by kernel_rfl) (by kernel_rfl) (by kernel_rfl) (fun _ _ _ h => h) (Or.inl ⟨by rfl, fun w' hw' => by have q := hw'.cell; go_simp; try rfl⟩) hHeld ?_
  simp only [Act.put, List.setIfInBounds_toArray, List.set_cons_zero, List.set_cons_succ]
  refine wpAnyH_take (i := 3) (oi := { dst := some 31, op := Go.Op.load 76 (Go.Operand.tmp 30), type := 76, pos := "table.go:49", after := #[{ on := 2, ground := Go.Ground.data }], guard := none }) (v := .map (some m)) rfl (by kernel_rfl) (by kernel_rfl) (by kernel_rfl) (fun _ _ _ h => h) (Or.inl ⟨by rfl, fun w' hw' => by have q := hw'.cell; go_simp; try rfl⟩) hHeld ?_
  simp only [Act.put, List.setIfInBounds_toArray, List.set_cons_zero, List.set_cons_succ]
  refine wpAnyH_take (i := 4) (oi := { dst := some 32, op := Go.Op.load 24 (Go.Operand.tmp 4), type := 24, pos := "table.go:49", after := #[], guard := none }) (v := .agg A.toArray) rfl (by kernel_rfl) (by kernel_rfl) (by kernel_rfl) (fun _ _ _ h => h) (yieldsIf_load_mid (by rfl) 24 (.tmp 4) rfl _ _ rfl A _ (fun w' h => h.key) und_hash rfl (by rw [hA]; exact info_hash)) hHeld ?_
  simp only [Act.put, List.setIfInBounds_toArray, List.set_cons_zero, List.set_cons_succ]
  refine wpAnyH_take (i := 5) (oi := { dst := some 33, op := Go.Op.load 24 (Go.Operand.tmp 4), type := 24, pos := "table.go:49", after := #[], guard := none }) (v := .agg A.toArray) rfl (by kernel_rfl) (by kernel_rfl) (by kernel_rfl) (fun _ _ _ h => h) (yieldsIf_load_mid (by rfl) 24 (.tmp 4) rfl _ _ rfl A _ (fun w' h => h.key) und_hash rfl (by rw [hA]; exact info_hash)) hHeld ?_
  simp only [Act.put, List.setIfInBounds_toArray, List.set_cons_zero, List.set_cons_succ]
  refine wpAnyH_take (i := 6) (oi := { dst := some 34, op := Go.Op.move (Go.Operand.tmp 2), type := 9, pos := "table.go:49", after := #[], guard := none }) (v := .string s) rfl (by kernel_rfl) (by kernel_rfl) (by kernel_rfl) (fun _ _ _ h => h) (Or.inl ⟨by rfl, fun w' hw' => by have q := hw'.cell; go_simp; try rfl⟩) hHeld ?_
  simp only [Act.put, List.setIfInBounds_toArray, List.set_cons_zero, List.set_cons_succ]
  refine wpAnyH_take (i := 7) (oi := { dst := some 35, op := Go.Op.build 86 #[(0, Go.Operand.tmp 33), (1, Go.Operand.tmp 34)], type := 86, pos := "table.go:49", after := #[{ on := 5, ground := Go.Ground.data }, { on := 6, ground := Go.Ground.data }], guard := none }) (v := .agg (A ++ [Value.string s]).toArray) rfl (by kernel_rfl) (by kernel_rfl) (by kernel_rfl) (fun _ _ _ h => h) (yields_build2 (by rfl) 86 (.tmp 33) (.tmp 34) rfl (.agg A.toArray) (.string s) rfl rfl _ (fun w' => build_entry A hA s w')) hHeld ?_
  simp only [Act.put, List.setIfInBounds_toArray, List.set_cons_zero, List.set_cons_succ]
  refine wpAnyH_ready (rs := [8]) (by kernel_rfl) (by simp) ?_
  refine AllReadyH.cons rfl (fun K hK => ?_) AllReadyH.nil
  rw [if_pos (by rfl)]
  refine wp_mapUpdate 76 (.tmp 31) (.tmp 32) (.tmp 35) rfl (.map (some m)) (.agg A.toArray) (.agg (A ++ [Value.string s]).toArray) rfl rfl rfl hr ?_
  refine hK.out _ _ ⟨tsetBlock_cell _ _ _ hbm (by exact hc5), setBlock_range _ _ _ hkm (by exact hk5)⟩ (fun hHeld2 => ?_)
  clear hK K
  refine wpAnyH_done (by kernel_rfl) ?_ _
  obtain ⟨W6, hW6⟩ : ∃ W6, W6 = setBlock W5.drew m o := ⟨_, rfl⟩
  rw [← hW6]
  have FIN := Box.mk (show ∃ m W o, W.heap.size = m ∧ R W6 m ∧ Below w.heap.size w W ∧ W6 = setBlock ((W.setCell ⟨b, 0, none⟩ (.map (some m))).alloc (.map #[] 0)).drew m o from ⟨m, W3, o, hm.symm, by rw [hW6]; exact hR, b3, by rw [hW6, hW5, hX]⟩)
  clear hW6 hHeld hHeld2 hr hR hc5 hk5 hc3 b3 hW5 hX HU HS3
  go_wp2
  go_ret
  exact ⟨rfl, FIN.out⟩
end Go.Proofs.YtacfdnjdjgdbcaaGreatDoor
namespace Go.Proofs.YtacfdnjdjgdbcaaGreatDoor
set_option maxRecDepth 100000
open Go.RowKit Go.Maps Go.Sort Go.ChangeMaps M

theorem Tab.keep {w W : World} {b : Nat} {mo : Option Nat} {l : List Ent} (h : Tab w b mo l) (hb : W.heap[b]? = w.heap[b]?) (hm : ∀ m, mo = some m → W.heap[m]? = w.heap[m]?) : Tab W b mo l :=
  ⟨(tcell_keep (a := ⟨b, 0, none⟩) hb).trans h.cell, (World.frozen?_of_block (a := ⟨b, 0, none⟩) hb).trans h.fr, h.empt, fun m e => ⟨(h.mapd m e).1, (h.mapd m e).2.keep (hm m e)⟩⟩
theorem Tab.below {w W : World} {b : Nat} {mo : Option Nat} {l : List Ent} (h : Tab w b mo l) (hb : Below w.heap.size w W) : Tab W b mo l :=
  h.keep (hb.block b h.lt) (fun m e => hb.block m (h.mapd m e).2.lt)
theorem Tab.uniq {w : World} {b : Nat} {mo : Option Nat} {l : List Ent} (h : Tab w b mo l) : ∀ x ∈ l, ∀ y ∈ l, kkE x = kkE y → x = y := by
  cases mo with
  | none => rw [h.empt rfl]; intro x hx; simp at hx
  | some m => exact (h.mapd m rfl).2.uniq
theorem encE_one (x : Ent) : ∀ v ∈ encE x, v.oneCell' = true := fun v hv => by
  rcases List.mem_append.1 hv with h | h
  · exact byts_one _ v h
  · simp at h; rw [h]; rfl
theorem encE_last (x : Ent) : (encE x)[32]? = some (.string x.text) := by
  unfold encE
  rw [List.getElem?_append_right (by rw [byts_length, x.kl]; omega), byts_length, x.kl]
  rfl
theorem setBlock_sz (w : World) (b : Nat) (o : Obj) : (setBlock w b o).heap.size = w.heap.size := by simp [setBlock]
def zeroE : List Value := List.replicate 32 (Value.int .u8 0) ++ [Value.string ⟨#[]⟩]
theorem zeroE_one : ∀ v ∈ zeroE, v.oneCell' = true := fun v hv => by
  rcases List.mem_append.1 hv with h | h
  · rw [List.eq_of_mem_replicate h]; rfl
  · simp at h; rw [h]; rfl
theorem Tab.boxed {w : World} {b : Nat} {mo : Option Nat} {l : List Ent} (h : Tab w b mo l) (x : Obj) : (w.alloc x).cell? ⟨b, 0, none⟩ = some (.map mo) := (cell_new h.cell).trans h.cell
theorem Tab.look_there {w : World} {b : Nat} {mo : Option Nat} {l : List Ent} (h : Tab w b mo l) {x y : Ent} (hy : y ∈ l) (e : kkE y = kkE x) (W : World) (hb : Below w.heap.size w W) :
    (Instr.lookup 76 (.map mo) (.agg (byts x.key).toArray) true).run Tryz.prog W = .ok (.tuple #[.agg (encE y).toArray, .bool true]) W := by
  rcases (h.below hb).look x with ⟨hn, _⟩ | ⟨z, hz, ez, hr⟩
  · exact absurd e (hn y hy)
  · rw [h.uniq y hy z hz (e.trans ez.symm)]; exact hr
theorem Tab.look_none {w : World} {b : Nat} {mo : Option Nat} {l : List Ent} (h : Tab w b mo l) {x : Ent} (ha : ∀ y ∈ l, kkE y ≠ kkE x) (W : World) (hb : Below w.heap.size w W) :
    (Instr.lookup 76 (.map mo) (.agg (byts x.key).toArray) true).run Tryz.prog W = .ok (.tuple #[.agg zeroE.toArray, .bool false]) W := by
  rcases (h.below hb).look x with ⟨_, hr⟩ | ⟨z, hz, ez, _⟩
  · exact hr
  · exact absurd ez (ha z hz)

theorem get_there (b : Nat) (mo : Option Nat) (l : List Ent) (x y : Ent) (w : World) (h : Tab w b mo l) (hy : y ∈ l) (e : kkE y = kkE x) :
    Calls Tryz.prog 31 #[.pointer (some ⟨b, 0, none⟩), ekE x] w fun e w' => e = .returned (.tuple #[.string y.text, .bool true]) ∧ Below w.heap.size w w' :=
  getX_any b mo (byts x.key) (encE y) true w (by rw [byts_length, x.kl]) (encE_len y) (encE_one y) y.text (encE_last y) (h.boxed _) (h.look_there hy e)
theorem get_none (b : Nat) (mo : Option Nat) (l : List Ent) (x : Ent) (w : World) (h : Tab w b mo l) (ha : ∀ y ∈ l, kkE y ≠ kkE x) :
    Calls Tryz.prog 31 #[.pointer (some ⟨b, 0, none⟩), ekE x] w fun e w' => e = .returned (.tuple #[.string ⟨#[]⟩, .bool false]) ∧ Below w.heap.size w w' :=
  getX_any b mo (byts x.key) zeroE false w (by rw [byts_length, x.kl]) (by decide) zeroE_one ⟨#[]⟩ rfl (h.boxed _) (h.look_none ha)
theorem put_there (b : Nat) (mo : Option Nat) (l : List Ent) (x y : Ent) (w : World) (h : Tab w b mo l) (hy : y ∈ l) (e : kkE y = kkE x) :
    Calls Tryz.prog 30 #[.pointer (some ⟨b, 0, none⟩), ekE x, .string x.text] w fun e w' => e = .returned (.bool false) ∧ Below w.heap.size w w' :=
  putX_any b mo (byts x.key) x.text (encE y) w (by rw [byts_length, x.kl]) (encE_len y) (encE_one y) (h.boxed _) (h.look_there hy e)
theorem TExt.set {w W : World} {b m : Nat} {mo : Option Nat} (hb : Below w.heap.size w W) (o : Obj) (hm : mo = some m ∨ w.heap.size ≤ m) (hmo : mo = none ∨ mo = some m) (hl : mo = none → w.heap.size ≤ m) : TExt b mo (some m) w (setBlock W m o) := by
  refine ⟨hb.os, hb.tape, hb.output, by rw [setBlock_sz]; exact hb.size, fun k hk hkb hkm => ?_, ?_⟩
  · have hne : k ≠ m := by
      rcases hm with e | e
      · intro e2; rw [e, e2] at hkm; exact hkm rfl
      · omega
    rw [setBlock_other W m o hne]; exact hb.block k hk
  · rcases hmo with e | e
    · exact .inr fun k e2 => by injection e2 with e2; rw [← e2]; exact hl e
    · exact .inl e.symm
theorem put_new (b : Nat) (mo : Option Nat) (l : List Ent) (x : Ent) (w : World) (h : Tab w b mo l) (ha : ∀ y ∈ l, kkE y ≠ kkE x) (hroom : l.length + 1 < maxLen) :
    Calls Tryz.prog 30 #[.pointer (some ⟨b, 0, none⟩), ekE x, .string x.text] w fun e w' => e = .returned (.bool true) ∧ ∃ mo', Tab w' b mo' (x :: l) ∧ TExt b mo mo' w w' := by
  cases hmo : mo with
  | some m =>
    obtain ⟨hmb, hM⟩ := h.mapd m hmo
    have c := putS_any b m (byts x.key) x.text zeroE w (by rw [byts_length, x.kl]) (by decide) zeroE_one hmb.symm hM.lt (fun W => Tab W b (some m) (x :: l)) (by have := h.boxed (.cells (byts x.key).toArray 24); rw [hmo] at this; exact this) (by have := h.look_none ha; rw [hmo] at this; exact this)
      (fun W hb => by
        have hW := h.below hb
        obtain ⟨o, hr, hp⟩ := (hM.keep (hb.block m hM.lt)).push codedE Tryz.underlying76 x ha hroom
        refine ⟨o, hr, tsetBlock_cell _ _ _ hmb.symm (by have := hW.cell; rw [hmo] at this; exact this), ?_, (fun e => by cases e), fun k e => ?_⟩
        · rw [World.frozen?_of_block (a := ⟨b, 0, none⟩) (setBlock_other W m o hmb.symm)]; exact hW.fr
        · injection e with e; subst e; exact ⟨hmb, hp⟩)
    exact c.mono fun e w' ⟨he, hT, W, o, hb, hw⟩ => ⟨he, some m, hT, by rw [hw]; exact TExt.set hb o (.inl rfl) (.inr rfl) (fun e => by cases e)⟩
  | none =>
    have hl := h.empt hmo
    subst hl
    have c := putN_any b mo hmo (byts x.key) x.text zeroE w (by rw [byts_length, x.kl]) (by decide) zeroE_one h.lt h.fr (fun W m => Tab W b (some m) [x]) (h.boxed _) (h.look_none ha)
      (fun W m hm hn hc hf => by
        have hmb : m ≠ b := by have := h.lt; omega
        have hM : MapE W m [] := ⟨⟨#[], 0, hn, MapKept.stamped_empty 0, by simp⟩, by simp, by simp [maxLen]⟩
        obtain ⟨o, hr, hp⟩ := hM.push codedE Tryz.underlying76 x ha hroom
        refine ⟨o, hr, tsetBlock_cell _ _ _ hmb.symm hc, ?_, (fun e => by cases e), fun k e => ?_⟩
        · rw [World.frozen?_of_block (a := ⟨b, 0, none⟩) (setBlock_other W m o hmb.symm)]; exact hf
        · injection e with e; subst e; exact ⟨hmb, hp⟩)
    refine c.mono fun e w' ⟨he, m, W, o, hm, hT, hb, hw⟩ => ⟨he, some m, hT, ?_⟩
    rw [hw]
    have o1 : Onl b W (W.setCell ⟨b, 0, none⟩ (.map (some m))) := (Onl.refl b W).setCell 0 _
    have hs : (W.setCell ⟨b, 0, none⟩ (.map (some m))).heap.size = m := by rw [← hm]; simp
    refine ⟨o1.os.trans hb.os, o1.tape.trans hb.tape, o1.output.trans hb.output, by rw [setBlock_sz]; have := hb.size; simp; omega, fun k hk hkb _ => ?_, .inr fun k e => by injection e with e; have := hb.size; omega⟩
    have h1 := hb.size
    rw [setBlock_other _ m o (by omega)]
    have h2 : ((W.setCell ⟨b, 0, none⟩ (.map (some m))).alloc (.map #[] 0)).heap[k]? = (W.setCell ⟨b, 0, none⟩ (.map (some m))).heap[k]? := ((Below.refl _ _).alloc (Nat.le_refl _) _).block k (by omega)
    exact h2.trans ((o1.block k (by omega) hkb).trans (hb.block k hk))
end Go.Proofs.YtacfdnjdjgdbcaaGreatDoor
namespace Go.Proofs.YtacfdnjdjgdbcaaGreatDoor
set_option maxRecDepth 100000
open Go.RowKit Go.Maps Go.Sort M
attribute [local go_sem] Oper.semAt_some

section
variable {F : Fence} {n : Nat} {P : Program} {ops : Array Oper} {Q : Exit → Act → World → Prop} {rest : List Oper} {a : Act} {w : World}
theorem ati_store (T : TypeId) (x y : Operand) {dst : Option Tmp} {ty : TypeId} {pos : String} {after : Array Edge} {guard : Option (Nat × Bool)}
    (h : wpListIn F n P ops Q (⟨dst, .store T x y, ty, pos, after, guard⟩ :: rest) a w) : wpListIn F n P ops Q (⟨dst, .store T x y, ty, pos, after, guard⟩ :: rest) a w := h
theorem ati_load (T : TypeId) (x : Operand) {dst : Option Tmp} {ty : TypeId} {pos : String} {after : Array Edge} {guard : Option (Nat × Bool)}
    (h : wpListIn F n P ops Q (⟨dst, .load T x, ty, pos, after, guard⟩ :: rest) a w) : wpListIn F n P ops Q (⟨dst, .load T x, ty, pos, after, guard⟩ :: rest) a w := h
theorem wpListIn_store_mid {op : Oper} (hgd : op.guard = none) (ty : TypeId) (x y : Operand) (ho : op.op = .store ty x y) (b o : Nat) (cells : Array Value) (hx : a.eval x = .pointer (some ⟨b, o, none⟩)) (hy : a.eval y = .agg cells)
    (ht : w.there b o cells.size) (hi : (P.info? ty).map (·.size) = some cells.size) (h1 : cells.all (·.oneCell') = true)
    (h : wpListIn F n P ops Q rest (a.put op.dst undef) (w.setCells b o cells.toList)) : wpListIn F n P ops Q (op :: rest) a w := by
  refine wpListIn_plain hgd fun K' hK' => ?_
  unfold Oper.wpIn
  refine ⟨by simp [Oper.about, ho], ?_⟩
  rw [Oper.semAt_plain F _ _ (by rw [ho]; intro c hc'; cases hc')]
  unfold execOp
  simp only [ho, hx, hy, Instr.storeAt, Instr.sureAddr, Sem.run_bind, Sem.run_pure, Result.andThen_ok, run_storeVar_mid w b o ty cells ht hi h1]
  exact hK' _ _ h
theorem wpListIn_load_mid {op : Oper} (hgd : op.guard = none) (ty : TypeId) (x : Operand) (ho : op.op = .load ty x) (b o : Nat) (hx : a.eval x = .pointer (some ⟨b, o, none⟩)) (cs : List Value) (d : TypeDesc) (hc : w.rangeAt b o cs)
    (hu : P.underlying ty = some d) (hd : d.isRow = true) (hi : (P.info? ty).map (·.size) = some cs.length)
    (h : wpListIn F n P ops Q rest (a.put op.dst (.agg cs.toArray)) w) : wpListIn F n P ops Q (op :: rest) a w := by
  refine wpListIn_plain hgd fun K' hK' => ?_
  unfold Oper.wpIn
  refine ⟨by simp [Oper.about, ho], ?_⟩
  rw [Oper.semAt_plain F _ _ (by rw [ho]; intro c hc'; cases hc')]
  unfold execOp
  simp only [ho, hx, Instr.loadAt, Instr.sureAddr, Sem.run_bind, Sem.run_pure, Result.andThen_ok, run_loadVar_mid w b o ty cs d hc hu hd hi]
  exact hK' _ _ h
end
theorem und_entry : ∃ d, Tryz.prog.underlying 86 = some d ∧ d.isRow = true := ⟨_, Tryz.underlying86, rfl⟩

theorem fillE (w : World) (T : TypeId) (Z : Array Value) (cs : List Value) (h : Z.size = cs.length) : (w.alloc (.cells Z T)).setCells w.heap.size 0 cs = w.alloc (.cells cs.toArray T) := by
  have go : ∀ (cs : List Value) (p z : List Value), z.length = cs.length → (w.alloc (.cells (p ++ z).toArray T)).setCells w.heap.size p.length cs = w.alloc (.cells (p ++ cs).toArray T) := by
    intro cs
    induction cs with
    | nil => intro p z hz; rw [List.eq_nil_of_length_eq_zero hz]; rfl
    | cons c cs ih =>
      intro p z hz
      cases z with
      | nil => simp at hz
      | cons y z =>
        rw [World.setCells, World.setCell_alloc_new]
        have e : (p ++ y :: z).toArray.set! p.length c = ((p ++ [c]) ++ z).toArray := by simp
        have e2 := ih (p ++ [c]) z (by simpa using hz)
        rw [List.length_append] at e2
        simp only [List.append_assoc, List.singleton_append, List.length_singleton] at e2
        simp_all
  have := go cs [] Z.toList (by simpa using h)
  simpa using this

set_option maxRecDepth 100000 in
set_option maxHeartbeats 1000000 in
/-- the iterator over the values of a map, whatever is done with them -/
theorem tvals_in (F : Fence) (n : Nat) (hf : F.fn 91) (hro : F.round = none) (hn : 1 ≤ n) (ly Bm b : Nat) (l : List Ent) (J Jx : List Ent → World → Prop)
    (hY : ∀ pre x W, J pre W → pre.length < l.length → YieldAt F (n - 1) Tryz.prog ly #[evE x] W fun e W' =>
      (e = .returned (.bool true) ∧ J (pre ++ [x]) W' ∧ KeepsWalks W W') ∨ (e = .returned (.bool false) ∧ Jx (pre ++ [x]) W'))
    (W : World) (hJ : AbidesFrom W.heap.size J) (hm : W.cell? ⟨Bm, 0, none⟩ = some (.map (some b))) (hmap : MapE W b l) (h0 : J [] W) :
    CallsIn F n Tryz.prog 91 #[.func (.yield ly) #[] #[], .pointer (some ⟨Bm, 0, none⟩)] W fun e W' => (∃ v, e = .returned v) ∧
      ((∃ xs, xs.Perm l ∧ J xs W') ∨ (∃ pre, True ∧ Jx pre W')) := by
  obtain ⟨D0, hown⟩ := hmap.owns (H := Unit) codedE
  have hsz : Maps.size D0 ≤ l.length := hown.size_le
  refine callsIn_of_wp Tryz.func91 rfl hf ?_ hro
  simp only [Tryz.ntmps91, List.size_toArray, List.length_cons, List.length_nil, Nat.reduceAdd, Nat.reduceSub, Array.replicate_succ, Array.replicate_zero, List.push_toArray, List.append_toArray, List.nil_append, List.cons_append]
  gi_wp2_with (first
    | (gi_at_range; refine wpListIn_range_own _ rfl _ 76 rfl 24 86 codedE.keyed Tryz.underlying76 _ b l.length _ rfl hown ?_; intro w0 hrg0 hg0 hs0)
    | gi_in)
  go_frame
  gi_loopw [4] (fun _ wr => ∃ (left : Lit → Bool) (cnt : Nat) (ps : List Ent), wr.ranges Tryz.prog 24 (rdG (H := Unit) evE ccE) b W.heap.size l.length D0 left cnt ∧ ps.length + cnt ≤ Maps.size D0 ∧ Collected D0 left (ps.map kkE) ∧ (∀ p ∈ ps, p ∈ l) ∧ J ps wr)
    (fun _ wr => wr.rangeLeft b W.heap.size)
  case atStart =>
    exact ⟨_, _, [], hrg0, by simp, Collected.start D0, by simp, hJ [] W w0 none h0 hg0 (fun r e => by cases e)⟩
  case round =>
    obtain ⟨left, cnt, ps, hrg, hcs, hC, hV, hJs⟩ := hrel
    gi_wp2_with (first
      | (gi_at_next; refine wpListIn_next_ranges _ rfl _ rfl 24 codedE.keyed (rdG (H := Unit) evE ccE) id id (fun key kl hk => ⟨key, rfl⟩) (fun v y hv => ⟨v, rfl⟩) b W.heap.size l.length _ _ _ rfl hrg ?_ ?_)
      | gi_in)
    · intro _ hl0
      gi_wp2
      go_end0
      exact ⟨⟨_, rfl⟩, .inl ⟨_, hmap.all_come codedE hown Tryz.underlying76 (zero_entry W) hC hl0 hV, hJs⟩⟩
    · intro x c kl yd yp w2 cnt2 hkey hlk hv hat hrg2 hlt hg2 hs2 hen
      obtain ⟨p, hp, ex, ec, rfl⟩ := hmap.entry codedE hown Tryz.underlying76 (zero_entry W) hkey hv hat
      have ex : x = ekE p := ex
      have ec : c = evE p := ec
      subst ex; subst ec
      have hJ2 : J ps w2 := hJ _ wr w2 (some W.heap.size) hJs hg2 (fun r e => by cases e; exact ⟨Nat.le_refl _, hrg.iter_walk⟩)
      obtain ⟨W3, hW3⟩ : ∃ W3, W3 = w2.alloc (.cells (encE p).toArray 86) := ⟨_, rfl⟩
      have hJ3 : J ps W3 := by rw [hW3]; exact hJ _ w2 _ none hJ2 (World.grownBy_alloc w2 _ none) (fun r e => by cases e)
      have hrg3 := hrg2.alloc (.cells (encE p).toArray 86)
      rw [← hW3] at hrg3
      have hr3 : W3.rangeAt w2.heap.size 0 (encE p) := by rw [hW3]; exact range_new _ _ _ _ rfl
      obtain ⟨fn, tmps, assign, body, hy, hR⟩ := hY ps p W3 hJ3 (by omega)
      have ht : ∀ Z : Array Value, Z.size = 33 → (w2.alloc (.cells Z 86)).there w2.heap.size 0 33 := fun Z hZ => by
        have := there_new w2 86 Z.toList w2.heap.size 0 33 rfl (by simp [hZ])
        simpa using this
      obtain ⟨du, hu, hdu⟩ := und_entry
      clear hs2
      have hen2 : (Instr.entry (.pointer (some ⟨W.heap.size, 0, none⟩))).run Tryz.prog w2 = .ok (.tuple #[ekE p, .agg (encE p).toArray]) w2 := hen
      unfold evE at hy
      have HW3 := Box.mk hW3
      clear hen hW3
      gi_wp2_with (first
        | ((with_reducible refine ati_store 86 (.tmp 4) (.tmp 10) ?_); refine wpListIn_store_mid rfl 86 (.tmp 4) (.tmp 10) rfl w2.heap.size 0 (encE p).toArray rfl rfl (by have e : (encE p).toArray.size = 33 := (by simp [encE_len]); rw [e]; exact ht _ rfl) (by have e : (encE p).toArray.size = 33 := (by simp [encE_len]); rw [e]; exact info_entry) (all_oneCell_toArray (encE_one p)) ?_; rw [show (w2.alloc _).setCells w2.heap.size 0 (encE p).toArray.toList = W3 from (by rw [HW3.out]; exact fillE w2 _ _ _ (by simp [encE_len]))])
        | ((with_reducible refine ati_load 86 (.tmp 4) ?_); refine wpListIn_load_mid rfl 86 (.tmp 4) rfl w2.heap.size 0 rfl (encE p) du hr3 hu hdu (by rw [encE_len]; exact info_entry) ?_)
        | gi_in)
      refine hR.mono ?_
      have hC2 : Collected D0 (fun z => left z && !z.sameKey (.string (kkE p))) ((ps ++ [p]).map kkE) := by simpa using hC.step hlk hat
      have hV2 : ∀ q ∈ ps ++ [p], q ∈ l := fun q hq => (List.mem_append.1 hq).elim (hV q) (fun e => by simp at e; subst e; exact hp)
      rintro e W4 (⟨rfl, hJ4, hk4⟩ | ⟨rfl, hJx4⟩)
      · gi_wp2
        have hrg4 := hrg3.of_walks hk4
        go_roundw
        case rel => exact ⟨_, cnt2, ps ++ [p], hrg4, by simp; omega, hC2, hV2, hJ4⟩
        case measure => rw [hrg4.left_eq, hrg.left_eq]; exact hlt
      · gi_wp2
        refine bodyPost_ret (results_none rfl _ _ _) rfl ?_
        exact ⟨⟨_, rfl⟩, .inr ⟨_, trivial, hJx4⟩⟩
end Go.Proofs.YtacfdnjdjgdbcaaGreatDoor
