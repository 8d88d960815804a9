/- Contracts of tables: Put. -/
import Derived.Test.YtpinpplbjgbkaaaDoorTabB
namespace Go.Proofs.YtpinpplbjgbkaaaDoor
set_option maxRecDepth 100000
open Go.RowKit Go.Maps Go.Sort Go.ChangeMaps M

theorem list32 : ∀ (A : List Value), A.length = 32 → ∃ a0 a1 a2 a3 a4 a5 a6 a7 a8 a9 a10 a11 a12 a13 a14 a15 a16 a17 a18 a19 a20 a21 a22 a23 a24 a25 a26 a27 a28 a29 a30 a31, A = [a0, a1, a2, a3, a4, a5, a6, a7, a8, a9, a10, a11, a12, a13, a14, a15, a16, a17, a18, a19, a20, a21, a22, a23, a24, a25, a26, a27, a28, a29, a30, a31]
  | [a0, a1, a2, a3, a4, a5, a6, a7, a8, a9, a10, a11, a12, a13, a14, a15, a16, a17, a18, a19, a20, a21, a22, a23, a24, a25, a26, a27, a28, a29, a30, a31], _ => ⟨a0, a1, a2, a3, a4, a5, a6, a7, a8, a9, a10, a11, a12, a13, a14, a15, a16, a17, a18, a19, a20, a21, a22, a23, a24, a25, a26, a27, a28, a29, a30, a31, rfl⟩
theorem build_entry (A : List Value) (hA : A.length = 32) (s : ByteArray) (w : World) : (Instr.build 69 #[(0, .agg A.toArray), (1, .string s)]).run Tryd.prog w = .ok (.agg (A ++ [Value.string s]).toArray) w := by
  obtain ⟨a0, a1, a2, a3, a4, a5, a6, a7, a8, a9, a10, a11, a12, a13, a14, a15, a16, a17, a18, a19, a20, a21, a22, a23, a24, a25, a26, a27, a28, a29, a30, a31, rfl⟩ := list32 A hA
  exact run_build w _ _ _ (by kernel_rfl)
theorem setBlock_other (w : World) (b : Nat) (o : Obj) {i : Nat} (h : i ≠ b) : (setBlock w b o).heap[i]? = w.heap[i]? := by
  unfold setBlock
  rw [Array.getElem?_setIfInBounds_ne (by omega)]
theorem tcell_keep {w w' : World} {a : Addr} (h : w'.heap[a.block]? = w.heap[a.block]?) : w'.cell? a = w.cell? a := by unfold World.cell?; rw [h]
theorem map_isnt (m : Nat) (W : World) : (binOp .eql 38 (.map (some m)) (.map none)).run Tryd.prog W = .ok (.bool false) W := by kernel_rfl
theorem map_is (W : World) : (binOp .eql 38 (.map none) (.map none)).run Tryd.prog W = .ok (.bool true) W := by kernel_rfl
theorem setBlock_cell (w : World) (b : Nat) (o : Obj) {a : Addr} {v : Value} (h : a.block ≠ b) (hc : w.cell? a = some v) : (setBlock w b o).cell? a = some v := by
  rw [← hc]
  exact tcell_keep (a := a) (setBlock_other w b o h)
theorem setBlock_range (w : World) (b : Nat) (o : Obj) {c f : Nat} {cs : List Value} (h : c ≠ b) (hc : w.rangeAt c f cs) : (setBlock w b o).rangeAt c f cs := fun j v hv => setBlock_cell w b o h (hc j v hv)
theorem wp_mapUpdate {op : Oper} {a : Act} {w w' : World} {K : Act → World → Prop} {Q : Exit → Act → World → Prop} (t : TypeId) (m x v : Operand) (ho : op.op = .mapUpdate t m x v) (vm vx vv : Value) (hm : a.eval m = vm) (hx : a.eval x = vx) (hv : a.eval v = vv)
    (hr : (Instr.mapUpdate t vm vx vv).run Tryd.prog w = .ok () w') (h : K (a.put op.dst undef) w') : op.wp Tryd.prog a w K Q := by
  unfold Oper.wp execOp
  simp only [ho, hm, hx, hv, Sem.run_bind, Sem.run_pure, hr, Result.andThen_ok]
  exact h
theorem yields_build2 {ops : Array Oper} {S : World → Prop} {op : Oper} {a : Act} (hw : Region.wanted op (yielded ops a.tmps) = true) (t : TypeId) (x y : Operand) (ho : op.op = .build t #[(0, x), (1, y)]) (vx vy : Value) (hx : a.eval x = vx) (hy : a.eval y = vy) (r : Value)
    (hr : ∀ w, (Instr.build t #[(0, vx), (1, vy)]).run Tryd.prog w = .ok r w) : YieldsIf Tryd.prog ops S op r a :=
  .inl ⟨hw, fun w' _ => by
    unfold execOp
    simp [ho, hx, hy, hr w']⟩

/-- what Put changes: the table's cell and its map alone of the old blocks -/
structure TExt (b : Nat) (mo mo' : Option Nat) (w w' : World) : Prop where
  os : w'.os = w.os
  tape : w'.tape = w.tape
  output : w'.output = w.output
  size : w.heap.size ≤ w'.heap.size
  block : ∀ k, k < w.heap.size → k ≠ b → mo ≠ some k → w'.heap[k]? = w.heap[k]?
  lies : mo' = mo ∨ ∀ k, mo' = some k → w.heap.size ≤ k

set_option maxHeartbeats 1000000 in
theorem putX_any (b : Nat) (mo : Option Nat) (A : List Value) (s : ByteArray) (cs : List Value) (w : World) (hA : A.length = 32) (hcs : cs.length = 33) (hc1 : ∀ v ∈ cs, v.oneCell' = true)
    (hc : (w.alloc (.cells A.toArray 24)).cell? ⟨b, 0, none⟩ = some (.map mo))
    (hl : ∀ W, Below w.heap.size w W → (Instr.lookup 38 (.map mo) (.agg A.toArray) true).run Tryd.prog W = .ok (.tuple #[.agg cs.toArray, .bool true]) W) : Calls Tryd.prog 12 #[.pointer (some ⟨b, 0, none⟩), .agg A.toArray, .string s] w fun e w' => e = .returned (.bool false) ∧ Below w.heap.size w w' := by
  have hb : Below w.heap.size w (w.alloc (.cells A.toArray 24)) := (Below.refl _ _).alloc (Nat.le_refl _) _
  obtain ⟨W1, hW1⟩ : ∃ W1, W1 = w.alloc (.cells A.toArray 24) := ⟨_, rfl⟩
  have hk : W1.rangeAt w.heap.size 0 A := by rw [hW1]; exact range_new _ _ _ _ rfl
  rw [← hW1] at hc hb
  have HL := Box.mk hl
  clear hl
  go_enter Tryd.func12, Tryd.ntmps12
  go_upto_region 1 with fail
  rw [← hW1]
  clear hW1
  refine wp_region_held_drew (S := LookS w b mo w.heap.size A) (by kernel_rfl) ⟨hc, hk, hb.drew⟩ (fun hHeld => ?_)
  refine wpAnyH_take (i := 0) (v := (.pointer (some ⟨b, 0, none⟩))) rfl (by kernel_rfl) (by kernel_rfl) (by kernel_rfl) (fun _ _ _ h => h) (Or.inl ⟨by rfl, fun w' hw' => by have q := hw'.cell; go_simp; try rfl⟩) hHeld ?_
  refine wpAnyH_take (i := 1) (v := (.pointer (some ⟨b, 0, none⟩))) rfl (by kernel_rfl) (by kernel_rfl) (by kernel_rfl) (fun _ _ _ h => h) (Or.inl ⟨by rfl, fun w' hw' => by have q := hw'.cell; go_simp; try rfl⟩) hHeld ?_
  refine wpAnyH_take (i := 2) (v := (.pointer (some ⟨b, 0, none⟩))) rfl (by kernel_rfl) (by kernel_rfl) (by kernel_rfl) (fun _ _ _ h => h) (Or.inl ⟨by rfl, fun w' hw' => by have q := hw'.cell; go_simp; try rfl⟩) hHeld ?_
  refine wpAnyH_take (i := 3) (v := .map mo) rfl (by kernel_rfl) (by kernel_rfl) (by kernel_rfl) (fun _ _ _ h => h) (Or.inl ⟨by rfl, fun w' hw' => by have q := hw'.cell; go_simp; try rfl⟩) hHeld ?_
  refine wpAnyH_take (i := 4) (v := .agg A.toArray) rfl (by kernel_rfl) (by kernel_rfl) (by kernel_rfl) (fun _ _ _ h => h) (yieldsIf_load_mid (by rfl) 24 (.tmp 4) rfl _ _ rfl A _ (fun w' h => h.key) und_hash rfl (by rw [hA]; exact info_hash)) hHeld ?_
  refine wpAnyH_take (i := 5) (v := .tuple #[.agg cs.toArray, .bool true]) rfl (by kernel_rfl) (by kernel_rfl) (by kernel_rfl) (fun _ _ _ h => h) (yields_lookup (by rfl) 38 (.tmp 13) (.tmp 14) rfl (.map mo) (.agg A.toArray) _ rfl rfl (fun w' h => HL.out _ h.bel)) hHeld ?_
  refine wpAnyH_take (i := 6) (v := .tuple #[.agg cs.toArray, .bool true]) rfl (by kernel_rfl) (by kernel_rfl) (by kernel_rfl) (fun _ _ _ h => h) (Or.inl ⟨by rfl, fun w' hw' => by have q := hw'.cell; go_simp; try rfl⟩) hHeld ?_
  refine wpAnyH_take (i := 7) (v := .agg cs.toArray) rfl (by kernel_rfl) (by kernel_rfl) (by kernel_rfl) (fun _ _ _ h => h) (Or.inl ⟨by rfl, fun w' hw' => by have q := hw'.cell; go_simp; try rfl⟩) hHeld ?_
  refine wpAnyH_take (i := 8) (v := .bool true) rfl (by kernel_rfl) (by kernel_rfl) (by kernel_rfl) (fun _ _ _ h => h) (Or.inl ⟨by rfl, fun w' hw' => by have q := hw'.cell; go_simp; try rfl⟩) hHeld ?_
  refine wpAnyH_ready (rs := [9]) (by kernel_rfl) (by simp) ?_
  refine AllReadyH.cons rfl (fun K hK => ?_) AllReadyH.nil
  go_simp
  refine hK.out _ _ ⟨(cell_new hHeld.cell).trans hHeld.cell, rng_new hHeld.key (Nat.zero_le _), hHeld.bel.trans (((Below.refl W1.heap.size W1.drew).alloc (Nat.le_refl _) _).mono hb.size)⟩ (fun hHeld => ?_)
  clear hK K
  revert hHeld
  generalize hg : World.drew _ = W2
  intro hHeld
  have ht : W2.there W1.heap.size 0 33 := by rw [← hg]; exact there_new W1.drew 69 (List.replicate 32 (Value.int .u8 0) ++ [Value.string ⟨#[]⟩]) W1.heap.size 0 33 rfl (by decide)
  have hz2 : W2.heap.size = W1.heap.size + 1 := by rw [← hg]; simp
  clear hg
  refine wpAnyH_ready (rs := [10]) (by kernel_rfl) (by simp) ?_
  refine AllReadyH.cons rfl (fun K hK => ?_) AllReadyH.nil
  rw [if_pos (by rfl)]
  refine wp_store_mid 69 (.tmp 7) (.tmp 16) rfl W1.heap.size 0 cs.toArray rfl rfl (by have e : cs.toArray.size = 33 := (by simp [hcs]); rw [e]; exact ht) (by have e : cs.toArray.size = 33 := (by simp [hcs]); rw [e]; exact info_entry) (all_oneCell_toArray hc1) ?_
  have hb3 := below_setCells (B := w.heap.size) (b := W1.heap.size) hb.size cs 0 w _ hHeld.bel
  have hs3 : LookS w b mo w.heap.size A (W2.setCells W1.heap.size 0 cs) := by
    refine ⟨?_, ?_, hb3⟩
    · rw [World.cell?_setCells_out W1.heap.size cs 0 W2 ⟨b, 0, none⟩ (fun e _ => absurd e (by have := World.block_lt_of_cell? _ _ hc; show b ≠ _; omega))]; exact hHeld.cell
    · exact World.rangeAt_setCells_apart hHeld.key _ _ _ (.inl (by have := World.block_lt_of_cell? _ _ (hk 0 A[0] (List.getElem?_eq_getElem (by omega))); show w.heap.size ≠ _; have h2 : w.heap.size < W1.heap.size := this; omega))
  refine hK.out _ _ hs3 (fun hHeld3 => ?_)
  clear hK K
  refine wpAnyH_take (i := 11) (v := .bool true) rfl (by kernel_rfl) (by kernel_rfl) (by kernel_rfl) (fun _ _ _ h => h) (Or.inl ⟨by rfl, fun w' hw' => by go_simp; try rfl⟩) hHeld3 ?_
  refine wpAnyH_done (by kernel_rfl) ?_ _
  have HS3 := Box.mk hs3
  generalize World.setCells W2 W1.heap.size 0 cs = W3 at HS3 ⊢
  clear hHeld hHeld3 hb3 hs3 hb hc hk ht HL hz2
  go_wp2
  go_ret
  exact ⟨rfl, HS3.out.bel⟩

/-- what Put's last region needs -/
structure KeyS (b m c : Nat) (A : List Value) (W : World) : Prop where
  cell : W.cell? ⟨b, 0, none⟩ = some (.map (some m))
  key : W.rangeAt c 0 A

set_option maxHeartbeats 1000000 in
theorem putS_any (b m : Nat) (A : List Value) (s : ByteArray) (cs : List Value) (w : World) (hA : A.length = 32) (hcs : cs.length = 33) (hc1 : ∀ v ∈ cs, v.oneCell' = true) (hbm : b ≠ m) (hm : m < w.heap.size) (R : World → Prop)
    (hc : (w.alloc (.cells A.toArray 24)).cell? ⟨b, 0, none⟩ = some (.map (some m)))
    (hl : ∀ W, Below w.heap.size w W → (Instr.lookup 38 (.map (some m)) (.agg A.toArray) true).run Tryd.prog W = .ok (.tuple #[.agg cs.toArray, .bool false]) W)
    (hup : ∀ W, Below w.heap.size w W → ∃ o, (Instr.mapUpdate 38 (.map (some m)) (.agg A.toArray) (.agg (A ++ [Value.string s]).toArray)).run Tryd.prog W = .ok () (setBlock W m o) ∧ R (setBlock W m o)) :
    Calls Tryd.prog 12 #[.pointer (some ⟨b, 0, none⟩), .agg A.toArray, .string s] w fun e w' => e = .returned (.bool true) ∧ R w' ∧ ∃ W o, Below w.heap.size w W ∧ w' = setBlock W m o := by
  have HU := Box.mk hup
  clear hup
  obtain ⟨mo, hmo⟩ : ∃ mo, mo = some m := ⟨_, rfl⟩
  rw [← hmo] at hc hl
  have hb : Below w.heap.size w (w.alloc (.cells A.toArray 24)) := (Below.refl _ _).alloc (Nat.le_refl _) _
  obtain ⟨W1, hW1⟩ : ∃ W1, W1 = w.alloc (.cells A.toArray 24) := ⟨_, rfl⟩
  have hk : W1.rangeAt w.heap.size 0 A := by rw [hW1]; exact range_new _ _ _ _ rfl
  rw [← hW1] at hc hb
  have HL := Box.mk hl
  clear hl
  go_enter Tryd.func12, Tryd.ntmps12
  go_upto_region 1 with fail
  rw [← hW1]
  clear hW1
  refine wp_region_held_drew (S := LookS w b mo w.heap.size A) (by kernel_rfl) ⟨hc, hk, hb.drew⟩ (fun hHeld => ?_)
  refine wpAnyH_take (i := 0) (v := (.pointer (some ⟨b, 0, none⟩))) rfl (by kernel_rfl) (by kernel_rfl) (by kernel_rfl) (fun _ _ _ h => h) (Or.inl ⟨by rfl, fun w' hw' => by have q := hw'.cell; go_simp; try rfl⟩) hHeld ?_
  refine wpAnyH_take (i := 1) (v := (.pointer (some ⟨b, 0, none⟩))) rfl (by kernel_rfl) (by kernel_rfl) (by kernel_rfl) (fun _ _ _ h => h) (Or.inl ⟨by rfl, fun w' hw' => by have q := hw'.cell; go_simp; try rfl⟩) hHeld ?_
  refine wpAnyH_take (i := 2) (v := (.pointer (some ⟨b, 0, none⟩))) rfl (by kernel_rfl) (by kernel_rfl) (by kernel_rfl) (fun _ _ _ h => h) (Or.inl ⟨by rfl, fun w' hw' => by have q := hw'.cell; go_simp; try rfl⟩) hHeld ?_
  refine wpAnyH_take (i := 3) (v := .map mo) rfl (by kernel_rfl) (by kernel_rfl) (by kernel_rfl) (fun _ _ _ h => h) (Or.inl ⟨by rfl, fun w' hw' => by have q := hw'.cell; go_simp; try rfl⟩) hHeld ?_
  refine wpAnyH_take (i := 4) (v := .agg A.toArray) rfl (by kernel_rfl) (by kernel_rfl) (by kernel_rfl) (fun _ _ _ h => h) (yieldsIf_load_mid (by rfl) 24 (.tmp 4) rfl _ _ rfl A _ (fun w' h => h.key) und_hash rfl (by rw [hA]; exact info_hash)) hHeld ?_
  refine wpAnyH_take (i := 5) (v := .tuple #[.agg cs.toArray, .bool false]) rfl (by kernel_rfl) (by kernel_rfl) (by kernel_rfl) (fun _ _ _ h => h) (yields_lookup (by rfl) 38 (.tmp 13) (.tmp 14) rfl (.map mo) (.agg A.toArray) _ rfl rfl (fun w' h => HL.out _ h.bel)) hHeld ?_
  refine wpAnyH_take (i := 6) (v := .tuple #[.agg cs.toArray, .bool false]) rfl (by kernel_rfl) (by kernel_rfl) (by kernel_rfl) (fun _ _ _ h => h) (Or.inl ⟨by rfl, fun w' hw' => by have q := hw'.cell; go_simp; try rfl⟩) hHeld ?_
  refine wpAnyH_take (i := 7) (v := .agg cs.toArray) rfl (by kernel_rfl) (by kernel_rfl) (by kernel_rfl) (fun _ _ _ h => h) (Or.inl ⟨by rfl, fun w' hw' => by have q := hw'.cell; go_simp; try rfl⟩) hHeld ?_
  refine wpAnyH_take (i := 8) (v := .bool false) rfl (by kernel_rfl) (by kernel_rfl) (by kernel_rfl) (fun _ _ _ h => h) (Or.inl ⟨by rfl, fun w' hw' => by have q := hw'.cell; go_simp; try rfl⟩) hHeld ?_
  refine wpAnyH_ready (rs := [9]) (by kernel_rfl) (by simp) ?_
  refine AllReadyH.cons rfl (fun K hK => ?_) AllReadyH.nil
  go_simp
  refine hK.out _ _ ⟨(cell_new hHeld.cell).trans hHeld.cell, rng_new hHeld.key (Nat.zero_le _), hHeld.bel.trans (((Below.refl W1.heap.size W1.drew).alloc (Nat.le_refl _) _).mono hb.size)⟩ (fun hHeld => ?_)
  clear hK K
  revert hHeld
  generalize hg : World.drew _ = W2
  intro hHeld
  have ht : W2.there W1.heap.size 0 33 := by rw [← hg]; exact there_new W1.drew 69 (List.replicate 32 (Value.int .u8 0) ++ [Value.string ⟨#[]⟩]) W1.heap.size 0 33 rfl (by decide)
  have hz2 : W2.heap.size = W1.heap.size + 1 := by rw [← hg]; simp
  clear hg
  refine wpAnyH_ready (rs := [10]) (by kernel_rfl) (by simp) ?_
  refine AllReadyH.cons rfl (fun K hK => ?_) AllReadyH.nil
  rw [if_pos (by rfl)]
  refine wp_store_mid 69 (.tmp 7) (.tmp 16) rfl W1.heap.size 0 cs.toArray rfl rfl (by have e : cs.toArray.size = 33 := (by simp [hcs]); rw [e]; exact ht) (by have e : cs.toArray.size = 33 := (by simp [hcs]); rw [e]; exact info_entry) (all_oneCell_toArray hc1) ?_
  have hb3 := below_setCells (B := w.heap.size) (b := W1.heap.size) hb.size cs 0 w _ hHeld.bel
  have hs3 : LookS w b mo w.heap.size A (W2.setCells W1.heap.size 0 cs) := by
    refine ⟨?_, ?_, hb3⟩
    · rw [World.cell?_setCells_out W1.heap.size cs 0 W2 ⟨b, 0, none⟩ (fun e _ => absurd e (by have := World.block_lt_of_cell? _ _ hc; show b ≠ _; omega))]; exact hHeld.cell
    · exact World.rangeAt_setCells_apart hHeld.key _ _ _ (.inl (by have := World.block_lt_of_cell? _ _ (hk 0 A[0] (List.getElem?_eq_getElem (by omega))); show w.heap.size ≠ _; have h2 : w.heap.size < W1.heap.size := this; omega))
  refine hK.out _ _ hs3 (fun hHeld3 => ?_)
  clear hK K
  refine wpAnyH_take (i := 11) (v := .bool false) rfl (by kernel_rfl) (by kernel_rfl) (by kernel_rfl) (fun _ _ _ h => h) (Or.inl ⟨by rfl, fun w' hw' => by go_simp; try rfl⟩) hHeld3 ?_
  refine wpAnyH_done (by kernel_rfl) ?_ _
  have HS3 := Box.mk hs3
  generalize World.setCells W2 W1.heap.size 0 cs = W3 at HS3 ⊢
  clear hHeld hHeld3 hb3 hs3 hb hc hk ht HL hz2
  have hc3 := HS3.out.cell
  subst hmo
  have hnot := map_isnt m W3
  go_upto_region 6 with fail
  clear hnot
  obtain ⟨W5, hW5⟩ : ∃ W5, W5 = W3 := ⟨_, rfl⟩
  have b5 := HS3.out.bel
  have k5 := HS3.out.key
  rw [← hW5] at hc3 b5 k5 ⊢
  clear hW5 HS3
  obtain ⟨o, hr, hR⟩ := HU.out W5.drew b5.drew
  have hkm : w.heap.size ≠ m := by omega
  have hc5 : W5.drew.cell? ⟨b, 0, none⟩ = some (.map (some m)) := hc3
  have hk5 : W5.drew.rangeAt w.heap.size 0 A := k5
  refine wp_region_held_drew (S := KeyS b m w.heap.size A) (by kernel_rfl) ⟨hc5, hk5⟩ (fun hHeld => ?_)
  refine wpAnyH_take (i := 0) (oi := { dst := some 28, op := Go.Op.move (Go.Operand.tmp 0), type := 27, pos := "table.go:49", after := #[], guard := none }) (v := (.pointer (some ⟨b, 0, none⟩))) rfl (by kernel_rfl) (by kernel_rfl) (by kernel_rfl) (fun _ _ _ h => h) (Or.inl ⟨by rfl, fun w' hw' => by have q := hw'.cell; go_simp; try rfl⟩) hHeld ?_
  simp only [Act.put, List.setIfInBounds_toArray, List.set_cons_zero, List.set_cons_succ]
  refine wpAnyH_take (i := 1) (oi := { dst := some 29, op := Go.Op.nilCheck (Go.Operand.tmp 28), type := 0, pos := "table.go:49", after := #[{ on := 0, ground := Go.Ground.data }], guard := none }) (v := (.pointer (some ⟨b, 0, none⟩))) rfl (by kernel_rfl) (by kernel_rfl) (by kernel_rfl) (fun _ _ _ h => h) (Or.inl ⟨by rfl, fun w' hw' => by have q := hw'.cell; go_simp; try rfl⟩) hHeld ?_
  simp only [Act.put, List.setIfInBounds_toArray, List.set_cons_zero, List.set_cons_succ]
  refine wpAnyH_take (i := 2) (oi := { dst := some 30, op := Go.Op.fieldAddr 40 (Go.Operand.tmp 29) 0, type := 0, pos := "table.go:49", after := #[{ on := 1, ground := Go.Ground.data }], guard := none }) (v := (.pointer (some ⟨b, 0, none⟩))) rfl (by kernel_rfl) (by kernel_rfl) (by kernel_rfl) (fun _ _ _ h => h) (Or.inl ⟨by rfl, fun w' hw' => by have q := hw'.cell; go_simp; try rfl⟩) hHeld ?_
  simp only [Act.put, List.setIfInBounds_toArray, List.set_cons_zero, List.set_cons_succ]
  refine wpAnyH_take (i := 3) (oi := { dst := some 31, op := Go.Op.load 38 (Go.Operand.tmp 30), type := 38, pos := "table.go:49", after := #[{ on := 2, ground := Go.Ground.data }], guard := none }) (v := .map (some m)) rfl (by kernel_rfl) (by kernel_rfl) (by kernel_rfl) (fun _ _ _ h => h) (Or.inl ⟨by rfl, fun w' hw' => by have q := hw'.cell; go_simp; try rfl⟩) hHeld ?_
  simp only [Act.put, List.setIfInBounds_toArray, List.set_cons_zero, List.set_cons_succ]
  refine wpAnyH_take (i := 4) (oi := { dst := some 32, op := Go.Op.load 24 (Go.Operand.tmp 4), type := 24, pos := "table.go:49", after := #[], guard := none }) (v := .agg A.toArray) rfl (by kernel_rfl) (by kernel_rfl) (by kernel_rfl) (fun _ _ _ h => h) (yieldsIf_load_mid (by rfl) 24 (.tmp 4) rfl _ _ rfl A _ (fun w' h => h.key) und_hash rfl (by rw [hA]; exact info_hash)) hHeld ?_
  simp only [Act.put, List.setIfInBounds_toArray, List.set_cons_zero, List.set_cons_succ]
  refine wpAnyH_take (i := 5) (oi := { dst := some 33, op := Go.Op.load 24 (Go.Operand.tmp 4), type := 24, pos := "table.go:49", after := #[], guard := none }) (v := .agg A.toArray) rfl (by kernel_rfl) (by kernel_rfl) (by kernel_rfl) (fun _ _ _ h => h) (yieldsIf_load_mid (by rfl) 24 (.tmp 4) rfl _ _ rfl A _ (fun w' h => h.key) und_hash rfl (by rw [hA]; exact info_hash)) hHeld ?_
  simp only [Act.put, List.setIfInBounds_toArray, List.set_cons_zero, List.set_cons_succ]
  refine wpAnyH_take (i := 6) (oi := { dst := some 34, op := Go.Op.move (Go.Operand.tmp 2), type := 9, pos := "table.go:49", after := #[], guard := none }) (v := .string s) rfl (by kernel_rfl) (by kernel_rfl) (by kernel_rfl) (fun _ _ _ h => h) (Or.inl ⟨by rfl, fun w' hw' => by have q := hw'.cell; go_simp; try rfl⟩) hHeld ?_
  simp only [Act.put, List.setIfInBounds_toArray, List.set_cons_zero, List.set_cons_succ]
  refine wpAnyH_take (i := 7) (oi := { dst := some 35, op := Go.Op.build 69 #[(0, Go.Operand.tmp 33), (1, Go.Operand.tmp 34)], type := 69, pos := "table.go:49", after := #[{ on := 5, ground := Go.Ground.data }, { on := 6, ground := Go.Ground.data }], guard := none }) (v := .agg (A ++ [Value.string s]).toArray) rfl (by kernel_rfl) (by kernel_rfl) (by kernel_rfl) (fun _ _ _ h => h) (yields_build2 (by rfl) 69 (.tmp 33) (.tmp 34) rfl (.agg A.toArray) (.string s) rfl rfl _ (fun w' => build_entry A hA s w')) hHeld ?_
  simp only [Act.put, List.setIfInBounds_toArray, List.set_cons_zero, List.set_cons_succ]
  refine wpAnyH_ready (rs := [8]) (by kernel_rfl) (by simp) ?_
  refine AllReadyH.cons rfl (fun K hK => ?_) AllReadyH.nil
  rw [if_pos (by rfl)]
  refine wp_mapUpdate 38 (.tmp 31) (.tmp 32) (.tmp 35) rfl (.map (some m)) (.agg A.toArray) (.agg (A ++ [Value.string s]).toArray) rfl rfl rfl hr ?_
  refine hK.out _ _ ⟨setBlock_cell _ _ _ hbm (by exact hc5), setBlock_range _ _ _ hkm (by exact hk5)⟩ (fun hHeld2 => ?_)
  clear hK K
  refine wpAnyH_done (by kernel_rfl) ?_ _
  obtain ⟨W6, hW6⟩ : ∃ W6, W6 = setBlock W5.drew m o := ⟨_, rfl⟩
  rw [← hW6]
  have FIN := Box.mk (show R W6 ∧ ∃ W o, Below w.heap.size w W ∧ W6 = setBlock W m o from ⟨by rw [hW6]; exact hR, _, o, b5.drew, hW6⟩)
  clear hW6 hHeld hHeld2 hr hR hc5 hk5 hc3 b5 k5 HU
  go_wp2
  go_ret
  exact ⟨rfl, FIN.out⟩

set_option maxHeartbeats 1000000 in
theorem putN_any (b : Nat) (mo : Option Nat) (hmo : mo = none) (A : List Value) (s : ByteArray) (cs : List Value) (w : World) (hA : A.length = 32) (hcs : cs.length = 33) (hc1 : ∀ v ∈ cs, v.oneCell' = true) (hbw : b < w.heap.size) (hfr : w.frozen? ⟨b, 0, none⟩ = false) (R : World → Nat → Prop)
    (hc : (w.alloc (.cells A.toArray 24)).cell? ⟨b, 0, none⟩ = some (.map mo))
    (hl : ∀ W, Below w.heap.size w W → (Instr.lookup 38 (.map mo) (.agg A.toArray) true).run Tryd.prog W = .ok (.tuple #[.agg cs.toArray, .bool false]) W)
    (hup : ∀ W m, w.heap.size ≤ m → W.heap[m]? = some (.map #[] 0) → W.cell? ⟨b, 0, none⟩ = some (.map (some m)) → W.frozen? ⟨b, 0, none⟩ = false → ∃ o, (Instr.mapUpdate 38 (.map (some m)) (.agg A.toArray) (.agg (A ++ [Value.string s]).toArray)).run Tryd.prog W = .ok () (setBlock W m o) ∧ R (setBlock W m o) m) :
    Calls Tryd.prog 12 #[.pointer (some ⟨b, 0, none⟩), .agg A.toArray, .string s] w fun e w' => e = .returned (.bool true) ∧ ∃ m W o, W.heap.size = m ∧ R w' m ∧ Below w.heap.size w W ∧ w' = setBlock ((W.setCell ⟨b, 0, none⟩ (.map (some m))).alloc (.map #[] 0)).drew m o := by
  have HU := Box.mk hup
  clear hup
  have hb : Below w.heap.size w (w.alloc (.cells A.toArray 24)) := (Below.refl _ _).alloc (Nat.le_refl _) _
  obtain ⟨W1, hW1⟩ : ∃ W1, W1 = w.alloc (.cells A.toArray 24) := ⟨_, rfl⟩
  have hk : W1.rangeAt w.heap.size 0 A := by rw [hW1]; exact range_new _ _ _ _ rfl
  rw [← hW1] at hc hb
  have HL := Box.mk hl
  clear hl
  go_enter Tryd.func12, Tryd.ntmps12
  go_upto_region 1 with fail
  rw [← hW1]
  clear hW1
  refine wp_region_held_drew (S := LookS w b mo w.heap.size A) (by kernel_rfl) ⟨hc, hk, hb.drew⟩ (fun hHeld => ?_)
  refine wpAnyH_take (i := 0) (v := (.pointer (some ⟨b, 0, none⟩))) rfl (by kernel_rfl) (by kernel_rfl) (by kernel_rfl) (fun _ _ _ h => h) (Or.inl ⟨by rfl, fun w' hw' => by have q := hw'.cell; go_simp; try rfl⟩) hHeld ?_
  refine wpAnyH_take (i := 1) (v := (.pointer (some ⟨b, 0, none⟩))) rfl (by kernel_rfl) (by kernel_rfl) (by kernel_rfl) (fun _ _ _ h => h) (Or.inl ⟨by rfl, fun w' hw' => by have q := hw'.cell; go_simp; try rfl⟩) hHeld ?_
  refine wpAnyH_take (i := 2) (v := (.pointer (some ⟨b, 0, none⟩))) rfl (by kernel_rfl) (by kernel_rfl) (by kernel_rfl) (fun _ _ _ h => h) (Or.inl ⟨by rfl, fun w' hw' => by have q := hw'.cell; go_simp; try rfl⟩) hHeld ?_
  refine wpAnyH_take (i := 3) (v := .map mo) rfl (by kernel_rfl) (by kernel_rfl) (by kernel_rfl) (fun _ _ _ h => h) (Or.inl ⟨by rfl, fun w' hw' => by have q := hw'.cell; go_simp; try rfl⟩) hHeld ?_
  refine wpAnyH_take (i := 4) (v := .agg A.toArray) rfl (by kernel_rfl) (by kernel_rfl) (by kernel_rfl) (fun _ _ _ h => h) (yieldsIf_load_mid (by rfl) 24 (.tmp 4) rfl _ _ rfl A _ (fun w' h => h.key) und_hash rfl (by rw [hA]; exact info_hash)) hHeld ?_
  refine wpAnyH_take (i := 5) (v := .tuple #[.agg cs.toArray, .bool false]) rfl (by kernel_rfl) (by kernel_rfl) (by kernel_rfl) (fun _ _ _ h => h) (yields_lookup (by rfl) 38 (.tmp 13) (.tmp 14) rfl (.map mo) (.agg A.toArray) _ rfl rfl (fun w' h => HL.out _ h.bel)) hHeld ?_
  refine wpAnyH_take (i := 6) (v := .tuple #[.agg cs.toArray, .bool false]) rfl (by kernel_rfl) (by kernel_rfl) (by kernel_rfl) (fun _ _ _ h => h) (Or.inl ⟨by rfl, fun w' hw' => by have q := hw'.cell; go_simp; try rfl⟩) hHeld ?_
  refine wpAnyH_take (i := 7) (v := .agg cs.toArray) rfl (by kernel_rfl) (by kernel_rfl) (by kernel_rfl) (fun _ _ _ h => h) (Or.inl ⟨by rfl, fun w' hw' => by have q := hw'.cell; go_simp; try rfl⟩) hHeld ?_
  refine wpAnyH_take (i := 8) (v := .bool false) rfl (by kernel_rfl) (by kernel_rfl) (by kernel_rfl) (fun _ _ _ h => h) (Or.inl ⟨by rfl, fun w' hw' => by have q := hw'.cell; go_simp; try rfl⟩) hHeld ?_
  refine wpAnyH_ready (rs := [9]) (by kernel_rfl) (by simp) ?_
  refine AllReadyH.cons rfl (fun K hK => ?_) AllReadyH.nil
  go_simp
  refine hK.out _ _ ⟨(cell_new hHeld.cell).trans hHeld.cell, rng_new hHeld.key (Nat.zero_le _), hHeld.bel.trans (((Below.refl W1.heap.size W1.drew).alloc (Nat.le_refl _) _).mono hb.size)⟩ (fun hHeld => ?_)
  clear hK K
  revert hHeld
  generalize hg : World.drew _ = W2
  intro hHeld
  have ht : W2.there W1.heap.size 0 33 := by rw [← hg]; exact there_new W1.drew 69 (List.replicate 32 (Value.int .u8 0) ++ [Value.string ⟨#[]⟩]) W1.heap.size 0 33 rfl (by decide)
  have hz2 : W2.heap.size = W1.heap.size + 1 := by rw [← hg]; simp
  clear hg
  refine wpAnyH_ready (rs := [10]) (by kernel_rfl) (by simp) ?_
  refine AllReadyH.cons rfl (fun K hK => ?_) AllReadyH.nil
  rw [if_pos (by rfl)]
  refine wp_store_mid 69 (.tmp 7) (.tmp 16) rfl W1.heap.size 0 cs.toArray rfl rfl (by have e : cs.toArray.size = 33 := (by simp [hcs]); rw [e]; exact ht) (by have e : cs.toArray.size = 33 := (by simp [hcs]); rw [e]; exact info_entry) (all_oneCell_toArray hc1) ?_
  have hb3 := below_setCells (B := w.heap.size) (b := W1.heap.size) hb.size cs 0 w _ hHeld.bel
  have hs3 : LookS w b mo w.heap.size A (W2.setCells W1.heap.size 0 cs) := by
    refine ⟨?_, ?_, hb3⟩
    · rw [World.cell?_setCells_out W1.heap.size cs 0 W2 ⟨b, 0, none⟩ (fun e _ => absurd e (by have := World.block_lt_of_cell? _ _ hc; show b ≠ _; omega))]; exact hHeld.cell
    · exact World.rangeAt_setCells_apart hHeld.key _ _ _ (.inl (by have := World.block_lt_of_cell? _ _ (hk 0 A[0] (List.getElem?_eq_getElem (by omega))); show w.heap.size ≠ _; have h2 : w.heap.size < W1.heap.size := this; omega))
  refine hK.out _ _ hs3 (fun hHeld3 => ?_)
  clear hK K
  refine wpAnyH_take (i := 11) (v := .bool false) rfl (by kernel_rfl) (by kernel_rfl) (by kernel_rfl) (fun _ _ _ h => h) (Or.inl ⟨by rfl, fun w' hw' => by go_simp; try rfl⟩) hHeld3 ?_
  refine wpAnyH_done (by kernel_rfl) ?_ _
  have HS3 := Box.mk hs3
  generalize World.setCells W2 W1.heap.size 0 cs = W3 at HS3 ⊢
  clear hHeld hHeld3 hb3 hs3 hb hc hk ht HL hz2
  have hc3 := HS3.out.cell
  subst hmo
  have hfr3 : W3.frozen? ⟨b, 0, none⟩ = false := by rw [World.frozen?_of_block (a := ⟨b, 0, none⟩) (HS3.out.bel.block b hbw)]; exact hfr
  have hb3l : b < W3.heap.size := Nat.lt_of_lt_of_le hbw HS3.out.bel.size
  have hnot := map_is W3
  have hmk : (Instr.makeMap 38 none).run Tryd.prog W3 = .ok (.map (some W3.heap.size)) (W3.alloc (.map #[] 0)) := by kernel_rfl
  go_upto_region 6 with fail
  clear hnot hmk
  have b3 := HS3.out.bel
  have k3 := HS3.out.key
  obtain ⟨m, hm⟩ : ∃ m, m = W3.heap.size := ⟨_, rfl⟩
  rw [← hm]
  obtain ⟨X, hX⟩ : ∃ X, X = W3.setCell ⟨b, 0, none⟩ (.map (some m)) := ⟨_, rfl⟩
  have hXs : X.heap.size = m := by rw [hX, hm]; simp
  have cX : X.cell? ⟨b, 0, none⟩ = some (.map (some m)) := by rw [hX]; exact World.cell?_setCell_same _ _ _ hc3
  have fX : X.frozen? ⟨b, 0, none⟩ = false := by rw [hX, frozen_setCell]; exact hfr3
  have kX : X.rangeAt w.heap.size 0 A := fun j v hv => by rw [hX, World.cell?_setCell_other _ _ _ _ (by intro e; injection e; omega)]; exact k3 j v hv
  have nX : (X.alloc (.map #[] 0)).heap[m]? = some (.map #[] 0) := by rw [← hXs]; exact (MapKept.heap_alloc X _).1
  have hbm : b ≠ m := by omega
  have hkm : w.heap.size ≠ m := by
    have := World.block_lt_of_cell? _ _ (k3 0 A[0] (List.getElem?_eq_getElem (by omega)))
    have h2 : w.heap.size < W3.heap.size := this
    omega
  rw [← hX]
  obtain ⟨W5, hW5⟩ : ∃ W5, W5 = X.alloc (.map #[] 0) := ⟨_, rfl⟩
  have hc5 : W5.drew.cell? ⟨b, 0, none⟩ = some (.map (some m)) := by rw [hW5]; exact (cell_new cX).trans cX
  have hk5 : W5.drew.rangeAt w.heap.size 0 A := by rw [hW5]; exact rng_new kX (Nat.zero_le _)
  have hf5 : W5.drew.frozen? ⟨b, 0, none⟩ = false := by
    have hXb : b < X.heap.size := by omega
    have : (X.alloc (.map #[] 0)).frozen? ⟨b, 0, none⟩ = X.frozen? ⟨b, 0, none⟩ := World.frozen?_alloc_past _ b 0 hXb
    rw [hW5]; exact this.trans fX
  have hn5 : W5.drew.heap[m]? = some (.map #[] 0) := by rw [hW5]; exact nX
  have le5 : w.heap.size ≤ m := by rw [hm]; exact b3.size
  rw [← hW5]
  obtain ⟨o, hr, hR⟩ := HU.out W5.drew m le5 hn5 hc5 hf5
  clear hn5 hf5 nX kX fX cX hXs k3
  refine wp_region_held_drew (S := KeyS b m w.heap.size A) (by kernel_rfl) ⟨hc5, hk5⟩ (fun hHeld => ?_)
  refine wpAnyH_take (i := 0) (oi := { dst := some 28, op := Go.Op.move (Go.Operand.tmp 0), type := 27, pos := "table.go:49", after := #[], guard := none }) (v := (.pointer (some ⟨b, 0, none⟩))) rfl (by kernel_rfl) (by kernel_rfl) (by kernel_rfl) (fun _ _ _ h => h) (Or.inl ⟨by rfl, fun w' hw' => by have q := hw'.cell; go_simp; try rfl⟩) hHeld ?_
  simp only [Act.put, List.setIfInBounds_toArray, List.set_cons_zero, List.set_cons_succ]
  refine wpAnyH_take (i := 1) (oi := { dst := some 29, op := Go.Op.nilCheck (Go.Operand.tmp 28), type := 0, pos := "table.go:49", after := #[{ on := 0, ground := Go.Ground.data }], guard := none }) (v := (.pointer (some ⟨b, 0, none⟩))) rfl (by kernel_rfl) (by kernel_rfl) (by kernel_rfl) (fun _ _ _ h => h) (Or.inl ⟨by rfl, fun w' hw' => by have q := hw'.cell; go_simp; try rfl⟩) hHeld ?_
  simp only [Act.put, List.setIfInBounds_toArray, List.set_cons_zero, List.set_cons_succ]
  refine wpAnyH_take (i := 2) (oi := { dst := some 30, op := Go.Op.fieldAddr 40 (Go.Operand.tmp 29) 0, type := 0, pos := "table.go:49", after := #[{ on := 1, ground := Go.Ground.data }], guard := none }) (v := (.pointer (some ⟨b, 0, none⟩))) rfl (by kernel_rfl) (by kernel_rfl) (by kernel_rfl) (fun _ _ _ h => h) (Or.inl ⟨by rfl, fun w' hw' => by have q := hw'.cell; go_simp; try rfl⟩) hHeld ?_
  simp only [Act.put, List.setIfInBounds_toArray, List.set_cons_zero, List.set_cons_succ]
  refine wpAnyH_take (i := 3) (oi := { dst := some 31, op := Go.Op.load 38 (Go.Operand.tmp 30), type := 38, pos := "table.go:49", after := #[{ on := 2, ground := Go.Ground.data }], guard := none }) (v := .map (some m)) rfl (by kernel_rfl) (by kernel_rfl) (by kernel_rfl) (fun _ _ _ h => h) (Or.inl ⟨by rfl, fun w' hw' => by have q := hw'.cell; go_simp; try rfl⟩) hHeld ?_
  simp only [Act.put, List.setIfInBounds_toArray, List.set_cons_zero, List.set_cons_succ]
  refine wpAnyH_take (i := 4) (oi := { dst := some 32, op := Go.Op.load 24 (Go.Operand.tmp 4), type := 24, pos := "table.go:49", after := #[], guard := none }) (v := .agg A.toArray) rfl (by kernel_rfl) (by kernel_rfl) (by kernel_rfl) (fun _ _ _ h => h) (yieldsIf_load_mid (by rfl) 24 (.tmp 4) rfl _ _ rfl A _ (fun w' h => h.key) und_hash rfl (by rw [hA]; exact info_hash)) hHeld ?_
  simp only [Act.put, List.setIfInBounds_toArray, List.set_cons_zero, List.set_cons_succ]
  refine wpAnyH_take (i := 5) (oi := { dst := some 33, op := Go.Op.load 24 (Go.Operand.tmp 4), type := 24, pos := "table.go:49", after := #[], guard := none }) (v := .agg A.toArray) rfl (by kernel_rfl) (by kernel_rfl) (by kernel_rfl) (fun _ _ _ h => h) (yieldsIf_load_mid (by rfl) 24 (.tmp 4) rfl _ _ rfl A _ (fun w' h => h.key) und_hash rfl (by rw [hA]; exact info_hash)) hHeld ?_
  simp only [Act.put, List.setIfInBounds_toArray, List.set_cons_zero, List.set_cons_succ]
  refine wpAnyH_take (i := 6) (oi := { dst := some 34, op := Go.Op.move (Go.Operand.tmp 2), type := 9, pos := "table.go:49", after := #[], guard := none }) (v := .string s) rfl (by kernel_rfl) (by kernel_rfl) (by kernel_rfl) (fun _ _ _ h => h) (Or.inl ⟨by rfl, fun w' hw' => by have q := hw'.cell; go_simp; try rfl⟩) hHeld ?_
  simp only [Act.put, List.setIfInBounds_toArray, List.set_cons_zero, List.set_cons_succ]
  refine wpAnyH_take (i := 7) (oi := { dst := some 35, op := Go.Op.build 69 #[(0, Go.Operand.tmp 33), (1, Go.Operand.tmp 34)], type := 69, pos := "table.go:49", after := #[{ on := 5, ground := Go.Ground.data }, { on := 6, ground := Go.Ground.data }], guard := none }) (v := .agg (A ++ [Value.string s]).toArray) rfl (by kernel_rfl) (by kernel_rfl) (by kernel_rfl) (fun _ _ _ h => h) (yields_build2 (by rfl) 69 (.tmp 33) (.tmp 34) rfl (.agg A.toArray) (.string s) rfl rfl _ (fun w' => build_entry A hA s w')) hHeld ?_
  simp only [Act.put, List.setIfInBounds_toArray, List.set_cons_zero, List.set_cons_succ]
  refine wpAnyH_ready (rs := [8]) (by kernel_rfl) (by simp) ?_
  refine AllReadyH.cons rfl (fun K hK => ?_) AllReadyH.nil
  rw [if_pos (by rfl)]
  refine wp_mapUpdate 38 (.tmp 31) (.tmp 32) (.tmp 35) rfl (.map (some m)) (.agg A.toArray) (.agg (A ++ [Value.string s]).toArray) rfl rfl rfl hr ?_
  refine hK.out _ _ ⟨setBlock_cell _ _ _ hbm (by exact hc5), setBlock_range _ _ _ hkm (by exact hk5)⟩ (fun hHeld2 => ?_)
  clear hK K
  refine wpAnyH_done (by kernel_rfl) ?_ _
  obtain ⟨W6, hW6⟩ : ∃ W6, W6 = setBlock W5.drew m o := ⟨_, rfl⟩
  rw [← hW6]
  have FIN := Box.mk (show ∃ m W o, W.heap.size = m ∧ R W6 m ∧ Below w.heap.size w W ∧ W6 = setBlock ((W.setCell ⟨b, 0, none⟩ (.map (some m))).alloc (.map #[] 0)).drew m o from ⟨m, W3, o, hm.symm, by rw [hW6]; exact hR, b3, by rw [hW6, hW5, hX]⟩)
  clear hW6 hHeld hHeld2 hr hR hc5 hk5 hc3 b3 hW5 hX HU HS3
  go_wp2
  go_ret
  exact ⟨rfl, FIN.out⟩
end Go.Proofs.YtpinpplbjgbkaaaDoor
