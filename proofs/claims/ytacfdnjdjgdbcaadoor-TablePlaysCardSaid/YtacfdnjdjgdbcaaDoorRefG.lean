/- The reference of layer 3: Mix, its words. -/
import Derived.Test.YtacfdnjdjgdbcaaDoorRe
namespace Go.Proofs.YtacfdnjdjgdbcaaDoor
set_option maxRecDepth 100000
open Go.RowKit

theorem wrapI {n : Nat} (h : n < 4294967296) : IntKind.i64.wrap (n : Int) = (n : Int) := IntWalk.i64_in _ (by omega)
theorem wrapU {n : Nat} (h : n < 4294967296) : IntKind.u32.wrap (n : Int) = (n : Int) := IntWalk.u32_in _ (by omega)
theorem strAt {T : ByteArray} {i : Nat} (h : i < T.size) (w : World) : (Instr.index 9 (.string T) (.int .i64 (i : Int))).run Tryd.prog w = .ok (.int .u8 (((sb T).getD i 0 : Nat) : Int)) w := by
  have e : (sb T).getD i 0 = (T[i]'h).toNat := by
    unfold sb; rw [bnl_getD _ _ _ h, bn_of h]
  rw [e]
  simp [Instr.index, run_underlying Tryd.underlying9, asIntOf, go_sem, h]
theorem sbLt (T : ByteArray) (i : Nat) : (sb T).getD i 0 < 256 := by
  by_cases h : i < T.size
  · have e : (sb T).getD i 0 = (T[i]'h).toNat := by
      unfold sb; rw [bnl_getD _ _ _ h, bn_of h]
    rw [e]; exact UInt8.toNat_lt _
  · have hl : (sb T).length ≤ i := by rw [sb_length]; omega
    rw [List.getD_eq_getElem?_getD, List.getElem?_eq_none hl]; decide
theorem rangeS (f : Nat → Nat) (k : Nat) : (List.range (k + 1)).map f = (List.range k).map f ++ [f k] := by rw [List.range_succ, List.map_append]; rfl
structure Row32 (w : World) (g n : Nat) (l : List Nat) : Prop where
  len : l.length = n
  cell : ∀ j, j < n → w.cell? ⟨g, j, none⟩ = some (.int .u32 ((l.getD j 0 : Nat) : Int))
  free : ∀ j, j < n → w.frozen? ⟨g, j, none⟩ = false
theorem frozS (w : World) (p q : Addr) (u : Value) : (w.setCell p u).frozen? q = w.frozen? q := by
  simp only [World.setCell, World.frozen?, Array.getElem?_modify]
  by_cases h : p.block = q.block
  · simp only [h, if_true]
    cases hh : w.heap[q.block]? with
    | none => simp
    | some x => cases x <;> simp
  · simp [h]
theorem Row32.set {w : World} {g n : Nat} {l : List Nat} (h : Row32 w g n l) (p x : Nat) (hp : p < n) : Row32 (w.setCell ⟨g, p, none⟩ (.int .u32 (x : Int))) g n (l.set p x) := by
  refine ⟨by simpa using h.len, fun j hj => ?_, fun j hj => by rw [frozS]; exact h.free j hj⟩
  by_cases e : p = j
  · subst e
    rw [World.cell?_setCell_same _ _ _ (h.cell p hp)]
    simp [List.getD, h.len, hp]
  · have hne : (⟨g, p, none⟩ : Addr) ≠ ⟨g, j, none⟩ := fun h => e (by injection h)
    rw [World.cell?_setCell_other _ _ _ _ hne, h.cell j hj]
    rw [show (l.set p x).getD j 0 = l.getD j 0 by simp [List.getD, List.getElem?_set_ne e]]
theorem Row32.lt {w : World} {g n : Nat} {l : List Nat} (h : Row32 w g n l) (hn : 0 < n) : g < w.heap.size := World.block_lt_of_cell? w _ (h.cell 0 hn)
theorem Row32.keep {w w' : World} {g n : Nat} {l : List Nat} (h : Row32 w g n l) (e : w'.heap[g]? = w.heap[g]?) : Row32 w' g n l :=
  ⟨h.len, fun j hj => by have := h.cell j hj; simp only [World.cell?, e] at this ⊢; exact this, fun j hj => by have := h.free j hj; simp only [World.frozen?, e] at this ⊢; exact this⟩
theorem Row32.below {w w' : World} {g n : Nat} {l : List Nat} (h : Row32 w g n l) {B : Nat} (hb : Below B w w') (hg : g < B) : Row32 w' g n l := h.keep (hb.block g hg)
theorem Row32.of {w : World} {B g n cap : Nat} {l : List Nat} (hl : l.length = n) (h : w.ownsRow B 64 1 (.slice (some ⟨g, 0, none⟩) n cap) n (u32s l)) : Row32 w g n l := by
  refine ⟨hl, fun j hj => ?_, fun j hj => ?_⟩
  · have c := h.cellAt j (by omega)
    rw [c]
    have e : l[j]? = some (l.getD j 0) := by rw [List.getD_eq_getElem?_getD, List.getElem?_eq_getElem (by omega)]; rfl
    exact u32s_get e
  · rcases h.2 with ⟨hv, _⟩ | ⟨g', cap', cur, hv, _, hg, _⟩
    · cases hv
    · cases hv
      simp only [World.frozen?, hg]
      simp
theorem ownsCap {w : World} {B e z g c : Nat} {n : Nat} {xs : List Value} (h : w.ownsRow B e z (.slice (some ⟨g, 0, none⟩) n c) n xs) : n ≤ c := by
  rcases h.2 with ⟨hv, _⟩ | ⟨_, _, _, hv, _, _, h2, _⟩
  · cases hv
  · obtain ⟨_, _, e3⟩ := Value.slice.inj hv
    omega
/-- what Mix answers -/
def MixP (w : World) (l : List Nat) (e : Ending) (w' : World) : Prop :=
  (∃ g cap, e = .returned (.slice (some ⟨g, 0, none⟩) 8 cap) ∧ Row32 w' g 8 l ∧ w.heap.size ≤ g) ∧ Below w.heap.size w w'
def v8l (v : M.V8) : List Nat := [v.a, v.b, v.c, v.d, v.e, v.f, v.g, v.h]
theorem gl_lt (ws : List Nat) (h : ∀ z ∈ ws, z < 4294967296) : ∀ n, ∀ z ∈ M.gl M.nw ws n, z < 4294967296 := by
  intro n
  induction n with
  | zero => exact h
  | succ n ih =>
    intro z hz
    have e : M.gl M.nw ws (n + 1) = M.gl M.nw ws n ++ [M.nw (M.gl M.nw ws n) (16 + n)] := rfl
    rw [e] at hz
    rcases List.mem_append.1 hz with hz | hz
    · exact ih z hz
    · rw [List.mem_singleton] at hz
      rw [hz]; unfold M.nw; exact Nat.mod_lt _ (by decide)
theorem w4_lt (T : ByteArray) (i : Nat) : M.w4 (sb T) i < 4294967296 := by
  have l0 := sbLt T (4 * i); have l1 := sbLt T (4 * i + 1); have l2 := sbLt T (4 * i + 2); have l3 := sbLt T (4 * i + 3)
  unfold M.w4
  omega
set_option maxHeartbeats 6400000 in
theorem mix_any (st : M.V8) (hst : st.ok) (T : ByteArray) (hT : T.size = 64) (ga ca gk ck : Nat) (w : World)
    (hA : Row32 w ga 8 (v8l st)) (hK : Row32 w gk 64 M.kN) :
    Calls Tryd.prog 44 #[.slice (some ⟨ga, 0, none⟩) 8 ca, .slice (some ⟨gk, 0, none⟩) 64 ck, .string T] w (MixP w (v8l (M.mixV st (sb T)))) := by
  obtain ⟨i0, hi, hz0, hz1, hz2⟩ := info_parts info_u32
  have HA := Bx.mk hA; have HK := Bx.mk hK; have HST := Bx.mk hst
  clear hA hK hst
  go_enter Tryd.func44, Tryd.ntmps44
  go_wp2_with fail
  go_loopw [7, 8] (fun r kx wr => ∃ (k g cap : Nat), kx = .int .i64 (k : Int) ∧ k ≤ 16 ∧ r = .slice (some ⟨g, 0, none⟩) k cap ∧ Bx (wr.ownsRow w.heap.size 64 1 (.slice (some ⟨g, 0, none⟩) k cap) k (u32s ((List.range k).map (M.w4 (sb T))))) ∧ Bx (Below w.heap.size w wr)) (fun _ kx _ => 16 - (intOf kx).toNat)
  case atStart => exact ⟨0, w.heap.size, 0, rfl, by omega, rfl, ⟨World.ownsRow_lit w #[] 0 (Nat.le_refl _) (by unfold maxLen; omega) (by rfl)⟩, ⟨asetR _ _⟩⟩
  case round =>
    obtain ⟨k, g, cap, rfl, hk, rfl, hO, hb⟩ := hrel
    obtain ⟨wo, rfl⟩ : ∃ wo : World, wo = wr := ⟨_, rfl⟩
    by_cases hk16 : k < 16
    · have hki : (k : Int) < 16 := by omega
      have ix0 := fun W => strAt (T := T) (i := 4 * k) (by omega) W
      have ix1 := fun W => strAt (T := T) (i := 4 * k + 1) (by omega) W
      have ix2 := fun W => strAt (T := T) (i := 4 * k + 2) (by omega) W
      have ix3 := fun W => strAt (T := T) (i := 4 * k + 3) (by omega) W
      have hw4 : M.w4 (sb T) k = (sb T).getD (4 * k) 0 * 16777216 + (sb T).getD (4 * k + 1) 0 * 65536 + (sb T).getD (4 * k + 2) 0 * 256 + (sb T).getD (4 * k + 3) 0 := rfl
      have l0 := sbLt T (4 * k); have l1 := sbLt T (4 * k + 1); have l2 := sbLt T (4 * k + 2); have l3 := sbLt T (4 * k + 3)
      generalize (sb T).getD (4 * k) 0 = x0 at *
      generalize (sb T).getD (4 * k + 1) 0 = x1 at *
      generalize (sb T).getD (4 * k + 2) 0 = x2 at *
      generalize (sb T).getD (4 * k + 3) 0 = x3 at *
      obtain ⟨m, hm⟩ : ∃ m, m = x0 * 16777216 + x1 * 65536 + x2 * 256 + x3 := ⟨_, rfl⟩
      rw [← hm] at hw4
      have hme : (x0 : Int) * 16777216 + (x1 : Int) * 65536 + (x2 : Int) * 256 + (x3 : Int) = (m : Int) := by omega
      have hml : m < 4294967296 := by omega
      obtain ⟨k0, hk0⟩ : ∃ k0, k0 = 4 * k := ⟨_, rfl⟩
      obtain ⟨k1, hk1⟩ : ∃ k1, k1 = 4 * k + 1 := ⟨_, rfl⟩
      obtain ⟨k2, hk2⟩ : ∃ k2, k2 = 4 * k + 2 := ⟨_, rfl⟩
      obtain ⟨k3, hk3⟩ : ∃ k3, k3 = 4 * k + 3 := ⟨_, rfl⟩
      rw [← hk0] at ix0
      rw [← hk1] at ix1
      rw [← hk2] at ix2
      rw [← hk3] at ix3
      have y0 : (4 : Int) * (k : Int) = (k0 : Int) := by omega
      have y1 : (k0 : Int) + 1 = (k1 : Int) := by omega
      have y2 : (k0 : Int) + 2 = (k2 : Int) := by omega
      have y3 : (k0 : Int) + 3 = (k3 : Int) := by omega
      have b0 : k0 < 64 := by omega
      have b1 : k1 < 64 := by omega
      have b2 : k2 < 64 := by omega
      have b3 : k3 < 64 := by omega
      obtain ⟨m0, hm0⟩ : ∃ m0, m0 = x0 * 16777216 := ⟨_, rfl⟩
      obtain ⟨m1, hm1⟩ : ∃ m1, m1 = x1 * 65536 := ⟨_, rfl⟩
      obtain ⟨m2, hm2⟩ : ∃ m2, m2 = x2 * 256 := ⟨_, rfl⟩
      have z0 : (x0 : Int) * 16777216 = (m0 : Int) := by omega
      have z1 : (x1 : Int) * 65536 = (m1 : Int) := by omega
      have z2 : (x2 : Int) * 256 = (m2 : Int) := by omega
      obtain ⟨n1, hn1⟩ : ∃ n1, n1 = m0 + m1 := ⟨_, rfl⟩
      obtain ⟨n2, hn2⟩ : ∃ n2, n2 = n1 + m2 := ⟨_, rfl⟩
      have t1 : (m0 : Int) + (m1 : Int) = (n1 : Int) := by omega
      have t2 : (n1 : Int) + (m2 : Int) = (n2 : Int) := by omega
      have t3 : (n2 : Int) + (x3 : Int) = (m : Int) := by omega
      have d0 : m0 < 4294967296 := by omega
      have d1 : m1 < 4294967296 := by omega
      have d2 : m2 < 4294967296 := by omega
      have d3 : n1 < 4294967296 := by omega
      have d4 : n2 < 4294967296 := by omega
      have HW := Bx.mk (rangeS (M.w4 (sb T)) k)
      rw [hw4] at HW
      have hbs := hb.out.size
      have vk0 : IntKind.i64.wrap (k0 : Int) = (k0 : Int) := wrapI (by omega)
      have vk1 : IntKind.i64.wrap (k1 : Int) = (k1 : Int) := wrapI (by omega)
      have vk2 : IntKind.i64.wrap (k2 : Int) = (k2 : Int) := wrapI (by omega)
      have vk3 : IntKind.i64.wrap (k3 : Int) = (k3 : Int) := wrapI (by omega)
      have vx0 : IntKind.u32.wrap (x0 : Int) = (x0 : Int) := wrapU (by omega)
      have vx1 : IntKind.u32.wrap (x1 : Int) = (x1 : Int) := wrapU (by omega)
      have vx2 : IntKind.u32.wrap (x2 : Int) = (x2 : Int) := wrapU (by omega)
      have vx3 : IntKind.u32.wrap (x3 : Int) = (x3 : Int) := wrapU (by omega)
      have vm0 : IntKind.u32.wrap (m0 : Int) = (m0 : Int) := wrapU (by omega)
      have vm1 : IntKind.u32.wrap (m1 : Int) = (m1 : Int) := wrapU (by omega)
      have vm2 : IntKind.u32.wrap (m2 : Int) = (m2 : Int) := wrapU (by omega)
      have vn1 : IntKind.u32.wrap (n1 : Int) = (n1 : Int) := wrapU (by omega)
      have vn2 : IntKind.u32.wrap (n2 : Int) = (n2 : Int) := wrapU (by omega)
      have vm : IntKind.u32.wrap (m : Int) = (m : Int) := wrapU (by omega)
      clear hw4 hm hk0 hk1 hk2 hk3 hm0 hm1 hm2 hn1 hn2 hme
      go_wp2_with fail
      refine wp_region_held_drew (S := fun _ => True) (by kernel_rfl) trivial (fun hHeld => ?_)
      have O5 := Bx.mk hO.out.drew
      have B5 := Bx.mk hb.out.drew
      have hbd : w.heap.size ≤ wo.drew.heap.size := hbs
      generalize wo.drew = wd at *
      refine wpAnyH_take (i := 0) (v := .slice (some ⟨g, 0, none⟩) k cap) rfl (by kernel_rfl) (by kernel_rfl) (by kernel_rfl) (fun _ _ _ h => h) (Or.inl ⟨by rfl, fun w' hw' => by go_simp; try rfl⟩) trivial ?_
      refine wpAnyH_take (i := 1) (v := .string T) rfl (by kernel_rfl) (by kernel_rfl) (by kernel_rfl) (fun _ _ _ h => h) (Or.inl ⟨by rfl, fun w' hw' => by go_simp; try rfl⟩) trivial ?_
      refine wpAnyH_take (i := 2) (v := .int .i64 (k : Int)) rfl (by kernel_rfl) (by kernel_rfl) (by kernel_rfl) (fun _ _ _ h => h) (Or.inl ⟨by rfl, fun w' hw' => by go_simp; try rfl⟩) trivial ?_
      refine wpAnyH_take (i := 3) (v := .int .i64 (k0 : Int)) rfl (by kernel_rfl) (by kernel_rfl) (by kernel_rfl) (fun _ _ _ h => h) (Or.inl ⟨by rfl, fun w' hw' => by go_simp; try rfl⟩) trivial ?_
      refine wpAnyH_take (i := 4) (v := .int .u8 (x0 : Int)) rfl (by kernel_rfl) (by kernel_rfl) (by kernel_rfl) (fun _ _ _ h => h) (Or.inl ⟨by rfl, fun w' hw' => by go_simp; try rfl⟩) trivial ?_
      refine wpAnyH_take (i := 5) (v := .int .u32 (x0 : Int)) rfl (by kernel_rfl) (by kernel_rfl) (by kernel_rfl) (fun _ _ _ h => h) (Or.inl ⟨by rfl, fun w' hw' => by go_simp; try rfl⟩) trivial ?_
      refine wpAnyH_take (i := 6) (v := .int .u32 (m0 : Int)) rfl (by kernel_rfl) (by kernel_rfl) (by kernel_rfl) (fun _ _ _ h => h) (Or.inl ⟨by rfl, fun w' hw' => by go_simp; try rfl⟩) trivial ?_
      refine wpAnyH_take (i := 7) (v := .string T) rfl (by kernel_rfl) (by kernel_rfl) (by kernel_rfl) (fun _ _ _ h => h) (Or.inl ⟨by rfl, fun w' hw' => by go_simp; try rfl⟩) trivial ?_
      refine wpAnyH_take (i := 8) (v := .int .i64 (k : Int)) rfl (by kernel_rfl) (by kernel_rfl) (by kernel_rfl) (fun _ _ _ h => h) (Or.inl ⟨by rfl, fun w' hw' => by go_simp; try rfl⟩) trivial ?_
      refine wpAnyH_take (i := 9) (v := .int .i64 (k0 : Int)) rfl (by kernel_rfl) (by kernel_rfl) (by kernel_rfl) (fun _ _ _ h => h) (Or.inl ⟨by rfl, fun w' hw' => by go_simp; try rfl⟩) trivial ?_
      refine wpAnyH_take (i := 10) (v := .int .i64 (k1 : Int)) rfl (by kernel_rfl) (by kernel_rfl) (by kernel_rfl) (fun _ _ _ h => h) (Or.inl ⟨by rfl, fun w' hw' => by go_simp; try rfl⟩) trivial ?_
      refine wpAnyH_take (i := 11) (v := .int .u8 (x1 : Int)) rfl (by kernel_rfl) (by kernel_rfl) (by kernel_rfl) (fun _ _ _ h => h) (Or.inl ⟨by rfl, fun w' hw' => by go_simp; try rfl⟩) trivial ?_
      refine wpAnyH_take (i := 12) (v := .int .u32 (x1 : Int)) rfl (by kernel_rfl) (by kernel_rfl) (by kernel_rfl) (fun _ _ _ h => h) (Or.inl ⟨by rfl, fun w' hw' => by go_simp; try rfl⟩) trivial ?_
      refine wpAnyH_take (i := 13) (v := .int .u32 (m1 : Int)) rfl (by kernel_rfl) (by kernel_rfl) (by kernel_rfl) (fun _ _ _ h => h) (Or.inl ⟨by rfl, fun w' hw' => by go_simp; try rfl⟩) trivial ?_
      refine wpAnyH_take (i := 14) (v := .int .u32 (n1 : Int)) rfl (by kernel_rfl) (by kernel_rfl) (by kernel_rfl) (fun _ _ _ h => h) (Or.inl ⟨by rfl, fun w' hw' => by go_simp; try rfl⟩) trivial ?_
      refine wpAnyH_take (i := 15) (v := .string T) rfl (by kernel_rfl) (by kernel_rfl) (by kernel_rfl) (fun _ _ _ h => h) (Or.inl ⟨by rfl, fun w' hw' => by go_simp; try rfl⟩) trivial ?_
      refine wpAnyH_take (i := 16) (v := .int .i64 (k : Int)) rfl (by kernel_rfl) (by kernel_rfl) (by kernel_rfl) (fun _ _ _ h => h) (Or.inl ⟨by rfl, fun w' hw' => by go_simp; try rfl⟩) trivial ?_
      refine wpAnyH_take (i := 17) (v := .int .i64 (k0 : Int)) rfl (by kernel_rfl) (by kernel_rfl) (by kernel_rfl) (fun _ _ _ h => h) (Or.inl ⟨by rfl, fun w' hw' => by go_simp; try rfl⟩) trivial ?_
      refine wpAnyH_take (i := 18) (v := .int .i64 (k2 : Int)) rfl (by kernel_rfl) (by kernel_rfl) (by kernel_rfl) (fun _ _ _ h => h) (Or.inl ⟨by rfl, fun w' hw' => by go_simp; try rfl⟩) trivial ?_
      refine wpAnyH_take (i := 19) (v := .int .u8 (x2 : Int)) rfl (by kernel_rfl) (by kernel_rfl) (by kernel_rfl) (fun _ _ _ h => h) (Or.inl ⟨by rfl, fun w' hw' => by go_simp; try rfl⟩) trivial ?_
      refine wpAnyH_take (i := 20) (v := .int .u32 (x2 : Int)) rfl (by kernel_rfl) (by kernel_rfl) (by kernel_rfl) (fun _ _ _ h => h) (Or.inl ⟨by rfl, fun w' hw' => by go_simp; try rfl⟩) trivial ?_
      refine wpAnyH_take (i := 21) (v := .int .u32 (m2 : Int)) rfl (by kernel_rfl) (by kernel_rfl) (by kernel_rfl) (fun _ _ _ h => h) (Or.inl ⟨by rfl, fun w' hw' => by go_simp; try rfl⟩) trivial ?_
      refine wpAnyH_take (i := 22) (v := .int .u32 (n2 : Int)) rfl (by kernel_rfl) (by kernel_rfl) (by kernel_rfl) (fun _ _ _ h => h) (Or.inl ⟨by rfl, fun w' hw' => by go_simp; try rfl⟩) trivial ?_
      refine wpAnyH_take (i := 23) (v := .string T) rfl (by kernel_rfl) (by kernel_rfl) (by kernel_rfl) (fun _ _ _ h => h) (Or.inl ⟨by rfl, fun w' hw' => by go_simp; try rfl⟩) trivial ?_
      refine wpAnyH_take (i := 24) (v := .int .i64 (k : Int)) rfl (by kernel_rfl) (by kernel_rfl) (by kernel_rfl) (fun _ _ _ h => h) (Or.inl ⟨by rfl, fun w' hw' => by go_simp; try rfl⟩) trivial ?_
      refine wpAnyH_take (i := 25) (v := .int .i64 (k0 : Int)) rfl (by kernel_rfl) (by kernel_rfl) (by kernel_rfl) (fun _ _ _ h => h) (Or.inl ⟨by rfl, fun w' hw' => by go_simp; try rfl⟩) trivial ?_
      refine wpAnyH_take (i := 26) (v := .int .i64 (k3 : Int)) rfl (by kernel_rfl) (by kernel_rfl) (by kernel_rfl) (fun _ _ _ h => h) (Or.inl ⟨by rfl, fun w' hw' => by go_simp; try rfl⟩) trivial ?_
      refine wpAnyH_take (i := 27) (v := .int .u8 (x3 : Int)) rfl (by kernel_rfl) (by kernel_rfl) (by kernel_rfl) (fun _ _ _ h => h) (Or.inl ⟨by rfl, fun w' hw' => by go_simp; try rfl⟩) trivial ?_
      refine wpAnyH_take (i := 28) (v := .int .u32 (x3 : Int)) rfl (by kernel_rfl) (by kernel_rfl) (by kernel_rfl) (fun _ _ _ h => h) (Or.inl ⟨by rfl, fun w' hw' => by go_simp; try rfl⟩) trivial ?_
      refine wpAnyH_take (i := 29) (v := .int .u32 (m : Int)) rfl (by kernel_rfl) (by kernel_rfl) (by kernel_rfl) (fun _ _ _ h => h) (Or.inl ⟨by rfl, fun w' hw' => by go_simp; try rfl⟩) trivial ?_
      refine wpAnyH_ready (rs := [30]) (by kernel_rfl) (by simp) ?_
      refine AllReadyH.cons rfl (fun K hK => ?_) AllReadyH.nil
      go_simp
      refine hK.out _ _ trivial (fun hHeld => ?_)
      clear hK K
      refine wpAnyH_ready (rs := [31]) (by kernel_rfl) (by simp) ?_
      refine AllReadyH.cons rfl (fun K hK => ?_) AllReadyH.nil
      refine step_append_lies _ (by rfl) _ _ _ (by rfl) w.heap.size 64 i0 _ 1 4 Tryd.underlying45 hi hz0 hz1 hz2 rfl (by omega) _ _ _ (by rfl) (O5.out.alloc _) ⟨wd.heap.size, 0, none⟩ 1 1 [.int .u32 (m : Int)] (by rfl) (by rfl) (World.news_of_block (cs := #[.int .u32 (m : Int)]) (t := 64) (fr := (0, 0)) (heap_alloc_new _ _)) (by simp [Value.oneCell']) (by omega) (by unfold maxLen; omega) (by omega) (by simp; omega) (wd.heap.size + 1) (by simp) ?_
      intro g2 cap2 w4 hown3 hgrow hat hlt3
      have PU := Bx.mk hown3
      have B4 : Bx (Below w.heap.size w w4) := ⟨(B5.out.alloc hbd _).grown hgrow (by simp; omega) (fun q hq => (O5.out.lt q hq).1)⟩
      clear hown3 hgrow hat hlt3
      refine hK.out _ _ trivial (fun hHeld => ?_)
      clear hK K
      refine wpAnyH_take (i := 32) (v := .slice (some ⟨g2, 0, none⟩) (k + 1) cap2) rfl (by kernel_rfl) (by kernel_rfl) (by kernel_rfl) (fun _ _ _ h => h) (Or.inl ⟨by rfl, fun w' hw' => by go_simp; try rfl⟩) trivial ?_
      refine wpAnyH_done (by kernel_rfl) ?_ _
      go_wp2_with fail
      go_roundw
      case rel => exact ⟨k + 1, g2, cap2, by go_num, by omega, rfl, ⟨by rw [HW.out]; simpa [u32s] using PU.out⟩, B4⟩
      case measure => simp [intOf] <;> omega
    · obtain rfl : k = 16 := by omega
      rw [show ((16 : Nat) : Int) = (16 : Int) from rfl]
      obtain ⟨ws, hws⟩ : ∃ ws, ws = (List.range 16).map (M.w4 (sb T)) := ⟨_, rfl⟩
      have hwl : ws.length = 16 := by rw [hws]; exact M.w4_length _
      have HWS := Bx.mk hws
      rw [← hws] at hO
      have hwlt : ∀ n, ∀ z ∈ M.gl M.nw ws n, z < 4294967296 := gl_lt ws (fun z hz => by rw [HWS.out] at hz; obtain ⟨i, _, rfl⟩ := List.mem_map.1 hz; exact w4_lt T i)
      have hgl : ∀ n, (M.gl M.nw ws n).length = 16 + n := M.gl_length M.nw ws hwl
      clear hws
      go_wp2_with fail
      go_loopw [7, 9] (fun r kx wr => ∃ (n g cap : Nat), kx = .int .i64 ((16 + n : Nat) : Int) ∧ n ≤ 48 ∧ r = .slice (some ⟨g, 0, none⟩) (16 + n) cap ∧ Bx (wr.ownsRow w.heap.size 64 1 (.slice (some ⟨g, 0, none⟩) (16 + n) cap) (16 + n) (u32s (M.gl M.nw ws n))) ∧ Bx (Below w.heap.size w wr)) (fun _ kx _ => 64 - (intOf kx).toNat)
      case atStart => exact ⟨0, g, cap, rfl, by omega, rfl, hO, hb⟩
      case round =>
        obtain ⟨n, g, cap, rfl, hn, rfl, hO, hb⟩ := hrel
        obtain ⟨wi, rfl⟩ : ∃ wi : World, wi = wr := ⟨_, rfl⟩
        by_cases hn48 : n < 48
        · obtain ⟨L, hL⟩ : ∃ L, L = M.gl M.nw ws n := ⟨_, rfl⟩
          have hLl : L.length = 16 + n := by rw [hL]; exact hgl n
          have hLb : ∀ z ∈ L, z < 4294967296 := by rw [hL]; exact hwlt n
          have hnx : M.gl M.nw ws (n + 1) = L ++ [M.nw L (16 + n)] := by rw [hL]; rfl
          rw [← hL] at hO
          obtain ⟨k, hk⟩ : ∃ k, k = 16 + n := ⟨_, rfl⟩
          rw [← hk] at hO hLl hnx
          rw [← hk]
          have hki : (k : Int) < 64 := by omega
          obtain ⟨p15, h15⟩ : ∃ p, p = k - 15 := ⟨_, rfl⟩
          obtain ⟨p2, h2⟩ : ∃ p, p = k - 2 := ⟨_, rfl⟩
          obtain ⟨p16, h16⟩ : ∃ p, p = k - 16 := ⟨_, rfl⟩
          obtain ⟨p7, h7⟩ : ∃ p, p = k - 7 := ⟨_, rfl⟩
          obtain ⟨x15, a15⟩ : ∃ x, L[p15]? = some x := ⟨_, List.getElem?_eq_getElem (by omega)⟩
          obtain ⟨x2, a2⟩ : ∃ x, L[p2]? = some x := ⟨_, List.getElem?_eq_getElem (by omega)⟩
          obtain ⟨x16, a16⟩ : ∃ x, L[p16]? = some x := ⟨_, List.getElem?_eq_getElem (by omega)⟩
          obtain ⟨x7, a7⟩ : ∃ x, L[p7]? = some x := ⟨_, List.getElem?_eq_getElem (by omega)⟩
          have l15 := hLb _ (List.mem_of_getElem? a15)
          have l2 := hLb _ (List.mem_of_getElem? a2)
          have l16 := hLb _ (List.mem_of_getElem? a16)
          have l7 := hLb _ (List.mem_of_getElem? a7)
          have q15 : wi.cell? ⟨g, p15, none⟩ = some (.int .u32 (x15 : Int)) := by rw [hO.out.cellAt p15 (by omega), u32s_get a15]
          have q2 : wi.cell? ⟨g, p2, none⟩ = some (.int .u32 (x2 : Int)) := by rw [hO.out.cellAt p2 (by omega), u32s_get a2]
          have q16 : wi.cell? ⟨g, p16, none⟩ = some (.int .u32 (x16 : Int)) := by rw [hO.out.cellAt p16 (by omega), u32s_get a16]
          have q7 : wi.cell? ⟨g, p7, none⟩ = some (.int .u32 (x7 : Int)) := by rw [hO.out.cellAt p7 (by omega), u32s_get a7]
          have y15 : (k : Int) - 15 = (p15 : Int) := by omega
          have y2 : (k : Int) - 2 = (p2 : Int) := by omega
          have y16 : (k : Int) - 16 = (p16 : Int) := by omega
          have y7 : (k : Int) - 7 = (p7 : Int) := by omega
          have w15 : IntKind.i64.wrap (p15 : Int) = (p15 : Int) := wrapI (by omega)
          have w2 : IntKind.i64.wrap (p2 : Int) = (p2 : Int) := wrapI (by omega)
          have w16 : IntKind.i64.wrap (p16 : Int) = (p16 : Int) := wrapI (by omega)
          have w7 : IntKind.i64.wrap (p7 : Int) = (p7 : Int) := wrapI (by omega)
          have hnw : M.nw L k = (x16 + M.s0 x15 + x7 + M.s1 x2) % 4294967296 := by
            unfold M.nw
            rw [← h15, ← h2, ← h16, ← h7]
            simp only [List.getD_eq_getElem?_getD, a15, a2, a16, a7, Option.getD_some]
          have A16 := Bx.mk (u32s_get a16); have A7 := Bx.mk (u32s_get a7)
          have n15 : (p15 : Int) < (k : Int) := by omega
          have n2 : (p2 : Int) < (k : Int) := by omega
          have n16 : (p16 : Int) < (k : Int) := by omega
          have n7 : (p7 : Int) < (k : Int) := by omega
          have HNX := Bx.mk (hnx.trans (by rw [hnw])); have HKK := Bx.mk hk
          clear hnw hnx hk h15 h2 h16 h7 a15 a2 a16 a7 hL hLb hwlt hgl
          have c1 := fun W => turnR_any x15 7 l15 (by omega) W
          have c2 := fun W => turnR_any x15 18 l15 (by omega) W
          have c3 := fun W => turnR_any x2 17 l2 (by omega) W
          have c4 := fun W => turnR_any x2 19 l2 (by omega) W
          simp only [show ((7 : Nat) : Int) = 7 from rfl] at c1
          simp only [show ((18 : Nat) : Int) = 18 from rfl] at c2
          simp only [show ((17 : Nat) : Int) = 17 from rfl] at c3
          simp only [show ((19 : Nat) : Int) = 19 from rfl] at c4
          obtain ⟨p1, hp1⟩ : ∃ p, p = M.rr 7 x15 := ⟨_, rfl⟩
          obtain ⟨p2', hp2⟩ : ∃ p, p = M.rr 18 x15 := ⟨_, rfl⟩
          obtain ⟨p3, hp3⟩ : ∃ p, p = M.rr 17 x2 := ⟨_, rfl⟩
          obtain ⟨p4, hp4⟩ : ∃ p, p = M.rr 19 x2 := ⟨_, rfl⟩
          have f1 : p1 < 4294967296 := by rw [hp1]; exact M.rr_lt (by omega) l15
          have f2 : p2' < 4294967296 := by rw [hp2]; exact M.rr_lt (by omega) l15
          have f3 : p3 < 4294967296 := by rw [hp3]; exact M.rr_lt (by omega) l2
          have f4 : p4 < 4294967296 := by rw [hp4]; exact M.rr_lt (by omega) l2
          rw [← hp1] at c1; rw [← hp2] at c2; rw [← hp3] at c3; rw [← hp4] at c4
          have C1 := Bx.mk c1; have C2 := Bx.mk c2; have C3 := Bx.mk c3; have C4 := Bx.mk c4
          clear c1 c2 c3 c4
          obtain ⟨S0, hS0⟩ : ∃ p, p = M.s0 x15 := ⟨_, rfl⟩
          obtain ⟨S1, hS1⟩ : ∃ p, p = M.s1 x2 := ⟨_, rfl⟩
          obtain ⟨y8, hy8⟩ : ∃ y, y = x15 / 8 := ⟨_, rfl⟩
          obtain ⟨y10, hy10⟩ : ∃ y, y = x2 / 1024 := ⟨_, rfl⟩
          have v8 : IntKind.u32.wrap ((x15 : Int) / 8) = (y8 : Int) := by
            rw [show (x15 : Int) / 8 = (y8 : Int) by omega]; exact wrapU (by omega)
          have v10 : IntKind.u32.wrap ((x2 : Int) / 1024) = (y10 : Int) := by
            rw [show (x2 : Int) / 1024 = (y10 : Int) by omega]; exact wrapU (by omega)
          have r1 : bits BinOp.xor IntKind.u32 (bits BinOp.xor IntKind.u32 (p1 : Int) (p2' : Int)) (y8 : Int) = (S0 : Int) := by
            rw [xor32 f1 f2, xor32 (M.xor_lt32 f1 f2) (by omega), hS0, hp1, hp2, hy8]; rfl
          have r2 : bits BinOp.xor IntKind.u32 (bits BinOp.xor IntKind.u32 (p3 : Int) (p4 : Int)) (y10 : Int) = (S1 : Int) := by
            rw [xor32 f3 f4, xor32 (M.xor_lt32 f3 f4) (by omega), hS1, hp3, hp4, hy10]; rfl
          have e0 : S0 < 4294967296 := by rw [hS0]; exact M.s0_lt l15
          have e1 : S1 < 4294967296 := by rw [hS1]; exact M.s1_lt l2
          rw [← hS0, ← hS1] at HNX
          clear hp1 hp2 hp3 hp4 hS0 hS1 hy8 hy10
          obtain ⟨a1, ha1⟩ : ∃ a, a = (x16 + S0) % 4294967296 := ⟨_, rfl⟩
          obtain ⟨a2, ha2⟩ : ∃ a, a = (a1 + x7) % 4294967296 := ⟨_, rfl⟩
          obtain ⟨a3, ha3⟩ : ∃ a, a = (x16 + S0 + x7 + S1) % 4294967296 := ⟨_, rfl⟩
          rw [← ha3] at HNX
          have z1 : IntKind.u32.wrap ((x16 : Int) + (S0 : Int)) = (a1 : Int) := by rw [IntKind.wrap_u32]; omega
          have z2 : IntKind.u32.wrap ((a1 : Int) + (x7 : Int)) = (a2 : Int) := by rw [IntKind.wrap_u32]; omega
          have z3 : IntKind.u32.wrap ((a2 : Int) + (S1 : Int)) = (a3 : Int) := by rw [IntKind.wrap_u32]; omega
          have ha3l : a3 < 4294967296 := by omega
          have hbs := hb.out.size
          clear ha1 ha2 ha3
          go_wp2_with fail
          go_quiet (fail)
          go_wp2_with fail
          have O5 : Bx ((wi.drewN nq).drew.ownsRow w.heap.size 64 1 (.slice (some ⟨g, 0, none⟩) k cap) k (u32s L)) := ⟨hO.out⟩
          have B5 : Bx (Below w.heap.size w (wi.drewN nq).drew) := ⟨(belDrR hb.out nq).drew⟩
          have hbd : w.heap.size ≤ (wi.drewN nq).drew.heap.size := hbs
          have s16 : (wi.drewN nq).drew.cell? ⟨g, p16, none⟩ = some (.int .u32 (x16 : Int)) := q16
          have s7 : (wi.drewN nq).drew.cell? ⟨g, p7, none⟩ = some (.int .u32 (x7 : Int)) := q7
          clear q15 q2 q16 q7 hO hb
          generalize hwd : (wi.drewN nq) = wn at *
          have hbn : w.heap.size ≤ wn.heap.size := hbd
          have cz : ∀ (o : Obj), (wn.drew.alloc o).cell? ⟨g, p16, none⟩ = some (.int .u32 (x16 : Int)) ∧ (wn.drew.alloc o).cell? ⟨g, p7, none⟩ = some (.int .u32 (x7 : Int)) := fun o => ⟨cell_below (asetR _ _) s16, cell_below (asetR _ _) s7⟩
          have CZ := Bx.mk cz
          clear cz
          obtain ⟨wz, hwz⟩ : ∃ W, W = (wn.alloc (.cells #[.int .u32 (a3 : Int)] 64)).drew := ⟨_, rfl⟩
          have nb : ∀ (j : Nat) (u : Value), [Value.int .u32 (a3 : Int)][j]? = some u → wz.cell? ((⟨wn.heap.size, 0, none⟩ : Addr).add j) = some u := by
            rw [hwz]
            exact World.news_of_block (cs := #[.int .u32 (a3 : Int)]) (t := 64) (fr := (0, 0)) (heap_alloc_new wn _)
          have oz : wz.ownsRow w.heap.size 64 1 (.slice (some ⟨g, 0, none⟩) k cap) k (u32s L) := by rw [hwz]; exact O5.out.alloc _
          have bz : Below w.heap.size w wz := by rw [hwz]; exact B5.out.alloc hbd _
          have szz : w.heap.size ≤ wz.heap.size := bz.size
          have c6 : wz.cell? ⟨g, p16, none⟩ = some (.int .u32 (x16 : Int)) := by rw [hwz]; exact (CZ.out _).1
          have c7 : wz.cell? ⟨g, p7, none⟩ = some (.int .u32 (x7 : Int)) := by rw [hwz]; exact (CZ.out _).2
          have HWZ := Bx.mk hwz; have NB := Bx.mk nb; have OZ := Bx.mk oz; have BZ := Bx.mk bz
          clear hwz nb oz bz
          go_region_held3 (fun W => W.cell? ⟨g, p16, none⟩ = some (.int .u32 (x16 : Int)) ∧ W.cell? ⟨g, p7, none⟩ = some (.int .u32 (x7 : Int)))
            (first
              | (exact ⟨s16, s7⟩)
              | (exact CZ.out _)
              | (exact ⟨k16, k7⟩))
            (first
              | (go_at_call 62; ((with_reducible refine (C1.out _).mono ?_); rintro e w' ⟨rfl, rfl⟩))
              | (go_at_call 62; ((with_reducible refine (C2.out _).mono ?_); rintro e w' ⟨rfl, rfl⟩))
              | (go_at_call 62; ((with_reducible refine (C3.out _).mono ?_); rintro e w' ⟨rfl, rfl⟩))
              | (go_at_call 62; ((with_reducible refine (C4.out _).mono ?_); rintro e w' ⟨rfl, rfl⟩))
              | (rw [← HWZ.out]; refine step_append_kept (by rfl) (.tmp 68) (.tmp 98) 45 (by rfl) w.heap.size 64 i0 _ 4 Tryd.underlying45 hi hz0 hz1 hz2 rfl g k cap (u32s L) (by rfl) OZ.out ⟨wn.heap.size, 0, none⟩ 1 1 [.int .u32 (a3 : Int)] (by rfl) (by rfl) NB.out (by simp [Value.oneCell']) (by omega) (by unfold maxLen; omega) (by omega) szz ?_; intro g2 cap2 w4 hown3 hgrow hlt3 hkp; have PU := Bx.mk hown3; have B4 : Bx (Below w.heap.size w w4) := ⟨BZ.out.grown hgrow szz (fun q hq => by cases hq; exact (OZ.out.lt g rfl).1)⟩; have k16 := hkp p16 _ A16.out; have k7 := hkp p7 _ A7.out; clear hown3 hgrow hlt3 hkp))
          all_goals
            go_wp2_with fail
            go_roundw
            case rel => exact ⟨n + 1, g2, cap2, by have := HKK.out; go_num, by omega, by rw [HKK.out]; rfl, ⟨by have h := PU.out; rw [HKK.out] at h; rw [HNX.out, show 16 + (n + 1) = 16 + n + 1 from rfl]; simpa [u32s] using h⟩, B4⟩
            case measure => simp [intOf] <;> omega
        · obtain ⟨S64, hS64⟩ : ∃ S, S = M.gl M.nw ws n := ⟨_, rfl⟩
          have hn48' : n = 48 := by omega
          have hSl : S64.length = 64 := by rw [hS64, hgl n]; omega
          have hSb : ∀ z ∈ S64, z < 4294967296 := by rw [hS64]; exact hwlt n
          have hSs : S64 = M.sched (sb T) := by rw [hS64, hn48', HWS.out]; rfl
          obtain ⟨kk, hkk⟩ : ∃ k, k = 16 + n := ⟨_, rfl⟩
          rw [← hS64, ← hkk] at hO
          rw [← hkk]
          have hk64 : ((kk : Int) < 64) = False := eq_false (by omega)
          have hkl : kk = 64 := by omega
          have RW : Row32 wi g kk S64 := Row32.of (by omega) hO.out
          have gwlt : g < wi.heap.size := RW.lt (by omega)
          have RW := Bx.mk RW
          have HSL := Bx.mk hSl; have HSB := Bx.mk hSb; have HSS := Bx.mk hSs; have HKL := Bx.mk hkl
          clear hn48' hS64 hkk hwlt hgl hn hn48 hwl hSl hSb hSs hkl
          have hbs := hb.out.size
          have oe : (wi.alloc (.cells #[] 64)).ownsRow w.heap.size 64 1 (.slice (some ⟨wi.heap.size, 0, none⟩) 0 0) 0 [] := World.ownsRow_made _ _ _ hbs (by decide) rfl
          have galt : ga < w.heap.size := HA.out.lt (by omega)
          have na : ∀ (j : Nat) (u : Value), (u32s (v8l st))[j]? = some u → (wi.alloc (.cells #[] 64)).cell? ((⟨ga, 0, none⟩ : Addr).add j) = some u := fun j u hu => by
            rw [WideShapes.add_plain, Nat.zero_add]
            have hj : j < 8 := (List.getElem?_eq_some_iff.1 hu).1
            have hc := ((HA.out.below hb.out galt).below (asetR wi (.cells #[] 64)) (by omega)).cell j hj
            rw [hc]
            have e : (v8l st)[j]? = some ((v8l st).getD j 0) := by rw [List.getD_eq_getElem?_getD, List.getElem?_eq_getElem (by exact hj)]; rfl
            rw [u32s_get e] at hu
            exact hu
          have OE := Bx.mk oe; have NA := Bx.mk na
          clear oe na
          go_wp2_with (at_builtin; refine wpList_append_lies _ rfl (.tmp 100) (.tmp 101) 45 rfl w.heap.size 64 i0 _ 1 4 Tryd.underlying45 hi hz0 hz1 hz2 rfl (by omega) _ 0 [] rfl OE.out ⟨ga, 0, none⟩ 8 ca (u32s (v8l st)) rfl rfl NA.out (by intro u hu; obtain ⟨q, _, rfl⟩ := List.mem_map.1 hu; rfl) (by omega) (by unfold maxLen; omega) (by omega) (by simp; omega) (wi.heap.size + 1) (by simp) ?_; intro g3 cap3 w3 hown3 hgrow3 hat3 hlt3; rw [Nat.zero_add, List.nil_append] at hown3; have P3 := Bx.mk hown3; have B3 : Bx (Below wi.heap.size wi w3) := ⟨(asetR wi _).grown hgrow3 (by simp) (fun q hq => by cases hq; exact Nat.le_refl _)⟩; have G3 : Bx (wi.heap.size ≤ g3) := ⟨by rcases hat3 with h | h; (cases h; exact Nat.le_refl _); omega⟩; clear hown3 hgrow3 hat3 hlt3)
          have BW := Bx.mk (hb.out.trans (B3.out.mono hb.out.size))
          have RW3 := Bx.mk (RW.out.below B3.out gwlt)
          have HW0 : Bx (Below w.heap.size w wi) := hb
          clear hO hb NA OE
          go_loopw [12, 13] (fun vv kx wr => ∃ (j gv cv : Nat), kx = .int .i64 (j : Int) ∧ j ≤ 64 ∧ vv = .slice (some ⟨gv, 0, none⟩) 8 cv ∧ wi.heap.size ≤ gv ∧ 8 ≤ cv ∧ Bx (Row32 wr gv 8 (v8l (M.rds M.kN S64 st j))) ∧ Bx (Below wi.heap.size wi wr)) (fun _ kx _ => 64 - (intOf kx).toNat)
          case atStart => exact ⟨0, g3, cap3, rfl, by omega, rfl, G3.out, ownsCap P3.out, ⟨Row32.of rfl P3.out⟩, B3⟩
          case round =>
            clear P3 B3 G3 RW3 BW
            obtain ⟨j, gv, cv, rfl, hj, rfl, hgv, hcv, hV, hB⟩ := hrel
            obtain ⟨wj, rfl⟩ : ∃ wj : World, wj = wr := ⟨_, rfl⟩
            by_cases hj64 : j < 64
            · obtain ⟨v, hv⟩ : ∃ v, v = M.rds M.kN S64 st j := ⟨_, rfl⟩
              have hok : v.ok := by rw [hv]; exact M.rds_ok HST.out j
              have hnext : M.rds M.kN S64 st (j + 1) = M.rnd (M.kN.getD j 0) (S64.getD j 0) v := by rw [hv]; rfl
              rw [← hv] at hV
              obtain ⟨K, hK⟩ : ∃ x, x = M.kN.getD j 0 := ⟨_, rfl⟩
              obtain ⟨X, hX⟩ : ∃ x, x = S64.getD j 0 := ⟨_, rfl⟩
              rw [← hK, ← hX] at hnext
              have hKl : K < 4294967296 := by rw [hK]; exact M.kN_lt j hj64
              have hXl : X < 4294967296 := by
                rw [hX, List.getD_eq_getElem?_getD, List.getElem?_eq_getElem (by have := HSL.out; omega)]
                exact HSB.out _ (List.getElem_mem _)
              have gklt : gk < w.heap.size := HK.out.lt (by omega)
              have HNX := Bx.mk hnext
              have RV : Bx (Row32 wj gv 8 (v8l v)) := hV
              have cK : wj.cell? ⟨gk, j, none⟩ = some (.int .u32 (K : Int)) := by
                rw [hK]; exact (HK.out.below (HW0.out.trans (hB.out.mono HW0.out.size)) gklt).cell j hj64
              have cX : wj.cell? ⟨g, j, none⟩ = some (.int .u32 (X : Int)) := by
                rw [hX]; exact (RW.out.below hB.out gwlt).cell j (by have := HKL.out; omega)
              obtain ⟨a, b, c, d, e, f, gg, h⟩ := v
              obtain ⟨ka, kb, kc, kd, ke, kf, kg, kh⟩ := hok
              have c0 : wj.cell? ⟨gv, 0, none⟩ = some (.int .u32 (a : Int)) := RV.out.cell 0 (by decide)
              have c1 : wj.cell? ⟨gv, 1, none⟩ = some (.int .u32 (b : Int)) := RV.out.cell 1 (by decide)
              have c2 : wj.cell? ⟨gv, 2, none⟩ = some (.int .u32 (c : Int)) := RV.out.cell 2 (by decide)
              have c3 : wj.cell? ⟨gv, 3, none⟩ = some (.int .u32 (d : Int)) := RV.out.cell 3 (by decide)
              have c4 : wj.cell? ⟨gv, 4, none⟩ = some (.int .u32 (e : Int)) := RV.out.cell 4 (by decide)
              have c5 : wj.cell? ⟨gv, 5, none⟩ = some (.int .u32 (f : Int)) := RV.out.cell 5 (by decide)
              have c6 : wj.cell? ⟨gv, 6, none⟩ = some (.int .u32 (gg : Int)) := RV.out.cell 6 (by decide)
              have c7 : wj.cell? ⟨gv, 7, none⟩ = some (.int .u32 (h : Int)) := RV.out.cell 7 (by decide)
              simp only at ka kb kc kd ke kf kg kh
              clear hv hK hX hnext
              have t1 := fun W => turnR_any e 6 ke (by omega) W
              have t2 := fun W => turnR_any e 11 ke (by omega) W
              have t3 := fun W => turnR_any e 25 ke (by omega) W
              have t4 := fun W => not_any e ke W
              have t5 := fun W => turnR_any a 2 ka (by omega) W
              have t6 := fun W => turnR_any a 13 ka (by omega) W
              have t7 := fun W => turnR_any a 22 ka (by omega) W
              simp only [show ((6 : Nat) : Int) = 6 from rfl] at t1
              simp only [show ((11 : Nat) : Int) = 11 from rfl] at t2
              simp only [show ((25 : Nat) : Int) = 25 from rfl] at t3
              simp only [show ((2 : Nat) : Int) = 2 from rfl] at t5
              simp only [show ((13 : Nat) : Int) = 13 from rfl] at t6
              simp only [show ((22 : Nat) : Int) = 22 from rfl] at t7
              obtain ⟨q1, e1⟩ : ∃ p, p = M.rr 6 e := ⟨_, rfl⟩
              obtain ⟨q2, e2⟩ : ∃ p, p = M.rr 11 e := ⟨_, rfl⟩
              obtain ⟨q3, e3⟩ : ∃ p, p = M.rr 25 e := ⟨_, rfl⟩
              obtain ⟨q4, e4⟩ : ∃ p, p = 4294967295 - e := ⟨_, rfl⟩
              obtain ⟨q5, e5⟩ : ∃ p, p = M.rr 2 a := ⟨_, rfl⟩
              obtain ⟨q6, e6⟩ : ∃ p, p = M.rr 13 a := ⟨_, rfl⟩
              obtain ⟨q7, e7⟩ : ∃ p, p = M.rr 22 a := ⟨_, rfl⟩
              have f1 : q1 < 4294967296 := by rw [e1]; exact M.rr_lt (by omega) ke
              have f2 : q2 < 4294967296 := by rw [e2]; exact M.rr_lt (by omega) ke
              have f3 : q3 < 4294967296 := by rw [e3]; exact M.rr_lt (by omega) ke
              have f4 : q4 < 4294967296 := by rw [e4]; omega
              have f5 : q5 < 4294967296 := by rw [e5]; exact M.rr_lt (by omega) ka
              have f6 : q6 < 4294967296 := by rw [e6]; exact M.rr_lt (by omega) ka
              have f7 : q7 < 4294967296 := by rw [e7]; exact M.rr_lt (by omega) ka
              rw [← e1] at t1; rw [← e2] at t2; rw [← e3] at t3; rw [← e4] at t4; rw [← e5] at t5; rw [← e6] at t6; rw [← e7] at t7
              have T1 := Bx.mk t1; have T2 := Bx.mk t2; have T3 := Bx.mk t3; have T4 := Bx.mk t4; have T5 := Bx.mk t5; have T6 := Bx.mk t6; have T7 := Bx.mk t7
              clear t1 t2 t3 t4 t5 t6 t7
              obtain ⟨u1, d1⟩ : ∃ p, p = M.t1 e := ⟨_, rfl⟩
              obtain ⟨u2, d2⟩ : ∃ p, p = M.t0 a := ⟨_, rfl⟩
              obtain ⟨n1, m1⟩ : ∃ p, p = e &&& f := ⟨_, rfl⟩
              obtain ⟨n2, m2⟩ : ∃ p, p = q4 &&& gg := ⟨_, rfl⟩
              obtain ⟨ch, m3⟩ : ∃ p, p = n1 ^^^ n2 := ⟨_, rfl⟩
              obtain ⟨n4, m4⟩ : ∃ p, p = a &&& b := ⟨_, rfl⟩
              obtain ⟨n5, m5⟩ : ∃ p, p = a &&& c := ⟨_, rfl⟩
              obtain ⟨n6, m6⟩ : ∃ p, p = b &&& c := ⟨_, rfl⟩
              obtain ⟨n7, m7⟩ : ∃ p, p = n4 ^^^ n5 := ⟨_, rfl⟩
              obtain ⟨ma, m8⟩ : ∃ p, p = n7 ^^^ n6 := ⟨_, rfl⟩
              have l1 : n1 < 4294967296 := by rw [m1]; exact M.and_lt32 ke
              have l2 : n2 < 4294967296 := by rw [m2]; exact M.and_lt32 f4
              have l3 : ch < 4294967296 := by rw [m3]; exact M.xor_lt32 l1 l2
              have l4 : n4 < 4294967296 := by rw [m4]; exact M.and_lt32 ka
              have l5 : n5 < 4294967296 := by rw [m5]; exact M.and_lt32 ka
              have l6 : n6 < 4294967296 := by rw [m6]; exact M.and_lt32 kb
              have l7 : n7 < 4294967296 := by rw [m7]; exact M.xor_lt32 l4 l5
              have l8 : ma < 4294967296 := by rw [m8]; exact M.xor_lt32 l7 l6
              have r1 : bits BinOp.xor IntKind.u32 (bits BinOp.xor IntKind.u32 (q1 : Int) (q2 : Int)) (q3 : Int) = (u1 : Int) := by
                rw [xor32 f1 f2, xor32 (M.xor_lt32 f1 f2) f3, d1, e1, e2, e3]; rfl
              have r2 : bits BinOp.xor IntKind.u32 (bits BinOp.xor IntKind.u32 (q5 : Int) (q6 : Int)) (q7 : Int) = (u2 : Int) := by
                rw [xor32 f5 f6, xor32 (M.xor_lt32 f5 f6) f7, d2, e5, e6, e7]; rfl
              have r3 : bits BinOp.and IntKind.u32 (e : Int) (f : Int) = (n1 : Int) := by rw [m1]; exact u32_and_nat _ _ ke kf
              have r4 : bits BinOp.and IntKind.u32 (q4 : Int) (gg : Int) = (n2 : Int) := by rw [m2]; exact u32_and_nat _ _ f4 kg
              have r5 : bits BinOp.xor IntKind.u32 (n1 : Int) (n2 : Int) = (ch : Int) := by rw [m3]; exact xor32 l1 l2
              have r6 : bits BinOp.and IntKind.u32 (a : Int) (b : Int) = (n4 : Int) := by rw [m4]; exact u32_and_nat _ _ ka kb
              have r7 : bits BinOp.and IntKind.u32 (a : Int) (c : Int) = (n5 : Int) := by rw [m5]; exact u32_and_nat _ _ ka kc
              have r8 : bits BinOp.and IntKind.u32 (b : Int) (c : Int) = (n6 : Int) := by rw [m6]; exact u32_and_nat _ _ kb kc
              have r9 : bits BinOp.xor IntKind.u32 (n4 : Int) (n5 : Int) = (n7 : Int) := by rw [m7]; exact xor32 l4 l5
              have r10 : bits BinOp.xor IntKind.u32 (n7 : Int) (n6 : Int) = (ma : Int) := by rw [m8]; exact xor32 l7 l6
              have hch : M.chN e f gg = ch := by rw [m3, m1, m2, e4]; rfl
              have hma : M.maN a b c = ma := by rw [m8, m7, m4, m5, m6]; rfl
              have k1 : u1 < 4294967296 := by rw [d1]; exact M.t1_lt ke
              have k2 : u2 < 4294967296 := by rw [d2]; exact M.t0_lt ka
              obtain ⟨s1, o1⟩ : ∃ p, p = (h + u1) % 4294967296 := ⟨_, rfl⟩
              obtain ⟨s2, o2⟩ : ∃ p, p = (s1 + ch) % 4294967296 := ⟨_, rfl⟩
              obtain ⟨s3, o3⟩ : ∃ p, p = (s2 + K) % 4294967296 := ⟨_, rfl⟩
              obtain ⟨tt, o4⟩ : ∃ p, p = (s3 + X) % 4294967296 := ⟨_, rfl⟩
              obtain ⟨uu, o5⟩ : ∃ p, p = (u2 + ma) % 4294967296 := ⟨_, rfl⟩
              obtain ⟨s0, o6⟩ : ∃ p, p = (tt + uu) % 4294967296 := ⟨_, rfl⟩
              obtain ⟨s4, o7⟩ : ∃ p, p = (d + tt) % 4294967296 := ⟨_, rfl⟩
              have z1 : IntKind.u32.wrap ((h : Int) + (u1 : Int)) = (s1 : Int) := by rw [IntKind.wrap_u32]; omega
              have z2 : IntKind.u32.wrap ((s1 : Int) + (ch : Int)) = (s2 : Int) := by rw [IntKind.wrap_u32]; omega
              have z3 : IntKind.u32.wrap ((s2 : Int) + (K : Int)) = (s3 : Int) := by rw [IntKind.wrap_u32]; omega
              have z4 : IntKind.u32.wrap ((s3 : Int) + (X : Int)) = (tt : Int) := by rw [IntKind.wrap_u32]; omega
              have z5 : IntKind.u32.wrap ((u2 : Int) + (ma : Int)) = (uu : Int) := by rw [IntKind.wrap_u32]; omega
              have z6 : IntKind.u32.wrap ((tt : Int) + (uu : Int)) = (s0 : Int) := by rw [IntKind.wrap_u32]; omega
              have z7 : IntKind.u32.wrap ((d : Int) + (tt : Int)) = (s4 : Int) := by rw [IntKind.wrap_u32]; omega
              have hnew : M.rnd K X ⟨a, b, c, d, e, f, gg, h⟩ = ⟨s0, a, b, c, s4, e, f, gg⟩ := by
                have hT : M.rT K X ⟨a, b, c, d, e, f, gg, h⟩ = tt := by
                  unfold M.rT; simp only [hch, ← d1]; omega
                have hU : M.rU ⟨a, b, c, d, e, f, gg, h⟩ = uu := by
                  unfold M.rU; simp only [hma, ← d2]; omega
                unfold M.rnd
                simp only [hT, hU]
                rw [← o6, ← o7]
              have HNEW := Bx.mk hnew
              have hji : (j : Int) < 64 := by omega
              have hjk : (j : Int) < (kk : Int) := by have := HKL.out; omega
              clear hnew hch hma o1 o2 o3 o4 o5 o6 o7 d1 d2 m1 m2 m3 m4 m5 m6 m7 m8 e1 e2 e3 e4 e5 e6 e7
              have C0 := Bx.mk c0; have C1 := Bx.mk c1; have C2 := Bx.mk c2; have R2 := Bx.mk r2; have R6 := Bx.mk r6; have R7 := Bx.mk r7; have R8 := Bx.mk r8; have R9 := Bx.mk r9; have R10 := Bx.mk r10; have Z5 := Bx.mk z5; have Z6 := Bx.mk z6; have Z7 := Bx.mk z7; have HGV := Bx.mk hgv
              have HCV := Bx.mk hcv; have HJ := Bx.mk hj64
              clear hcv c0 c1 c2 c3 r2 r6 r7 r8 r9 r10 z5 z6 z7 f1 f2 f3 f4 f5 f6 f7 l1 l2 l3 l4 l5 l6 l7 l8 k1 k2 ka kb kc kd ke kf kg kh hKl hXl gklt galt gwlt hT hgv hbs hj hj64
              go_wp2_with fail
              go_region_held3 (fun W => W.cell? ⟨gv, 7, none⟩ = some (.int .u32 (h : Int)) ∧ W.cell? ⟨gv, 4, none⟩ = some (.int .u32 (e : Int)) ∧ W.cell? ⟨gv, 5, none⟩ = some (.int .u32 (f : Int)) ∧ W.cell? ⟨gv, 6, none⟩ = some (.int .u32 (gg : Int)) ∧ W.cell? ⟨gk, j, none⟩ = some (.int .u32 (K : Int)) ∧ W.cell? ⟨g, j, none⟩ = some (.int .u32 (X : Int)))
                (exact ⟨c7, c4, c5, c6, cK, cX⟩)
                (first
                  | (go_at_call 62; ((with_reducible refine (T1.out _).mono ?_); rintro e w' ⟨rfl, rfl⟩))
                  | (go_at_call 62; ((with_reducible refine (T2.out _).mono ?_); rintro e w' ⟨rfl, rfl⟩))
                  | (go_at_call 62; ((with_reducible refine (T3.out _).mono ?_); rintro e w' ⟨rfl, rfl⟩))
                  | (go_at_call 63; ((with_reducible refine (T4.out _).mono ?_); rintro e w' ⟨rfl, rfl⟩)))
              go_wp2_with fail
              have hcv := HCV.out
              have wz : wj.heap.size = wj.drew.heap.size := rfl
              have D0 : wj.drew.cell? ⟨gv, 0, none⟩ = some (.int .u32 (a : Int)) := C0.out
              have D1 : wj.drew.cell? ⟨gv, 1, none⟩ = some (.int .u32 (b : Int)) := C1.out
              have D2 : wj.drew.cell? ⟨gv, 2, none⟩ = some (.int .u32 (c : Int)) := C2.out
              have r2 := R2.out; have r6 := R6.out; have r7 := R7.out; have r8 := R8.out; have r9 := R9.out; have r10 := R10.out; have z5 := Z5.out
              clear r1 r3 r4 r5 z1 z2 z3 z4 c4 c5 c6 c7 cK cX T1 T2 T3 T4
              have RVd : Bx (Row32 wj.drew gv 8 (v8l ⟨a, b, c, d, e, f, gg, h⟩)) := ⟨⟨RV.out.len, RV.out.cell, RV.out.free⟩⟩
              have HBd : Bx (Below wi.heap.size wi wj.drew) := ⟨hB.out.drew⟩
              clear wz
              generalize wj.drew = wd at *
              go_region_held3 (fun W => W.cell? ⟨gv, 0, none⟩ = some (.int .u32 (a : Int)) ∧ W.cell? ⟨gv, 1, none⟩ = some (.int .u32 (b : Int)) ∧ W.cell? ⟨gv, 2, none⟩ = some (.int .u32 (c : Int)))
                (exact ⟨D0, D1, D2⟩)
                (first
                  | (go_at_call 62; ((with_reducible refine (T5.out _).mono ?_); rintro e w' ⟨rfl, rfl⟩))
                  | (go_at_call 62; ((with_reducible refine (T6.out _).mono ?_); rintro e w' ⟨rfl, rfl⟩))
                  | (go_at_call 62; ((with_reducible refine (T7.out _).mono ?_); rintro e w' ⟨rfl, rfl⟩)))
              have RVe : Bx (Row32 wd.drew gv 8 (v8l ⟨a, b, c, d, e, f, gg, h⟩)) := ⟨⟨RVd.out.len, RVd.out.cell, RVd.out.free⟩⟩
              have HBe : Bx (Below wi.heap.size wi wd.drew) := ⟨HBd.out.drew⟩
              clear r2 r6 r7 r8 r9 r10 z5 D0 D1 D2 T5 T6 T7 RVd HBd
              generalize wd.drew = we at *
              have hbe := HBe.out.size
              have hgve : gv < we.heap.size := RVe.out.lt (by decide)
              obtain ⟨wf, hwf⟩ : ∃ W, W = we.alloc (.cells #[.int .u32 (s0 : Int)] 64) := ⟨_, rfl⟩
              have of1 : wf.ownsRow wi.heap.size 64 1 (.slice (some ⟨we.heap.size, 0, none⟩) 1 1) 1 [.int .u32 (s0 : Int)] := by rw [hwf]; exact World.ownsRow_lit we #[.int .u32 (s0 : Int)] 1 hbe (by unfold maxLen; omega) (by rfl)
              have nf : ∀ (i : Nat) (u : Value), (u32s [a, b, c, d, e, f, gg])[i]? = some u → wf.cell? ((⟨gv, 0, none⟩ : Addr).add i) = some u := fun i u hu => by
                rw [WideShapes.add_plain, Nat.zero_add]
                have hi7 : i < 7 := (List.getElem?_eq_some_iff.1 hu).1
                have hc := (RVe.out.below (asetR we (.cells #[.int .u32 (s0 : Int)] 64)) hgve).cell i (by omega)
                rw [hwf, hc]
                match i, hi7, hu with
                | 0, _, hu => exact hu
                | 1, _, hu => exact hu
                | 2, _, hu => exact hu
                | 3, _, hu => exact hu
                | 4, _, hu => exact hu
                | 5, _, hu => exact hu
                | 6, _, hu => exact hu
              have sf : wf.heap.size = we.heap.size + 1 := by rw [hwf]; simp
              have bf : Below wi.heap.size wi wf := by rw [hwf]; exact HBe.out.alloc hbe _
              have HWF := Bx.mk hwf; have OF := Bx.mk of1; have NF := Bx.mk nf; have BF := Bx.mk bf
              have z6 := Z6.out; have z7 := Z7.out
              have h7 : (7 : Int) ≤ (cv : Int) := by omega
              have sfl : wi.heap.size ≤ wf.heap.size := bf.size
              clear hwf of1 nf bf
              go_wp2_with (at_builtin; rw [← HWF.out]; refine wpList_append_lies _ rfl (.tmp 193) (.tmp 195) 45 rfl wi.heap.size 64 i0 _ 1 4 Tryd.underlying45 hi hz0 hz1 hz2 rfl (by omega) _ 1 [.int .u32 (s0 : Int)] rfl OF.out ⟨gv, 0, none⟩ 7 cv (u32s [a, b, c, d, e, f, gg]) rfl rfl NF.out (by intro u hu; obtain ⟨q, _, rfl⟩ := List.mem_map.1 hu; rfl) (by omega) (by unfold maxLen; omega) (by omega) sfl wf.heap.size rfl ?_; intro g5 cap5 w5 hown5 hgrow5 hat5 hlt5; have P5 : Bx (w5.ownsRow wi.heap.size 64 1 (.slice (some ⟨g5, 0, none⟩) 8 cap5) 8 (u32s [s0, a, b, c, d, e, f, gg])) := ⟨hown5⟩; have B5 : Bx (Below wi.heap.size wi w5) := ⟨BF.out.grown hgrow5 sfl (fun q hq => (OF.out.lt q hq).1)⟩; have G5 : Bx (wi.heap.size ≤ g5) := ⟨(hown5.lt g5 rfl).1⟩; have R5 : Row32 w5 g5 8 [s0, a, b, c, d, e, f, gg] := Row32.of rfl hown5; have p4 : w5.cell? ⟨g5, 4, none⟩ = some (.int .u32 (d : Int)) := R5.cell 4 (by decide); have x4 : w5.frozen? ⟨g5, 4, none⟩ = false := R5.free 4 (by decide); have R55 := Bx.mk R5; clear hown5 hgrow5 hat5 hlt5 R5)
              go_roundw
              case rel => exact ⟨j + 1, g5, cap5, by go_num, by have := HJ.out; omega, rfl, G5.out, ownsCap P5.out, ⟨by have hh := R55.out.set 4 s4 (by decide); rw [HNX.out, HNEW.out]; exact hh⟩, ⟨B5.out.setCell (p := ⟨g5, 4, none⟩) G5.out _⟩⟩
              case measure => have := HJ.out; simp [intOf] <;> omega
            · have hjl : j = 64 := by omega
              have hv64 : M.mixV st (sb T) = M.add8 (M.rds M.kN S64 st j) st := by rw [hjl, HSS.out]; rfl
              have hj0 : ((j : Int) < 64) = False := eq_false (by omega)
              obtain ⟨v, hv⟩ : ∃ v, v = M.rds M.kN S64 st j := ⟨_, rfl⟩
              have hok : v.ok := by rw [hv]; exact M.rds_ok HST.out j
              rw [← hv] at hV hv64
              have HMX := Bx.mk hv64
              clear hv hv64 hjl hj hj64
              obtain ⟨a, b, c, d, e, f, gg, h⟩ := v
              obtain ⟨a', b', c', d', e', f', g', h'⟩ := st
              have LA : Bx (Row32 w ga 8 [a', b', c', d', e', f', g', h']) := ⟨HA.out⟩
              have LV : Bx (Row32 wj gv 8 [a, b, c, d, e, f, gg, h]) := ⟨hV.out⟩
              obtain ⟨R, hR⟩ : ∃ R, R = v8l (M.add8 ⟨a, b, c, d, e, f, gg, h⟩ ⟨a', b', c', d', e', f', g', h'⟩) := ⟨_, rfl⟩
              have HHR := Bx.mk hR
              clear hR hV hok HST HA
              go_wp2_with fail
              go_loopw [205] (fun kx wr => ∃ (q : Nat), kx = .int .i64 (q : Int) ∧ q ≤ 8 ∧ Bx (Row32 wr gv 8 (R.take q ++ [a, b, c, d, e, f, gg, h].drop q)) ∧ Bx (Below wi.heap.size wi wr)) (fun kx _ => 8 - (intOf kx).toNat)
              case atStart => exact ⟨0, rfl, by omega, ⟨by simpa using LV.out⟩, hB⟩
              case round =>
                clear LV hB
                obtain ⟨q, rfl, hq, hV, hB⟩ := hrel
                obtain ⟨wj, rfl⟩ : ∃ wj : World, wj = wr := ⟨_, rfl⟩
                by_cases hq8 : q < 8
                · have hcell := hV.out.cell q hq8
                  have hfree := hV.out.free q hq8
                  have hsa := (LA.out.below (HW0.out.trans (hB.out.mono HW0.out.size)) galt).cell q hq8
                  obtain ⟨x, hx⟩ : ∃ x, x = [a, b, c, d, e, f, gg, h].getD q 0 := ⟨_, rfl⟩
                  obtain ⟨y, hy⟩ : ∃ y, y = [a', b', c', d', e', f', g', h'].getD q 0 := ⟨_, rfl⟩
                  obtain ⟨z, hz⟩ : ∃ z, z = (x + y) % 4294967296 := ⟨_, rfl⟩
                  have e1 : (R.take q ++ [a, b, c, d, e, f, gg, h].drop q).getD q 0 = x := by
                    rw [hx, HHR.out]
                    have cs : q = 0 ∨ q = 1 ∨ q = 2 ∨ q = 3 ∨ q = 4 ∨ q = 5 ∨ q = 6 ∨ q = 7 := by omega
                    rcases cs with rfl | rfl | rfl | rfl | rfl | rfl | rfl | rfl <;> rfl
                  have e2 : (R.take q ++ [a, b, c, d, e, f, gg, h].drop q).set q z = R.take (q + 1) ++ [a, b, c, d, e, f, gg, h].drop (q + 1) := by
                    rw [hz, hx, hy, HHR.out]
                    have cs : q = 0 ∨ q = 1 ∨ q = 2 ∨ q = 3 ∨ q = 4 ∨ q = 5 ∨ q = 6 ∨ q = 7 := by omega
                    rcases cs with rfl | rfl | rfl | rfl | rfl | rfl | rfl | rfl <;> rfl
                  rw [e1] at hcell
                  rw [← hy] at hsa
                  have zz : IntKind.u32.wrap ((x : Int) + (y : Int)) = (z : Int) := by rw [IntKind.wrap_u32]; omega
                  have E2 := Bx.mk e2
                  have hq8i : (q : Int) < 8 := by omega
                  have SC : Bx (Row32 (wj.drew.setCell ⟨gv, q, none⟩ (.int .u32 (z : Int))) gv 8 (R.take (q + 1) ++ [a, b, c, d, e, f, gg, h].drop (q + 1))) := ⟨by
                    have h0 : Row32 wj.drew gv 8 (R.take q ++ [a, b, c, d, e, f, gg, h].drop q) := ⟨hV.out.len, hV.out.cell, hV.out.free⟩
                    rw [← E2.out]; exact h0.set q z hq8⟩
                  have SB : Bx (Below wi.heap.size wi (wj.drew.setCell ⟨gv, q, none⟩ (.int .u32 (z : Int)))) := ⟨hB.out.drew.setCell (p := ⟨gv, q, none⟩) hgv _⟩
                  have hcd : wj.drew.cell? ⟨gv, q, none⟩ = some (.int .u32 (x : Int)) := hcell
                  have hfd : wj.drew.frozen? ⟨gv, q, none⟩ = false := hfree
                  have hsd : wj.drew.cell? ⟨ga, q, none⟩ = some (.int .u32 (y : Int)) := hsa
                  clear e1 e2 hx hy hz
                  go_wp2_with fail
                  go_still_tail 10, (by kernel_rfl)
                  change wpList _ _ _ _ _ wj.drew
                  clear hcell hfree hsa
                  generalize wj.drew = wd at *
                  go_wp2_with fail
                  go_roundw
                  case rel => exact ⟨q + 1, by go_num, by omega, SC, SB⟩
                  case measure => simp [intOf] <;> omega
                · obtain rfl : q = 8 := by omega
                  have hfin : R.take 8 ++ [a, b, c, d, e, f, gg, h].drop 8 = R := by rw [HHR.out]; rfl
                  rw [hfin] at hV
                  go_wp2_with fail
                  go_ret
                  exact ⟨⟨gv, cv, rfl, by rw [HMX.out, ← HHR.out]; exact hV.out, Nat.le_trans HW0.out.size hgv⟩, HW0.out.trans (hB.out.mono HW0.out.size)⟩
end Go.Proofs.YtacfdnjdjgdbcaaDoor
