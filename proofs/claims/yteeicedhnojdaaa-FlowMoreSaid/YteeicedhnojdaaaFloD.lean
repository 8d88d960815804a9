/- Contracts of flow: the number of an Op. -/
import Derived.Test.YteeicedhnojdaaaFloC
namespace Go.Proofs.Yteeicedhnojdaaa
set_option maxRecDepth 100000
open Go.RowKit

def opC (o : Nat × Nat) : List Value := [.int .i64 (o.1 : Int), .int .i64 (o.2 : Int)]
theorem op_same (a b : Nat) (W : World) : (binOp .eql 45 (.agg #[.int .i64 (a : Int), .int .i64 (b : Int)]) (.agg #[.int .i64 (a : Int), .int .i64 (b : Int)])).run Try.prog W = .ok (.bool true) W := by
  simp [Op.eqFields, go_sem]
theorem op_other (a b c d : Nat) (h : ¬ (c = a ∧ d = b)) (W : World) : (binOp .eql 45 (.agg #[.int .i64 (a : Int), .int .i64 (b : Int)]) (.agg #[.int .i64 (c : Int), .int .i64 (d : Int)])).run Try.prog W = .ok (.bool false) W := by
  by_cases h1 : a = c
  · subst h1
    have h2 : ¬ (b : Int) = (d : Int) := by omega
    simp [Op.eqFields, go_sem, h2]
  · have h2 : ¬ (a : Int) = (c : Int) := by omega
    simp [Op.eqFields, go_sem, h2]
theorem belN (w : World) (B k : Nat) : Below B w (w.drewN k) := ⟨rfl, rfl, rfl, Nat.le_refl _, fun _ _ => rfl⟩
set_option maxHeartbeats 3200000 in
theorem index_any (v : Value) (os : List (Nat × Nat)) (hn : os.length ≤ 1000000) (i a k : Nat) (hk : os[k]? = some (i, a)) (hf : ∀ j, j < k → os[j]? ≠ some (i, a)) (w : World) (hv : SlIn w v 2 os.length (os.flatMap opC)) :
    Calls Try.prog 77 #[v, .agg #[.int .i64 (i : Int), .int .i64 (a : Int)]] w fun e w' => e = .returned (.int .i64 (k : Int)) ∧ Below w.heap.size w w' := by
  have hkl := (List.getElem?_eq_some_iff.1 hk).1
  obtain ⟨b, off, c, rfl, hbl, hcl⟩ := hv.at (by omega)
  have HK := Bx.mk hk; have HF := Bx.mk hf; have HC := Bx.mk hcl
  have hs := Bx.mk (fun W => op_same i a W)
  have ho := Bx.mk (fun c d h W => op_other i a c d h W)
  clear hk hf hcl hv
  generalize os.length = N at *
  have HN := Bx.mk hkl
  go_enter Try.func77, Try.ntmps77
  go_wp2_with fail
  go_loopw [8] (fun q wr => ∃ j : Nat, q = .int .i64 (j : Int) ∧ j ≤ k ∧ Bx (Below w.heap.size w wr) ∧ Bx (wr.heap[w.heap.size]? = some (.cells #[.int .i64 (i : Int), .int .i64 (a : Int)] 45 (0, 0)))) (fun q _ => k + 1 - (intOf q).toNat)
  case atStart => exact ⟨0, rfl, by omega, ⟨aset _ _⟩, ⟨heap_alloc_new _ _⟩⟩
  case round =>
    obtain ⟨j, rfl, hj, hb, hX⟩ := hrel
    have y0 := cOf hX.out 0
    have y1 := cOf hX.out 1
    simp at y0 y1
    have hlt : j < N := by omega
    have hji : (j : Int) < (N : Int) := by omega
    have hj0 : (0 : Int) ≤ (j : Int) := by omega
    by_cases he : j = k
    · subst he
      have g := fun m hm => flatAt opC 2 (fun _ => rfl) os j m (i, a) HK.out hm
      have r0 : wr.cell? ⟨b, off + j * 2, none⟩ = some (.int .i64 (i : Int)) := by rw [hb.out.cell hbl]; exact HC.out _ _ (g 0 (by decide))
      have r1 : wr.cell? ⟨b, off + j * 2 + 1, none⟩ = some (.int .i64 (a : Int)) := by rw [hb.out.cell hbl, Nat.add_assoc]; exact HC.out _ _ (g 1 (by decide))
      have hs := hs.out
      clear g
      go_wp2_with fail
      go_quiet (fail)
      go_wp2
      go_ret
      exact ⟨rfl, hb.out.trans (belN _ _ _)⟩
    · obtain ⟨o, hoj⟩ : ∃ o, os[j]? = some o := by
        have : k < os.length := (List.getElem?_eq_some_iff.1 HK.out).1
        exact ⟨_, List.getElem?_eq_getElem (by omega)⟩
      have hne : ¬ (o.1 = i ∧ o.2 = a) := fun hh => HF.out j (by omega) (by rw [hoj, ← hh.1, ← hh.2])
      have g := fun m hm => flatAt opC 2 (fun _ => rfl) os j m o hoj hm
      have r0 : wr.cell? ⟨b, off + j * 2, none⟩ = some (.int .i64 (o.1 : Int)) := by rw [hb.out.cell hbl]; exact HC.out _ _ (g 0 (by decide))
      have r1 : wr.cell? ⟨b, off + j * 2 + 1, none⟩ = some (.int .i64 (o.2 : Int)) := by rw [hb.out.cell hbl, Nat.add_assoc]; exact HC.out _ _ (g 1 (by decide))
      have ho := ho.out o.1 o.2 hne
      clear g hoj hne
      obtain ⟨o1, o2⟩ := o
      go_wp2_with fail
      go_quiet (fail)
      go_wp2
      go_roundw
      case rel => exact ⟨j + 1, by go_num, by omega, ⟨hb.out.trans (belN _ _ _)⟩, ⟨hX.out⟩⟩
      case measure => simp [intOf]; omega

/-- the Ops lie so -/
structure OpsIn (w : World) (K : WkB) (os : List (Nat × Nat)) : Prop where
  ops : SlIn w K.ops 2 os.length (os.flatMap opC)
  len : os.length ≤ 1000000
theorem OpsIn.bel {w w' : World} {K : WkB} {os : List (Nat × Nat)} (h : OpsIn w K os) (hb : Below w.heap.size w w') : OpsIn w' K os := ⟨h.ops.below hb, h.len⟩
/-- Op k stands at this place of the thread -/
def OpIs (os : List (Nat × Nat)) (i a k : Nat) : Prop := os[k]? = some (i, a) ∧ ∀ j, j < k → os[j]? ≠ some (i, a)
set_option maxHeartbeats 1600000 in
theorem opIdx_any (K : WkB) (n m : Nat) (s : WkM) (os : List (Nat × Nat)) (a k : Nat) (hk : OpIs os K.thr a k) (w : World) (hw : WkIn w K n m s) (ho : OpsIn w K os) :
    Calls Try.prog 50 #[.pointer (some ⟨K.kb, 0, none⟩), .int .i64 (a : Int)] w fun e w' => e = .returned (.int .i64 (k : Int)) ∧ Below w.heap.size w w' := by
  have hkl := ltOf hw.kb
  obtain ⟨_, q1, _, _, q4⟩ := hw.head
  obtain ⟨p, cc, hp⟩ := ho.ops.slice
  have ci := fun W (hb : Below w.heap.size w W) => index_any K.ops os ho.len K.thr a k hk.1 hk.2 W (ho.ops.below hb)
  rw [hp] at q1 ci
  have CI := Bx.mk ci
  clear ci hw ho hk hp
  go_enter Try.func50, Try.ntmps50
  go_wp2_with fail
  go_region_held3 (fun W => W.cell? ⟨K.kb, 1, none⟩ = some (.slice p os.length cc) ∧ W.cell? ⟨K.kb, 4, none⟩ = some (.int .i64 (K.thr : Int)) ∧ Below w.heap.size w W)
    (first
      | (exact ⟨q1, q4, (Below.refl _ _).drew⟩)
      | (go_split_ands; refine ⟨cBel (by assumption) (by first | assumption | exact Below.refl _ _), cBel (by assumption) (by first | assumption | exact Below.refl _ _), bel (by assumption) (by first | assumption | exact Below.refl _ _)⟩))
    (first | (go_at_call 77; ((with_reducible refine (CI.out _ (by first | assumption | exact (Below.refl _ _).drew)).mono ?_); rintro e w2 ⟨rfl, b2⟩)))
  go_wp2
  go_ret
  exact ⟨rfl, (show _ ∧ _ ∧ Below w.heap.size w _ by assumption).2.2⟩
end Go.Proofs.Yteeicedhnojdaaa
