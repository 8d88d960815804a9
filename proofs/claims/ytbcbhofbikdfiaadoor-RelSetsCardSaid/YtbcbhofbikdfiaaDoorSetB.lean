/- Contracts of rel: Chain. -/
import Derived.Test.YtbcbhofbikdfiaaDoorSetA
namespace Go.Proofs.YtbcbhofbikdfiaaDoor
set_option maxRecDepth 100000
open Go.RowKit M

/-- each of a list goes with all behind it; and the set of the list's things -/
def chainL : List Nat → List Nat × Nat
  | [] => (R.zeroM, 0)
  | a :: t => ((chainL t).1.set a (R.g (chainL t).1 a ||| (chainL t).2), (chainL t).2 ||| 2 ^ a)
theorem chain_ok : ∀ (l : List Nat), (∀ a ∈ l, a < 16) → R.Wf (chainL l).1 ∧ (chainL l).2 < 65536
  | [], _ => ⟨R.zero_wf, by decide⟩
  | a :: t, h => by
    obtain ⟨i1, i2⟩ := chain_ok t (fun b hb => h b (List.mem_cons_of_mem _ hb))
    have ha := h a (by simp)
    exact ⟨i1.set ha (R.or_lt (i1.lt a) i2), R.or_lt i2 (R.one_lt ha)⟩

set_option maxRecDepth 100000 in
set_option maxHeartbeats 4000000 in
theorem chain_any (l : List Nat) (hl : l.length ≤ 100000) (h16 : ∀ a ∈ l, a < 16) (v : Value) (w : World) (h : IIn w v l) :
    Calls Tryd.prog 34 #[v] w fun e w' => e = .returned (.agg (w16 (chainL l).1).toArray) ∧ Below w.heap.size w w' := by
  obtain ⟨p0, c0, rfl⟩ := SlIn.slice h
  obtain ⟨ln, hln⟩ : ∃ ln, ln = l.length := ⟨_, rfl⟩
  rw [← hln] at h hl ⊢
  have HB := Box.mk h
  have HLN := Box.mk hln
  have H16 := Box.mk h16
  clear h hln h16
  have r1 := Box.mk ((RB.new w R.zeroM).alloc (.cells (w16 R.zeroM).toArray 25))
  have r2 := Box.mk (RB.new (w.alloc (.cells (w16 R.zeroM).toArray 25)) R.zeroM)
  have bb := Box.mk (bel (aset w (.cells (w16 R.zeroM).toArray 25)) (aset _ (.cells (w16 R.zeroM).toArray 25)))
  rw [sum_zero] at r1 r2 bb
  rw [World.size_alloc] at r2
  go_enter Tryd.func34, Tryd.ntmps34
  go_wp2_with fail
  generalize (w.alloc (.cells #[.int .u16 0, .int .u16 0, .int .u16 0, .int .u16 0, .int .u16 0, .int .u16 0, .int .u16 0, .int .u16 0, .int .u16 0, .int .u16 0, .int .u16 0, .int .u16 0, .int .u16 0, .int .u16 0, .int .u16 0, .int .u16 0] 25)).alloc (.cells #[.int .u16 0, .int .u16 0, .int .u16 0, .int .u16 0, .int .u16 0, .int .u16 0, .int .u16 0, .int .u16 0, .int .u16 0, .int .u16 0, .int .u16 0, .int .u16 0, .int .u16 0, .int .u16 0, .int .u16 0, .int .u16 0] 25) = W at *
  go_loopw [4, 5] (fun bv iv wr => ∃ k : Nat, k ≤ ln ∧ iv = .int .i64 ((k : Int) - 1) ∧ bv = .int .u16 (((chainL (l.drop k)).2 : Nat) : Int) ∧ Box (RB wr w.heap.size R.zeroM) ∧ Box (RB wr (w.heap.size + 1) (chainL (l.drop k)).1) ∧ Box (Below w.heap.size w wr)) (fun _ iv _ => ((intOf iv) + 1).toNat)
  case atStart => exact ⟨ln, by omega, rfl, by rw [HLN.out, List.drop_length]; rfl, r1, ⟨by rw [HLN.out, List.drop_length]; exact r2.out⟩, bb⟩
  case round =>
    clear r1 r2 bb
    obtain ⟨k, hk, rfl, rfl, R1, R2, BB⟩ := hrel
    cases k with
    | succ j =>
      have e0 : (((j + 1 : Nat) : Int) - 1) = (j : Int) := by omega
      rw [e0]
      have hjl : j < l.length := by rw [← HLN.out]; omega
      obtain ⟨a, ha⟩ : ∃ a, l[j]? = some a := ⟨_, List.getElem?_eq_getElem hjl⟩
      obtain ⟨bk, off, cc, hv, hbl, kw⟩ := HB.out.at ha
      have k0 := (BB.out.cell (p := ⟨bk, off + j, none⟩) hbl).trans kw
      rw [← HLN.out] at hv
      obtain ⟨rfl, _, rfl⟩ := Value.slice.inj hv
      have ha16 := H16.out a (List.mem_of_getElem? ha)
      have hdrop : l.drop j = a :: l.drop (j + 1) := by
        rw [List.drop_eq_getElem_cons hjl]
        rw [List.getElem?_eq_getElem hjl] at ha
        rw [Option.some.inj ha]
      obtain ⟨i1, i2⟩ := chain_ok (l.drop (j + 1)) (fun b hb => H16.out b (List.mem_of_mem_drop hb))
      have HN1 : Box ((chainL (l.drop j)).1 = (chainL (l.drop (j + 1))).1.set a (R.g (chainL (l.drop (j + 1))).1 a ||| (chainL (l.drop (j + 1))).2)) := ⟨by rw [hdrop]; rfl⟩
      have HN2 : Box ((chainL (l.drop j)).2 = (chainL (l.drop (j + 1))).2 ||| 2 ^ a) := ⟨by rw [hdrop]; rfl⟩
      have c1 := R2.out.cell i1 ha16
      have z1 := R2.out.fz a
      have n1 := or16 (i1.lt a) i2
      have n2 := or16 i2 (R.one_lt ha16)
      have C1 := Box.mk (fun w => isElement_any (a : Int) w)
      rw [decide_eq_true (show 0 ≤ (a : Int) ∧ (a : Int) < 16 by omega)] at C1
      have C2 := Box.mk (fun w => single_any a ha16 w)
      have m1 : (0 : Int) ≤ (a : Int) := by omega
      have m2 : (a : Int) < 16 := by omega
      have m3 : (j : Int) < (ln : Int) := by omega
      have m4 : (0 : Int) ≤ (j : Int) := by omega
      have m5 : j < ln := by omega
      have l0 := BB.out.size
      have nb : bk ≠ w.heap.size + 1 := by omega
      clear hdrop ha hv kw
      generalize (chainL (l.drop (j + 1))).1 = r at *
      generalize (chainL (l.drop (j + 1))).2 = b at *
      generalize R.g r a = x at *
      generalize (2 ^ a : Nat) = p at *
      have R2s := Box.mk (R2.out.set a (x ||| b))
      generalize (x ||| b) = x2 at *
      generalize (b ||| p) = b2 at *
      go_wp2_with (first
        | (go_at_call 36; ((with_reducible refine (C1.out _).mono ?_); rintro e w' ⟨rfl, rfl⟩))
        | (go_at_call 38; ((with_reducible refine (C2.out _).mono ?_); rintro e w' ⟨rfl, rfl⟩)))
      go_roundw
      case rel => exact ⟨j, by omega, by go_num, by rw [HN2.out], ⟨R1.out.other (by omega) _ _⟩, ⟨by rw [HN1.out]; exact R2s.out⟩, ⟨bset BB.out _ _ _ (by omega)⟩⟩
      case measure => simp [intOf]
    | zero =>
      have e0 : (((0 : Nat) : Int) - 1) = -1 := by omega
      rw [e0]
      have HW : Box (R.Wf (chainL l).1) := ⟨(chain_ok l (fun b hb => H16.out b hb)).1⟩
      have R2' : Box (RB wr (w.heap.size + 1) (chainL l).1) := R2
      clear R2
      obtain ⟨S, hS⟩ : ∃ S, S = (chainL l).1 := ⟨_, rfl⟩
      rw [← hS] at HW R2'
      have HS := Box.mk hS
      clear hS
      go_wp2_with (first
        | ((with_reducible refine at_load 25 (.tmp 3) ?_); refine wpList_load_mid rfl 25 (.tmp 3) (by rfl) (w.heap.size + 1) 0 (by rfl) (w16 S) _ R2'.out.range undR rfl (infoL HW.out) ?_)
        | ((with_reducible refine at_store 25 (.tmp 2) (.tmp 34) ?_); refine wpList_store_mid rfl 25 (.tmp 2) (.tmp 34) (by rfl) w.heap.size 0 (w16 S).toArray (by rfl) (by rfl) (thereL R1.out HW.out) (infoA HW.out) (all_oneCell_toArray (w16_one _)) ?_))
      have RZ := R1.out.all R.zero_wf HW.out
      refine bodyPost_ret (v := .agg (w16 S).toArray) (results_one rfl (by rfl) (loadR RZ HW.out)) rfl ⟨by rw [HS.out], bsets (Nat.le_refl _) _ _ _ BB.out⟩
end Go.Proofs.YtbcbhofbikdfiaaDoor
