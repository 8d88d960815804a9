/- Contracts of pack: the writer's numbers, texts and bytes. -/
import Derived.Test.YtdhbeeeofaheeaaDoorPackB
namespace Go.Proofs.YtdhbeeeofaheeaaDoor
set_option maxRecDepth 100000
open Go.RowKit M

theorem numL_length (v : Nat) : 1 ≤ (numL v).length ∧ (numL v).length ≤ 9 := by
  have := szN_bd v
  unfold numL
  split
  · simp
  · simp [fx_length]; omega
theorem fx_one {v : Nat} (h : v < 256) : fx 1 v = [v] := by simp [fx, bytesN, List.range_succ, byt]; omega
theorem cl18_nat {k : Nat} (h1 : 1 ≤ k) (h8 : k ≤ 8) : cl18 (k : Int) = k := by unfold cl18; rw [if_neg (by omega), if_neg (by omega), Int.toNat_natCast]

set_option maxRecDepth 100000 in
set_option maxHeartbeats 400000 in
theorem num_any (b : Nat) (L : List Nat) (v0 : Value) (x : Nat) (hx : x < 18446744073709551616) (w : World) (h : Wr w b L v0) (hl : L.length ≤ 800000) :
    Calls Tryd.prog 26 #[.pointer (some ⟨b, 0, none⟩), .int .u64 x] w (WrP b (L ++ numL x) v0 w) := by
  have hbl := World.block_lt_of_cell? w _ h.cell
  have hbl : b < w.heap.size := hbl
  by_cases hs : x < 248
  · have c1 := wfixed_any b L v0 x hx 1 w h (by omega)
    rw [show cl18 1 = 1 by decide, fx_one (by omega), show [x] = numL x by unfold numL; rw [if_pos hs]] at c1
    have C1 := Box.mk c1; clear c1 h
    go_enter Tryd.func26, Tryd.ntmps26
    go_wp2_with (go_at_call 29; refine C1.out.mono ?_; rintro e w1 ⟨rfl, v1, q1, b1⟩; have Q1 := Box.mk q1; have B1 := Box.mk b1; clear q1 b1)
    go_end0
    exact ⟨rfl, v1, Q1.out, B1.out⟩
  · have hsz := szN_bd x
    have hnum : numL x = [247 + szN x] ++ fx (szN x) x := by unfold numL; rw [if_neg hs]; rfl
    obtain ⟨k, hk⟩ : ∃ k, k = szN x := ⟨_, rfl⟩
    have cs := fun w => numSize_any x (by omega) hx w
    rw [← hk] at hsz hnum cs
    have c1 : Calls Tryd.prog 29 #[.pointer (some ⟨b, 0, none⟩), .int .u64 ((247 + k : Nat) : Int), .int .i64 1] w (WrP b (L ++ [247 + k]) v0 w) := by
      have c := wfixed_any b L v0 (247 + k) (by omega) 1 w h (by omega)
      rwa [show cl18 1 = 1 by decide, fx_one (by omega)] at c
    have c2 : ∀ (W : World) (v1 : Value), Wr W b (L ++ [247 + k]) v1 → Calls Tryd.prog 29 #[.pointer (some ⟨b, 0, none⟩), .int .u64 x, .int .i64 (k : Int)] W (WrP b (L ++ numL x) v1 W) := fun W v1 hW => by
      have c := wfixed_any b (L ++ [247 + k]) v1 x hx k W hW (by simp; omega)
      rw [cl18_nat hsz.1 hsz.2, List.append_assoc, ← hnum] at c
      exact c
    obtain ⟨y, hy⟩ : ∃ y, y = 247 + k := ⟨_, rfl⟩
    rw [← hy] at c1
    have e1 : (248 : Int) + (k : Int) - 1 = (y : Int) := by omega
    have e2 : (248 + (k : Int)) - 1 = (y : Int) := by omega
    have CS := Box.mk cs; have C1 := Box.mk c1; have C2 := Box.mk c2; have HY := Box.mk hy; have HK := Box.mk hk
    clear cs c1 c2 h hnum hy hk
    have hk8 := hsz.2
    have hk1 := hsz.1
    go_enter Tryd.func26, Tryd.ntmps26
    go_wp2_with (first
      | (go_at_call 57; ((with_reducible refine (CS.out _).mono ?_); rintro e w' ⟨rfl, rfl⟩))
      | (go_at_call 29; ((with_reducible refine C1.out.mono ?_); rintro e w1 ⟨rfl, v1, q1, b1⟩; have Q1 := Box.mk q1; have B1 := Box.mk b1; clear q1 b1))
      | (go_at_call 29; (have Q1' := Q1.out; rw [HY.out] at Q1'; have Q3 := Box.mk Q1'; clear Q1'; (with_reducible refine (C2.out _ _ Q3.out).mono ?_); rintro e w2 ⟨rfl, v2, q2, b2⟩; have Q2 := Box.mk q2; have B2 := Box.mk b2; clear q2 b2)))
    go_end0
    exact ⟨rfl, v2, Q2.out, B1.out.trans B2.out⟩

theorem bytes_any (b : Nat) (L : List Nat) (v0 : Value) (w : World) (h : Wr w b L v0) :
    Calls Tryd.prog 28 #[.pointer (some ⟨b, 0, none⟩)] w fun e w' => e = .returned (.string (bs L)) ∧ w = w' := by
  have hc := h.cell
  have hconv : (convert 38 9 v0).run Tryd.prog w = .ok (.string (bs L)) w := by
    rcases h.own.2 with ⟨rfl, hn⟩ | ⟨g, cap, cur, rfl, _⟩
    · have : L = [] := List.eq_nil_of_length_eq_zero hn
      subst this
      simp [convert, run_underlying Tryd.underlying38, run_underlying Tryd.underlying9, go_sem, Conv.bytesToString]
      rfl
    · exact conv_bytes h.own
  obtain ⟨p, l, c, rfl⟩ := own_slice h.own
  clear h
  go_enter Tryd.func28, Tryd.ntmps28
  go_wp2
  go_ret
  exact ⟨rfl, rfl⟩
end Go.Proofs.YtdhbeeeofaheeaaDoor
