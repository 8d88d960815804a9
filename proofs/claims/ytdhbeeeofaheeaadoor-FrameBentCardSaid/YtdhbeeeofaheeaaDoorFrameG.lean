/- The laws of layer 6 (frame): FrameTorn. -/
import Derived.Test.YtdhbeeeofaheeaaDoorFrameF
namespace Go.Proofs.YtdhbeeeofaheeaaDoor
set_option maxRecDepth 100000
open Go.RowKit M

theorem ints_get {q : Nat} {f : Nat → List Nat} {k j : Nat} (h : j < k) : (ints (endsN q f k))[j]? = some (.int .i64 (((lay q f (j + 1)).length : Nat) : Int)) := by
  simp [ints, endsN, h]

set_option maxHeartbeats 1000000 in
theorem frameTorn_walk (p : Option Addr) (n c : Nat) (ss : Nat → ByteArray) (q : Nat) (cut : Int) (hq : q < 18446744073709551616) (hn : n ≤ 9223372036854775807) (hc1 : -9223372036854775808 ≤ cut) (hc2 : cut ≤ 9223372036854775807) (w : World) (hH : Halves w) (hI : SIn w (.slice p n c) n ss) :
    Calls Tryd.prog 9 #[.slice p n c, .int .u64 q, .int .i64 cut] w fun e w' => e = .returned (.bool true) ∧ Below w.heap.size w w' := by
  have cl := laid_any p n c ss q hq w hH hI hn
  have HH := Box.mk hH; have HI := Box.mk hI; clear hH hI
  obtain ⟨K, hK⟩ : ∃ K, K = min n 6 := ⟨_, rfl⟩
  rw [← hK] at cl
  have hKn : K ≤ n := by omega
  have hK6 : K ≤ 6 := by omega
  have CL := Box.mk cl
  have hlk := lay_length (q := q) (rcN_length ss) K
  have sA : (bs (lay q (rcN ss) K)).size = (lay q (rcN ss) K).length := bs_size _
  clear cl hK
  unfold LaidP at CL
  obtain ⟨M, hM⟩ : ∃ M, M = (lay q (rcN ss) K).length := ⟨_, rfl⟩
  by_cases hin : 0 ≤ cut ∧ cut ≤ (M : Int)
  · obtain ⟨u, rfl⟩ := Int.eq_ofNat_of_zero_le hin.1
    have huM : u ≤ M := by omega
    obtain ⟨m, hm1, hm2, hm3⟩ := whole_ex q (rcN ss) u K
    have hm2' : (lay q (rcN ss) m).length ≤ u := by
      rcases hm2 with rfl | h
      · simp [lay]
      · exact h
    have hsc := scan_cut hq (rcN_length ss) (k := K) (cut := u) (by omega) hm1 hm2' hm3
    have hex : (bs (lay q (rcN ss) K)).extract 0 u = bs ((lay q (rcN ss) K).take u) := bs_take _ _
    have c3 := fun W h => scan_any (bs ((lay q (rcN ss) K).take u)) (by rw [bs_size, List.length_take]; omega) q hq W h
    rw [sb_bs _ (fun d hd => lay_lt (rcN_lt ss) K d (List.mem_of_mem_take hd)), hsc] at c3
    rw [← hex] at c3
    have hLs : ((List.range m).map (rcN ss)).length = m := by simp
    rw [hLs] at c3
    have c1 : ∀ (s : ByteArray) w, Calls Tryd.prog 13 #[.string s, .int .i64 60] w fun e w' => e = .returned (.string (s.extract 0 60)) ∧ w = w' := fun s w => cut_any s 60 w
    have hst : ∀ k, k < m → (strs ((List.range m).map (rcN ss)))[k]? = some (.string ((ss k).extract 0 60)) := fun k hk => by
      simp [strs, hk, rcN, bs_list]
    -- the ends, one after the other
    have hend : ∀ j, j < K → ((lay q (rcN ss) (j + 1)).length ≤ u ↔ j < m) := fun j hj => by
      constructor
      · intro h
        rcases Nat.lt_or_ge j m with h1 | h1
        · exact h1
        · have h2 := hm3 (by omega)
          have h3 := lay_mono (q := q) (f := rcN ss) (show m + 1 ≤ j + 1 by omega)
          omega
      · intro h
        exact Nat.le_trans (lay_mono (show j + 1 ≤ m by omega)) hm2'
    have hbig : ∀ j, j < K → (lay q (rcN ss) (j + 1)).length ≤ 468 := fun j hj => by
      have := lay_length (q := q) (rcN_length ss) (j + 1)
      omega
    obtain ⟨g, hg⟩ : ∃ g : Nat → Nat, g = fun j => (lay q (rcN ss) j).length := ⟨_, rfl⟩
    have hgj : ∀ j, (lay q (rcN ss) j).length = g j := fun j => by rw [hg]
    have hg0 : g 0 = 0 := by rw [← hgj]; rfl
    have hin2 : ∀ j, j < K → (ints (endsN q (rcN ss) K))[j]? = some (.int .i64 ((g (j + 1) : Nat) : Int)) := fun j hj => by rw [ints_get hj, hgj]
    simp only [hgj] at hend hbig c3 hM sA
    obtain ⟨A, hA⟩ : ∃ A, A = bs (lay q (rcN ss) K) := ⟨_, rfl⟩
    rw [← hA] at c3 sA CL
    have sA2 : A.size = M := by omega
    have hM468 : M ≤ 468 := by rw [hM, ← hgj]; omega
    have C1 := Box.mk c1; have C3 := Box.mk c3; have HST := Box.mk hst; have HEND := Box.mk hend; have HBIG := Box.mk hbig; have HIN := Box.mk hin2
    clear c1 c3 hst hLs hsc hex hA hin hend hbig hin2 hg hgj hm2 hm2' hm3 hlk sA hM
    generalize strs ((List.range m).map (rcN ss)) = LS at *
    generalize ints (endsN q (rcN ss) K) = LE at *
    have d1 : decide ((u : Int) < 0) = false := by simp
    have d2 : decide ((M : Int) < (u : Int)) = false := by simp; omega
    go_enter Tryd.func9, Tryd.ntmps9
    go_wp2_with (first
      | (go_at_call 47; ((with_reducible refine CL.out.mono ?_); rintro e w1 ⟨v1, rfl, o1, b1⟩; obtain ⟨p1, k1, rfl⟩ := own_len o1; have B1 := Box.mk b1; have O1 := Box.mk o1; clear o1 b1)))
    go_loopw [9, 10, 33] (fun wh att ix wr => ∃ j : Nat, j ≤ K ∧ ix = .int .i64 (j : Int) ∧ wh = .int .i64 ((min j m : Nat) : Int) ∧ att = .int .i64 ((g (min j m) : Nat) : Int) ∧ w1 = wr)
      (fun _ _ ix _ => K - (intOf ix).toNat)
    case atStart => exact ⟨0, by omega, rfl, by simp, by simp [hg0], rfl⟩
    case round =>
      obtain ⟨j, hj, rfl, rfl, rfl, rfl⟩ := hrel
      by_cases hlt : j < K
      · obtain ⟨gb, cap, hv⟩ := O1.out.form (by omega)
        obtain ⟨rfl, _, rfl⟩ := Value.slice.inj hv.1
        have hcl := O1.out.cellAt j (by omega)
        rw [HIN.out j hlt] at hcl
        have hb := HBIG.out j hlt
        have he := HEND.out j hlt
        obtain ⟨E, hE⟩ : ∃ E, E = g (j + 1) := ⟨_, rfl⟩
        rw [← hE] at hcl hb he
        have HE := Box.mk hE
        by_cases hjm : j < m
        · have hEu := he.2 hjm
          have dd : decide ((E : Int) ≤ (u : Int)) = true := by simp; omega
          have em : min j m = j := by omega
          have em2 : min (j + 1) m = j + 1 := by omega
          rw [em] at *
          clear he hv hE
          go_wp2
          go_roundw
          case rel => exact ⟨j + 1, by omega, by go_num, by rw [em2]; go_num, by rw [em2, ← HE.out], trivial⟩
          case measure => simp [intOf]; omega
        · have hEu : ¬ E ≤ u := fun h => hjm (he.1 h)
          have dd : decide ((E : Int) ≤ (u : Int)) = false := by simp; omega
          have em : min j m = m := by omega
          have em2 : min (j + 1) m = m := by omega
          rw [em] at *
          clear he hv hE
          go_wp2
          go_roundw
          case rel => exact ⟨j + 1, by omega, by go_num, by rw [em2], by rw [em2], trivial⟩
          case measure => simp [intOf]; omega
      · obtain rfl : j = K := by omega
        have em : min j m = m := by omega
        rw [em]
        have hmn : (m : Int) ≤ 6 := by omega
        clear em
        go_wp2_with (go_at_call 41; ((with_reducible refine (C3.out _ (halves_below HH.out B1.out)).mono ?_); rintro e w3 ⟨v3, rfl, o3, b3⟩; obtain ⟨p3, k3, rfl⟩ := own_len o3; have B3 := Box.mk (bch B1.out b3); have O3 := Box.mk o3; clear b3 o3))
        go_loopw [15, 63] (fun _ i wr => ∃ k : Nat, k ≤ m ∧ i = .int .i64 (k : Int) ∧ Box (wr.ownsRow w1.heap.size 9 1 (.slice p3 m k3) m LS) ∧ Box (SIn wr (.slice p n c) n ss) ∧ Box (Below w.heap.size w wr))
          (fun _ i _ => m - (intOf i).toNat)
        case atStart => exact ⟨0, by omega, rfl, O3, ⟨HI.out.below B3.out⟩, B3⟩
        case round =>
          obtain ⟨k, hk, rfl, hown, hin, hb⟩ := hrel
          by_cases hlt : k < m
          · obtain ⟨gb, cap, hv⟩ := hown.out.form (by omega)
            obtain ⟨rfl, _, rfl⟩ := Value.slice.inj hv.1
            obtain ⟨b, off, c', hv2, hbl, hcell⟩ := hin.out.cells (by omega)
            obtain ⟨rfl, _, rfl⟩ := Value.slice.inj hv2
            have hc1 := hcell k (by omega)
            have hc2 := hown.out.cellAt k (by omega)
            rw [HST.out k hlt] at hc2
            have q1 : ∀ m, Calls Tryd.prog 13 #[.string (ss k), .int .i64 60] (wr.drewN m) fun e w' => e = .returned (.string ((ss k).extract 0 60)) ∧ ∃ m', w' = wr.drewN m' := fun m => quiet_f (C1.out (ss k) _)
            generalize (ss k).extract 0 60 = R at *
            generalize ss k = Sk at *
            have Q1 := Box.mk q1
            clear q1 hcell hv hv2
            go_wp2_with fail
            go_quiet ((go_at_call 13; exact Q1.out _))
            go_wp2_with fail
            go_roundw
            case rel => exact ⟨k + 1, by omega, by go_num, ⟨own_drewN hown.out _⟩, ⟨hin.out.drewN _⟩, ⟨bdr hb.out _⟩⟩
            case measure => simp [intOf]; omega
          · obtain rfl : k = m := by omega
            go_wp2_with (go_at_call 44; ((with_reducible refine (awake6_any _ (halves_below HH.out hb.out)).mono ?_); rintro e w4 ⟨rfl, b4⟩; have B4 := Box.mk (bch hb.out b4); clear b4))
            go_ret
            exact ⟨rfl, B4.out⟩
  · have d1 : decide (cut < 0) = true ∨ (decide (cut < 0) = false ∧ decide ((M : Int) < cut) = true) := by
      by_cases h : cut < 0
      · exact .inl (by simpa using h)
      · exact .inr ⟨by simpa using h, by simp; omega⟩
    obtain ⟨A, hA⟩ : ∃ A, A = bs (lay q (rcN ss) K) := ⟨_, rfl⟩
    rw [← hA] at sA CL
    have sA2 : A.size = M := by omega
    have hM468 : M ≤ 468 := by omega
    clear sA hA hlk hM hin
    rcases d1 with d1 | ⟨d1, d2⟩
    all_goals
      go_enter Tryd.func9, Tryd.ntmps9
      go_wp2_with (first
        | (go_at_call 47; ((with_reducible refine CL.out.mono ?_); rintro e w1 ⟨v1, rfl, o1, b1⟩; obtain ⟨p1, k1, rfl⟩ := own_len o1; have B1 := Box.mk b1; clear o1 b1))
        | (go_at_call 44; ((with_reducible refine (awake6_any _ (halves_below HH.out B1.out)).mono ?_); rintro e w4 ⟨rfl, b4⟩; have B4 := Box.mk (bch B1.out b4); clear b4)))
      go_ret
      exact ⟨rfl, B4.out⟩
end Go.Proofs.YtdhbeeeofaheeaaDoor
