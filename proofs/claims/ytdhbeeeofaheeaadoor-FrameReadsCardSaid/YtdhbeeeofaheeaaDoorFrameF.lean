/- The laws of layer 6 (frame): FrameBack, FrameTorn. -/
import Derived.Test.YtdhbeeeofaheeaaDoorFrameE
import Derived.Deep.QuietTactic
namespace Go.Proofs.YtdhbeeeofaheeaaDoor
set_option maxRecDepth 100000
open Go.RowKit M

theorem bdr {B : Nat} {w0 w : World} (h : Below B w0 w) (n : Nat) : Below B w0 (w.drewN n) := ⟨h.os, h.tape, h.output, h.size, h.block⟩
theorem own_drewN {w : World} {B e z : Nat} {v : Value} {n : Nat} {xs : List Value} (h : w.ownsRow B e z v n xs) (k : Nat) : (w.drewN k).ownsRow B e z v n xs := h
theorem SIn.drewN {w : World} {v : Value} {n : Nat} {ss : Nat → ByteArray} (h : SIn w v n ss) (k : Nat) : SIn (w.drewN k) v n ss := ⟨h.shape, h.cells⟩
theorem quiet_f {P : Program} {f : FuncId} {args : Array Value} {w : World} {n : Nat} {v : Value} (h : Calls P f args (w.drewN n) fun e w' => e = .returned v ∧ w.drewN n = w') :
    Calls P f args (w.drewN n) fun e w' => e = .returned v ∧ ∃ m, w' = w.drewN m :=
  h.mono fun _ _ hh => ⟨hh.1, n, hh.2.symm⟩

/-- frames that lie one behind the other are scanned -/
theorem scan_lay {q : Nat} (hq : q < 18446744073709551616) {f : Nat → List Nat} (hf : ∀ i, (f i).length ≤ 60) : ∀ (k : Nat) (t : List Nat),
    scanN (lay q f k ++ t) q = ((List.range k).map f ++ (scanN t ((q + k) % 18446744073709551616)).1, (lay q f k).length + (scanN t ((q + k) % 18446744073709551616)).2)
  | 0, t => by
    rw [Nat.add_zero, Nat.mod_eq_of_lt hq]
    simp [lay]
  | k + 1, t => by
    rw [lay, List.append_assoc, scan_lay hq hf k, scan_frame (Nat.mod_lt _ (by decide)) (by have := hf k; omega)]
    have e : ((q + k) % 18446744073709551616 + 1) % 18446744073709551616 = (q + (k + 1)) % 18446744073709551616 := by omega
    rw [e, List.range_succ]
    simp only [List.map_append, List.map_cons, List.map_nil, List.append_assoc, List.singleton_append, List.length_append, frN_length, Nat.add_assoc]
theorem scan_none (q : Nat) : scanN [] q = ([], 0) := scan_stop (fun h => by have := h.1; rw [rdX_nil] at this; cases this)
theorem lay_prefix {q : Nat} {f : Nat → List Nat} {m : Nat} : ∀ k, m ≤ k → ∃ t, lay q f k = lay q f m ++ t
  | 0, h => ⟨[], by rw [Nat.le_zero.1 h]; simp⟩
  | k + 1, h => by
    rcases Nat.lt_or_ge k m with h1 | h1
    · obtain rfl : m = k + 1 := by omega
      exact ⟨[], by simp⟩
    · obtain ⟨t, ht⟩ := lay_prefix k h1 (q := q) (f := f)
      exact ⟨t ++ frN ((q + k) % 18446744073709551616) (f k), by rw [lay, ht, List.append_assoc]⟩
theorem lay_mono {q : Nat} {f : Nat → List Nat} {m k : Nat} (h : m ≤ k) : (lay q f m).length ≤ (lay q f k).length := by
  obtain ⟨t, ht⟩ := lay_prefix k h (q := q) (f := f)
  rw [ht, List.length_append]; omega
/-- how many frames are whole -/
theorem whole_ex (q : Nat) (f : Nat → List Nat) (cut : Nat) : ∀ k, ∃ m, m ≤ k ∧ (m = 0 ∨ (lay q f m).length ≤ cut) ∧ (m < k → cut < (lay q f (m + 1)).length)
  | 0 => ⟨0, by omega, .inl rfl, by omega⟩
  | k + 1 => by
    by_cases h : (lay q f (k + 1)).length ≤ cut
    · exact ⟨k + 1, by omega, .inr h, by omega⟩
    · obtain ⟨m, h1, h2, h3⟩ := whole_ex q f cut k
      rcases Nat.lt_or_ge m k with h4 | h4
      · exact ⟨m, by omega, h2, fun _ => h3 h4⟩
      · obtain rfl : m = k := by omega
        exact ⟨m, by omega, h2, fun _ => by omega⟩
theorem scan_cut {q : Nat} (hq : q < 18446744073709551616) {f : Nat → List Nat} (hf : ∀ i, (f i).length ≤ 60) {k m cut : Nat} (hc : cut ≤ (lay q f k).length) (h1 : m ≤ k) (h2 : (lay q f m).length ≤ cut) (h3 : m < k → cut < (lay q f (m + 1)).length) :
    scanN ((lay q f k).take cut) q = ((List.range m).map f, (lay q f m).length) := by
  rcases Nat.lt_or_ge m k with h | h
  · obtain ⟨t, ht⟩ := lay_prefix k (show m + 1 ≤ k from h) (q := q) (f := f)
    have h4 := h3 h
    rw [lay_succ] at h4
    have e : (lay q f k).take cut = lay q f m ++ (frN ((q + m) % 18446744073709551616) (f m)).take (cut - (lay q f m).length) := by
      rw [ht, lay, List.append_assoc, List.take_append, List.take_of_length_le h2, List.take_append_of_le_length (by rw [frN_length]; omega)]
    rw [e, scan_lay hq hf, scan_stop (fun hh => by rw [rdX_cut (by have := hf m; omega) (by omega)] at hh; cases hh.1)]
    simp
  · obtain rfl : m = k := by omega
    rw [List.take_of_length_le h2]
    have e := scan_lay hq hf m []
    rw [List.append_nil, scan_none] at e
    rw [e]; simp

set_option maxHeartbeats 1000000 in
theorem frameBack_walk (p : Option Addr) (n c : Nat) (ss : Nat → ByteArray) (q : Nat) (tail : ByteArray) (hq : q < 18446744073709551616) (hn : n ≤ 9223372036854775807) (ht : tail.size ≤ 9223372036854775807) (w : World) (hH : Halves w) (hI : SIn w (.slice p n c) n ss) :
    Calls Tryd.prog 8 #[.slice p n c, .int .u64 q, .string tail] w fun e w' => e = .returned (.bool true) ∧ Below w.heap.size w w' := by
  have cl := laid_any p n c ss q hq w hH hI hn
  have HH := Box.mk hH; have HI := Box.mk hI; clear hH hI
  obtain ⟨K, hK⟩ : ∃ K, K = min n 6 := ⟨_, rfl⟩
  rw [← hK] at cl
  have hKn : K ≤ n := by omega
  have hK6 : K ≤ 6 := by omega
  have CL := Box.mk cl
  have hlk := lay_length (q := q) (rcN_length ss) K
  have sA : (bs (lay q (rcN ss) K)).size ≤ 468 := by rw [bs_size]; omega
  clear cl hK
  by_cases h79 : 0 < tail.size ∧ bn tail 0 = 79
  · have h0 := h79.1
    have d1 : decide (0 < (tail.size : Int)) = true := by simp; omega
    have d2 : (((tail[0]'h0).toNat : Int) == 79) = true := by rw [bn_of h0, h79.2]; rfl
    go_enter Tryd.func8, Tryd.ntmps8
    go_wp2_with (first
      | (go_at_call 47; ((with_reducible refine CL.out.mono ?_); rintro e w1 ⟨v1, rfl, o1, b1⟩; obtain ⟨p1, k1, rfl⟩ := own_len o1; have B1 := Box.mk b1; clear o1 b1))
      | (go_at_call 44; ((with_reducible refine (awake6_any _ (halves_below HH.out B1.out)).mono ?_); rintro e w4 ⟨rfl, b4⟩; have B4 := Box.mk (bch B1.out b4); clear b4)))
    go_ret
    exact ⟨rfl, B4.out⟩
  · have d2 : tail.size = 0 ∨ (∃ h0 : 0 < tail.size, decide (0 < (tail.size : Int)) = true ∧ (((tail[0]'h0).toNat : Int) == 79) = false) := by
      by_cases h : 0 < tail.size
      · refine .inr ⟨h, by simp; omega, ?_⟩
        rw [bn_of h, beq_eq_false_iff_ne]
        have : ¬ bn tail 0 = 79 := fun hh => h79 ⟨h, hh⟩
        omega
      · exact .inl (by omega)
    have hhd : (sb (tail.extract 0 30)).head? ≠ some 79 := by
      intro hh
      have hd : (sb tail).head? = some 79 := by
        rw [sb_data, ByteArray.data_extract, Array.toList_extract, List.extract_eq_take_drop, List.map_take, List.map_drop, List.drop_zero] at hh
        rw [sb_data]
        cases hl : tail.data.toList with
        | nil => rw [hl] at hh; cases hh
        | cons a m => rw [hl] at hh; exact hh
      have hpos : 0 < tail.size := by
        rcases Nat.eq_zero_or_pos tail.size with h | h
        · have hl : sb tail = [] := List.eq_nil_of_length_eq_zero (by rw [sb_length]; exact h)
          rw [hl] at hd; cases hd
        · exact h
      refine h79 ⟨hpos, ?_⟩
      rw [List.head?_eq_getElem?, List.getElem?_eq_getElem (by rw [sb_length]; exact hpos)] at hd
      simpa [sb, bnl] using hd
    have c2 : ∀ w, Calls Tryd.prog 13 #[.string tail, .int .i64 30] w fun e w' => e = .returned (.string (tail.extract 0 30)) ∧ w = w' := fun w => cut_any tail 30 w
    have hcl := cut_le tail 30
    have hsc := scan_lay hq (rcN_length ss) K (sb (tail.extract 0 30))
    rw [scan_stop (fun hh => rdX_other hhd hh.1), List.append_nil, Nat.add_zero] at hsc
    have c3 := fun W h => scan_any (bs (lay q (rcN ss) K) ++ tail.extract 0 30) (by simp [bs_size]; omega) q hq W h
    have e3 : sb (bs (lay q (rcN ss) K) ++ tail.extract 0 30) = lay q (rcN ss) K ++ sb (tail.extract 0 30) := by
      rw [sb_append, sb_bs _ (lay_lt (rcN_lt ss) K)]
    rw [e3, hsc] at c3
    have hLs : ((List.range K).map (rcN ss)).length = K := by simp
    rw [hLs] at c3
    have sAl : (bs (lay q (rcN ss) K)).size = (lay q (rcN ss) K).length := bs_size _
    have c1 : ∀ (s : ByteArray) w, Calls Tryd.prog 13 #[.string s, .int .i64 60] w fun e w' => e = .returned (.string (s.extract 0 60)) ∧ w = w' := fun s w => cut_any s 60 w
    have hst : ∀ k, k < K → (strs ((List.range K).map (rcN ss)))[k]? = some (.string ((ss k).extract 0 60)) := fun k hk => by
      simp [strs, hk, rcN, bs_list]
    obtain ⟨A, hA⟩ : ∃ A, A = bs (lay q (rcN ss) K) := ⟨_, rfl⟩
    unfold LaidP at CL
    rw [← hA] at c3 sA sAl CL
    generalize (lay q (rcN ss) K).length = M at *
    obtain ⟨t', ht'⟩ : ∃ t', t' = tail.extract 0 30 := ⟨_, rfl⟩
    rw [← ht'] at c2 c3 hcl
    have C1 := Box.mk c1; have C2 := Box.mk c2; have C3 := Box.mk c3; have HST := Box.mk hst
    clear c1 c2 c3 hst hhd hsc e3 hLs hA ht' hlk h79 ht
    generalize strs ((List.range K).map (rcN ss)) = LS at *
    rcases d2 with d1 | ⟨h0, d1, d2⟩
    all_goals
      go_enter Tryd.func8, Tryd.ntmps8
      go_wp2_with (first
        | (go_at_call 47; ((with_reducible refine CL.out.mono ?_); rintro e w1 ⟨v1, rfl, o1, b1⟩; obtain ⟨p1, k1, rfl⟩ := own_len o1; have B1 := Box.mk b1; clear o1 b1))
        | (go_at_call 13; ((with_reducible refine (C2.out _).mono ?_); rintro e w' ⟨rfl, rfl⟩))
        | (go_at_call 41; ((with_reducible refine (C3.out _ (halves_below HH.out B1.out)).mono ?_); rintro e w3 ⟨v3, rfl, o3, b3⟩; obtain ⟨p3, k3, rfl⟩ := own_len o3; have B3 := Box.mk (bch B1.out b3); have O3 := Box.mk o3; clear b3 o3)))
      go_loopw [11, 49] (fun _ i wr => ∃ k : Nat, k ≤ K ∧ i = .int .i64 (k : Int) ∧ Box (wr.ownsRow w1.heap.size 9 1 (.slice p3 K k3) K LS) ∧ Box (SIn wr (.slice p n c) n ss) ∧ Box (Below w.heap.size w wr))
        (fun _ i _ => K - (intOf i).toNat)
      case atStart => exact ⟨0, by omega, rfl, O3, ⟨HI.out.below B3.out⟩, B3⟩
      case round =>
        obtain ⟨k, hk, rfl, hown, hin, hb⟩ := hrel
        by_cases hlt : k < K
        · obtain ⟨g, cap, hv⟩ := hown.out.form (by omega)
          obtain ⟨rfl, _, rfl⟩ := Value.slice.inj hv.1
          obtain ⟨b, off, c', hv2, hbl, hcell⟩ := hin.out.cells (by omega)
          obtain ⟨rfl, _, rfl⟩ := Value.slice.inj hv2
          have hc1 := hcell k (by omega)
          have hc2 := hown.out.cellAt k (by omega)
          rw [HST.out k hlt] at hc2
          have q1 : ∀ m, Calls Tryd.prog 13 #[.string (ss k), .int .i64 60] (wr.drewN m) fun e w' => e = .returned (.string ((ss k).extract 0 60)) ∧ ∃ m', w' = wr.drewN m' := fun m => quiet_f (C1.out (ss k) _)
          generalize (ss k).extract 0 60 = R at *
          generalize ss k = Sk at *
          have Q1 := Box.mk q1
          clear q1 hcell hv hv2
          go_wp2_with fail
          go_quiet ((go_at_call 13; exact Q1.out _))
          go_wp2_with fail
          go_roundw
          case rel => exact ⟨k + 1, by omega, by go_num, ⟨own_drewN hown.out _⟩, ⟨hin.out.drewN _⟩, ⟨bdr hb.out _⟩⟩
          case measure => simp [intOf]; omega
        · obtain rfl : k = K := by omega
          go_wp2_with (go_at_call 44; ((with_reducible refine (awake6_any _ (halves_below HH.out hb.out)).mono ?_); rintro e w4 ⟨rfl, b4⟩; have B4 := Box.mk (bch hb.out b4); clear b4))
          go_ret
          exact ⟨rfl, B4.out⟩
end Go.Proofs.YtdhbeeeofaheeaaDoor
