/- Contracts of ordealref06: Scan; Same; the law FrameReads. -/
import Derived.Test.YtdffpbfllekcgaaGreatDoorFrameL
import Derived.Test.YtdffpbfllekcgaaGreatDoorHw
import Derived.Deep.QuietTactic
namespace Go.Proofs.YtdffpbfllekcgaaGreatDoor
set_option maxRecDepth 100000
open Go.RowKit M

theorem frV_model (T : ByteArray) : frV T = if rdX (sb T) = 0 then .agg #[.int .u64 (pQ (sb T) : Nat), .string (bs (pR (sb T))), .int .i64 ((18 + pN (sb T) : Nat) : Int), .int .i64 0] else .agg #[.int .u64 0, .string ⟨#[]⟩, .int .i64 0, .int .i64 (rdX (sb T) : Nat)] := rfl
theorem grown_load {w1 w2 : World} {a b c d s : Value} {t u : TypeId} {row : Option Nat} (hg : ((w1.alloc (.cells #[a, b, c, d] t)).alloc (.cells #[s] u)).grownBy w2 row) (hr : row ≠ some w1.heap.size) : w2.cell? ⟨w1.heap.size, 2, none⟩ = some c := by
  rw [World.grownBy.cell_far hg ⟨w1.heap.size, 2, none⟩ (by simp; omega) (fun e => hr e.symm), World.cell?_alloc_lt _ _ _ (by simp), cell_of_row _ _ _ _ _ _ (heap_alloc_new w1 _)]
  rfl

set_option maxHeartbeats 800000 in
theorem refScan_any (T : ByteArray) (hT : T.size ≤ 1000000) (q : Nat) (hq : q < 18446744073709551616) (w : World) :
    Calls Tryz.prog 29 #[.string T, .int .u64 q] w fun e w' => ∃ v, e = .returned (.tuple #[v, .int .i64 ((scanN (sb T) q).2 : Nat)]) ∧ w'.ownsRow w.heap.size 9 1 v (scanN (sb T) q).1.length (strs (scanN (sb T) q).1) ∧ Below w.heap.size w w' := by
  obtain ⟨i0, hi, hz0, hz1, hz2⟩ := string_parts
  go_enter Tryz.func29, Tryz.ntmps29
  go_wp2_with fail
  go_loopw [1, 6, 7] (fun s v i wr => ∃ (L : List (List Nat)) (a q' : Nat), s = .int .u64 (q' : Int) ∧ i = .int .i64 (a : Int) ∧ q' < 18446744073709551616 ∧ a ≤ T.size ∧ L.length ≤ a ∧ Box (scanN (sb T) q = (L ++ (scanN ((sb T).drop a) q').1, a + (scanN ((sb T).drop a) q').2)) ∧ Box (wr.ownsRow w.heap.size 9 1 v L.length (strs L)) ∧ Box (Below w.heap.size w wr) ∧ ∃ p l c, v = .slice p l c)
    (fun _ _ i _ => T.size - (intOf i).toNat)
  case atStart => exact ⟨[], 0, q, rfl, rfl, hq, by omega, by simp, ⟨by simp⟩, ⟨World.ownsRow_lit w #[] 0 (Nat.le_refl _) (by decide) rfl⟩, ⟨(Below.refl _ _).alloc (Nat.le_refl _) _⟩, _, _, _, rfl⟩
  case round =>
    obtain ⟨L, a, q', rfl, rfl, hq', ha, hLa, hsc, hown, hb, p, l, c, rfl⟩ := hrel
    have hsz : (T.extract a T.size).size = T.size - a := by simp
    have hsb : sb (T.extract a T.size) = (sb T).drop a := by
      rw [sb_part _ _ _ (Nat.le_refl _)]
      exact List.take_of_length_le (by rw [List.length_drop, sb_length]; omega)
    have cr := fun W => refRead_any (T.extract a T.size) (by omega) W
    have hV := frV_model (T.extract a T.size)
    rw [hsb] at hV
    obtain ⟨l0, hl0⟩ : ∃ l0, l0 = (sb T).drop a := ⟨_, rfl⟩
    rw [← hl0] at hV hsc
    have hl0l : l0.length = T.size - a := by rw [hl0, List.length_drop, sb_length]
    have hl0b : ∀ d ∈ l0, d < 2 ^ 8 := fun d hd => sb_lt T d (by rw [hl0] at hd; exact List.mem_of_mem_drop hd)
    by_cases hend : a < T.size
    · by_cases hx : rdX l0 = 0
      · have hz := rdX_zero hx
        have hpq := pQ_lt hl0b (by omega)
        rw [if_pos hx] at hV
        by_cases hqq : pQ l0 = q'
        · have hst := scan_step (l := l0) (q := q') ⟨hx, hqq⟩
          have hdd : l0.drop (18 + pN l0) = (sb T).drop (a + (18 + pN l0)) := by rw [hl0, List.drop_drop]
          rw [hdd] at hst
          obtain ⟨n, hn⟩ : ∃ n, n = 18 + pN l0 := ⟨_, rfl⟩
          obtain ⟨r, hr⟩ : ∃ r, r = pR l0 := ⟨_, rfl⟩
          rw [← hn, ← hr] at hst hV
          rw [hqq] at hV
          have hsc2 := hsc.out
          rw [hst] at hsc2
          have hn2 : 18 ≤ n ∧ a + n ≤ T.size := by omega
          have hrs : (bs r).size ≤ 1000000 := by
            rw [bs_size, hr]
            unfold pR
            rw [List.length_take, List.length_drop]; omega
          obtain ⟨S, hS⟩ : ∃ S, S = bs r := ⟨_, rfl⟩
          rw [← hS] at hV hrs
          have CR := Box.mk cr; have HV := Box.mk hV; have HSC := Box.mk hsc2; have HS := Box.mk hS; have HO := Box.mk hown.out
          have cr2 : ∀ W, Calls Tryz.prog 46 #[.string (T.extract a T.size)] W fun e w' => e = .returned (.agg #[.int .u64 (q' : Int), .string S, .int .i64 (n : Int), .int .i64 0]) ∧ Below W.heap.size W w' := fun W => by
            have c := CR.out W
            rw [HV.out] at c; exact c
          have CR2 := Box.mk cr2
          clear cr2 cr hV hsc hsc2 hst hdd hS hr hl0 hl0b hsb CR HV hz hn hx hqq hl0l hpq hown
          go_wp2_with (first
            | (go_at_call 46; ((with_reducible refine (CR2.out _).mono ?_); rintro e w1 ⟨rfl, b1⟩; have B1 := Box.mk (bch hb.out b1); have O1 := Box.mk (own_keep HO.out b1); clear b1))
            | (at_builtin; refine wpList_append_lies _ rfl (.tmp 27) (.tmp 30) 22 rfl w.heap.size 9 i0 _ 1 16 Tryz.underlying22 hi hz0 hz1 hz2 rfl (by omega) _ _ _ rfl ((O1.out.alloc _).alloc _) ⟨w1.heap.size + 1, 0, none⟩ 1 1 [.string S] rfl rfl (World.news_of_block (cs := #[.string S]) (t := 9) (fr := (0, 0)) (heap_alloc2_new _ _ _)) (by simp [Value.oneCell']) (by omega) (by unfold maxLen; omega) (by omega) (by have := B1.out.size; simp; omega) (w1.heap.size + 2) (by simp) ?_; intro g cap w2 hown2 hgrow hat hlt2; have O2 := Box.mk hown2; have B2 : Box (Below w.heap.size w w2) := ⟨((B1.out.alloc B1.out.size _).alloc (by have := B1.out.size; simp; omega) _).grown hgrow (by have := B1.out.size; simp; omega) (fun k hk => (O1.out.lt k hk).1)⟩; have hn2c := grown_load hgrow (fun e => Nat.lt_irrefl _ (O1.out.lt _ e).2); clear hown2 hgrow hat hlt2))
          go_roundw
          case rel =>
            refine ⟨L ++ [r], a + n, (q' + 1) % 18446744073709551616, ?_, by go_num, Nat.mod_lt _ (by decide), hn2.2, by simp; omega, ⟨?_⟩, ⟨?_⟩, B2, _, _, _, rfl⟩
            · go_num
            · rw [HSC.out]; simp [Nat.add_assoc]
            · have h := O2.out
              rw [HS.out] at h
              simpa [strs] using h
          case measure => simp [intOf]; omega
        · have hst := scan_stop (l := l0) (q := q') (fun h => hqq h.2)
          have hsc2 := hsc.out
          rw [hst] at hsc2
          simp only [List.append_nil, Nat.add_zero] at hsc2
          have e2 : ((pQ l0 : Int) != (q' : Int)) = true := by simp; omega
          obtain ⟨n, hn⟩ : ∃ n, n = 18 + pN l0 := ⟨_, rfl⟩
          rw [← hn] at hV
          generalize pQ l0 = z at *
          generalize bs (pR l0) = S at *
          have CR := Box.mk cr; have HV := Box.mk hV; have HSC := Box.mk hsc2; have HO := Box.mk hown.out
          have cr2 : ∀ W, Calls Tryz.prog 46 #[.string (T.extract a T.size)] W fun e w' => e = .returned (.agg #[.int .u64 (z : Int), .string S, .int .i64 (n : Int), .int .i64 0]) ∧ Below W.heap.size W w' := fun W => by
            have c := CR.out W
            rw [HV.out] at c; exact c
          have CR2 := Box.mk cr2
          clear cr2 cr hV hsc hsc2 hst hl0 hl0b hsb CR HV hz hn hx hqq hl0l hown
          go_wp2_with (first
            | (go_at_call 46; ((with_reducible refine (CR2.out _).mono ?_); rintro e w1 ⟨rfl, b1⟩; have B1 := Box.mk (bch hb.out b1); have O1 := Box.mk (own_keep HO.out b1); clear b1)))
          go_ret2
          rw [HSC.out]
          exact ⟨_, rfl, O1.out.alloc _, B1.out.alloc B1.out.size _⟩
      · have hst := scan_stop (l := l0) (q := q') (fun h => hx h.1)
        have hsc2 := hsc.out
        rw [hst] at hsc2
        simp only [List.append_nil, Nat.add_zero] at hsc2
        rw [if_neg hx] at hV
        have hxl := rdX_le l0
        generalize rdX l0 = z at *
        have e2 : ((z : Int) != 0) = true := by simp; omega
        have CR := Box.mk cr; have HV := Box.mk hV; have HSC := Box.mk hsc2; have HO := Box.mk hown.out
        have cr2 : ∀ W, Calls Tryz.prog 46 #[.string (T.extract a T.size)] W fun e w' => e = .returned (.agg #[.int .u64 0, .string ⟨#[]⟩, .int .i64 0, .int .i64 (z : Int)]) ∧ Below W.heap.size W w' := fun W => by
          have c := CR.out W
          rw [HV.out] at c; exact c
        have CR2 := Box.mk cr2
        clear cr2 cr hV hsc hsc2 hst hl0 hl0b hsb CR HV hx hl0l hown
        go_wp2_with (first
          | (go_at_call 46; ((with_reducible refine (CR2.out _).mono ?_); rintro e w1 ⟨rfl, b1⟩; have B1 := Box.mk (bch hb.out b1); have O1 := Box.mk (own_keep HO.out b1); clear b1)))
        go_ret2
        rw [HSC.out]
        exact ⟨_, rfl, O1.out.alloc _, B1.out.alloc B1.out.size _⟩
    · have hsc2 := hsc.out
      have hnil : l0 = [] := List.eq_nil_of_length_eq_zero (by omega)
      rw [hnil, scan_none] at hsc2
      simp only [List.append_nil, Nat.add_zero] at hsc2
      have HSC := Box.mk hsc2
      clear cr hV hsc hsc2 hl0 hl0b hsb hnil hl0l
      go_wp2
      go_ret2
      rw [HSC.out]
      exact ⟨_, rfl, hown.out, hb.out⟩

set_option maxHeartbeats 400000 in
theorem same_any (p1 p2 : Option Addr) (n k1 k2 B1 B2 : Nat) (L : List Value) (hn : n ≤ 1000000) (hL : ∀ j, j < n → ∃ s, L[j]? = some (.string s)) (w : World) (o1 : w.ownsRow B1 9 1 (.slice p1 n k1) n L) (o2 : w.ownsRow B2 9 1 (.slice p2 n k2) n L) :
    Calls Tryz.prog 14 #[.slice p1 n k1, .slice p2 n k2] w fun e w' => e = .returned (.int .i64 0) ∧ Below w.heap.size w w' := by
  have O1 := Box.mk o1; have O2 := Box.mk o2; have HL := Box.mk hL
  clear o1 o2 hL
  go_enter Tryz.func14, Tryz.ntmps14
  go_wp2_with fail
  go_loopw [5, 13] (fun _ i wr => ∃ k : Nat, k ≤ n ∧ i = .int .i64 (k : Int) ∧ Box (wr.ownsRow B1 9 1 (.slice p1 n k1) n L) ∧ Box (wr.ownsRow B2 9 1 (.slice p2 n k2) n L) ∧ Box (Below w.heap.size w wr))
    (fun _ i _ => n - (intOf i).toNat)
  case atStart => exact ⟨0, by omega, rfl, O1, O2, ⟨Below.refl _ _⟩⟩
  case round =>
    obtain ⟨k, hk, rfl, h1, h2, hb⟩ := hrel
    by_cases hlt : k < n
    · obtain ⟨g1, cap1, hv1⟩ := h1.out.form (by omega)
      obtain ⟨rfl, _, rfl⟩ := Value.slice.inj hv1.1
      obtain ⟨g2, cap2, hv2⟩ := h2.out.form (by omega)
      obtain ⟨rfl, _, rfl⟩ := Value.slice.inj hv2.1
      have hc1 := h1.out.cellAt k (by omega)
      have hc2 := h2.out.cellAt k (by omega)
      obtain ⟨S, hS⟩ := HL.out k hlt
      rw [hS] at hc1 hc2
      clear hv1 hv2 hS O1 O2
      go_wp2_with fail
      go_quiet (fail)
      go_wp2_with fail
      go_roundw
      case rel => exact ⟨k + 1, by omega, by go_num, ⟨own_drewN h1.out _⟩, ⟨own_drewN h2.out _⟩, ⟨bdr hb.out _⟩⟩
      case measure => simp [intOf]; omega
    · obtain rfl : k = n := by omega
      go_wp2
      go_ret
      exact ⟨rfl, hb.out⟩
end Go.Proofs.YtdffpbfllekcgaaGreatDoor
