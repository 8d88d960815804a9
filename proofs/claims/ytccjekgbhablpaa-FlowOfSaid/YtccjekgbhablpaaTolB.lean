/- Told: the walk. -/
import Derived.Test.YtccjekgbhablpaaTolA
namespace Go.Proofs.Ytccjekgbhablpaa
set_option maxRecDepth 100000
open Go.RowKit

theorem sliceLen {w : World} {B e z : Nat} {p : Option Addr} {q c n : Nat} {xs : List Value} (h : w.ownsRow B e z (.slice p q c) n xs) : q = n := by
  obtain ⟨_, _, hv⟩ := rowSlice h
  exact (Value.slice.inj hv).2.1
theorem tolStart (w : World) (a0 a1 a2 : Value) : TolH (((w.alloc (.cells #[a0, a1, a2] 26)).alloc (.cells #[.slice none 0 0, .slice none 0 0, .slice none 0 0] 37)).alloc (.cells #[.slice none 0 0, .slice none 0 0, .slice none 0 0] 37)) w.heap.size a0 a1 a2 (.slice none 0 0) (.slice none 0 0) (.slice none 0 0) := by
  have s1 : (w.alloc (.cells #[a0, a1, a2] 26)).heap.size = w.heap.size + 1 := by simp
  have s2 : ((w.alloc (.cells #[a0, a1, a2] 26)).alloc (.cells #[.slice none 0 0, .slice none 0 0, .slice none 0 0] 37)).heap.size = w.heap.size + 1 + 1 := by simp
  refine ⟨((aset _ _).block _ (by rw [s2]; omega)).trans (((aset _ _).block _ (by rw [s1]; omega)).trans (heap_alloc_new _ _)), ((aset _ _).block _ (by rw [s2]; omega)).trans ?_, ?_⟩
  · rw [← s1]; exact heap_alloc_new _ _
  · rw [← s2]; exact heap_alloc_new _ _
theorem newRowE (w : World) (e : TypeId) (z : Nat) : (w.alloc (.cells #[] e)).ownsRow w.heap.size e z (.slice (some ⟨w.heap.size, 0, none⟩) 0 0) 0 [] :=
  ⟨by simp, .inr ⟨_, 0, #[], rfl, Nat.le_refl _, heap_alloc_new _ _, Nat.le_refl _, Nat.zero_le _, by simp, by simp⟩⟩
set_option maxHeartbeats 12800000 in
theorem told_any (lv tv av : Value) (t : TestM) (hk : TestOk t) (w : World) (h : TestIn w lv tv av t) :
    Calls Try.prog 7 #[.agg #[lv, tv, av]] w fun e w' => (∃ lv' tv' av', e = .returned (.agg #[lv', tv', av']) ∧ TolR w' w.heap.size lv' tv' av' t) ∧ Below w.heap.size w w' := by
  obtain ⟨hlo, ⟨vs, hvl, hth, hins⟩, hasks⟩ := h
  obtain ⟨lp, lc, rfl⟩ := hlo.slice
  obtain ⟨tp, tc, rfl⟩ := hth.slice
  obtain ⟨ap, ac, rfl⟩ := hasks.slice
  have hnl := hk.locs
  have hnt := hk.thr
  have hna := hk.asks
  have HLO := Bx.mk hlo; have HTH := Bx.mk hth; have HIN := Bx.mk hins; have HAS := Bx.mk hasks; have HVL := Bx.mk hvl; have HKI := Bx.mk hk.ins
  clear hlo hth hins hasks hvl hk
  obtain ⟨i0, hi, hz0, hz1, hz2⟩ := info_parts info_rinit
  obtain ⟨j0, hj, hj0, hj1, hj2⟩ := info_parts info_rins
  obtain ⟨k0, hkk, hk0, hk1, hk2⟩ := info_parts info_rthr
  obtain ⟨m0, hm, hm0, hm1, hm2⟩ := info_parts info_ratom
  go_enter Try.func7, Try.ntmps7
  go_wp2_with fail
  go_loopw [17] (fun i wr => ∃ (m : Nat) (p : Option Addr) (c : Nat), i = .int .i64 (m : Int) ∧ m ≤ t.locs.length ∧ Bx (TolS w wr (.slice lp t.locs.length lc) (.slice tp t.thr.length tc) (.slice ap t.asks.length ac) (.slice p m c) (.slice none 0 0) (.slice none 0 0) ⟨t.locs.take m, [], []⟩)) (fun i _ => t.locs.length - (intOf i).toNat)
  case atStart =>
    exact ⟨0, none, 0, rfl, by omega, ⟨⟨tolStart w _ _ _, ⟨World.ownsRow_nil _ _ _ _, TRow.nil _ _, World.ownsRow_nil _ _ _ _⟩, bel (bel (aset _ _) (aset _ _)) (aset _ _)⟩⟩⟩
  case round =>
    obtain ⟨m, p, c, rfl, hmn, hS⟩ := hrel
    by_cases hlt : m < t.locs.length
    · obtain ⟨bb, off, c', hv, hbl, hcl⟩ := HLO.out.at (by omega)
      obtain ⟨rfl, _, rfl⟩ := Value.slice.inj hv
      obtain ⟨x, hx⟩ : ∃ x, t.locs[m]? = some x := ⟨_, List.getElem?_eq_getElem hlt⟩
      have f0 := flatAt locC 2 (fun _ => rfl) t.locs m 0 x hx (by decide)
      have f1 := flatAt locC 2 (fun _ => rfl) t.locs m 1 x hx (by decide)
      have q0 : wr.cell? ⟨bb, off + m * 2, none⟩ = some (.string (st x.1)) := (hS.out.b.cell hbl).trans (hcl _ _ f0)
      have q1 : wr.cell? ⟨bb, off + m * 2 + 1, none⟩ = some (.int .u64 x.2) := by
        rw [Nat.add_assoc]; exact (hS.out.b.cell hbl).trans (hcl _ _ f1)
      have ee : t.locs.take (m + 1) = t.locs.take m ++ [x] := by rw [List.take_add_one, hx]; rfl
      have hml : (t.locs.take m).length = m := by rw [List.length_take]; omega
      have g1 : wr.cell? ⟨w.heap.size + 1 + 1, 0, none⟩ = some (.slice p m c) := by rw [cOf hS.out.h.b2]; rfl
      have S1 := Bx.mk (hS.out.bel (aset wr (.cells #[.string (st x.1), .int .u64 x.2] 80)))
      have EE := Bx.mk ee; have HML := Bx.mk hml
      have hsz := hS.out.b.size
      have hBl := hS.out.h.lt
      have HL := Bx.mk hsz
      clear f0 f1 hcl hv hx ee hml hsz
      have hown : (wr.alloc (.cells #[.string (st x.1), .int .u64 x.2] 80)).ownsRow (w.heap.size + 1 + 1 + 1) 86 2 (.slice p m c) m ((t.locs.take m).flatMap locC) := by
        have := S1.out.r.lo
        rwa [HML.out] at this
      have HOWN := Bx.mk hown
      clear hown
      go_wp2_with (at_builtin; refine wpList_append_lies _ rfl (.tmp 22) (.tmp 24) 33 rfl (w.heap.size + 1 + 1 + 1) 86 i0 _ 2 24 Try.underlying33 hi hz0 hz1 hz2 rfl (by omega) _ m ((t.locs.take m).flatMap locC) rfl (HOWN.out.alloc _) ⟨wr.heap.size + 1, 0, none⟩ 1 1 [.string (st x.1), .int .u64 x.2] rfl rfl (World.news_of_block (cs := #[.string (st x.1), .int .u64 x.2]) (t := 86) (fr := (0, 0)) (by have := heap_alloc_new (wr.alloc (.cells #[.string (st x.1), .int .u64 x.2] 80)) (.cells #[.string (st x.1), .int .u64 x.2] 86); simpa using this)) (by simp [Value.oneCell']) (by omega) (by unfold maxLen; omega) (by omega) (by have := HL.out; first | (simp; done) | (simp; omega)) (wr.heap.size + 1 + 1) (by simp) ?_; intro g cap w4 hown3 hgrow hat hlt3; have R4 := S1.out.loc hgrow (x := x) (by rw [HML.out]; exact hown3); have z1 : w4.cell? ⟨w.heap.size + 1 + 1, 0, none⟩ = some (.slice p m c) := (by rw [cOf R4.1.b2]; rfl); have z2 : w4.frozen? ⟨w.heap.size + 1 + 1, 0, none⟩ = false := tOf R4.1.b2 _; have S4 := Bx.mk R4.2; clear R4 hown3 hgrow hat hlt3)
      go_roundw
      case rel => exact ⟨m + 1, _, _, by go_num, by omega, by rw [EE.out]; exact S4⟩
      case measure => simp [intOf] <;> omega
    · obtain rfl : m = t.locs.length := by omega
      have hfull : t.locs.take t.locs.length = t.locs := List.take_length
      rw [hfull] at hS
      have g1 : wr.cell? ⟨w.heap.size, 1, none⟩ = some (.slice tp t.thr.length tc) := by rw [cOf hS.out.h.b0]; rfl
      clear hfull
      go_wp2_with fail
      go_loopw [31] (fun i wr => ∃ (k : Nat) (p2 : Option Addr) (c2 : Nat), i = .int .i64 (k : Int) ∧ k ≤ t.thr.length ∧ Bx (TolS w wr (.slice lp t.locs.length lc) (.slice tp t.thr.length tc) (.slice ap t.asks.length ac) (.slice p t.locs.length c) (.slice p2 k c2) (.slice none 0 0) ⟨t.locs, t.thr.take k, []⟩)) (fun i _ => t.thr.length - (intOf i).toNat)
      case atStart => exact ⟨0, none, 0, rfl, by omega, hS⟩
      case round =>
        obtain ⟨k, p2, c2, rfl, hkn, hS2⟩ := hrel
        obtain ⟨wo, rfl⟩ : ∃ wo : World, wo = wr := ⟨_, rfl⟩
        by_cases hkt : k < t.thr.length
        · obtain ⟨bb, off, c', hv, hbl, hcl⟩ := HTH.out.at (by omega)
          obtain ⟨rfl, _, rfl⟩ := Value.slice.inj hv
          obtain ⟨u, hvk⟩ : ∃ u, vs[k]? = some u := ⟨_, List.getElem?_eq_getElem (by rw [HVL.out]; exact hkt)⟩
          obtain ⟨l, hlk, hsl⟩ := HIN.out k u hvk
          obtain ⟨ip, ic, rfl⟩ := hsl.slice
          have hll := HKI.out l (List.mem_of_getElem? hlk)
          have q0 : wo.cell? ⟨bb, off + k, none⟩ = some (.slice ip l.length ic) := (hS2.out.b.cell hbl).trans (hcl k _ hvk)
          have EE := Bx.mk (show t.thr.take (k + 1) = t.thr.take k ++ [l] by rw [List.take_add_one, hlk]; rfl)
          have hkl : (t.thr.take k).length = k := by rw [List.length_take]; omega
          have HKL := Bx.mk hkl
          have HSL := Bx.mk (hsl.below hS2.out.b)
          have hBl := hS2.out.h.lt
          clear hcl hv hvk hlk hsl hkl
          go_wp2_with fail
          go_loopw [8, 38] (fun v i wq => ∃ (j : Nat) (p3 : Option Addr) (c3 : Nat), v = .slice p3 j c3 ∧ i = .int .i64 (j : Int) ∧ j ≤ l.length ∧ Bx (wq.ownsRow wo.heap.size 50 13 (.slice p3 j c3) j ((l.take j).flatMap insC)) ∧ Bx (Below wo.heap.size wo wq)) (fun _ i _ => l.length - (intOf i).toNat)
          case atStart => exact ⟨0, _, _, rfl, rfl, by omega, ⟨newRowE _ _ _⟩, ⟨aset _ _⟩⟩
          case round =>
            obtain ⟨j, p3, c3, rfl, rfl, hjl, hrow, hbq⟩ := hrel
            by_cases hjlt : j < l.length
            · obtain ⟨ib, io, ic', hiv, hil, hicl⟩ := HSL.out.at (by omega)
              obtain ⟨rfl, _, rfl⟩ := Value.slice.inj hiv
              obtain ⟨x, hx⟩ : ∃ x, l[j]? = some x := ⟨_, List.getElem?_eq_getElem hjlt⟩
              have R1 := Bx.mk (rngBel (rngAt insC 13 (fun _ => rfl) hicl hx) hbq.out)
              have EX := Bx.mk (show l.take (j + 1) = l.take j ++ [x] by rw [List.take_add_one, hx]; rfl)
              have R2 := Bx.mk (rngNew wr (insC x) 84)
              have TH := Bx.mk (thrNew wr #[.int .i64 0, .int .i64 0, .int .i64 0, .bool false, .int .u64 0, .bool false, .int .u64 0, .bool false, .bool false, .int .i64 0, .int .i64 0, .int .i64 0, .int .i64 0] 84)
              have FN : Bx ((wr.alloc (.cells #[.int .i64 0, .int .i64 0, .int .i64 0, .bool false, .int .u64 0, .bool false, .int .u64 0, .bool false, .bool false, .int .i64 0, .int .i64 0, .int .i64 0, .int .i64 0] 84)).setCells wr.heap.size 0 (insC x).toArray.toList = wr.alloc (.cells (insC x).toArray 84)) := ⟨fillNew wr 84 _ (insC x) rfl⟩
              have IO := Bx.mk (all_oneCell_toArray (insOne x))
              have hu := Try.underlying84
              have ci : ∀ W, Calls Try.prog 20 #[.agg (insC x).toArray] W fun e w' => e = .returned (.agg #[.int .i64 x.op, .int .i64 x.rd, .int .i64 x.loc, .bool x.ar, .int .u64 x.an, .bool x.br, .int .u64 x.bn, .bool x.acq, .bool x.rel, .int .i64 x.dep, .int .i64 x.pred, .int .i64 x.succ, .int .i64 x.skip]) ∧ Below W.heap.size W w' := fun W => instr_any x W
              have CI := Bx.mk ci
              clear hicl hiv hx ci
              go_wp2_with (first
                | ((with_reducible refine ld_at 84 (.tmp 40) ?_); refine wpList_load_mid rfl 84 (.tmp 40) (by rfl) ib (io + j * 13) (by rfl) (insC x) _ R1.out hu rfl info_i8 ?_)
                | ((with_reducible refine st_at 84 (.tmp 10) (.tmp 41) ?_); refine wpList_store_mid rfl 84 (.tmp 10) (.tmp 41) (by rfl) wr.heap.size 0 (insC x).toArray (by rfl) (by rfl) TH.out info_i8 IO.out ?_; rw [FN.out])
                | ((with_reducible refine ld_at 84 (.tmp 10) ?_); refine wpList_load_mid rfl 84 (.tmp 10) (by rfl) wr.heap.size 0 (by rfl) (insC x) _ R2.out hu rfl info_i8 ?_)
                | (go_at_call 20; ((with_reducible refine (CI.out _).mono ?_); rintro e w5 ⟨rfl, hb5⟩; have ROW5 := Bx.mk (rowBel hrow.out (bel (aset wr (.cells (insC x).toArray 84)) hb5)); have B5 := Bx.mk (bel' hbq.out hbq.out.size (bel (aset wr (.cells (insC x).toArray 84)) hb5)); have s5 := B5.out.size; clear hb5))
                | (at_builtin; refine wpList_append_lies _ rfl (.tmp 42) (.tmp 45) 87 rfl wo.heap.size 50 j0 _ 13 96 Try.underlying87 hj hj0 hj1 hj2 rfl (by omega) _ j ((l.take j).flatMap insC) rfl (ROW5.out.alloc _) ⟨w5.heap.size, 0, none⟩ 1 1 (insC x) rfl rfl (World.news_of_block (cs := #[.int .i64 x.op, .int .i64 x.rd, .int .i64 x.loc, .bool x.ar, .int .u64 x.an, .bool x.br, .int .u64 x.bn, .bool x.acq, .bool x.rel, .int .i64 x.dep, .int .i64 x.pred, .int .i64 x.succ, .int .i64 x.skip]) (t := 50) (fr := (0, 0)) (heap_alloc_new _ _)) (insOne x) (by omega) (by unfold maxLen; omega) (by omega) (by simp; omega) (w5.heap.size + 1) (by simp) ?_; intro g6 cap6 w6 hown6 hgrow6 hat6 hlt6; have R6 : Bx (w6.ownsRow wo.heap.size 50 13 (.slice (some ⟨g6, 0, none⟩) (j + 1) cap6) (j + 1) ((l.take (j + 1)).flatMap insC)) := ⟨(by rw [EX.out, List.flatMap_append]; simpa using hown6)⟩; have B6 : Bx (Below wo.heap.size wo w6) := ⟨(B5.out.alloc s5 _).grown hgrow6 (by simp; omega) (fun k e => (rowLt hrow.out k e).1)⟩; clear hown6 hgrow6 hat6 hlt6))
              go_roundw
              case rel => exact ⟨j + 1, _, _, rfl, by go_num, by omega, R6, B6⟩
              case measure => simp [intOf] <;> omega
            · obtain rfl : j = l.length := by omega
              have S2 := hS2.out.bel hbq.out
              have hfl : l.take l.length = l := List.take_length
              rw [hfl] at hrow
              have HU := Bx.mk (rowMono hrow.out (show w.heap.size + 1 + 1 + 1 ≤ wo.heap.size by omega))
              obtain ⟨X, hX, hXo, hXa⟩ := S2.r.th
              have hXl : X.length = k := by
                have e : t.thr.take k = X.map (·.2) := hX
                have := HKL.out
                rw [e, List.length_map] at this; exact this
              have g1 : wr.cell? ⟨w.heap.size + 1 + 1, 1, none⟩ = some (.slice p2 k c2) := by rw [cOf S2.h.b2]; rfl
              have hBw := S2.h.lt
              have hsw := S2.b.size
              have SS := Bx.mk S2; have HX := Bx.mk hX; have HXO := Bx.mk hXo; have HXA := Bx.mk hXa; have HXL := Bx.mk hXl
              have HXK : Bx (wr.ownsRow (w.heap.size + 1 + 1 + 1) 87 1 (.slice p2 k c2) k (X.map (·.1))) := ⟨by rw [← hXl] at hXo ⊢; exact hXo⟩
              clear hfl hX hXo hXa hXl S2
              go_wp2_with (at_builtin; refine wpList_append_lies _ rfl (.tmp 49) (.tmp 51) 34 rfl (w.heap.size + 1 + 1 + 1) 87 k0 _ 1 24 Try.underlying34 hkk hk0 hk1 hk2 rfl (by omega) _ k (X.map (·.1)) rfl (HXK.out.alloc _) ⟨wr.heap.size, 0, none⟩ 1 1 [.slice p3 l.length c3] rfl rfl (World.news_of_block (cs := #[.slice p3 l.length c3]) (t := 87) (fr := (0, 0)) (heap_alloc_new _ _)) (by simp [Value.oneCell']) (by omega) (by unfold maxLen; omega) (by omega) (by first | (simp; done) | (simp; omega)) (wr.heap.size + 1) (by simp) ?_; intro g7 cap7 w7 hown7 hgrow7 hat7 hlt7; have R7 := SS.out.thr hgrow7 HU.out HX.out HXO.out HXA.out (by rw [HXL.out]; exact hown7); have z1 : w7.cell? ⟨w.heap.size + 1 + 1, 1, none⟩ = some (.slice p2 k c2) := (by rw [cOf R7.1.b2]; rfl); have z2 : w7.frozen? ⟨w.heap.size + 1 + 1, 1, none⟩ = false := tOf R7.1.b2 _; have S7 := Bx.mk R7.2; clear R7 hown7 hgrow7 hat7 hlt7)
              go_roundw
              case rel => exact ⟨k + 1, _, _, by go_num, by omega, by rw [EE.out]; exact S7⟩
              case measure => simp [intOf] <;> omega
        · obtain rfl : k = t.thr.length := by omega
          have hfull : t.thr.take t.thr.length = t.thr := List.take_length
          rw [hfull] at hS2
          have g1 : wo.cell? ⟨w.heap.size, 2, none⟩ = some (.slice ap t.asks.length ac) := by rw [cOf hS2.out.h.b0]; rfl
          clear hfull
          go_wp2_with fail
          go_loopw [58] (fun i wr => ∃ (n : Nat) (p3 : Option Addr) (c3 : Nat), i = .int .i64 (n : Int) ∧ n ≤ t.asks.length ∧ Bx (TolS w wr (.slice lp t.locs.length lc) (.slice tp t.thr.length tc) (.slice ap t.asks.length ac) (.slice p t.locs.length c) (.slice p2 t.thr.length c2) (.slice p3 n c3) ⟨t.locs, t.thr, t.asks.take n⟩)) (fun i _ => t.asks.length - (intOf i).toNat)
          case atStart => exact ⟨0, none, 0, rfl, by omega, hS2⟩
          case round =>
            obtain ⟨n, p3, c3, rfl, hnn, hS3⟩ := hrel
            by_cases hnt2 : n < t.asks.length
            · obtain ⟨bb, off, c', hv, hbl, hcl⟩ := HAS.out.at (by omega)
              obtain ⟨rfl, _, rfl⟩ := Value.slice.inj hv
              obtain ⟨x, hx⟩ : ∃ x, t.asks[n]? = some x := ⟨_, List.getElem?_eq_getElem hnt2⟩
              have f0 := flatAt askC 3 (fun _ => rfl) t.asks n 0 x hx (by decide)
              have f1 := flatAt askC 3 (fun _ => rfl) t.asks n 1 x hx (by decide)
              have f2 := flatAt askC 3 (fun _ => rfl) t.asks n 2 x hx (by decide)
              have q0 : wr.cell? ⟨bb, off + n * 3, none⟩ = some (.int .i64 x.1) := (hS3.out.b.cell hbl).trans (hcl _ _ f0)
              have q1 : wr.cell? ⟨bb, off + n * 3 + 1, none⟩ = some (.int .i64 x.2.1) := by
                rw [Nat.add_assoc]; exact (hS3.out.b.cell hbl).trans (hcl _ _ f1)
              have q2 : wr.cell? ⟨bb, off + n * 3 + 2, none⟩ = some (.int .u64 x.2.2) := by
                rw [Nat.add_assoc]; exact (hS3.out.b.cell hbl).trans (hcl _ _ f2)
              have ee : t.asks.take (n + 1) = t.asks.take n ++ [x] := by rw [List.take_add_one, hx]; rfl
              have hml : (t.asks.take n).length = n := by rw [List.length_take]; omega
              have g1 : wr.cell? ⟨w.heap.size + 1 + 1, 2, none⟩ = some (.slice p3 n c3) := by rw [cOf hS3.out.h.b2]; rfl
              have S1 := Bx.mk (hS3.out.bel (aset wr (.cells #[.int .i64 x.1, .int .i64 x.2.1, .int .u64 x.2.2] 90)))
              have EE := Bx.mk ee; have HML := Bx.mk hml
              have hBl := hS3.out.h.lt
              have HL := Bx.mk hS3.out.b.size
              have HOWN : Bx ((wr.alloc (.cells #[.int .i64 x.1, .int .i64 x.2.1, .int .u64 x.2.2] 90)).ownsRow (w.heap.size + 1 + 1 + 1) 91 3 (.slice p3 n c3) n ((t.asks.take n).flatMap askC)) := ⟨by
                have := S1.out.r.ak
                rwa [HML.out] at this⟩
              clear f0 f1 f2 hcl hv hx ee hml
              go_wp2_with (at_builtin; refine wpList_append_lies _ rfl (.tmp 63) (.tmp 65) 35 rfl (w.heap.size + 1 + 1 + 1) 91 m0 _ 3 24 Try.underlying35 hm hm0 hm1 hm2 rfl (by omega) _ n ((t.asks.take n).flatMap askC) rfl (HOWN.out.alloc _) ⟨wr.heap.size + 1, 0, none⟩ 1 1 [.int .i64 x.1, .int .i64 x.2.1, .int .u64 x.2.2] rfl rfl (World.news_of_block (cs := #[.int .i64 x.1, .int .i64 x.2.1, .int .u64 x.2.2]) (t := 91) (fr := (0, 0)) (by have := heap_alloc_new (wr.alloc (.cells #[.int .i64 x.1, .int .i64 x.2.1, .int .u64 x.2.2] 90)) (.cells #[.int .i64 x.1, .int .i64 x.2.1, .int .u64 x.2.2] 91); simpa using this)) (by simp [Value.oneCell']) (by omega) (by unfold maxLen; omega) (by omega) (by have := HL.out; first | (simp; done) | (simp; omega)) (wr.heap.size + 1 + 1) (by simp) ?_; intro g cap w4 hown3 hgrow hat hlt3; have R4 := S1.out.ask hgrow (x := x) (by rw [HML.out]; exact hown3); have z1 : w4.cell? ⟨w.heap.size + 1 + 1, 2, none⟩ = some (.slice p3 n c3) := (by rw [cOf R4.1.b2]; rfl); have z2 : w4.frozen? ⟨w.heap.size + 1 + 1, 2, none⟩ = false := tOf R4.1.b2 _; have S4 := Bx.mk R4.2; clear R4 hown3 hgrow hat hlt3)
              go_roundw
              case rel => exact ⟨n + 1, _, _, by go_num, by omega, by rw [EE.out]; exact S4⟩
              case measure => simp [intOf] <;> omega
            · obtain rfl : n = t.asks.length := by omega
              have hfull : t.asks.take t.asks.length = t.asks := List.take_length
              rw [hfull] at hS3
              have F3 := hS3.out.h
              have y0 := cOf F3.b2 0; have y1 := cOf F3.b2 1; have y2 := cOf F3.b2 2
              have x0 := cOf F3.b1 0; have x1 := cOf F3.b1 1; have x2 := cOf F3.b1 2; have xf0 := tOf F3.b1 0; have xf1 := tOf F3.b1 1; have xf2 := tOf F3.b1 2
              have xz := F3.lt
              simp at y0 y1 y2 x0 x1 x2
              clear hfull F3
              go_wp2_with fail
              refine bodyPost_ret (v := .agg #[.slice p t.locs.length c, .slice p2 t.thr.length c2, .slice p3 t.asks.length c3]) (by simp [results, go_sem, x0, x1, x2]) rfl ⟨⟨_, _, _, rfl, ?_⟩, ?_⟩
              · exact (hS3.out.r.keep fun k' h1 _ => by rw [Below.heap_setCell _ _ _ _ (by show k' ≠ w.heap.size + 1; omega), Below.heap_setCell _ _ _ _ (by show k' ≠ w.heap.size + 1; omega), Below.heap_setCell _ _ _ _ (by show k' ≠ w.heap.size + 1; omega)]).mono (by omega)
              · exact (((hS3.out.b.setCell (p := ⟨w.heap.size + 1, 0, none⟩) (by show w.heap.size ≤ w.heap.size + 1; omega) _).setCell (p := ⟨w.heap.size + 1, 1, none⟩) (by show w.heap.size ≤ w.heap.size + 1; omega) _).setCell (p := ⟨w.heap.size + 1, 2, none⟩) (by show w.heap.size ≤ w.heap.size + 1; omega) _)
end Go.Proofs.Ytccjekgbhablpaa
