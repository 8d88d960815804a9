/- The reference of layer 3: Of. -/
import Derived.Test.YtacfdnjdjgdbcaaDoorRefG
import Derived.Test.YtacfdnjdjgdbcaaDoorHd
namespace Go.Proofs.YtacfdnjdjgdbcaaDoor
set_option maxRecDepth 100000
open Go.RowKit

theorem bs0 : (⟨#[0]⟩ : ByteArray) = bs [0] := by decide
theorem bs128 : (⟨#[128]⟩ : ByteArray) = bs [128] := by decide
/-- bytes just made, as a string -/
theorem conv_new (w : World) (l : List Nat) : (convert 40 9 (.slice (some ⟨w.heap.size, 0, none⟩) l.length l.length)).run Tryd.prog (w.alloc (.cells (byts l).toArray 5)) = .ok (.string (bs l)) (w.alloc (.cells (byts l).toArray 5)) := by
  refine conv_row (h := ⟨rfl, fun j hj => ?_, fun j hj => ?_⟩)
  · have t := heap_alloc_new w (.cells (byts l).toArray 5)
    simp only [World.cell?, t]
    simp [byts, List.getD, hj]
  · have t := heap_alloc_new w (.cells (byts l).toArray 5)
    simp only [World.frozen?, t]
    simp
theorem sb_sub (T : ByteArray) (l : List Nat) (h : T = bs l) (hl : ∀ d ∈ l, d < 2 ^ 8) (a : Nat) : sb (T.extract a (a + 64)) = (l.drop a).take 64 := by
  have e : sb T = l := by rw [h]; exact sb_bs l hl
  rw [sb_data, ByteArray.data_extract, Array.toList_extract, ← e, sb_data]
  simp [List.extract, List.map_take, List.map_drop]

/-- Of the right constants -/
def OfP (s : ByteArray) (w : World) (e : Ending) (w' : World) : Prop := e = .returned (.string (bs (M.shaN (sb s)))) ∧ Below w.heap.size w w'
set_option maxRecDepth 100000 in
set_option maxHeartbeats 6400000 in
theorem refOf_any (s : ByteArray) (hs : s.size ≤ 1000000) (gs cs gk ck : Nat) (w : World) (hS : Row32 w gs 8 (v8l M.iV)) (hK : Row32 w gk 64 M.kN) :
    Calls Tryd.prog 30 #[.agg #[.slice (some ⟨gs, 0, none⟩) 8 cs, .slice (some ⟨gk, 0, none⟩) 64 ck], .string s] w (OfP s w) := by
  obtain ⟨n, hn⟩ : ∃ n, n = s.size := ⟨_, rfl⟩
  have hlen : ((s.size : Nat) : Int) = (n : Int) := by rw [hn]
  obtain ⟨v, hv⟩ : ∃ v, v = 8 * n := ⟨_, rfl⟩
  have hn1 : n ≤ 1000000 := by omega
  have hv8 : (n : Int) * 8 = (v : Int) := by omega
  have hw8 : IntKind.u64.wrap (v : Int) = (v : Int) := by rw [IntKind.wrap_u64]; omega
  have hwn : IntKind.u64.wrap (n : Int) = (n : Int) := by rw [IntKind.wrap_u64]; omega
  have HS := Bx.mk hS; have HK := Bx.mk hK; have HN := Bx.mk hn; have HVN := Bx.mk hv
  obtain ⟨z, hz⟩ : ∃ z, z = (64 - (n + 9) % 64) % 64 := ⟨_, rfl⟩
  obtain ⟨V, hV⟩ : ∃ V, V = w.alloc (.cells #[.slice (some ⟨gs, 0, none⟩) 8 cs, .slice (some ⟨gk, 0, none⟩) 64 ck] 47) := ⟨_, rfl⟩
  have sV : V.heap.size = w.heap.size + 1 := by rw [hV]; simp
  have bV : Below w.heap.size w V := by rw [hV]; exact asetR _ _
  have cV : V.cell? ⟨w.heap.size, 1, none⟩ = some (.slice (some ⟨gk, 0, none⟩) 64 ck) := by
    have t := heap_alloc_new w (.cells #[.slice (some ⟨gs, 0, none⟩) 8 cs, .slice (some ⟨gk, 0, none⟩) 64 ck] 47)
    rw [hV]; simp only [World.cell?, t]; rfl
  have cV0 : V.cell? ⟨w.heap.size, 0, none⟩ = some (.slice (some ⟨gs, 0, none⟩) 8 cs) := by
    have t := heap_alloc_new w (.cells #[.slice (some ⟨gs, 0, none⟩) 8 cs, .slice (some ⟨gk, 0, none⟩) 64 ck] 47)
    rw [hV]; simp only [World.cell?, t]; rfl
  have HV := Bx.mk hV; have BV := Bx.mk bV; have CV := Bx.mk cV; have CV0 := Bx.mk cV0; have SV := Bx.mk sV
  obtain ⟨l1, hl1⟩ : ∃ l, l = sb s ++ [128] := ⟨_, rfl⟩
  have hs1 : s ++ ⟨#[128]⟩ = bs l1 := by rw [hl1, bs128, ← bs_append, bs_list]
  have hl1n : l1.length = n + 1 := by rw [hl1, List.length_append, sb_length, hn]; rfl
  have L1 := Bx.mk hl1
  have HS1 := Bx.mk hs1
  clear hS hK hn hV sV bV cV cV0 hv hl1 hs1
  go_enter Tryd.func30, Tryd.ntmps30
  go_wp2_with fail
  rw [← HV.out]
  obtain ⟨T0, hT0⟩ : ∃ T, T = s ++ (⟨#[128]⟩ : ByteArray) := ⟨_, rfl⟩
  rw [← hT0]
  have hT1 : T0 = bs l1 := hT0.trans HS1.out
  have HT0 := Bx.mk hT1
  clear hT0 hT1 HV hlen
  go_loopw [1, 6] (fun sv iv wr => ∃ (k : Nat) (T : ByteArray), iv = .int .i64 (k : Int) ∧ sv = .string T ∧ k ≤ z ∧ Bx (T = bs (l1 ++ List.replicate k 0)) ∧ wr = V) (fun _ iv _ => 64 - (intOf iv).toNat)
  case atStart => exact ⟨0, T0, rfl, rfl, by omega, ⟨by rw [HT0.out]; simp⟩, rfl⟩
  case round =>
    clear HT0
    obtain ⟨k, T, rfl, rfl, hk, hT, rfl⟩ := hrel
    obtain ⟨wv, rfl⟩ : ∃ wv : World, wv = wr := ⟨_, rfl⟩
    have hTs : T.size = n + 1 + k := by rw [hT.out, bs_size, List.length_append, List.length_replicate, hl1n]
    have hTi : ((T.size : Nat) : Int) = ((n + 1 + k : Nat) : Int) := by rw [hTs]
    obtain ⟨m, hm⟩ : ∃ m, m = n + 1 + k := ⟨_, rfl⟩
    rw [← hm] at hTi
    have hr : (m : Int).tmod 64 = ((m % 64 : Nat) : Int) := by rw [IntWalk.rem_in _ _ (by omega)]; omega
    obtain ⟨r, hr2⟩ : ∃ r, r = m % 64 := ⟨_, rfl⟩
    rw [← hr2] at hr
    have hk64 : (k : Int) < 64 := by omega
    have hTb : T.size ≤ 2000000 := by omega
    by_cases hkz : k < z
    · have hr55 : ((r : Int) != 56) = true := by simp; omega
      have hr57 : ((r : Int) = 56) = False := eq_false (by omega)
      have hnx : T ++ ⟨#[0]⟩ = bs (l1 ++ List.replicate (k + 1) 0) := by rw [hT.out, bs0, bs_append, List.append_assoc, ← List.replicate_succ']
      have NX := Bx.mk hnx
      clear hnx hm hr2 hTs
      go_wp2_with fail
      go_roundw
      case rel => exact ⟨k + 1, _, by go_num, rfl, by omega, NX, trivial⟩
      case measure => simp [intOf] <;> omega
    · have hr56 : r = 56 := by omega
      have hr57 : ((r : Int) != 56) = false := by rw [hr56]; rfl
      have hr58 : ((r : Int) = 56) = True := eq_true (by omega)
      have hkz' : k = z := by omega
      have HT := Bx.mk (show T = bs (l1 ++ List.replicate z 0) by rw [← hkz']; exact hT.out)
      clear hm hr2 hTs hkz' hr56 hT
      go_wp2_with fail
      obtain ⟨B8, hB8⟩ : ∃ l, l = M.be8 v := ⟨_, rfl⟩
      have HB8 := Bx.mk hB8
      clear hB8
      go_loopw [5, 7, 8] (fun bv nv iv wx => ∃ (q : Nat) (N : ByteArray), iv = .int .i64 (q : Int) ∧ nv = .string N ∧ bv = .int .u64 ((v / 256 ^ q : Nat) : Int) ∧ q ≤ 8 ∧ Bx (N = bs (B8.drop (8 - q))) ∧ Bx (Below wv.heap.size wv wx)) (fun _ _ iv _ => 8 - (intOf iv).toNat)
      case atStart => exact ⟨0, ⟨#[]⟩, rfl, rfl, by simp, by omega, ⟨by rw [HB8.out]; rfl⟩, ⟨Below.refl _ _⟩⟩
      case round =>
        obtain ⟨q, N, rfl, rfl, rfl, hq, hN, hB⟩ := hrel
        obtain ⟨wx, rfl⟩ : ∃ wx : World, wx = wr := ⟨_, rfl⟩
        by_cases hq8 : q < 8
        · obtain ⟨x, hx⟩ : ∃ x, x = v / 256 ^ q := ⟨_, rfl⟩
          have hq8i : (q : Int) < 8 := by omega
          have hxl : x ≤ v := by rw [hx]; exact Nat.div_le_self _ _
          have hx1 : v / 256 ^ (q + 1) = x / 256 := by rw [hx, Nat.pow_succ, Nat.div_div_eq_div_mul]
          have hNs : N.size ≤ 8 := by rw [hN.out, bs_size, List.length_drop, HB8.out]; show 8 - _ ≤ 8; omega
          have hnx : bs [x % 256] ++ N = bs (B8.drop (8 - (q + 1))) := by
            rw [hN.out, bs_append, HB8.out, hx]
            have cs : q = 0 ∨ q = 1 ∨ q = 2 ∨ q = 3 ∨ q = 4 ∨ q = 5 ∨ q = 6 ∨ q = 7 := by omega
            rcases cs with rfl | rfl | rfl | rfl | rfl | rfl | rfl | rfl <;> first | rfl | (unfold M.be8; simp)
          rw [← hx]
          obtain ⟨y, hy⟩ : ∃ y, y = x % 256 := ⟨_, rfl⟩
          obtain ⟨x2, hx2⟩ : ∃ y, y = x / 256 := ⟨_, rfl⟩
          rw [← hy] at hnx
          rw [← hx2] at hx1
          have m1 : (x : Int) % 256 = (y : Int) := by omega
          have m2 : IntKind.u64.wrap (y : Int) = (y : Int) := by rw [IntKind.wrap_u64]; omega
          have m3 : IntKind.u8.wrap (y : Int) = (y : Int) := by rw [IntKind.wrap_u8]; omega
          have m4 : (x : Int) / 256 = (x2 : Int) := by omega
          have m5 : IntKind.u64.wrap (x2 : Int) = (x2 : Int) := by rw [IntKind.wrap_u64]; omega
          have cv := fun W => conv_new W [y]
          have CVN : Bx (∀ W : World, (convert 40 9 (.slice (some ⟨W.heap.size, 0, none⟩) 1 1)).run Tryd.prog (W.alloc (.cells #[.int .u8 (y : Int)] 5)) = .ok (.string (bs [y])) (W.alloc (.cells #[.int .u8 (y : Int)] 5))) := ⟨cv⟩
          have cvw := CVN.out wx
          obtain ⟨Y, hY⟩ : ∃ Y, Y = bs [y] := ⟨_, rfl⟩
          have hYs : Y.size = 1 := by rw [hY, bs_size]; rfl
          rw [← hY] at hnx cvw
          have NX := Bx.mk hnx; have HX1 := Bx.mk hx1
          have B2 := Bx.mk (hB.out.alloc hB.out.size (.cells #[.int .u8 (y : Int)] 5))
          clear cv hx hx1 hnx hy hx2 hY CVN
          go_wp2_with fail
          go_roundw
          case rel => exact ⟨q + 1, _, by go_num, rfl, by rw [HX1.out], by omega, NX, B2⟩
          case measure => simp [intOf] <;> omega
        · obtain rfl : q = 8 := by omega
          have hN2 : N = bs B8 := hN.out
          obtain ⟨Mm, hMm⟩ : ∃ l, l = l1 ++ List.replicate z 0 ++ B8 := ⟨_, rfl⟩
          have hMs : Mm = sb s ++ M.padN (sb s).length := by
            have hz2 : M.padN (sb s).length = 128 :: (List.replicate z 0 ++ B8) := by
              unfold M.padN
              rw [sb_length, ← HN.out, ← hz, HB8.out, HVN.out]
            rw [hMm, L1.out, hz2]
            simp
          have hMl : Mm.length = n + 9 + z := by
            rw [hMm, List.length_append, List.length_append, List.length_replicate, hl1n, HB8.out]
            show n + 1 + z + 8 = _
            omega
          have hMb : ∀ d ∈ Mm, d < 2 ^ 8 := fun d hd => by
            rw [hMs] at hd
            rcases List.mem_append.1 hd with h | h
            · exact sb_lt s d h
            · exact M.padN_lt _ d h
          obtain ⟨nb, hnb⟩ : ∃ b, b = (n + 9 + z) / 64 := ⟨_, rfl⟩
          have h64 : n + 9 + z = 64 * nb := by omega
          have hnbl : nb ≤ 20000 := by omega
          obtain ⟨T2, hT2⟩ : ∃ x, x = T ++ N := ⟨_, rfl⟩
          have hT2b : T2 = bs Mm := by rw [hT2, HT.out, hN2, bs_append, hMm]
          have hT2s : T2.size = 64 * nb := by rw [hT2b, bs_size, hMl, h64]
          have hTsz : T.size ≤ 2000000 := hTb
          have hNsz : N.size ≤ 8 := by rw [hN2, bs_size, HB8.out]; exact Nat.le_refl 8
          have hsha : M.shaN (sb s) = M.digV (M.stt Mm nb) := by
            unfold M.shaN
            rw [← hMs]
            have : ((sb s).length + (M.padN (sb s).length).length) / 64 = nb := by
              rw [hnb, ← hMl, hMs, List.length_append]
            rw [this]
          have wl : Below w.heap.size w wx := BV.out.trans (hB.out.mono BV.out.size)
          have k1 : wx.cell? ⟨w.heap.size, 1, none⟩ = some (.slice (some ⟨gk, 0, none⟩) 64 ck) := (hB.out.cell (show w.heap.size < wv.heap.size by have := SV.out; omega)).trans CV.out
          have k0 : wx.cell? ⟨w.heap.size, 0, none⟩ = some (.slice (some ⟨gs, 0, none⟩) 8 cs) := (hB.out.cell (show w.heap.size < wv.heap.size by have := SV.out; omega)).trans CV0.out
          have gsl : gs < w.heap.size := HS.out.lt (by decide)
          have gkl : gk < w.heap.size := HK.out.lt (by decide)
          have RS := Bx.mk (HS.out.below wl gsl)
          have KK := Bx.mk (HK.out.below wl gkl)
          have WL := Bx.mk wl
          have wlt : w.heap.size < wx.heap.size := by have := SV.out; have := hB.out.size; omega
          have K1 := Bx.mk k1
          have MB := Bx.mk hMb; have SHA := Bx.mk hsha; have TB := Bx.mk hT2b; have ML := Bx.mk hMl
          have gkx : gk < wx.heap.size := by omega
          clear hz hMm hMs hMl hMb hnb hT2b hsha wl hN2 hN HT
          rw [show ((8 : Nat) : Int) = (8 : Int) from rfl]
          generalize v / 256 ^ 8 = ve
          go_wp2_with fail
          rw [show ((T ++ N : ByteArray)) = T2 from hT2.symm]
          clear hT2
          go_loopw [9, 10] (fun sv iv wy => ∃ (q p g c : Nat), iv = .int .i64 (p : Int) ∧ p = 64 * q ∧ q ≤ nb ∧ sv = .slice (some ⟨g, 0, none⟩) 8 c ∧ g < wy.heap.size ∧ Bx (Row32 wy g 8 (v8l (M.stt Mm q))) ∧ Bx (Below wx.heap.size wx wy)) (fun _ iv _ => 64 * nb - (intOf iv).toNat)
          case atStart => exact ⟨0, 0, gs, cs, rfl, rfl, by omega, rfl, by omega, RS, ⟨Below.refl _ _⟩⟩
          case round =>
            obtain ⟨q, p, g, c, rfl, hp, hq, rfl, hg, hR, hW⟩ := hrel
            obtain ⟨wy, rfl⟩ : ∃ wy : World, wy = wr := ⟨_, rfl⟩
            obtain ⟨tn, htn⟩ : ∃ x, x = 64 * nb := ⟨_, rfl⟩
            have hTi2 : ((T2.size : Nat) : Int) = (tn : Int) := by rw [hT2s, htn]
            by_cases hqn : q < nb
            · obtain ⟨p2, hp2⟩ : ∃ x, x = p + 64 := ⟨_, rfl⟩
              have y1 : (p : Int) + 64 = (p2 : Int) := by omega
              have y2 : IntKind.i64.wrap (p2 : Int) = (p2 : Int) := IntWalk.i64_in _ (by omega)
              have y3 : (p : Int) < (tn : Int) := by omega
              have y4 : p2 ≤ T2.size := by omega
              have y5 : p ≤ p2 := by omega
              have y6 : (p : Int) ≤ (p2 : Int) := by omega
              have y7 : (p2 : Int) ≤ (tn : Int) := by omega
              have y8 : (0 : Int) ≤ (p : Int) := by omega
              have y9 : p2 ≤ tn := by omega
              have hex : sb (T2.extract p p2) = (Mm.drop (64 * q)).take 64 := by
                rw [hp2, ← hp]; exact sb_sub T2 Mm TB.out MB.out p
              have hes : (T2.extract p p2).size = 64 := by
                rw [ByteArray.size_extract]; omega
              have cm : ∀ W, Below wy.heap.size wy W → Calls Tryd.prog 44 #[.slice (some ⟨g, 0, none⟩) 8 c, .slice (some ⟨gk, 0, none⟩) 64 ck, .string (T2.extract p p2)] W (MixP W (v8l (M.stt Mm (q + 1)))) := fun W hb => by
                have := mix_any (M.stt Mm q) (M.stt_ok Mm q) (T2.extract p p2) hes g c gk ck W (hR.out.below hb hg) ((KK.out.below hW.out gkx).below hb (by have := hW.out.size; omega))
                rw [hex] at this
                exact this
              have kb : ∀ W, Below wy.heap.size wy W → W.cell? ⟨w.heap.size, 1, none⟩ = some (.slice (some ⟨gk, 0, none⟩) 64 ck) := fun W hb => (hb.cell (show w.heap.size < wy.heap.size by have := hW.out.size; omega)).trans ((hW.out.cell wlt).trans K1.out)
              have CM := Bx.mk cm; have KB := Bx.mk kb
              have hsl : ∀ W, (Instr.slice 9 (.string T2) (some (.int .i64 (p : Int))) (some (.int .i64 (p2 : Int))) none).run Tryd.prog W = .ok (.string (T2.extract p p2)) W := fun W => by
                rw [run_slice_string (P := Tryd.prog) W 9 T2 .i64 .i64 (p : Int) (p2 : Int) Tryd.underlying9 y8 y6 (by omega)]
                simp
              have hsl2 : ∀ W, (Instr.sliceAt 9 (.string T2) (some (.int .i64 (p : Int))) (some (.int .i64 (p2 : Int))) none).run Tryd.prog W = .ok (.string (T2.extract p p2)) W := hsl
              have HTN := Bx.mk htn
              have HP := Bx.mk hp; have HP2 := Bx.mk hp2
              clear cm kb hex hes hR htn hT2s h64 y4 hp hp2
              go_wp2_with fail
              have kw : wy.drew.cell? ⟨w.heap.size, 1, none⟩ = some (.slice (some ⟨gk, 0, none⟩) 64 ck) := KB.out _ (Below.refl _ _).drew
              have kw0 : ({ wy with drawn := wy.drawn + 1 } : World).cell? ⟨w.heap.size, 1, none⟩ = some (.slice (some ⟨gk, 0, none⟩) 64 ck) := kw
              go_still_tail 8, (by kernel_rfl)
              change wpList _ _ _ _ _ wy.drew
              go_wp2_with (go_at_call 44; ((with_reducible refine (CM.out _ (Below.refl _ _).drew).mono ?_); rintro e w9 ⟨⟨g9, c9, rfl, r9, l9⟩, b9⟩; have B9 := Bx.mk ((Below.refl wy.heap.size wy).drew.trans b9); have R9 := Bx.mk r9; have G9 := Bx.mk (show g9 < w9.heap.size from r9.lt (by decide)); clear r9 b9 l9))
              go_roundw
              case rel => exact ⟨q + 1, p2, g9, c9, by go_num, by have := HP.out; have := HP2.out; omega, by omega, rfl, G9.out, R9, ⟨hW.out.trans (B9.out.mono hW.out.size)⟩⟩
              case measure => have := HP.out; have := HP2.out; simp [intOf] <;> omega
            · have hqe : q = nb := by omega
              have y3 : ((p : Int) < (tn : Int)) = False := eq_false (by omega)
              obtain ⟨vv, hvv⟩ : ∃ vv, vv = M.stt Mm q := ⟨_, rfl⟩
              have hok : vv.ok := by rw [hvv]; exact M.stt_ok Mm q
              have fin : M.shaN (sb s) = M.digV vv := by rw [SHA.out, hvv, hqe]
              have rv : Row32 wy g 8 (v8l vv) := by rw [hvv]; exact hR.out
              obtain ⟨DD, hDD⟩ : ∃ l, l = M.digV vv := ⟨_, rfl⟩
              rw [← hDD] at fin
              obtain ⟨a, b, c1, d, e, f, gg, h⟩ := vv
              obtain ⟨ka, kb, kc, kd, ke, kf, kg, kh⟩ := hok
              simp only at ka kb kc kd ke kf kg kh
              have RV := Bx.mk rv; have FIN := Bx.mk fin; have HDD := Bx.mk hDD
              clear hvv fin rv hDD hqe hR hp htn hT2s h64 hq
              go_wp2_with fail
              go_loopw [11, 67] (fun ov iv wq => ∃ (j : Nat) (O : ByteArray), iv = .int .i64 (j : Int) ∧ ov = .string O ∧ j ≤ 8 ∧ Bx (O = bs (DD.take (4 * j))) ∧ Bx (Below wy.heap.size wy wq)) (fun _ iv _ => 8 - (intOf iv).toNat)
              case atStart => exact ⟨0, ⟨#[]⟩, rfl, rfl, by omega, ⟨by simp; rfl⟩, ⟨Below.refl _ _⟩⟩
              case round =>
                obtain ⟨j, O, rfl, rfl, hj, hO, hQ⟩ := hrel
                obtain ⟨wq, rfl⟩ : ∃ wq : World, wq = wr := ⟨_, rfl⟩
                by_cases hj8 : j < 8
                · obtain ⟨x, hx⟩ : ∃ x, x = (v8l ⟨a, b, c1, d, e, f, gg, h⟩).getD j 0 := ⟨_, rfl⟩
                  have cx : wq.cell? ⟨g, j, none⟩ = some (.int .u32 (x : Int)) := by rw [hx]; exact (RV.out.below hQ.out hg).cell j hj8
                  have xl : x < 4294967296 := by
                    rw [hx]
                    have cs : j = 0 ∨ j = 1 ∨ j = 2 ∨ j = 3 ∨ j = 4 ∨ j = 5 ∨ j = 6 ∨ j = 7 := by omega
                    rcases cs with rfl | rfl | rfl | rfl | rfl | rfl | rfl | rfl <;> assumption
                  have ht : DD.take (4 * (j + 1)) = DD.take (4 * j) ++ M.be4 x := by
                    rw [hx, HDD.out]
                    have cs : j = 0 ∨ j = 1 ∨ j = 2 ∨ j = 3 ∨ j = 4 ∨ j = 5 ∨ j = 6 ∨ j = 7 := by omega
                    rcases cs with rfl | rfl | rfl | rfl | rfl | rfl | rfl | rfl <;> rfl
                  have hOs : O.size ≤ 32 := by rw [hO.out, bs_size, List.length_take]; omega
                  obtain ⟨b0, h0⟩ : ∃ y, y = x / 16777216 := ⟨_, rfl⟩
                  obtain ⟨x1, h1⟩ : ∃ y, y = x / 65536 := ⟨_, rfl⟩
                  obtain ⟨b1, h1'⟩ : ∃ y, y = x1 % 256 := ⟨_, rfl⟩
                  obtain ⟨x2, h2⟩ : ∃ y, y = x / 256 := ⟨_, rfl⟩
                  obtain ⟨b2, h2'⟩ : ∃ y, y = x2 % 256 := ⟨_, rfl⟩
                  obtain ⟨b3, h3'⟩ : ∃ y, y = x % 256 := ⟨_, rfl⟩
                  have hbe : M.be4 x = [b0, b1, b2, b3] := by unfold M.be4; rw [h0, h1', h1, h2', h2, h3']
                  have m0 : (x : Int) / 16777216 = (b0 : Int) := by omega
                  have m1 : (x : Int) / 65536 = (x1 : Int) := by omega
                  have m2 : (x1 : Int) % 256 = (b1 : Int) := by omega
                  have m3 : (x : Int) / 256 = (x2 : Int) := by omega
                  have m4 : (x2 : Int) % 256 = (b2 : Int) := by omega
                  have m5 : (x : Int) % 256 = (b3 : Int) := by omega
                  have w0 : IntKind.u32.wrap (b0 : Int) = (b0 : Int) := wrapU (by omega)
                  have w1 : IntKind.u32.wrap (x1 : Int) = (x1 : Int) := wrapU (by omega)
                  have w2 : IntKind.u32.wrap (b1 : Int) = (b1 : Int) := wrapU (by omega)
                  have w3 : IntKind.u32.wrap (x2 : Int) = (x2 : Int) := wrapU (by omega)
                  have w4 : IntKind.u32.wrap (b2 : Int) = (b2 : Int) := wrapU (by omega)
                  have w5 : IntKind.u32.wrap (b3 : Int) = (b3 : Int) := wrapU (by omega)
                  have v0 : IntKind.u8.wrap (b0 : Int) = (b0 : Int) := by rw [IntKind.wrap_u8]; omega
                  have v1 : IntKind.u8.wrap (b1 : Int) = (b1 : Int) := by rw [IntKind.wrap_u8]; omega
                  have v2 : IntKind.u8.wrap (b2 : Int) = (b2 : Int) := by rw [IntKind.wrap_u8]; omega
                  have v3 : IntKind.u8.wrap (b3 : Int) = (b3 : Int) := by rw [IntKind.wrap_u8]; omega
                  have cvw : (convert 40 9 (.slice (some ⟨wq.heap.size, 0, none⟩) 4 4)).run Tryd.prog (wq.alloc (.cells #[.int .u8 (b0 : Int), .int .u8 (b1 : Int), .int .u8 (b2 : Int), .int .u8 (b3 : Int)] 5)) = .ok (.string (bs [b0, b1, b2, b3])) (wq.alloc (.cells #[.int .u8 (b0 : Int), .int .u8 (b1 : Int), .int .u8 (b2 : Int), .int .u8 (b3 : Int)] 5)) := conv_new wq [b0, b1, b2, b3]
                  obtain ⟨Y, hY⟩ : ∃ Y, Y = bs [b0, b1, b2, b3] := ⟨_, rfl⟩
                  have hYs : Y.size = 4 := by rw [hY, bs_size]; rfl
                  have hnx : O ++ Y = bs (DD.take (4 * (j + 1))) := by rw [ht, hO.out, hY, bs_append, hbe]
                  rw [← hY] at cvw
                  have NX := Bx.mk hnx
                  have B2 := Bx.mk (hQ.out.alloc hQ.out.size (.cells #[.int .u8 (b0 : Int), .int .u8 (b1 : Int), .int .u8 (b2 : Int), .int .u8 (b3 : Int)] 5))
                  have hj8i : (j : Int) < 8 := by omega
                  clear hx h0 h1 h1' h2 h2' h3' hbe ht hY hnx xl hO
                  go_wp2_with fail
                  go_roundw
                  case rel => exact ⟨j + 1, _, by go_num, rfl, by omega, NX, B2⟩
                  case measure => simp [intOf] <;> omega
                · obtain rfl : j = 8 := by omega
                  have hO8 : O = bs (M.shaN (sb s)) := by
                    rw [hO.out, FIN.out, List.take_of_length_le]
                    rw [HDD.out, M.digV_length]
                    exact Nat.le_refl _
                  have HO8 := Bx.mk hO8
                  clear hO hO8
                  have bt : Below w.heap.size w wq := (WL.out.trans (hW.out.mono WL.out.size)).trans (hQ.out.mono (Nat.le_trans WL.out.size hW.out.size))
                  have BT := Bx.mk bt
                  clear bt
                  go_wp2_with fail
                  go_ret
                  exact ⟨by rw [HO8.out]; rfl, BT.out⟩
end Go.Proofs.YtacfdnjdjgdbcaaDoor
