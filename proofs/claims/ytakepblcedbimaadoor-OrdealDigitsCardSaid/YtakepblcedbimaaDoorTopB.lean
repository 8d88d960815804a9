/- OrdealDigits. -/
import Derived.Test.YtakepblcedbimaaDoorTopA
namespace Go.Proofs.YtakepblcedbimaaDoor
open Go.RowKit M

theorem field_hi {y : Nat} (h : y < 256) : fieldN y 4 4 = y / 16 := by
  unfold fieldN
  rw [if_pos (by omega), show cl 4 = 4 by decide, show (4 : Int).toNat = 4 by rfl]
  omega
theorem field_lo (y : Nat) : fieldN y 0 4 = y % 16 := by
  unfold fieldN
  rw [if_pos (by omega), show cl 4 = 4 by decide, show (0 : Int).toNat = 0 by rfl]
  omega

set_option maxRecDepth 100000 in
set_option maxHeartbeats 600000 in
theorem ordealDigits_walk (s0 : ByteArray) (w : World) (hK : KTab w) (hH : Halves w) (hT : Tab64 w) :
    Calls Tryd.prog 8 #[.string s0] w fun e w' => e = .returned (.bool true) ∧ Below w.heap.size w w' := by
  obtain ⟨s, hs⟩ : ∃ s, s = s0.extract 0 200 := ⟨_, rfl⟩
  have hsz : s.size ≤ 200 := by rw [hs]; exact cut_size s0 200
  have cc : Calls Tryd.prog 9 #[.string s0, .int .i64 200] w fun e w' => e = .returned (.string s) ∧ w = w' := by rw [hs]; exact cut_any s0 200 w
  have co := shaOf_any s (by omega) w hK
  have hll := shaN_length (sb s)
  have hlt := shaN_lt (sb s)
  obtain ⟨l, hl⟩ : ∃ l, l = shaN (sb s) := ⟨_, rfl⟩
  rw [← hl] at co hll hlt
  have ct := fun w => text_any l hll hlt w
  obtain ⟨T, hTx⟩ : ∃ T, T = bs (hexL l) := ⟨_, rfl⟩
  have hT64 : T.size = 64 := by rw [hTx, bs_size, hexL_length, hll]
  have hsbT : sb T = hexL l := by rw [hTx]; exact sb_bs _ (hexL_lt l hlt)
  rw [← hTx] at ct
  have clv : ∀ W, Below w.heap.size w W → Calls Tryd.prog 21 #[] W fun e w' => e = .returned (.bool true) ∧ Below W.heap.size W w' := fun W hb => live_any W (ktab_below hK hb) (halves_below hH hb) (tab_below hT hb)
  have u1 : (Tryd.prog.info? 36).map (fun i => i.size) = some (byts l).length := by
    have := hash_size hll
    simpa using this
  have CC := Box.mk cc; have CO := Box.mk co; have CT := Box.mk ct; have CL := Box.mk clv; have HLL := Box.mk hll; have HLT := Box.mk hlt; have HST := Box.mk hsbT; have HT64 := Box.mk hT64; have U1 := Box.mk u1
  have t63 : T.size ≤ 64 := by omega
  clear cc co ct clv hll hlt hsbT hT64 hs hl hTx hK hH hT u1
  go_enter Tryd.func8, Tryd.ntmps8
  go_upto_region 3 with (first
    | (go_at_call 9; refine CC.out.mono ?_; rintro e w' ⟨rfl, rfl⟩)
    | (go_at_call 14; refine CO.out.mono ?_; rintro e w1 ⟨rfl, b1⟩; have B1 := Box.mk b1; clear b1)
    | ((with_reducible refine at_store 36 (.tmp 3) (.tmp 9) ?_)
       refine wpList_store_mid rfl 36 (.tmp 3) (.tmp 9) rfl w1.heap.size 0 (byts l).toArray rfl rfl (hash_there (there_new w1 36 (byts (List.replicate 32 0)) _ 0 32 rfl (by decide)) HLL.out) (hash_size HLL.out) (all_oneCell_toArray (byts_one _)) ?_
       have y1 : ((w1.alloc (.cells (byts (List.replicate 32 0)).toArray 36)).setCells w1.heap.size 0 (byts l)).rangeAt w1.heap.size 0 (byts l) := World.rangeAt_setCells_same _ _ _ _ (by rw [byts_length, HLL.out]; exact there_new w1 36 (byts (List.replicate 32 0)) _ 0 32 rfl (by decide))
       have y2 : Below w.heap.size w ((w1.alloc (.cells (byts (List.replicate 32 0)).toArray 36)).setCells w1.heap.size 0 (byts l)) := below_setCells B1.out.size _ _ _ _ (B1.out.alloc B1.out.size _)
       change wpList _ _ _ _ _ ((w1.alloc (.cells (byts (List.replicate 32 0)).toArray 36)).setCells w1.heap.size 0 (byts l))
       generalize (w1.alloc (.cells (byts (List.replicate 32 0)).toArray 36)).setCells w1.heap.size 0 (byts l) = W2 at y1 y2 ⊢
       obtain ⟨hb, hhb⟩ : ∃ hb, hb = w1.heap.size := ⟨_, rfl⟩
       rw [← hhb] at y1 ⊢
       have Y1 := Box.mk y1; have Y2 := Box.mk y2
       clear y1 y2 hhb)
    | ((with_reducible refine at_load 36 (.tmp 3) ?_); refine wpList_load_mid rfl 36 (.tmp 3) rfl hb 0 rfl (byts l) _ Y1.out Tryd.underlying36 rfl U1.out ?_)
    | (go_at_call 19; ((with_reducible refine (CT.out _).mono ?_); rintro e w2 ⟨rfl, b2⟩; have Y3 := Box.mk (range_below b2 Y1.out); have Y4 := Box.mk (bch Y2.out b2); clear b2)))
  have t64 := HT64.out
  have t64i : (T.size : Int) = 64 := by omega
  go_wp2_with fail
  clear t64 t64i
  go_loopw [5, 6] (fun i _ wr => ∃ k : Nat, k ≤ 64 ∧ i = .int .i64 k ∧ Box (wr.rangeAt hb 0 (byts l)) ∧ Box (Below w.heap.size w wr)) (fun i _ _ => 64 - (intOf i).toNat)
  case atStart => exact ⟨0, by omega, rfl, Y3, Y4⟩
  case round =>
    clear Y1 Y2 Y3 Y4 B1
    obtain ⟨k, hk, rfl, f1, f2⟩ := hrel
    by_cases hlt2 : k < 64
    · obtain ⟨j, hj⟩ : ∃ j, j = k / 2 := ⟨_, rfl⟩
      have hj32 : j < 32 := by omega
      obtain ⟨y, hy⟩ : ∃ y, y = l.getD j 0 := ⟨_, rfl⟩
      have hy256 : y < 256 := by rw [hy]; exact HLT.out _ (getD_mem (by rw [HLL.out]; exact hj32))
      have g1 : wr.cell? ⟨hb, j, none⟩ = some (.int .u8 (y : Int)) := by
        have h := f1.out j (.int .u8 (y : Int)) (by rw [hy]; simp [byts, List.getD, HLL.out, hj32])
        rw [Nat.zero_add] at h; exact h
      have e1 : (k : Int) / 2 = (j : Int) := by omega
      have hx := hexL_get l k (by rw [HLL.out]; omega)
      rw [← hj, ← hy] at hx
      have i1 := fun w => str_index (T := T) (i := k) (by rw [HT64.out]; exact hlt2) w
      rw [HST.out, hx] at i1
      clear hx
      rcases (by omega : k % 2 = 0 ∨ k % 2 = 1) with hr | hr
      · rw [if_pos hr] at i1
        have e2 : (k : Int) % 2 = 0 := by omega
        obtain ⟨q, hq⟩ : ∃ q, q = y / 16 := ⟨_, rfl⟩
        have i2 := fun w => hex_index64 (q := q) (by omega) w
        have cf := fun w => wordField_any y 4 4 (by omega) w
        rw [field_hi hy256, ← hq] at cf
        rw [← hq] at i1
        generalize hexd q = d at *
        have CF := Box.mk cf; have HY := Box.mk hy; have HJ := Box.mk hj
        clear cf hq hy hj
        go_wp2_with (go_at_call 35; ((with_reducible refine (CF.out _).mono ?_); rintro e w' ⟨rfl, rfl⟩))
        go_quiet (fail)
        go_wp2_with fail
        go_roundw
        case rel => exact ⟨k + 1, by omega, by go_num, ⟨f1.out⟩, ⟨below_drewN f2.out _⟩⟩
        case measure => simp [intOf]; omega
      · rw [if_neg (by omega)] at i1
        have e2 : (k : Int) % 2 = 1 := by omega
        obtain ⟨q, hq⟩ : ∃ q, q = y % 16 := ⟨_, rfl⟩
        have i2 := fun w => hex_index64 (q := q) (by omega) w
        have cf := fun w => wordField_any y 0 4 (by omega) w
        rw [field_lo, ← hq] at cf
        rw [← hq] at i1
        generalize hexd q = d at *
        have CF := Box.mk cf; have HY := Box.mk hy; have HJ := Box.mk hj
        clear cf hq hy hj
        go_wp2_with (go_at_call 35; ((with_reducible refine (CF.out _).mono ?_); rintro e w' ⟨rfl, rfl⟩))
        go_quiet (fail)
        go_wp2_with fail
        go_roundw
        case rel => exact ⟨k + 1, by omega, by go_num, ⟨f1.out⟩, ⟨below_drewN f2.out _⟩⟩
        case measure => simp [intOf]; omega
    · obtain rfl : k = 64 := by omega
      go_wp2_with (go_at_call 21; refine (CL.out _ f2.out).mono ?_; rintro e w5 ⟨rfl, b5⟩; have B5 := Box.mk (bch f2.out b5); clear b5)
      go_ret
      exact ⟨rfl, B5.out⟩
end Go.Proofs.YtakepblcedbimaaDoor
