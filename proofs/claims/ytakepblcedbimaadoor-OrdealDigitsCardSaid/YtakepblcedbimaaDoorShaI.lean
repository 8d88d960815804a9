/- The laws of layer 3 (sha): awake; ShaParts. -/
import Derived.Test.YtakepblcedbimaaDoorShaH
import Derived.Test.YtakepblcedbimaaDoorCrcF
import Derived.Stop.BytesEq
namespace Go.Proofs.YtakepblcedbimaaDoor
open Go.RowKit M

theorem byts_cell (l : List Nat) (h : ∀ d ∈ l, d < 256) : byts l = (l.map UInt8.ofNat).map Extern.Stop.cell := by
  simp only [byts, List.map_map]
  apply List.map_congr_left
  intro n hn
  have := h n hn
  simp only [Function.comp, Extern.Stop.cell]
  rw [UInt8.toNat_ofNat', Nat.mod_eq_of_lt (by omega)]
  rfl
theorem map_ofNat_inj {l l' : List Nat} (h : ∀ d ∈ l, d < 256) (h' : ∀ d ∈ l', d < 256) : (l.map UInt8.ofNat == l'.map UInt8.ofNat) = decide (l = l') := by
  have key : ∀ {a : List Nat}, (∀ d ∈ a, d < 256) → (a.map UInt8.ofNat).map UInt8.toNat = a := fun {a} ha => by
    rw [List.map_map]
    conv => rhs; rw [← List.map_id a]
    apply List.map_congr_left
    intro n hn
    have := ha n hn
    simp only [Function.comp, id]
    rw [UInt8.toNat_ofNat']
    omega
  by_cases e : l = l'
  · subst e; simp
  · have : ¬ (l.map UInt8.ofNat = l'.map UInt8.ofNat) := fun hh => e (by rw [← key h, ← key h', hh])
    simp [e, this]
/-- two digests are compared -/
theorem hash_eql {l l' : List Nat} (h1 : l.length = 32) (h2 : l'.length = 32) (h3 : ∀ d ∈ l, d < 256) (h4 : ∀ d ∈ l', d < 256) (w : World) :
    (Op.equalIn 10000 36 (.agg (byts l).toArray) (.agg (byts l').toArray)).run Tryd.prog w = .ok (decide (l = l')) w := by
  have hz : ∀ w, (sizeOf 5).run Tryd.prog w = .ok 1 w := fun w => by
    have hE : (Tryd.prog.info? 5).map (fun i => i.size) = some 1 := by kernel_rfl
    cases hq : Tryd.prog.info? 5 with
    | none => simp [hq] at hE
    | some i =>
      have hs : i.size = 1 := by simpa [hq] using hE
      simp [sizeOf, typeInfo, hq, hs]
  have h := run_equalIn_bytes w 9998 36 5 32 Tryd.underlying36 Tryd.underlying5 hz (l.map UInt8.ofNat) (l'.map UInt8.ofNat) (by simpa using h1) (by simpa using h2)
  rw [← byts_cell l h3, ← byts_cell l' h4, map_ofNat_inj h3 h4] at h
  exact h

theorem abc_hex : bs (hexL [186, 120, 22, 191, 143, 1, 207, 234, 65, 65, 64, 222, 93, 174, 34, 35, 176, 3, 97, 163, 150, 23, 122, 156, 180, 16, 255, 97, 242, 0, 21, 173]) = ⟨#[98, 97, 55, 56, 49, 54, 98, 102, 56, 102, 48, 49, 99, 102, 101, 97, 52, 49, 52, 49, 52, 48, 100, 101, 53, 100, 97, 101, 50, 50, 50, 51, 98, 48, 48, 51, 54, 49, 97, 51, 57, 54, 49, 55, 55, 97, 57, 99, 98, 52, 49, 48, 102, 102, 54, 49, 102, 50, 48, 48, 49, 53, 97, 100]⟩ := by decide +kernel
theorem abc_sb : sb ⟨#[97, 98, 99]⟩ = [97, 98, 99] := by decide

theorem awake3_any (w : World) (hK : KTab w) : Calls Tryd.prog 15 #[] w fun e w' => e = .returned (.bool true) ∧ Below w.heap.size w w' := by
  have c1 := shaOf_any ⟨#[97, 98, 99]⟩ (by decide) w hK
  rw [abc_sb, sha_abc] at c1
  have c2 := fun w => text_any [186, 120, 22, 191, 143, 1, 207, 234, 65, 65, 64, 222, 93, 174, 34, 35, 176, 3, 97, 163, 150, 23, 122, 156, 180, 16, 255, 97, 242, 0, 21, 173] (by decide) (by decide) w
  rw [abc_hex] at c2
  obtain ⟨D, hD⟩ : ∃ D, D = byts [186, 120, 22, 191, 143, 1, 207, 234, 65, 65, 64, 222, 93, 174, 34, 35, 176, 3, 97, 163, 150, 23, 122, 156, 180, 16, 255, 97, 242, 0, 21, 173] := ⟨_, rfl⟩
  rw [← hD] at c1 c2
  clear hD
  have C1 := Box.mk c1; have C2 := Box.mk c2
  clear c1 c2 hK
  go_enter Tryd.func15, Tryd.ntmps15
  go_wp2_with (first
    | (go_at_call 14; ((with_reducible refine (C1.out).mono ?_); rintro e w1 ⟨rfl, b1⟩))
    | (go_at_call 19; ((with_reducible refine (C2.out _).mono ?_); rintro e w2 ⟨rfl, b2⟩)))
  go_ret
  refine ⟨?_, bch b1 b2⟩
  rfl

theorem kN_get : ∀ t, t < 64 → (([1116352408, 1899447441, 3049323471, 3921009573, 961987163, 1508970993, 2453635748, 2870763221, 3624381080, 310598401, 607225278, 1426881987, 1925078388, 2162078206, 2614888103, 3248222580, 3835390401, 4022224774, 264347078, 604807628, 770255983, 1249150122, 1555081692, 1996064986, 2554220882, 2821834349, 2952996808, 3210313671, 3336571891, 3584528711, 113926993, 338241895, 666307205, 773529912, 1294757372, 1396182291, 1695183700, 1986661051, 2177026350, 2456956037, 2730485921, 2820302411, 3259730800, 3345764771, 3516065817, 3600352804, 4094571909, 275423344, 430227734, 506948616, 659060556, 883997877, 958139571, 1322822218, 1537002063, 1747873779, 1955562222, 2024104815, 2227730452, 2361852424, 2428436474, 2756734187, 3204031479, 3329325298] : List Int).getD t 0) = ((kN.getD t 0 : Nat) : Int) := by decide +kernel

theorem sb_one {s : ByteArray} {k : Nat} (h : k < s.size) : sb (s.extract k (k + 1)) = [(sb s)[k]'(by rw [sb_length]; exact h)] := by
  rw [sb_data]
  simp only [sb_data, List.getElem_map]
  rw [ByteArray.data_extract, Array.toList_extract, List.extract_eq_take_drop, show k + 1 - k = 1 by omega, List.drop_eq_getElem_cons (by simpa using h)]
  simp

set_option maxRecDepth 100000 in
set_option maxHeartbeats 600000 in
theorem shaParts_walk (s0 : ByteArray) (w : World) (hK : KTab w) :
    Calls Tryd.prog 6 #[.string s0] w fun e w' => e = .returned (.bool true) ∧ Below w.heap.size w w' := by
  have hGl := global_lt hK
  obtain ⟨s, hs⟩ : ∃ s, s = s0.extract 0 400 := ⟨_, rfl⟩
  have hsz : s.size ≤ 400 := by rw [hs]; exact cut_size s0 400
  have cc : Calls Tryd.prog 9 #[.string s0, .int .i64 400] w fun e w' => e = .returned (.string s) ∧ w = w' := by rw [hs]; exact cut_any s0 400 w
  have CC := Box.mk cc
  have HK := Box.mk hK
  clear cc hs hK
  have hA : Below w.heap.size w ((w.alloc (.cells Tryd.zeroCells32 32)).alloc (.cells Tryd.zeroCells32 32)) := ((Below.refl _ _).alloc (Nat.le_refl _) _).alloc (by simp) _
  have h1 : HasW ((w.alloc (.cells Tryd.zeroCells32 32)).alloc (.cells Tryd.zeroCells32 32)) w.heap.size [] (List.replicate 64 0) :=
    (has_new w _ rfl).below ((Below.refl _ _).alloc (Nat.le_refl _) _)
  have h2 : HasW ((w.alloc (.cells Tryd.zeroCells32 32)).alloc (.cells Tryd.zeroCells32 32)) (w.heap.size + 1) [] (List.replicate 64 0) := has_new _ _ (by simp)
  have cw := write_any w.heap.size [] (List.replicate 64 0) s _ h1 (by simp; omega) (ktab_below HK.out hA) (by omega)
  have HA := Box.mk hA; have H2 := Box.mk h2; have CW := Box.mk cw
  clear hA h1 h2 cw
  go_enter Tryd.func6, Tryd.ntmps6
  go_wp2_with (first
    | (go_at_call 9; refine CC.out.mono ?_; rintro e w' ⟨rfl, rfl⟩)
    | (go_at_call 11; refine CW.out.mono ?_; rintro e w4 ⟨rfl, ⟨R4, h4⟩, d4⟩; have Y1 := Box.mk (bch' HA.out (d4.below (B := w.heap.size) (Nat.le_refl _) HA.out.size)); have Y2 := Box.mk (H2.out.chg d4 (by omega)); have Y3 := Box.mk h4; clear h4 d4))
  clear HA H2 CW
  go_loopw [5] (fun i wr => ∃ k : Nat, k ≤ s.size ∧ i = .int .i64 k ∧ Box (∃ R1, HasW wr w.heap.size (sb s) R1) ∧ Box (∃ R2, HasW wr (w.heap.size + 1) ((sb s).take k) R2) ∧ Box (Below w.heap.size w wr))
    (fun i _ => s.size - (intOf i).toNat)
  case atStart => exact ⟨0, by omega, rfl, ⟨R4, by simpa using Y3.out⟩, ⟨_, by simpa using Y2.out⟩, Y1⟩
  case round =>
    clear Y1 Y2 Y3
    obtain ⟨k, hk, rfl, h1, h2, hb⟩ := hrel
    obtain ⟨R1, q1⟩ := h1.out
    obtain ⟨R2, q2⟩ := h2.out
    clear h1 h2
    have Q1 := Box.mk q1; have Q2 := Box.mk q2
    clear q1 q2
    by_cases hlt : k < s.size
    · obtain ⟨x, hx⟩ : ∃ x, x = s.extract k (k + 1) := ⟨_, rfl⟩
      have hxs : x.size = 1 := by rw [hx]; simp; omega
      have hsx : (sb s).take k ++ sb x = (sb s).take (k + 1) := by
        rw [hx, sb_one hlt, List.take_succ_eq_append_getElem (by rw [sb_length]; exact hlt)]
      have cw := write_any (w.heap.size + 1) ((sb s).take k) R2 x wr Q2.out (by rw [List.length_take, sb_length]; omega) (ktab_below HK.out hb.out) (by omega)
      rw [hsx] at cw
      have CW := Box.mk cw; have HSX := Box.mk hsx; have HX := Box.mk hx
      have hcut : s.extract k (k + 1) = x := hx.symm
      clear cw hsx hx
      rcases (by omega : k % 50 = 0 ∨ k % 50 ≠ 0) with hm | hm
      · have hm2 : ((k : Int) % 50 == 0) = true := by rw [beq_iff_eq]; omega
        go_wp2_with (first
          | (go_at_call 11; refine CW.out.mono ?_; rintro e w5 ⟨rfl, ⟨R5, h5⟩, d5⟩; have Y1 := Box.mk (bch' hb.out (d5.below (B := w.heap.size) (by omega) hb.out.size)); have Y2 := Box.mk (Q1.out.chg d5 (by omega)); have Y3 := Box.mk h5; clear h5 d5)
          | (go_at_call 12; refine (sum_any (w.heap.size + 1) _ _ _ Y3.out (by rw [List.length_take, sb_length]; omega) (ktab_below HK.out Y1.out)).mono ?_; rintro e w6 ⟨rfl, b6⟩; have Z1 := Box.mk (bch Y1.out b6); have Z2 := Box.mk (Y2.out.below b6); have Z3 := Box.mk (Y3.out.below b6); clear b6))
        go_roundw
        case rel => exact ⟨k + 1, by omega, by go_num, ⟨_, Z2.out⟩, ⟨_, Z3.out⟩, Z1⟩
        case measure => simp [intOf]; omega
      · have hm2 : ((k : Int) % 50 == 0) = false := by rw [beq_eq_false_iff_ne]; omega
        go_wp2_with (first
          | (go_at_call 11; refine CW.out.mono ?_; rintro e w5 ⟨rfl, ⟨R5, h5⟩, d5⟩; have Y1 := Box.mk (bch' hb.out (d5.below (B := w.heap.size) (by omega) hb.out.size)); have Y2 := Box.mk (Q1.out.chg d5 (by omega)); have Y3 := Box.mk h5; clear h5 d5))
        go_roundw
        case rel => exact ⟨k + 1, by omega, by go_num, ⟨_, Y2.out⟩, ⟨_, Y3.out⟩, Y1⟩
        case measure => simp [intOf]; omega
    · obtain rfl : s.size = k := by omega
      have q2 := Q2.out
      rw [List.take_of_length_le (by rw [sb_length]; exact Nat.le_refl _)] at q2
      have Q2' := Box.mk q2; clear q2 Q2
      have ca := awake3_any wr (ktab_below HK.out hb.out)
      have he := fun w => hash_eql (shaN_length (sb s)) (shaN_length (sb s)) (shaN_lt (sb s)) (shaN_lt (sb s)) w
      simp only [decide_true] at he
      obtain ⟨D, hD⟩ : ∃ D, D = byts (shaN (sb s)) := ⟨_, rfl⟩
      have cs1 : ∀ W : World, Below wr.heap.size wr W → Calls Tryd.prog 12 #[.pointer (some ⟨w.heap.size, 0, none⟩)] W fun e w' => e = .returned (.agg D.toArray) ∧ Below W.heap.size W w' := fun W hW => by
        rw [hD]; exact sum_any w.heap.size (sb s) R1 W (Q1.out.below hW) (by rw [sb_length]; omega) (ktab_below HK.out (bch hb.out hW))
      have cs2 : ∀ W : World, Below wr.heap.size wr W → Calls Tryd.prog 12 #[.pointer (some ⟨w.heap.size + 1, 0, none⟩)] W fun e w' => e = .returned (.agg D.toArray) ∧ Below W.heap.size W w' := fun W hW => by
        rw [hD]; exact sum_any (w.heap.size + 1) (sb s) R2 W (Q2'.out.below hW) (by rw [sb_length]; omega) (ktab_below HK.out (bch hb.out hW))
      have co : ∀ W : World, Below wr.heap.size wr W → Calls Tryd.prog 14 #[.string s] W fun e w' => e = .returned (.agg D.toArray) ∧ Below W.heap.size W w' := fun W hW => by
        rw [hD]; exact shaOf_any s (by omega) W (ktab_below HK.out (bch hb.out hW))
      rw [← hD] at he
      have CA := Box.mk ca; have CS1 := Box.mk cs1; have CS2 := Box.mk cs2; have CO := Box.mk co
      clear ca cs1 cs2 co hD
      go_wp2_with (first
        | (go_at_call 15; refine CA.out.mono ?_; rintro e w5 ⟨rfl, b5⟩; have B5 := Box.mk b5; clear b5)
        | (go_at_call 12; ((with_reducible refine (CS1.out _ B5.out).mono ?_); rintro e w6 ⟨rfl, b6⟩; have B6 := Box.mk (bch B5.out b6); clear b6))
        | (go_at_call 12; ((with_reducible refine (CS2.out _ B6.out).mono ?_); rintro e w7 ⟨rfl, b7⟩; have B7 := Box.mk (bch B6.out b7); clear b7))
        | (go_at_call 12; ((with_reducible refine (CS1.out _ B7.out).mono ?_); rintro e w8 ⟨rfl, b8⟩; have B8 := Box.mk (bch B7.out b8); clear b8))
        | (go_at_call 14; ((with_reducible refine (CO.out _ B8.out).mono ?_); rintro e w9 ⟨rfl, b9⟩; have B9 := Box.mk (bch B8.out b9); clear b9)))
      go_ret
      exact ⟨rfl, bch hb.out B9.out⟩
end Go.Proofs.YtakepblcedbimaaDoor
