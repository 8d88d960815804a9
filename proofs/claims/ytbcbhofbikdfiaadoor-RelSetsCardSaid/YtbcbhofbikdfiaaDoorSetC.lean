/- The reference's relations: Order. -/
import Derived.Test.YtbcbhofbikdfiaaDoorSetB
namespace Go.Proofs.YtbcbhofbikdfiaaDoor
set_option maxRecDepth 100000
open Go.RowKit M

def freeP (r : List Nat) (t a : Nat) : Bool := R.g (R.turnM r) a &&& t == 0
theorem free_all {r : List Nat} {x : List (Nat × Nat)} (h : Rp r x) (t a : Nat) : freeP r t a = (R.els t).all fun b => !hasQ x (b : Int) (a : Int) := by
  have hT := R.turn_wf h.wf
  unfold freeP
  rw [Bool.eq_iff_iff, beq_iff_eq, R.disj_iff hT, List.all_eq_true]
  constructor
  · intro k b hb
    rw [Bool.not_eq_true', ← Bool.not_eq_true]
    intro hq
    have h1 := (h.eq b a).2 (hasQ_iff.1 hq)
    have h2 := k b (by rw [R.has_turn h.wf]; exact h1)
    rw [(R.mem_els.1 hb).2] at h2
    cases h2
  · intro k b hb
    rw [R.has_turn h.wf] at hb
    have h16 := (R.has_lt h.wf hb).1
    cases hq : t.testBit b with
    | false => rfl
    | true =>
      have h1 := k b (R.mem_els.2 ⟨h16, hq⟩)
      rw [hasQ_iff.2 ((h.eq b a).1 hb)] at h1
      cases h1
theorem low_free (r : List Nat) (t : Nat) : R.low (R.turnM r) t = (R.els t).find? (freeP r t) := rfl
def encO (o : Option Nat) : Value := match o with | some a => .int .i64 (a : Int) | none => .int .i64 (-1)
theorem find_take {p : Nat → Bool} {l : List Nat} {i a : Nat} (h : l[i]? = some a) : (l.take (i + 1)).find? p = ((l.take i).find? p).or (if p a then some a else none) := by
  rw [List.take_add_one, h, List.find?_append]
  congr 1
  cases hp : p a <;> simp [hp]
theorem all_take {p : Nat → Bool} {l : List Nat} {i a : Nat} (h : l[i]? = some a) : (l.take (i + 1)).all p = ((l.take i).all p && p a) := by
  rw [List.take_add_one, h, List.all_append]; simp
theorem filter_take {p : Nat → Bool} {l : List Nat} {i a : Nat} (h : l[i]? = some a) : (l.take (i + 1)).filter p = (l.take i).filter p ++ (if p a then [a] else []) := by
  rw [List.take_add_one, h, List.filter_append]
  congr 1
  cases hp : p a <;> simp [hp]

set_option maxRecDepth 100000 in
set_option maxHeartbeats 8000000 in
theorem orderR_any (r : List Nat) (x : List (Nat × Nat)) (hrp : Rp r x) (v : Value) (s : Nat) (hs : s < 65536) (w : World) (h : PIn w v x) :
    Calls Tryd.prog 31 #[v, .int .u16 (s : Int)] w (OrdV w (R.ordM r s)) := by
  obtain ⟨i0, hi, hz0, hz1, hz2⟩ := info_parts info_one
  have IH := Box.mk hi; have IZ := Box.mk hz0; have IZ1 := Box.mk hz1; have IZ2 := Box.mk hz2
  clear hi hz0 hz1 hz2
  have HB := Box.mk h
  have HRP := Box.mk hrp
  have LX : Box (x.length ≤ 100000) := ⟨by have := hrp.pq.len; omega⟩
  obtain ⟨O, hO⟩ : ∃ O, O = R.ordM r s := ⟨_, rfl⟩
  have HO : Box (O = R.ordGo (R.turnM r) 16 s) := ⟨hO⟩
  have KM := Box.mk (members_any s hs w)
  rw [← hO]
  clear hO h hrp
  go_enter Tryd.func31, Tryd.ntmps31
  go_wp2_with (first
    | (go_at_call 32; ((with_reducible refine KM.out.mono ?_); rintro e w1 ⟨v1, rfl, hm1, b1⟩; have M1 := Box.mk (hm1.below (aset w1 (.cells #[] 3))); have s1 := b1.size; have B1 := Box.mk (bel b1 (aset w1 (.cells #[] 3))); have R1 := Box.mk (newRow w1 w.heap.size 3 1 s1); have O1 : Box (∀ k, 0 < (R.els s).length → v1.ownBlock = some k → k ≠ w1.heap.size) := ⟨fun k h0 hk => Nat.ne_of_lt (SlIn.lt hm1 h0 k hk)⟩; clear hm1 b1))
    | fail)
  generalize (w1.alloc (.cells #[] 3)) = W1 at *
  go_loopw [6, 7, 8] (fun lv o nv wr => ∃ (t n g cap : Nat) (d : List Nat), t < 65536 ∧ n ≤ 16 ∧ nv = .int .i64 (n : Int) ∧ o = .slice (some ⟨g, 0, none⟩) n cap ∧ d.length = n ∧ (R.els t).length ≤ 16 - n ∧ Box (O = (R.ordGo (R.turnM r) (16 - n) t).map (d ++ ·)) ∧ Box (IIn wr lv (R.els t)) ∧ Box (wr.ownsRow w.heap.size 3 1 (.slice (some ⟨g, 0, none⟩) n cap) n (ints d)) ∧ Box (∀ k, 0 < (R.els t).length → lv.ownBlock = some k → k ≠ g) ∧ Box (Below w.heap.size w wr))
    (fun _ _ nv _ => 16 - (intOf nv).toNat)
  case atStart => exact ⟨s, 0, w1.heap.size, 0, [], hs, by omega, rfl, rfl, rfl, R.els_len s, ⟨by rw [HO.out]; simp⟩, M1, R1, O1, B1⟩
  case round =>
    clear M1 R1 O1 B1 HO
    obtain ⟨t, n, g, cap, d, ht, hn, rfl, rfl, hd, hel, HO, LV, ROW, OW, BB⟩ := hrel
    obtain ⟨E, hE⟩ : ∃ E, E = R.els t := ⟨_, rfl⟩
    obtain ⟨en, hen⟩ : ∃ en, en = E.length := ⟨_, rfl⟩
    have hlv : ∃ p c, u6 = .slice p en c := by
      obtain ⟨p, c, e⟩ := SlIn.slice LV.out
      exact ⟨p, c, by rw [e, hen, hE]⟩
    obtain ⟨pl, cl, rfl⟩ := hlv
    rw [← hE] at LV OW hel
    rw [← hen] at OW hel
    have HE := Box.mk hE; have HEN := Box.mk hen
    clear hE hen
    by_cases hc : n < 16 ∧ 0 < en
    · obtain ⟨hn16, hen0⟩ := hc
      have ht0 : t ≠ 0 := fun e => by
        have := HEN.out; rw [HE.out, e, R.els_zero] at this; simp at this; omega
      have j1 : (n : Int) < 16 := by omega
      have j2 : (0 : Int) < (en : Int) := by omega
      have hen16 : en ≤ 16 := by omega
      go_wp2_with fail
      -- the least that none goes with
      go_loopw [9, 32] (fun nx iv wq => ∃ i : Nat, i ≤ en ∧ iv = .int .i64 (i : Int) ∧ nx = encO ((E.take i).find? (freeP r t)) ∧ Box (IIn wq (.slice pl en cl) E) ∧ Box (wq.ownsRow w.heap.size 3 1 (.slice (some ⟨g, 0, none⟩) n cap) n (ints d)) ∧ Box (Below w.heap.size w wq)) (fun _ iv _ => en - (intOf iv).toNat)
      case atStart => exact ⟨0, by omega, rfl, rfl, LV, ROW, BB⟩
      case round =>
        clear LV ROW BB
        obtain ⟨i, hi, rfl, hnx, LV, ROW, BB⟩ := hrel
        by_cases hie : i < en
        · obtain ⟨a, ha⟩ : ∃ a, E[i]? = some a := ⟨_, List.getElem?_eq_getElem (by rw [← HEN.out]; exact hie)⟩
          obtain ⟨bk, off, cc, hv, hbl, k0⟩ := LV.out.at ha
          rw [← HEN.out] at hv
          obtain ⟨rfl, _, rfl⟩ := Value.slice.inj hv
          have HA := Box.mk ha
          have i9 : (i : Int) < (en : Int) := by omega
          clear ha hv
          go_wp2_with fail
          go_loopw [12, 38] (fun fv jv wq => ∃ j : Nat, j ≤ en ∧ jv = .int .i64 (j : Int) ∧ fv = .bool ((E.take j).all fun b => !hasQ x (b : Int) (a : Int)) ∧ Box (IIn wq (.slice (some ⟨bk, off, none⟩) en cl) E) ∧ Box (wq.ownsRow w.heap.size 3 1 (.slice (some ⟨g, 0, none⟩) n cap) n (ints d)) ∧ Box (Below w.heap.size w wq)) (fun _ jv _ => en - (intOf jv).toNat)
          case atStart => exact ⟨0, by omega, rfl, rfl, LV, ROW, BB⟩
          case round =>
            clear LV ROW BB k0 hbl
            obtain ⟨j, hj, rfl, rfl, LV, ROW, BB⟩ := hrel
            by_cases hje : j < en
            · obtain ⟨b, hb⟩ : ∃ b, E[j]? = some b := ⟨_, List.getElem?_eq_getElem (by rw [← HEN.out]; exact hje)⟩
              obtain ⟨bk2, off2, cc2, hv2, hbl2, k02⟩ := LV.out.at hb
              rw [← HEN.out] at hv2
              obtain ⟨e1, _, e3⟩ := Value.slice.inj hv2
              injection e1 with e1
              injection e1 with e1 e2
              subst e1 e2 e3
              have hal := all_take (p := fun b => !hasQ x (b : Int) (a : Int)) hb
              have HAL := Box.mk hal
              have HH := Box.mk (hasR_any x LX.out v (b : Int) (a : Int) wr (HB.out.below BB.out))
              have l0 := BB.out.size
              clear hal hb hv2
              generalize (E.take j).all (fun b => !hasQ x (b : Int) (a : Int)) = fr at *
              generalize hasQ x (b : Int) (a : Int) = hq at *
              cases fr
              · go_wp2_with fail
                go_roundw
                case rel => exact ⟨j + 1, by omega, by go_num, by rw [HAL.out]; rfl, LV, ROW, BB⟩
                case measure => simp [intOf]; omega
              · go_wp2_with (first
                  | (go_at_call 13; ((with_reducible refine HH.out.mono ?_); rintro e w2 ⟨rfl, b2⟩; have L2 := Box.mk (LV.out.below b2); have R2 := Box.mk (rowBel ROW.out b2); have B2 := Box.mk (bel' BB.out l0 b2); clear b2))
                  | fail)
                go_roundw
                case rel => exact ⟨j + 1, by omega, by go_num, by rw [HAL.out]; simp, L2, R2, B2⟩
                case measure => simp [intOf]; omega
            · obtain rfl : j = en := by omega
              have hfr : ((E.take j).all fun b => !hasQ x (b : Int) (a : Int)) = freeP r t a := by rw [HEN.out, List.take_length, HE.out]; exact (free_all HRP.out t a).symm
              rw [hfr]
              have hft := find_take (p := freeP r t) HA.out
              have HFT := Box.mk hft
              have i5 : ((j : Int) < (j : Int)) = False := by simp
              clear hfr hft hje
              generalize hfo : (E.take i).find? (freeP r t) = fo at *
              generalize freeP r t a = fp at *
              clear hfo
              subst hnx
              cases fp
              · cases fo
                · simp only [encO]
                  go_wp2_with fail
                  go_roundw
                  case rel => exact ⟨i + 1, by omega, by go_num, by rw [HFT.out]; rfl, LV, ROW, BB⟩
                  case measure => simp [intOf]; omega
                · simp only [encO]
                  go_wp2_with fail
                  go_roundw
                  case rel => exact ⟨i + 1, by omega, by go_num, by rw [HFT.out]; rfl, LV, ROW, BB⟩
                  case measure => simp [intOf]; omega
              · cases fo with
                | none =>
                  simp only [encO]
                  go_wp2_with fail
                  go_roundw
                  case rel => exact ⟨i + 1, by omega, by go_num, by rw [HFT.out]; rfl, LV, ROW, BB⟩
                  case measure => simp [intOf]; omega
                | some c =>
                  simp only [encO]
                  have i6 : ¬ (c : Int) < 0 := by omega
                  go_wp2_with fail
                  go_roundw
                  case rel => exact ⟨i + 1, by omega, by go_num, by rw [HFT.out]; rfl, LV, ROW, BB⟩
                  case measure => simp [intOf]; omega
        · obtain rfl : i = en := by omega
          have hlo : (E.take i).find? (freeP r t) = R.low (R.turnM r) t := by rw [HEN.out, List.take_length, HE.out]; rfl
          rw [hlo] at hnx
          have i5 : ((i : Int) < (i : Int)) = False := by simp
          subst hnx
          clear hlo hie
          obtain ⟨m, hm⟩ : ∃ m, 16 - n = m + 1 := ⟨15 - n, by omega⟩
          cases hl : R.low (R.turnM r) t with
          | none =>
            have HN : Box (O = none) := ⟨by rw [HO.out, hm, ord_stop ht0 hl]; rfl⟩
            clear hl
            simp only [encO]
            go_wp2_with fail
            refine bodyPost_ret (results_tmp2 rfl _ _ _) rfl ?_
            refine ⟨BB.out, ?_⟩
            rw [HN.out]
            rfl
          | some a =>
            have HN : Box (O = (R.ordGo (R.turnM r) (16 - (n + 1)) (R.andN t (2 ^ a))).map ((d ++ [a]) ++ ·)) := ⟨by rw [HO.out, hm, ord_step ht0 hl, map_app, show 16 - (n + 1) = m by omega]⟩
            have hmem := (R.low_some hl).1
            have hlen := R.els_minus_len hmem
            have HT2 : Box (R.andN t (2 ^ a) < 65536) := ⟨R.andN_lt ht⟩
            have HEL : Box ((R.els (R.andN t (2 ^ a))).length ≤ 16 - (n + 1)) := ⟨by rw [← HE.out, ← HEN.out] at hlen; omega⟩
            have HFI : Box (R.els (R.andN t (2 ^ a)) = E.filter fun b => b != a) := ⟨by rw [HE.out]; exact R.els_minus⟩
            clear hl hmem hlen hm
            simp only [encO]
            have i6 : ¬ (a : Int) < 0 := by omega
            have l0 := BB.out.size
            go_upto_region 22 with (first
              | (at_builtin; refine wpList_append_own _ rfl _ _ 45 rfl w.heap.size 3 i0 (.int .i64 0) 1 8 Tryd.underlying45 IH.out IZ.out IZ1.out IZ2.out rfl (by decide) _ _ _ rfl (ROW.out.alloc _) ⟨wr.heap.size, 0, none⟩ 1 1 [.int .i64 (a : Int)] rfl rfl (cell_one_new _ _ _) (by simp [Value.oneCell']) (by unfold maxLen; omega) (by omega) (by simp; omega) ?_; intro v' w4 hown' hg hn4; have ROW4 := Box.mk hown'; have HG : Box ((wr.alloc (.cells #[.int .i64 (a : Int)] 3)).grownBy w4 (some g)) := ⟨hg⟩; clear hown' hg hn4)
              | fail)
            obtain ⟨g2, cap2, rfl⟩ := own_some ROW4.out
            have LV4 : Box (IIn w4 (.slice pl i cl) E) := ⟨SlIn.keep (by decide) (IIn.below LV.out (aset wr _)) fun k hp hk hlt => HG.out.block k hlt (fun e => OW.out k (by rw [HEN.out]; exact hp) hk (by simpa using e))⟩
            have B4 : Box (Below w.heap.size w w4) := ⟨Below.grown (bel' BB.out l0 (aset wr _)) HG.out (by simp; omega) (fun k hk => (rowLt ROW.out k (by simpa [Value.ownBlock] using hk)).1)⟩
            have R0 := Box.mk (newRow w4 w4.heap.size 3 1 (Nat.le_refl _))
            have B0 := Box.mk (aset w4 (.cells #[] 3))
            clear HG LV BB ROW l0
            go_wp2_with fail
            generalize (w4.alloc (.cells #[] 3)) = W4 at *
            go_loopw [15, 68] (fun rv kv wq => ∃ (k q m c2 : Nat) (F : List Nat), k ≤ i ∧ m ≤ k ∧ kv = .int .i64 (k : Int) ∧ rv = .slice (some ⟨q, 0, none⟩) m c2 ∧ F.length = m ∧ Box (F = (E.take k).filter fun b => b != a) ∧ Box (wq.ownsRow w4.heap.size 3 1 (.slice (some ⟨q, 0, none⟩) m c2) m (ints F)) ∧ Box (Below w4.heap.size w4 wq)) (fun _ kv _ => i - (intOf kv).toNat)
            case atStart => exact ⟨0, w4.heap.size, 0, 0, [], by omega, by omega, rfl, rfl, rfl, ⟨rfl⟩, R0, B0⟩
            case round =>
              clear R0 B0
              obtain ⟨k, q, m, c2, F, hk, hmk, rfl, rfl, hF, HF, RR, BR⟩ := hrel
              by_cases hki : k < i
              · obtain ⟨b, hb⟩ : ∃ b, E[k]? = some b := ⟨_, List.getElem?_eq_getElem (by rw [← HEN.out]; exact hki)⟩
                obtain ⟨bk, off, cc, hv, hbl, k0⟩ := (LV4.out.below BR.out).at hb
                rw [← HEN.out] at hv
                obtain ⟨rfl, _, rfl⟩ := Value.slice.inj hv
                have hft := filter_take (p := fun b => b != a) hb
                have HFT := Box.mk hft
                have i9 : (k : Int) < (i : Int) := by omega
                have l0 := BR.out.size
                clear hb hv hft
                by_cases hba : b = a
                · subst hba
                  have hz : ((b : Int) != (b : Int)) = false := by simp
                  go_wp2_with fail
                  go_roundw
                  case rel => exact ⟨k + 1, q, m, c2, F, by omega, by omega, by go_num, rfl, hF, ⟨by rw [HFT.out, ← HF.out]; simp⟩, RR, BR⟩
                  case measure => simp [intOf]; omega
                · have hz : ((b : Int) = (a : Int)) = False := by simp; omega
                  have hz2 : (b == a) = false := by simpa using hba
                  go_wp2_with (first
                    | (at_builtin; refine wpList_append_rows w4.heap.size (by simp; omega) rfl (.tmp 75) (.tmp 77) 45 3 1 8 (.int .i64 0) (by rfl) Tryd.underlying45 info_one rfl (by decide) (by decide) q m c2 (ints F) (by rfl) (RR.out.alloc _) _ 1 [.int .i64 (b : Int)] (by rfl) (news_one (heap_alloc_new wr _)) (by intro u hu; simp at hu; subst hu; rfl) (by omega) ?_; intro q' c3 w5 r5 b5 _; have R5 := Box.mk r5; have B5 := Box.mk b5; clear r5 b5)
                    | fail)
                  go_roundw
                  case rel => exact ⟨k + 1, q', m + 1, c3, F ++ [b], by omega, by omega, by go_num, rfl, by simp [hF], ⟨by rw [HFT.out, ← HF.out]; simp [bne, hz2]⟩, ⟨by rw [← ints_app]; exact R5.out⟩, ⟨(bel' BR.out l0 (aset wr _)).trans B5.out⟩⟩
                  case measure => simp [intOf]; omega
              · obtain rfl : k = i := by omega
                have i7 : ((k : Int) < (k : Int)) = False := by simp
                have HF2 : Box (F = R.els (R.andN t (2 ^ a))) := ⟨by rw [HFI.out, HF.out, HEN.out, List.take_length]⟩
                go_wp2_with fail
                go_roundw
                case rel =>
                  have hm2 : m = (R.els (R.andN t (2 ^ a))).length := by rw [← HF2.out]; exact hF.symm
                  have hqg : q ≠ g2 := by
                    have e1 := (rowLt RR.out q rfl).1
                    have e2 := (rowLt ROW4.out g2 rfl).2
                    omega
                  refine ⟨_, n + 1, g2, cap2, d ++ [a], HT2.out, by omega, by go_num, rfl, by simp [hd], HEL.out, HN, ⟨?_⟩, ⟨?_⟩, ⟨?_⟩, ⟨B4.out.trans (BR.out.mono B4.out.size)⟩⟩
                  · unfold IIn
                    rw [← hm2, ← HF2.out]
                    exact rowSlIn RR.out
                  · rw [← ints_app]
                    exact rowBel ROW4.out BR.out
                  · intro k' _ hk' e
                    have : q = k' := by simpa [Value.ownBlock] using hk'
                    omega
                case measure => simp [intOf]; omega
    · have hen0 : en = 0 := by
        rcases Nat.lt_or_ge n 16 with h | h
        · rcases Nat.lt_or_ge 0 en with k | k
          · exact absurd ⟨h, k⟩ hc
          · omega
        · omega
      have ht0 : t = 0 := R.els_nil ht (by rw [← HE.out]; exact List.eq_nil_of_length_eq_zero (by rw [← HEN.out]; exact hen0))
      have HN : Box (O = some d) := ⟨by rw [HO.out, ht0, ord_zero]; simp⟩
      have j2 : ((0 : Int) < (en : Int)) = False := by simp [hen0]
      clear hc hel
      by_cases hn16 : n < 16
      · have j1 : (n : Int) < 16 := by omega
        go_wp2_with fail
        refine bodyPost_ret (results_tmp2 rfl _ _ _) rfl ?_
        refine ⟨BB.out, ?_⟩
        rw [HN.out]
        exact ⟨_, rfl, by rw [hd]; exact ROW.out⟩
      · have j1 : ((n : Int) < 16) = False := by simp; omega
        go_wp2_with fail
        refine bodyPost_ret (results_tmp2 rfl _ _ _) rfl ?_
        refine ⟨BB.out, ?_⟩
        rw [HN.out]
        exact ⟨_, rfl, by rw [hd]; exact ROW.out⟩
end Go.Proofs.YtbcbhofbikdfiaaDoor
