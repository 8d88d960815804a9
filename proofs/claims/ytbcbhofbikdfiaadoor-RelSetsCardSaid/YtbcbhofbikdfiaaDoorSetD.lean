/- The law RelSets, walked. -/
import Derived.Test.YtbcbhofbikdfiaaDoorSetM
import Derived.Test.YtbcbhofbikdfiaaDoorRelN
namespace Go.Proofs.YtbcbhofbikdfiaaDoor
set_option maxRecDepth 100000
open Go.RowKit M

set_option maxRecDepth 100000 in
set_option linter.unusedSimpArgs false in
set_option maxHeartbeats 16000000 in
theorem relSets_walk (l : List (Int × Int)) (v : Value) (s t : Nat) (hs : s < 65536) (ht : t < 65536) (z : List Int) (u : Value) (w : World) (hT : Tab64 w) (h : QIn w v l) (k : ZIn w u z) (hl : l.length ≤ 9223372036854775807) (hz : z.length ≤ 9223372036854775807) :
    Calls Tryd.prog 4 #[v, .int .u16 (s : Int), .int .u16 (t : Int), u] w fun e w' => e = .returned (.bool true) ∧ Below w.heap.size w w' := by
  obtain ⟨pz, cz, rfl⟩ := SlIn.slice k
  obtain ⟨zn, hzn⟩ : ∃ zn, zn = z.length := ⟨_, rfl⟩
  rw [← hzn] at k hz ⊢
  have ZI := Box.mk k
  have ZN := Box.mk hzn
  have G1 := Box.mk (grow_any l v w h hl)
  have rp := grow_rp (l.take 24)
  obtain ⟨r, hr⟩ : ∃ r, r = growR (l.take 24) := ⟨_, rfl⟩
  obtain ⟨x, hx⟩ : ∃ x, x = growX (l.take 24) := ⟨_, rfl⟩
  rw [← hr, ← hx] at G1 rp
  have HT := Box.mk hT
  have HR := Box.mk rp.wf
  have IR := Box.mk (infoL rp.wf)
  obtain ⟨D, hD⟩ : ∃ D, D = (R.ordM r s).getD [] := ⟨_, rfl⟩
  obtain ⟨dn, hdn⟩ : ∃ dn, dn = D.length := ⟨_, rfl⟩
  obtain ⟨ok, hok⟩ : ∃ ok, ok = (R.ordM r s).isSome := ⟨_, rfl⟩
  have KO : Box (∀ W, Tab64 W → Calls Tryd.prog 30 #[.agg (w16 r).toArray, .int .u16 (s : Int)] W fun e w' => ∃ p c, e = .returned (.tuple #[.slice p dn c, .bool ok]) ∧ IIn w' (.slice p dn c) D ∧ Below W.heap.size W w') := ⟨fun W hW => by
    rw [hdn, hD, hok]
    exact (order_any r rp.wf s hs W hW).mono fun _ _ h => h.in⟩
  have KQ : Box (∀ W v, PIn W v x → Calls Tryd.prog 31 #[v, .int .u16 (s : Int)] W fun e w' => ∃ p c, e = .returned (.tuple #[.slice p dn c, .bool ok]) ∧ IIn w' (.slice p dn c) D ∧ Below W.heap.size W w') := ⟨fun W v hv => by
    rw [hdn, hD, hok]
    exact (orderR_any r x rp v s hs W hv).mono fun _ _ h => h.in⟩
  have DN := Box.mk hdn
  have DL : Box (dn ≤ 100000) := ⟨by
    rw [hdn, hD]
    cases ho : R.ordM r s with
    | none => simp
    | some d =>
      have h2 := ordOk rp.wf hs ho
      have := nodup_le 16 d h2.nd (fun a ha => (R.mem_els.1 ((h2.mem a).1 ha)).1)
      show d.length ≤ 100000
      omega⟩
  have KA := Box.mk (fun W h => awake16_any W h)
  obtain ⟨E, hE⟩ : ∃ E, E = R.els s := ⟨_, rfl⟩
  obtain ⟨en, hen⟩ : ∃ en, en = E.length := ⟨_, rfl⟩
  obtain ⟨T, hT2⟩ : ∃ T, T = R.els t := ⟨_, rfl⟩
  obtain ⟨tn, htn⟩ : ∃ tn, tn = T.length := ⟨_, rfl⟩
  have KM : Box (∀ W, Calls Tryd.prog 32 #[.int .u16 (s : Int)] W fun e w' => ∃ p c, e = .returned (.slice p en c) ∧ IIn w' (.slice p en c) E ∧ Below W.heap.size W w' ∧ ∀ k, (Value.slice p en c).ownBlock = some k → W.heap.size ≤ k) := ⟨fun W => by
    rw [hen, hE]
    refine (members_own s hs W).mono ?_
    rintro e w' ⟨v, rfl, h1, h2, h3⟩
    obtain ⟨p, c, rfl⟩ := SlIn.slice h1
    exact ⟨p, c, rfl, h1, h2, h3⟩⟩
  have KN : Box (∀ W, Calls Tryd.prog 32 #[.int .u16 (t : Int)] W fun e w' => ∃ p c, e = .returned (.slice p tn c) ∧ IIn w' (.slice p tn c) T ∧ Below W.heap.size W w' ∧ ∀ k, (Value.slice p tn c).ownBlock = some k → W.heap.size ≤ k) := ⟨fun W => by
    rw [htn, hT2]
    refine (members_own t ht W).mono ?_
    rintro e w' ⟨v, rfl, h1, h2, h3⟩
    obtain ⟨p, c, rfl⟩ := SlIn.slice h1
    exact ⟨p, c, rfl, h1, h2, h3⟩⟩
  obtain ⟨CR, hCR⟩ : ∃ CR, CR = R.crossM s t := ⟨_, rfl⟩
  have PC : Box (Rp CR (prodQ E T)) := ⟨by rw [hCR, hE, hT2]; exact cross_rp s t ht⟩
  have KC : Box (∀ W, Tab64 W → Calls Tryd.prog 33 #[.int .u16 (s : Int), .int .u16 (t : Int)] W fun e w' => e = .returned (.agg (w16 CR).toArray) ∧ Below W.heap.size W w') := ⟨fun W h => by rw [hCR]; exact cross_any s t hs ht W h⟩
  have EN := Box.mk hen
  have TN := Box.mk htn
  have EL : Box (en ≤ 16) := ⟨by rw [hen, hE]; exact R.els_len s⟩
  have TL : Box (tn ≤ 16) := ⟨by rw [htn, hT2]; exact R.els_len t⟩
  have SM : Box (∀ (R' : List Nat) (X' : List (Nat × Nat)), Rp R' X' → ∀ W (v u : Value), PIn W v (tellQ R') → PIn W u X' → Calls Tryd.prog 9 #[v, u] W fun e w' => e = .returned (.bool true) ∧ Below W.heap.size W w') := ⟨fun R' X' hp W v u h1 h2 => by
    have hq := sameR_any (tellQ R') X' (by have : (tellQ R').length ≤ 256 := tellTo_len R' 16
                                           omega) (by have := hp.pq.len; omega) v u W h1 h2
    rw [hp.same] at hq
    exact hq⟩
  have en16 := EL.out
  have tn16 := TL.out
  have dn16 := DL.out
  clear rp hT h k hl hr hx hD hdn hok hE hen hT2 htn hCR hzn hs ht
  have hkk : (ok != ok) = false := by simp
  go_enter Tryd.func4, Tryd.ntmps4
  go_upto_region 6 with (first
    | (go_at_call 7; ((with_reducible refine G1.out.mono ?_); rintro e w1 ⟨v1, rfl, hp1, b1⟩; have Q1 := Box.mk hp1; have BA := Box.mk b1; have RN := Box.mk (RB.new w1 R.zeroM); rw [sum_zero] at RN; clear hp1 b1))
    | ((with_reducible refine at_store 25 (.tmp 9) (.tmp 30) ?_); refine wpList_store_mid rfl 25 (.tmp 9) (.tmp 30) (by rfl) w1.heap.size 0 (w16 r).toArray (by rfl) (by rfl) (thereL RN.out HR.out) (infoA HR.out) (all_oneCell_toArray (w16_one _)) ?_
       have RV := Box.mk (RN.out.all R.zero_wf HR.out)
       have QV : Box (PIn ((w1.alloc (.cells #[.int .u16 0, .int .u16 0, .int .u16 0, .int .u16 0, .int .u16 0, .int .u16 0, .int .u16 0, .int .u16 0, .int .u16 0, .int .u16 0, .int .u16 0, .int .u16 0, .int .u16 0, .int .u16 0, .int .u16 0, .int .u16 0] 25)).setCells w1.heap.size 0 (w16 r)) v1 x) := ⟨Q1.out.below (bsets (Nat.le_refl _) _ _ _ (aset w1 _))⟩
       have BV := Box.mk (bel BA.out (bsets (Nat.le_refl _) (w16 r) _ 0 (aset w1 (.cells #[.int .u16 0, .int .u16 0, .int .u16 0, .int .u16 0, .int .u16 0, .int .u16 0, .int .u16 0, .int .u16 0, .int .u16 0, .int .u16 0, .int .u16 0, .int .u16 0, .int .u16 0, .int .u16 0, .int .u16 0, .int .u16 0] 25))))
       change wpList _ _ _ _ _ ((w1.alloc (.cells #[.int .u16 0, .int .u16 0, .int .u16 0, .int .u16 0, .int .u16 0, .int .u16 0, .int .u16 0, .int .u16 0, .int .u16 0, .int .u16 0, .int .u16 0, .int .u16 0, .int .u16 0, .int .u16 0, .int .u16 0, .int .u16 0] 25)).setCells w1.heap.size 0 (w16 r))
       generalize ((w1.alloc (.cells #[.int .u16 0, .int .u16 0, .int .u16 0, .int .u16 0, .int .u16 0, .int .u16 0, .int .u16 0, .int .u16 0, .int .u16 0, .int .u16 0, .int .u16 0, .int .u16 0, .int .u16 0, .int .u16 0, .int .u16 0, .int .u16 0] 25)).setCells w1.heap.size 0 (w16 r)) = V1 at *
       obtain ⟨b9, hb9⟩ : ∃ b9, b9 = w1.heap.size := ⟨_, rfl⟩
       rw [← hb9] at RV ⊢
       clear hb9 RN Q1 BA)
    | ((with_reducible refine at_load 25 (.tmp 9) ?_); refine wpList_load_mid rfl 25 (.tmp 9) (by rfl) b9 0 (by rfl) (w16 r) _ RV.out.range undR rfl IR.out ?_)
    | (go_at_call 30; ((with_reducible refine (KO.out _ (tab_bel HT.out BV.out)).mono ?_); rintro e w2 ⟨p1, c1, rfl, d1, b2⟩; have D1 := Box.mk d1; have Q2 := Box.mk (QV.out.below b2); have B2 := Box.mk (bel BV.out b2); clear d1 b2))
    | (go_at_call 31; ((with_reducible refine (KQ.out _ _ Q2.out).mono ?_); rintro e w3 ⟨p2, c2, rfl, d2, b3⟩; replace D1 := Box.mk (D1.out.below b3); have D2 := Box.mk d2; have B3 := Box.mk (bel B2.out b3); clear d2 b3))
    | (go_at_call 8; ((with_reducible refine (KA.out _ (tab_bel HT.out B3.out)).mono ?_); rintro e w4 ⟨rfl, b4⟩; replace D1 := Box.mk (D1.out.below b4); replace D2 := Box.mk (D2.out.below b4); replace B3 := Box.mk (bel B3.out b4); clear b4)))
  clear RV QV BV Q2 B2 G1 KO KQ KA HR IR DL
  go_wp2_with fail
  go_loopw [60] (fun iv wq => ∃ i : Nat, i ≤ dn ∧ iv = .int .i64 (i : Int) ∧ Box (IIn wq (.slice p1 dn c1) D) ∧ Box (IIn wq (.slice p2 dn c2) D) ∧ Box (Below w.heap.size w wq)) (fun iv _ => dn - (intOf iv).toNat)
  case atStart => exact ⟨0, by omega, rfl, D1, D2, B3⟩
  case round =>
    clear D1 D2 B3
    obtain ⟨i, hi, rfl, D1, D2, BB⟩ := hrel
    by_cases hlt : i < dn
    · obtain ⟨a, ha⟩ : ∃ a, D[i]? = some a := ⟨_, List.getElem?_eq_getElem (by rw [← DN.out]; exact hlt)⟩
      obtain ⟨bk, off, cc, hv, hbl, k0⟩ := D1.out.at ha
      obtain ⟨bk2, off2, cc2, hv2, hbl2, k1⟩ := D2.out.at ha
      rw [← DN.out] at hv hv2
      obtain ⟨rfl, _, rfl⟩ := Value.slice.inj hv
      obtain ⟨rfl, _, rfl⟩ := Value.slice.inj hv2
      have i9 : (i : Int) < (dn : Int) := by omega
      have i0 : (0 : Int) ≤ (i : Int) := by omega
      clear ha hv hv2
      go_wp2_with fail
      go_quiet (fail)
      go_wp2_with fail
      go_roundw
      case rel => exact ⟨i + 1, by omega, by go_num, ⟨D1.out⟩, ⟨D2.out⟩, ⟨below_drewN' BB.out _⟩⟩
      case measure => simp [intOf]; omega
    · obtain rfl : i = dn := by omega
      have i5 : ((i : Int) < (i : Int)) = False := by simp
      clear hlt D1 D2
      have l0 := BB.out.size
      have R0 := Box.mk (newRow wr w.heap.size 36 2 l0)
      have B0 := Box.mk (bel' BB.out l0 (aset wr (.cells #[] 36)))
      have hsz : wr.heap.size < (wr.alloc (.cells #[] 36)).heap.size := by simp
      clear BB
      go_wp2_with (first
        | (go_at_call 32; ((with_reducible refine (KM.out _).mono ?_); rintro e w2 ⟨pe, ce, rfl, m2, b2, o2⟩; have ME := Box.mk m2; have OE : Box (∀ k, 0 < en → (Value.slice pe en ce).ownBlock = some k → k ≠ wr.heap.size) := ⟨fun k _ hk => by have := o2 k hk; omega⟩; have R2 := Box.mk (rowBel R0.out b2); have B2 := Box.mk (bel' B0.out (by omega) b2); clear m2 b2 o2))
        | fail)
      clear R0 B0 KM
      generalize hg0 : wr.heap.size = g0 at *
      clear hg0 hsz l0
      go_loopw [16, 77] (fun cv iv wq => ∃ (j g n cap : Nat) (F : List (Nat × Nat)), j ≤ en ∧ iv = .int .i64 (j : Int) ∧ cv = .slice (some ⟨g, 0, none⟩) n cap ∧ F.length = n ∧ n ≤ 16 * j ∧ Box (F = prodQ (E.take j) T) ∧ Box (wq.ownsRow w.heap.size 36 2 (.slice (some ⟨g, 0, none⟩) n cap) n (prs F)) ∧ Box (IIn wq (.slice pe en ce) E) ∧ Box (∀ k, 0 < en → (Value.slice pe en ce).ownBlock = some k → k ≠ g) ∧ Box (Below w.heap.size w wq)) (fun _ iv _ => en - (intOf iv).toNat)
      case atStart => exact ⟨0, g0, 0, 0, [], by omega, rfl, rfl, rfl, by omega, ⟨rfl⟩, R2, ME, OE, B2⟩
      case round =>
        clear R2 ME OE B2
        obtain ⟨j, g, n, cap, F, hj, rfl, rfl, hF, hn, HF, ROW, ME, OE, BB⟩ := hrel
        by_cases hje : j < en
        · obtain ⟨a, ha⟩ : ∃ a, E[j]? = some a := ⟨_, List.getElem?_eq_getElem (by rw [← EN.out]; exact hje)⟩
          obtain ⟨bk, off, cc, hv, hbl, k0⟩ := ME.out.at ha
          rw [← EN.out] at hv
          obtain ⟨rfl, _, rfl⟩ := Value.slice.inj hv
          have HPT := Box.mk (prodQ_take (T := T) ha)
          have i9 : (j : Int) < (en : Int) := by omega
          have l0 := BB.out.size
          have lg := (rowLt ROW.out g rfl).2
          have en0 : 0 < en := by omega
          clear ha hv
          go_wp2_with (first
            | (go_at_call 32; ((with_reducible refine (KN.out _).mono ?_); rintro e w2 ⟨pt, ct, rfl, m2, b2, o2⟩; have MT := Box.mk m2; have OT : Box (∀ k, 0 < tn → (Value.slice pt tn ct).ownBlock = some k → k ≠ g) := ⟨fun k _ hk => by have := o2 k hk; omega⟩; replace ROW := Box.mk (rowBel ROW.out b2); replace ME := Box.mk (ME.out.below b2); replace BB := Box.mk (bel' BB.out l0 b2); clear m2 b2 o2))
            | fail)
          clear k0 hbl lg l0
          go_loopw [16, 84] (fun cv iv wq => ∃ (k g n cap : Nat) (F : List (Nat × Nat)), k ≤ tn ∧ iv = .int .i64 (k : Int) ∧ cv = .slice (some ⟨g, 0, none⟩) n cap ∧ F.length = n ∧ n ≤ 16 * j + k ∧ Box (F = prodQ (E.take j) T ++ (T.take k).map fun b => (a, b)) ∧ Box (wq.ownsRow w.heap.size 36 2 (.slice (some ⟨g, 0, none⟩) n cap) n (prs F)) ∧ Box (IIn wq (.slice (some ⟨bk, off, none⟩) en ce) E) ∧ Box (IIn wq (.slice pt tn ct) T) ∧ Box (∀ k, 0 < en → (Value.slice (some ⟨bk, off, none⟩) en ce).ownBlock = some k → k ≠ g) ∧ Box (∀ k, 0 < tn → (Value.slice pt tn ct).ownBlock = some k → k ≠ g) ∧ Box (Below w.heap.size w wq)) (fun _ iv _ => tn - (intOf iv).toNat)
          case atStart => exact ⟨0, g, n, cap, F, by omega, rfl, rfl, hF, by omega, ⟨by rw [HF.out]; simp⟩, ROW, ME, MT, OE, OT, BB⟩
          case round =>
            clear ROW ME MT OE OT BB HF hF hn
            obtain ⟨q, g, n, cap, F, hq, rfl, rfl, hF, hn, HF, ROW, ME, MT, OE, OT, BB⟩ := hrel
            by_cases hqt : q < tn
            · obtain ⟨b, hb⟩ : ∃ b, T[q]? = some b := ⟨_, List.getElem?_eq_getElem (by rw [← TN.out]; exact hqt)⟩
              obtain ⟨bk2, off2, cc2, hv2, hbl2, k1⟩ := MT.out.at hb
              rw [← TN.out] at hv2
              obtain ⟨rfl, _, rfl⟩ := Value.slice.inj hv2
              have HMT := Box.mk (map_take (a := a) hb)
              have i8 : (q : Int) < (tn : Int) := by omega
              have l0 := BB.out.size
              clear hb hv2
              go_wp2_with (first
                | (at_builtin; refine wpList_append_grown w.heap.size (by simp; omega) rfl (.tmp 88) (.tmp 92) 26 36 2 16 (.agg #[.int .i64 0, .int .i64 0]) (by rfl) Tryd.underlying26 info_pair rfl (by decide) (by decide) g n cap (prs F) (by rfl) (ROW.out.alloc _) _ 1 [.int .i64 (a : Int), .int .i64 (b : Int)] (by rfl) (news_pair (heap_alloc_new wr _)) (by intro u hu; simp at hu; rcases hu with rfl | rfl <;> rfl) (by omega) ?_; intro g' cap' w4 r4 b4 e4 h4; have ROW4 := Box.mk r4; have B4 := Box.mk b4; have E4 := Box.mk e4; have HG := Box.mk h4; clear r4 b4 e4 h4)
                | fail)
              have ME0 := Box.mk (ME.out.below (aset wr (.cells #[.int .i64 (a : Int), .int .i64 (b : Int)] 36)))
              have MT0 := Box.mk (MT.out.below (aset wr (.cells #[.int .i64 (a : Int), .int .i64 (b : Int)] 36)))
              have ME4 : Box (IIn w4 (.slice (some ⟨bk, off, none⟩) en ce) E) := ⟨SlIn.keep (by decide) ME0.out fun k hp hk hlt => HG.out.block k hlt (fun e => OE.out k (by rw [EN.out]; exact hp) hk (by simpa using e))⟩
              have MT4 : Box (IIn w4 (.slice (some ⟨bk2, off2, none⟩) tn ct) T) := ⟨SlIn.keep (by decide) MT0.out fun k hp hk hlt => HG.out.block k hlt (fun e => OT.out k (by rw [TN.out]; exact hp) hk (by simpa using e))⟩
              have OE4 : Box (∀ k, 0 < en → (Value.slice (some ⟨bk, off, none⟩) en ce).ownBlock = some k → k ≠ g') := ⟨fun k hp hk => by
                rcases E4.out with e | e
                · rw [e]; exact OE.out k hp hk
                · have := SlIn.lt ME0.out (by rw [← EN.out]; exact hp) k hk
                  omega⟩
              have OT4 : Box (∀ k, 0 < tn → (Value.slice (some ⟨bk2, off2, none⟩) tn ct).ownBlock = some k → k ≠ g') := ⟨fun k hp hk => by
                rcases E4.out with e | e
                · rw [e]; exact OT.out k hp hk
                · have := SlIn.lt MT0.out (by rw [← TN.out]; exact hp) k hk
                  omega⟩
              go_roundw
              case rel => exact ⟨q + 1, g', n + 1, cap', F ++ [(a, b)], by omega, by go_num, rfl, by simp [hF], by omega, ⟨by rw [HMT.out, HF.out, List.append_assoc]⟩, ⟨by rw [← prs_app]; exact ROW4.out⟩, ME4, MT4, OE4, OT4, ⟨(bel' BB.out l0 (aset wr _)).trans B4.out⟩⟩
              case measure => simp [intOf]; omega
            · obtain rfl : q = tn := by omega
              have i8 : ((q : Int) < (q : Int)) = False := by simp
              go_wp2_with fail
              go_roundw
              case rel => exact ⟨j + 1, g, n, cap, F, by omega, by go_num, rfl, hF, by omega, ⟨by rw [HPT.out, HF.out, TN.out, List.take_length]⟩, ROW, ME, OE, BB⟩
              case measure => simp [intOf]; omega
        · obtain rfl : j = en := by omega
          have i8 : ((j : Int) < (j : Int)) = False := by simp
          have HF2 : Box (F = prodQ E T) := ⟨by rw [HF.out, EN.out, List.take_length]⟩
          have PX : Box (PIn wr (.slice (some ⟨g, 0, none⟩) n cap) (prodQ E T)) := ⟨by
            rw [← HF2.out]; unfold PIn; rw [hF]; exact rowSlIn ROW.out⟩
          clear hje HF HF2 ROW ME OE KN EN TN EL TL hF hn en16 tn16 dn16 DN
          obtain ⟨W0, rfl⟩ : ∃ W0, W0 = wr := ⟨_, rfl⟩
          have RT := Box.mk (rowBel (newRow W0 W0.heap.size 3 1 (Nat.le_refl _)) (aset _ (.cells #[] 36)))
          have CX : Box (PIn ((W0.alloc (.cells #[] 3)).alloc (.cells #[] 36)) (.slice (some ⟨W0.heap.size + 1, 0, none⟩) 0 0) []) := ⟨by
            have := rowSlIn (newRow (W0.alloc (.cells #[] 3)) W0.heap.size 36 2 (by simp))
            rw [World.size_alloc] at this
            exact this⟩
          have B0 := Box.mk (bel (aset W0 (.cells #[] 3)) (aset _ (.cells #[] 36)))
          have OC : Box (∀ k, (Value.slice (some ⟨W0.heap.size + 1, 0, none⟩) 0 0).ownBlock = some k → k ≠ W0.heap.size ∧ k < ((W0.alloc (.cells #[] 3)).alloc (.cells #[] 36)).heap.size) := ⟨fun k hk => by
            have : W0.heap.size + 1 = k := by simpa [Value.ownBlock] using hk
            simp
            omega⟩
          go_wp2_with fail
          generalize (W0.alloc (.cells #[] 3)).alloc (.cells #[] 36) = W1 at *
          go_loopw [21, 22, 23] (fun tv cv iv wq => ∃ (i g cap : Nat) (X : List (Nat × Nat)) (F : List Nat), i ≤ zn ∧ i ≤ 12 ∧ iv = .int .i64 (i : Int) ∧ tv = .slice (some ⟨g, 0, none⟩) i cap ∧ F.length = i ∧ PQ X ∧ (∀ c d, (c, d) ∈ X ↔ Ahead F c d) ∧ (∀ a ∈ F, a < 16) ∧ Box (wq.ownsRow W0.heap.size 3 1 (.slice (some ⟨g, 0, none⟩) i cap) i (ints F)) ∧ Box (PIn wq cv X) ∧ Box (∀ k, cv.ownBlock = some k → k ≠ g ∧ k < wq.heap.size) ∧ Box (Below W0.heap.size W0 wq)) (fun _ _ iv _ => 12 - (intOf iv).toNat)
          case atStart => exact ⟨0, W0.heap.size, 0, [], [], by omega, by omega, rfl, rfl, rfl, PQ.nil, fun c d => ⟨fun h => (nomatch h), fun h => absurd h ahead_nil⟩, (fun a h => nomatch h), RT, CX, OC, B0⟩
          case round =>
            clear RT CX OC B0
            obtain ⟨i, g, cap, X, F, hi, hi12, rfl, rfl, hF, hq, hX, h16, RT, CX, OC, B0⟩ := hrel
            by_cases hc : i < zn ∧ i < 12
            · obtain ⟨h1, h2⟩ := hc
              obtain ⟨y, hy⟩ : ∃ y, z[i]? = some y := ⟨_, List.getElem?_eq_getElem (by rw [← ZN.out]; exact h1)⟩
              obtain ⟨bk, off, cc, hv, hbl, k0⟩ := ((ZI.out.below BB.out).below B0.out).at hy
              rw [← ZN.out] at hv
              obtain ⟨rfl, _, rfl⟩ := Value.slice.inj hv
              obtain ⟨m1, m2⟩ := modN_eq y
              have i1 : (i : Int) < (zn : Int) := by omega
              have i2 : (i : Int) < 12 := by omega
              have i3 : (0 : Int) ≤ (i : Int) := by omega
              have hb16 := modN_lt y
              have HQ := Box.mk hq
              have HX := Box.mk hX
              have H16 := Box.mk h16
              clear hy hv hq hX h16
              generalize modN y = b at *
              go_wp2_with fail
              clear k0 hbl m1 m2
              go_loopw [22, 117] (fun cv kv wq => ∃ (k : Nat) (Y : List (Nat × Nat)), k ≤ i ∧ kv = .int .i64 (k : Int) ∧ Ch Y F k b ∧ Box (wq.ownsRow W0.heap.size 3 1 (.slice (some ⟨g, 0, none⟩) i cap) i (ints F)) ∧ Box (PIn wq cv Y) ∧ Box (∀ k, cv.ownBlock = some k → k ≠ g ∧ k < wq.heap.size) ∧ Box (Below W0.heap.size W0 wq)) (fun _ kv _ => i - (intOf kv).toNat)
              case atStart => exact ⟨0, X, by omega, rfl, Ch.start HQ.out HX.out, RT, CX, OC, B0⟩
              case round =>
                clear RT CX OC B0 HX HQ
                obtain ⟨k, Y, hk, rfl, hch, RT, CX, OC, B0⟩ := hrel
                by_cases hki : k < i
                · obtain ⟨a, ha⟩ : ∃ a, F[k]? = some a := ⟨_, List.getElem?_eq_getElem (by rw [hF]; exact hki)⟩
                  have hTH : IIn wr (.slice (some ⟨g, 0, none⟩) i cap) F := by unfold IIn; rw [hF]; exact rowSlIn RT.out
                  obtain ⟨bk3, off3, cc3, hv3, hbl3, k3⟩ := hTH.at ha
                  rw [hF] at hv3
                  obtain ⟨e1, _, e3⟩ := Value.slice.inj hv3
                  injection e1 with e1
                  injection e1 with e1 e2
                  subst e1 e2 e3
                  rw [Nat.zero_add] at k3
                  have ha16 := H16.out a (List.mem_of_getElem? ha)
                  have HCH := Box.mk (hch.step ha ha16 hb16)
                  have HPY := Box.mk hch.pq
                  have KW := Box.mk (fun (w2 : World) (hp : PIn w2 u22 Y) => withR_own Y (by have := HPY.out.len; omega) u22 (a : Int) (b : Int) w2 hp)
                  have i8 : (k : Int) < (i : Int) := by omega
                  have l0 := B0.out.size
                  clear ha hv3 hTH hch
                  go_wp2_with (first
                    | (go_at_call 15; ((with_reducible refine (KW.out _ CX.out).mono ?_); rintro e w2 ⟨v2, rfl, p2, b2, o2⟩; have CX2 := Box.mk p2; have RT2 := Box.mk (rowBel RT.out b2); have B2 := Box.mk (bel' B0.out l0 b2); have O2 := Box.mk o2; have BZ := Box.mk b2; clear p2 b2 o2))
                    | fail)
                  have OC2 : Box (∀ k, v2.ownBlock = some k → k ≠ g ∧ k < w2.heap.size) := ⟨fun k hk => by
                    refine ⟨?_, SlIn.lt CX2.out (List.length_pos_of_mem (mem_withQ.2 (.inr ⟨rfl, ha16, hb16⟩))) k hk⟩
                    rcases O2.out k hk with e | e
                    · exact (OC.out k e).1
                    · have := (rowLt RT.out g rfl).2
                      omega⟩
                  go_roundw
                  case rel => exact ⟨k + 1, _, by omega, by go_num, HCH.out, RT2, CX2, OC2, B2⟩
                  case measure => simp [intOf]; omega
                · obtain rfl : k = i := by omega
                  have i8 : ((k : Int) < (k : Int)) = False := by simp
                  have HST := Box.mk (hch.stop hF.symm)
                  have HPY := Box.mk hch.pq
                  have l0 := B0.out.size
                  clear hch
                  go_wp2_with (first
                    | (at_builtin; refine wpList_append_grown W0.heap.size (by simp; omega) rfl (.tmp 127) (.tmp 129) 45 3 1 8 (.int .i64 0) (by rfl) Tryd.underlying45 info_one rfl (by decide) (by decide) g k cap (ints F) (by rfl) (RT.out.alloc _) _ 1 [.int .i64 (b : Int)] (by rfl) (news_one (heap_alloc_new wr _)) (by intro u hu; simp at hu; subst hu; rfl) (by omega) ?_; intro g' cap' w4 r4 b4 e4 h4; have ROW4 := Box.mk r4; have B4 := Box.mk b4; have E4 := Box.mk e4; have HG := Box.mk h4; clear r4 b4 e4 h4)
                    | fail)
                  have CX0 := Box.mk (CX.out.below (aset wr (.cells #[.int .i64 (b : Int)] 3)))
                  have hs0 : (wr.alloc (.cells #[.int .i64 (b : Int)] 3)).heap.size = wr.heap.size + 1 := by simp
                  have CX4 : Box (PIn w4 u22 Y) := ⟨SlIn.keep (by decide) CX0.out fun k hp hk hlt => HG.out.block k hlt (fun e => (OC.out k hk).1 (by simpa using e))⟩
                  have OC4 : Box (∀ k, u22.ownBlock = some k → k ≠ g' ∧ k < w4.heap.size) := ⟨fun k hk => by
                    obtain ⟨q1, q2⟩ := OC.out k hk
                    have q3 := HG.out.size
                    rw [hs0] at q3
                    refine ⟨?_, by omega⟩
                    rcases E4.out with e | e
                    · rw [e]; exact q1
                    · rw [e, hs0]; omega⟩
                  go_roundw
                  case rel => exact ⟨k + 1, g', cap', Y, F ++ [b], by omega, by omega, by go_num, rfl, by simp [hF], HPY.out, HST.out, fun a ha => by
                    rcases List.mem_append.1 ha with ha | ha
                    · exact H16.out a ha
                    · have : a = b := by simpa using ha
                      omega, ⟨by rw [← ints_app]; exact ROW4.out⟩, CX4, OC4, ⟨(bel' B0.out l0 (aset wr _)).trans B4.out⟩⟩
                  case measure => simp [intOf]; omega
            · obtain ⟨CH, hCH⟩ : ∃ CH, CH = (chainL F).1 := ⟨_, rfl⟩
              have PH : Box (Rp CH X) := ⟨by rw [hCH]; exact chain_rp h16 hq hX⟩
              have KCH : Box (∀ W v, IIn W v F → Calls Tryd.prog 34 #[v] W fun e w' => e = .returned (.agg (w16 CH).toArray) ∧ Below W.heap.size W w') := ⟨fun W v hv => by rw [hCH]; exact chain_any F (by omega) h16 v W hv⟩
              have TH : Box (IIn wr (.slice (some ⟨g, 0, none⟩) i cap) F) := ⟨by unfold IIn; rw [hF]; exact rowSlIn RT.out⟩
              have BW := Box.mk (BB.out.trans (B0.out.mono BB.out.size))
              replace PX := Box.mk (PX.out.below B0.out)
              clear RT OC B0 BB hCH h16 hq hX ZI
              by_cases h1 : i < zn
              · have i1 : (i : Int) < (zn : Int) := by omega
                have i2 : ((i : Int) < 12) = False := by simp; omega
                go_wp2_with (first
                  | (go_at_call 33; ((with_reducible refine (KC.out _ (tab_bel HT.out BW.out)).mono ?_); rintro e w1 ⟨rfl, b1⟩; replace PX := Box.mk (PX.out.below b1); replace CX := Box.mk (CX.out.below b1); replace TH := Box.mk (TH.out.below b1); replace BW := Box.mk (bel BW.out b1); clear b1))
                  | (go_at_call 34; ((with_reducible refine (KCH.out _ _ TH.out).mono ?_); rintro e w1 ⟨rfl, b1⟩; replace PX := Box.mk (PX.out.below b1); replace CX := Box.mk (CX.out.below b1); replace TH := Box.mk (TH.out.below b1); replace BW := Box.mk (bel BW.out b1); clear b1))
                  | (go_at_call 10; ((with_reducible refine (told16_any CR PC.out.wf _).mono ?_); rintro e w1 ⟨v1, rfl, hp, b1⟩; have HA := Box.mk hp; clear hp; replace PX := Box.mk (PX.out.below b1); replace CX := Box.mk (CX.out.below b1); replace TH := Box.mk (TH.out.below b1); replace BW := Box.mk (bel BW.out b1); clear b1))
                  | (go_at_call 10; ((with_reducible refine (told16_any CH PH.out.wf _).mono ?_); rintro e w1 ⟨v1, rfl, hp, b1⟩; have HA := Box.mk hp; clear hp; replace PX := Box.mk (PX.out.below b1); replace CX := Box.mk (CX.out.below b1); replace TH := Box.mk (TH.out.below b1); replace BW := Box.mk (bel BW.out b1); clear b1))
                  | (go_at_call 9; ((with_reducible refine (SM.out _ _ PC.out _ _ _ HA.out PX.out).mono ?_); rintro e w1 ⟨rfl, b1⟩; replace PX := Box.mk (PX.out.below b1); replace CX := Box.mk (CX.out.below b1); replace TH := Box.mk (TH.out.below b1); replace BW := Box.mk (bel BW.out b1); clear b1))
                  | (go_at_call 9; ((with_reducible refine (SM.out _ _ PH.out _ _ _ HA.out CX.out).mono ?_); rintro e w1 ⟨rfl, b1⟩; replace PX := Box.mk (PX.out.below b1); replace CX := Box.mk (CX.out.below b1); replace TH := Box.mk (TH.out.below b1); replace BW := Box.mk (bel BW.out b1); clear b1)))
                go_ret
                exact ⟨rfl, BW.out⟩
              · have i1 : ((i : Int) < (zn : Int)) = False := by simp; omega
                go_wp2_with (first
                  | (go_at_call 33; ((with_reducible refine (KC.out _ (tab_bel HT.out BW.out)).mono ?_); rintro e w1 ⟨rfl, b1⟩; replace PX := Box.mk (PX.out.below b1); replace CX := Box.mk (CX.out.below b1); replace TH := Box.mk (TH.out.below b1); replace BW := Box.mk (bel BW.out b1); clear b1))
                  | (go_at_call 34; ((with_reducible refine (KCH.out _ _ TH.out).mono ?_); rintro e w1 ⟨rfl, b1⟩; replace PX := Box.mk (PX.out.below b1); replace CX := Box.mk (CX.out.below b1); replace TH := Box.mk (TH.out.below b1); replace BW := Box.mk (bel BW.out b1); clear b1))
                  | (go_at_call 10; ((with_reducible refine (told16_any CR PC.out.wf _).mono ?_); rintro e w1 ⟨v1, rfl, hp, b1⟩; have HA := Box.mk hp; clear hp; replace PX := Box.mk (PX.out.below b1); replace CX := Box.mk (CX.out.below b1); replace TH := Box.mk (TH.out.below b1); replace BW := Box.mk (bel BW.out b1); clear b1))
                  | (go_at_call 10; ((with_reducible refine (told16_any CH PH.out.wf _).mono ?_); rintro e w1 ⟨v1, rfl, hp, b1⟩; have HA := Box.mk hp; clear hp; replace PX := Box.mk (PX.out.below b1); replace CX := Box.mk (CX.out.below b1); replace TH := Box.mk (TH.out.below b1); replace BW := Box.mk (bel BW.out b1); clear b1))
                  | (go_at_call 9; ((with_reducible refine (SM.out _ _ PC.out _ _ _ HA.out PX.out).mono ?_); rintro e w1 ⟨rfl, b1⟩; replace PX := Box.mk (PX.out.below b1); replace CX := Box.mk (CX.out.below b1); replace TH := Box.mk (TH.out.below b1); replace BW := Box.mk (bel BW.out b1); clear b1))
                  | (go_at_call 9; ((with_reducible refine (SM.out _ _ PH.out _ _ _ HA.out CX.out).mono ?_); rintro e w1 ⟨rfl, b1⟩; replace PX := Box.mk (PX.out.below b1); replace CX := Box.mk (CX.out.below b1); replace TH := Box.mk (TH.out.below b1); replace BW := Box.mk (bel BW.out b1); clear b1)))
                go_ret
                exact ⟨rfl, BW.out⟩
end Go.Proofs.YtbcbhofbikdfiaaDoor
