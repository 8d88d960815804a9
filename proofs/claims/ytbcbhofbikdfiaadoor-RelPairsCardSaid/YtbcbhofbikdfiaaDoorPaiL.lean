/- The law RelPairs, walked. -/
import Derived.Test.YtbcbhofbikdfiaaDoorPaiK
namespace Go.Proofs.YtbcbhofbikdfiaaDoor
set_option maxRecDepth 100000
open Go.RowKit M

set_option maxRecDepth 100000 in
set_option linter.unusedSimpArgs false in
set_option maxHeartbeats 16000000 in
theorem relPairs_walk (l m : List (Int × Int)) (v u : Value) (a b : Int) (w : World) (hT : Tab64 w) (h : QIn w v l) (k : QIn w u m) (hl : l.length ≤ 9223372036854775807) (hm : m.length ≤ 9223372036854775807) :
    Calls Tryd.prog 3 #[v, u, .int .i64 a, .int .i64 b] w fun e w' => e = .returned (.bool true) ∧ Below w.heap.size w w' := by
  have G1 := Box.mk (grow_any l v w h hl)
  have G2 : Box (∀ w2, Below w.heap.size w w2 → _) := ⟨fun w2 (hb : Below w.heap.size w w2) => grow_any m u w2 (k.below hb) hm⟩
  have rp := grow_rp (l.take 24)
  have rq := grow_rp (m.take 24)
  obtain ⟨r, hr⟩ : ∃ r, r = growR (l.take 24) := ⟨_, rfl⟩
  obtain ⟨x, hx⟩ : ∃ x, x = growX (l.take 24) := ⟨_, rfl⟩
  obtain ⟨s, hs⟩ : ∃ s, s = growR (m.take 24) := ⟨_, rfl⟩
  obtain ⟨y, hy⟩ : ∃ y, y = growX (m.take 24) := ⟨_, rfl⟩
  rw [← hr, ← hx] at G1 rp
  rw [← hs, ← hy] at rq
  simp only [← hs, ← hy] at G2
  have HT := Box.mk hT
  have P0 := Box.mk rp; have P1 := Box.mk (rp.withI a b); have P2 := Box.mk (rp.or rq); have P3 := Box.mk (rp.and rq); have P4 := Box.mk (rp.less rq); have P5 := Box.mk rp.turn; have P6 := Box.mk (rp.then rq); have P7 := Box.mk rp.close
  obtain ⟨CX, hCX⟩ : ∃ CX, CX = closeQ x := ⟨_, rfl⟩
  rw [← hCX] at P7
  have KCL : Box (∀ W (v : Value), PIn W v x → Calls Tryd.prog 27 #[v] W fun e w' => ∃ v', e = .returned v' ∧ PIn w' v' CX ∧ Below W.heap.size W w') := ⟨fun W v hp => by rw [hCX]; exact closeR_any x rp.pq v W hp⟩
  clear hCX
  have HR := Box.mk rp.wf; have HSS := Box.mk rq.wf
  have IR := Box.mk (infoL rp.wf); have IS := Box.mk (infoL rq.wf)
  have PX := Box.mk rp.pq
  have LX : Box (x.length ≤ 100000) := ⟨by have := rp.pq.len; omega⟩
  have LY : Box (y.length ≤ 100000) := ⟨by have := rq.pq.len; omega⟩
  have KA := Box.mk (fun W h => awake16_any W h)
  have KAR : Box (∀ W, Calls Tryd.prog 28 #[.agg (w16 r).toArray] W fun e w' => e = .returned (.bool (roundQ x)) ∧ Below W.heap.size W w') := ⟨fun W => by rw [← rp.round]; exact around_any r rp.wf W⟩
  have KRA : Box (∀ W (v : Value), PIn W v x → Calls Tryd.prog 29 #[v] W fun e w' => e = .returned (.bool (roundQ x)) ∧ Below W.heap.size W w') := ⟨fun W v hp => aroundR_any x rp.pq v W hp⟩
  have KCO : Box (∀ W, Calls Tryd.prog 11 #[.agg (w16 r).toArray] W fun e w' => e = .returned (.int .i64 ((x.length : Nat) : Int)) ∧ Below W.heap.size W w') := ⟨fun W => by rw [← rp.count]; exact count16_any r rp.wf W⟩
  have KHS : Box (∀ W, Calls Tryd.prog 12 #[.agg (w16 r).toArray, .int .i64 a, .int .i64 b] W fun e w' => e = .returned (.bool (hasQ x a b)) ∧ Below W.heap.size W w') := ⟨fun W => by rw [← rp.has]; exact has_any r rp.wf a b W⟩
  have KRH : Box (∀ W (v : Value), PIn W v x → Calls Tryd.prog 13 #[v, .agg #[.int .i64 a, .int .i64 b]] W fun e w' => e = .returned (.bool (hasQ x a b)) ∧ Below W.heap.size W w') := ⟨fun W v hp => hasR_any x LX.out v a b W hp⟩
  have SM : Box (∀ (R' : List Nat) (X' : List (Nat × Nat)), Rp R' X' → ∀ W (v u : Value), PIn W v (tellQ R') → PIn W u X' → Calls Tryd.prog 9 #[v, u] W fun e w' => e = .returned (.bool true) ∧ Below W.heap.size W w') := ⟨fun R' X' hp W v u h1 h2 => by
    have hq := sameR_any (tellQ R') X' (by have : (tellQ R').length ≤ 256 := tellTo_len R' 16
                                           omega) (by have := hp.pq.len; omega) v u W h1 h2
    rw [hp.same] at hq
    exact hq⟩
  clear rp rq hT h k hl hm hr hx hs hy
  go_enter Tryd.func3, Tryd.ntmps3
  go_upto_region 3 with (first
    | (go_at_call 7; ((with_reducible refine G1.out.mono ?_); rintro e w1 ⟨v1, rfl, hp1, b1⟩; obtain ⟨px, cx, rfl⟩ := SlIn.slice hp1; have Q1 := Box.mk hp1; have BA := Box.mk b1; have RN := Box.mk (RB.new w1 R.zeroM); rw [sum_zero] at RN; clear hp1 b1))
    | ((with_reducible refine at_store 25 (.tmp 9) (.tmp 16) ?_); refine wpList_store_mid rfl 25 (.tmp 9) (.tmp 16) (by rfl) w1.heap.size 0 (w16 r).toArray (by rfl) (by rfl) (thereL RN.out HR.out) (infoA HR.out) (all_oneCell_toArray (w16_one _)) ?_
       have RV := Box.mk (RN.out.all R.zero_wf HR.out)
       have QV : Box (PIn ((w1.alloc (.cells #[.int .u16 0, .int .u16 0, .int .u16 0, .int .u16 0, .int .u16 0, .int .u16 0, .int .u16 0, .int .u16 0, .int .u16 0, .int .u16 0, .int .u16 0, .int .u16 0, .int .u16 0, .int .u16 0, .int .u16 0, .int .u16 0] 25)).setCells w1.heap.size 0 (w16 r)) (.slice px x.length cx) x) := ⟨Q1.out.below (bsets (Nat.le_refl _) _ _ _ (aset w1 _))⟩
       have BV := Box.mk (bel BA.out (bsets (Nat.le_refl _) (w16 r) _ 0 (aset w1 (.cells #[.int .u16 0, .int .u16 0, .int .u16 0, .int .u16 0, .int .u16 0, .int .u16 0, .int .u16 0, .int .u16 0, .int .u16 0, .int .u16 0, .int .u16 0, .int .u16 0, .int .u16 0, .int .u16 0, .int .u16 0, .int .u16 0] 25))))
       change wpList _ _ _ _ _ ((w1.alloc (.cells #[.int .u16 0, .int .u16 0, .int .u16 0, .int .u16 0, .int .u16 0, .int .u16 0, .int .u16 0, .int .u16 0, .int .u16 0, .int .u16 0, .int .u16 0, .int .u16 0, .int .u16 0, .int .u16 0, .int .u16 0, .int .u16 0] 25)).setCells w1.heap.size 0 (w16 r))
       generalize ((w1.alloc (.cells #[.int .u16 0, .int .u16 0, .int .u16 0, .int .u16 0, .int .u16 0, .int .u16 0, .int .u16 0, .int .u16 0, .int .u16 0, .int .u16 0, .int .u16 0, .int .u16 0, .int .u16 0, .int .u16 0, .int .u16 0, .int .u16 0] 25)).setCells w1.heap.size 0 (w16 r)) = V1 at *
       obtain ⟨b9, hb9⟩ : ∃ b9, b9 = w1.heap.size := ⟨_, rfl⟩
       rw [← hb9] at RV ⊢
       clear hb9 RN Q1 BA)
    | (go_at_call 7; ((with_reducible refine (G2.out _ BV.out).mono ?_); rintro e w2 ⟨v2, rfl, hp2, b2⟩; obtain ⟨py, cy, rfl⟩ := SlIn.slice hp2; have Q2 := Box.mk hp2; have QX := Box.mk (QV.out.below b2); have RX := Box.mk (RV.out.below b2); have BX := Box.mk (bel BV.out b2); have RM := Box.mk (RB.new w2 R.zeroM); rw [sum_zero] at RM; clear hp2 b2))
    | ((with_reducible refine at_store 25 (.tmp 11) (.tmp 21) ?_); refine wpList_store_mid rfl 25 (.tmp 11) (.tmp 21) (by rfl) w2.heap.size 0 (w16 s).toArray (by rfl) (by rfl) (thereL RM.out HSS.out) (infoA HSS.out) (all_oneCell_toArray (w16_one _)) ?_
       have bz := bsets (B := w2.heap.size) (Nat.le_refl _) (w16 s) _ 0 (aset w2 (.cells #[.int .u16 0, .int .u16 0, .int .u16 0, .int .u16 0, .int .u16 0, .int .u16 0, .int .u16 0, .int .u16 0, .int .u16 0, .int .u16 0, .int .u16 0, .int .u16 0, .int .u16 0, .int .u16 0, .int .u16 0, .int .u16 0] 25))
       have S1 := Box.mk (RX.out.below bz)
       have S2 := Box.mk (RM.out.all R.zero_wf HSS.out)
       have S3 := Box.mk (QX.out.below bz)
       have S4 := Box.mk (Q2.out.below bz)
       have S6 := Box.mk (bel BX.out bz)
       have S5 := Box.mk (tab_bel HT.out S6.out)
       change wpList _ _ _ _ _ ((w2.alloc (.cells #[.int .u16 0, .int .u16 0, .int .u16 0, .int .u16 0, .int .u16 0, .int .u16 0, .int .u16 0, .int .u16 0, .int .u16 0, .int .u16 0, .int .u16 0, .int .u16 0, .int .u16 0, .int .u16 0, .int .u16 0, .int .u16 0] 25)).setCells w2.heap.size 0 (w16 s))
       clear bz
       generalize ((w2.alloc (.cells #[.int .u16 0, .int .u16 0, .int .u16 0, .int .u16 0, .int .u16 0, .int .u16 0, .int .u16 0, .int .u16 0, .int .u16 0, .int .u16 0, .int .u16 0, .int .u16 0, .int .u16 0, .int .u16 0, .int .u16 0, .int .u16 0] 25)).setCells w2.heap.size 0 (w16 s)) = V2 at *
       obtain ⟨b11, hb11⟩ : ∃ b11, b11 = w2.heap.size := ⟨_, rfl⟩
       rw [← hb11] at S2 ⊢
       clear hb11 RM Q2 QX RX BX))
  try simp only [Act.put]
  clear RV QV BV G1 G2 HT
  go_upto_region 5 with (first
    | ((with_reducible refine at_load 25 (.tmp 9) ?_); refine wpList_load_wanted (by rfl) 25 (.tmp 9) (by rfl) b9 0 (by rfl) (w16 r) _ S1.out.range undR rfl IR.out ?_)
    | ((with_reducible refine at_load 25 (.tmp 9) ?_); refine wpList_load_mid rfl 25 (.tmp 9) (by rfl) b9 0 (by rfl) (w16 r) _ S1.out.range undR rfl IR.out ?_)
    | (go_at_call 8; ((with_reducible refine (KA.out _ S5.out).mono ?_); rintro e w1 ⟨rfl, b1⟩; replace S1 := Box.mk (S1.out.below b1); replace S2 := Box.mk (S2.out.below b1); replace S3 := Box.mk (S3.out.below b1); replace S4 := Box.mk (S4.out.below b1); replace S5 := Box.mk (tab_bel S5.out b1); replace S6 := Box.mk (bel S6.out b1); clear b1))
    | (go_at_call 11; ((with_reducible refine (KCO.out _).mono ?_); rintro e w1 ⟨rfl, b1⟩; replace S1 := Box.mk (S1.out.below b1); replace S2 := Box.mk (S2.out.below b1); replace S3 := Box.mk (S3.out.below b1); replace S4 := Box.mk (S4.out.below b1); replace S5 := Box.mk (tab_bel S5.out b1); replace S6 := Box.mk (bel S6.out b1); clear b1))
    | (go_at_call 12; ((with_reducible refine (KHS.out _).mono ?_); rintro e w1 ⟨rfl, b1⟩; replace S1 := Box.mk (S1.out.below b1); replace S2 := Box.mk (S2.out.below b1); replace S3 := Box.mk (S3.out.below b1); replace S4 := Box.mk (S4.out.below b1); replace S5 := Box.mk (tab_bel S5.out b1); replace S6 := Box.mk (bel S6.out b1); clear b1))
    | (go_at_call 14; ((with_reducible refine (withI_any r HR.out a b _).mono ?_); rintro e w1 ⟨rfl, b1⟩; replace S1 := Box.mk (S1.out.below b1); replace S2 := Box.mk (S2.out.below b1); replace S3 := Box.mk (S3.out.below b1); replace S4 := Box.mk (S4.out.below b1); replace S5 := Box.mk (tab_bel S5.out b1); replace S6 := Box.mk (bel S6.out b1); clear b1))
    | (go_at_call 10; ((with_reducible refine (told16_any (r) P0.out.wf _).mono ?_); rintro e w1 ⟨v1, rfl, hp, b1⟩; have HA := Box.mk hp; clear hp; replace S1 := Box.mk (S1.out.below b1); replace S2 := Box.mk (S2.out.below b1); replace S3 := Box.mk (S3.out.below b1); replace S4 := Box.mk (S4.out.below b1); replace S5 := Box.mk (tab_bel S5.out b1); replace S6 := Box.mk (bel S6.out b1); clear b1))
    | (go_at_call 10; ((with_reducible refine (told16_any (Go.Proofs.YtbcbhofbikdfiaaDoor.withI r a b) P1.out.wf _).mono ?_); rintro e w1 ⟨v1, rfl, hp, b1⟩; have HA := Box.mk hp; clear hp; replace S1 := Box.mk (S1.out.below b1); replace S2 := Box.mk (S2.out.below b1); replace S3 := Box.mk (S3.out.below b1); replace S4 := Box.mk (S4.out.below b1); replace S5 := Box.mk (tab_bel S5.out b1); replace S6 := Box.mk (bel S6.out b1); clear b1))
    | (go_at_call 13; ((with_reducible refine (KRH.out _ _ S3.out).mono ?_); rintro e w1 ⟨rfl, b1⟩; replace S1 := Box.mk (S1.out.below b1); replace S2 := Box.mk (S2.out.below b1); replace S3 := Box.mk (S3.out.below b1); replace S4 := Box.mk (S4.out.below b1); replace S5 := Box.mk (tab_bel S5.out b1); replace S6 := Box.mk (bel S6.out b1); clear b1))
    | (go_at_call 15; ((with_reducible refine (withR_any x LX.out _ a b _ S3.out).mono ?_); rintro e w1 ⟨v2, rfl, hp, b1⟩; replace HA := Box.mk (HA.out.below b1); have HB := Box.mk hp; clear hp; replace S1 := Box.mk (S1.out.below b1); replace S2 := Box.mk (S2.out.below b1); replace S3 := Box.mk (S3.out.below b1); replace S4 := Box.mk (S4.out.below b1); replace S5 := Box.mk (tab_bel S5.out b1); replace S6 := Box.mk (bel S6.out b1); clear b1))
    | (go_at_call 9; ((with_reducible refine (SM.out _ _ P0.out _ _ _ HA.out S3.out).mono ?_); rintro e w1 ⟨rfl, b1⟩; replace S1 := Box.mk (S1.out.below b1); replace S2 := Box.mk (S2.out.below b1); replace S3 := Box.mk (S3.out.below b1); replace S4 := Box.mk (S4.out.below b1); replace S5 := Box.mk (tab_bel S5.out b1); replace S6 := Box.mk (bel S6.out b1); clear b1))
    | (go_at_call 9; ((with_reducible refine (SM.out _ _ P1.out _ _ _ HA.out HB.out).mono ?_); rintro e w1 ⟨rfl, b1⟩; replace S1 := Box.mk (S1.out.below b1); replace S2 := Box.mk (S2.out.below b1); replace S3 := Box.mk (S3.out.below b1); replace S4 := Box.mk (S4.out.below b1); replace S5 := Box.mk (tab_bel S5.out b1); replace S6 := Box.mk (bel S6.out b1); clear b1)))
  go_wp2_with (first
    | ((with_reducible refine at_load 25 (.tmp 9) ?_); refine wpList_load_wanted (by rfl) 25 (.tmp 9) (by rfl) b9 0 (by rfl) (w16 r) _ S1.out.range undR rfl IR.out ?_)
    | ((with_reducible refine at_load 25 (.tmp 9) ?_); refine wpList_load_mid rfl 25 (.tmp 9) (by rfl) b9 0 (by rfl) (w16 r) _ S1.out.range undR rfl IR.out ?_)
    | ((with_reducible refine at_load 25 (.tmp 11) ?_); refine wpList_load_wanted (by rfl) 25 (.tmp 11) (by rfl) b11 0 (by rfl) (w16 s) _ S2.out.range undR rfl IS.out ?_)
    | ((with_reducible refine at_load 25 (.tmp 11) ?_); refine wpList_load_mid rfl 25 (.tmp 11) (by rfl) b11 0 (by rfl) (w16 s) _ S2.out.range undR rfl IS.out ?_)
    | (go_at_call 16; ((with_reducible refine (or_any r s HR.out HSS.out _).mono ?_); rintro e w1 ⟨rfl, b1⟩; replace S1 := Box.mk (S1.out.below b1); replace S2 := Box.mk (S2.out.below b1); replace S3 := Box.mk (S3.out.below b1); replace S4 := Box.mk (S4.out.below b1); replace S5 := Box.mk (tab_bel S5.out b1); replace S6 := Box.mk (bel S6.out b1); clear b1))
    | (go_at_call 18; ((with_reducible refine (and_any r s HR.out HSS.out _).mono ?_); rintro e w1 ⟨rfl, b1⟩; replace S1 := Box.mk (S1.out.below b1); replace S2 := Box.mk (S2.out.below b1); replace S3 := Box.mk (S3.out.below b1); replace S4 := Box.mk (S4.out.below b1); replace S5 := Box.mk (tab_bel S5.out b1); replace S6 := Box.mk (bel S6.out b1); clear b1))
    | (go_at_call 20; ((with_reducible refine (less_any r s HR.out HSS.out _).mono ?_); rintro e w1 ⟨rfl, b1⟩; replace S1 := Box.mk (S1.out.below b1); replace S2 := Box.mk (S2.out.below b1); replace S3 := Box.mk (S3.out.below b1); replace S4 := Box.mk (S4.out.below b1); replace S5 := Box.mk (tab_bel S5.out b1); replace S6 := Box.mk (bel S6.out b1); clear b1))
    | (go_at_call 22; ((with_reducible refine (turned_any r HR.out _ S5.out).mono ?_); rintro e w1 ⟨rfl, b1⟩; replace S1 := Box.mk (S1.out.below b1); replace S2 := Box.mk (S2.out.below b1); replace S3 := Box.mk (S3.out.below b1); replace S4 := Box.mk (S4.out.below b1); replace S5 := Box.mk (tab_bel S5.out b1); replace S6 := Box.mk (bel S6.out b1); clear b1))
    | (go_at_call 24; ((with_reducible refine (then_any r s HR.out HSS.out _ S5.out).mono ?_); rintro e w1 ⟨rfl, b1⟩; replace S1 := Box.mk (S1.out.below b1); replace S2 := Box.mk (S2.out.below b1); replace S3 := Box.mk (S3.out.below b1); replace S4 := Box.mk (S4.out.below b1); replace S5 := Box.mk (tab_bel S5.out b1); replace S6 := Box.mk (bel S6.out b1); clear b1))
    | (go_at_call 26; ((with_reducible refine (closed_any r HR.out _).mono ?_); rintro e w1 ⟨rfl, b1⟩; replace S1 := Box.mk (S1.out.below b1); replace S2 := Box.mk (S2.out.below b1); replace S3 := Box.mk (S3.out.below b1); replace S4 := Box.mk (S4.out.below b1); replace S5 := Box.mk (tab_bel S5.out b1); replace S6 := Box.mk (bel S6.out b1); clear b1))
    | (go_at_call 28; ((with_reducible refine (KAR.out _).mono ?_); rintro e w1 ⟨rfl, b1⟩; replace S1 := Box.mk (S1.out.below b1); replace S2 := Box.mk (S2.out.below b1); replace S3 := Box.mk (S3.out.below b1); replace S4 := Box.mk (S4.out.below b1); replace S5 := Box.mk (tab_bel S5.out b1); replace S6 := Box.mk (bel S6.out b1); clear b1))
    | (go_at_call 10; ((with_reducible refine (told16_any (R.orM r s) P2.out.wf _).mono ?_); rintro e w1 ⟨v1, rfl, hp, b1⟩; have HA := Box.mk hp; clear hp; replace S1 := Box.mk (S1.out.below b1); replace S2 := Box.mk (S2.out.below b1); replace S3 := Box.mk (S3.out.below b1); replace S4 := Box.mk (S4.out.below b1); replace S5 := Box.mk (tab_bel S5.out b1); replace S6 := Box.mk (bel S6.out b1); clear b1))
    | (go_at_call 10; ((with_reducible refine (told16_any (R.andM r s) P3.out.wf _).mono ?_); rintro e w1 ⟨v1, rfl, hp, b1⟩; have HA := Box.mk hp; clear hp; replace S1 := Box.mk (S1.out.below b1); replace S2 := Box.mk (S2.out.below b1); replace S3 := Box.mk (S3.out.below b1); replace S4 := Box.mk (S4.out.below b1); replace S5 := Box.mk (tab_bel S5.out b1); replace S6 := Box.mk (bel S6.out b1); clear b1))
    | (go_at_call 10; ((with_reducible refine (told16_any (R.lessM r s) P4.out.wf _).mono ?_); rintro e w1 ⟨v1, rfl, hp, b1⟩; have HA := Box.mk hp; clear hp; replace S1 := Box.mk (S1.out.below b1); replace S2 := Box.mk (S2.out.below b1); replace S3 := Box.mk (S3.out.below b1); replace S4 := Box.mk (S4.out.below b1); replace S5 := Box.mk (tab_bel S5.out b1); replace S6 := Box.mk (bel S6.out b1); clear b1))
    | (go_at_call 10; ((with_reducible refine (told16_any (R.turnM r) P5.out.wf _).mono ?_); rintro e w1 ⟨v1, rfl, hp, b1⟩; have HA := Box.mk hp; clear hp; replace S1 := Box.mk (S1.out.below b1); replace S2 := Box.mk (S2.out.below b1); replace S3 := Box.mk (S3.out.below b1); replace S4 := Box.mk (S4.out.below b1); replace S5 := Box.mk (tab_bel S5.out b1); replace S6 := Box.mk (bel S6.out b1); clear b1))
    | (go_at_call 10; ((with_reducible refine (told16_any (R.thenM r s) P6.out.wf _).mono ?_); rintro e w1 ⟨v1, rfl, hp, b1⟩; have HA := Box.mk hp; clear hp; replace S1 := Box.mk (S1.out.below b1); replace S2 := Box.mk (S2.out.below b1); replace S3 := Box.mk (S3.out.below b1); replace S4 := Box.mk (S4.out.below b1); replace S5 := Box.mk (tab_bel S5.out b1); replace S6 := Box.mk (bel S6.out b1); clear b1))
    | (go_at_call 10; ((with_reducible refine (told16_any (R.closeM r) P7.out.wf _).mono ?_); rintro e w1 ⟨v1, rfl, hp, b1⟩; have HA := Box.mk hp; clear hp; replace S1 := Box.mk (S1.out.below b1); replace S2 := Box.mk (S2.out.below b1); replace S3 := Box.mk (S3.out.below b1); replace S4 := Box.mk (S4.out.below b1); replace S5 := Box.mk (tab_bel S5.out b1); replace S6 := Box.mk (bel S6.out b1); clear b1))
    | (go_at_call 17; ((with_reducible refine (orR_any x y PX.out LY.out _ _ _ S3.out S4.out).mono ?_); rintro e w1 ⟨v2, rfl, hp, b1⟩; replace HA := Box.mk (HA.out.below b1); have HB := Box.mk hp; clear hp; replace S1 := Box.mk (S1.out.below b1); replace S2 := Box.mk (S2.out.below b1); replace S3 := Box.mk (S3.out.below b1); replace S4 := Box.mk (S4.out.below b1); replace S5 := Box.mk (tab_bel S5.out b1); replace S6 := Box.mk (bel S6.out b1); clear b1))
    | (go_at_call 19; ((with_reducible refine (andR_any x y LX.out LY.out _ _ _ S3.out S4.out).mono ?_); rintro e w1 ⟨v2, rfl, hp, b1⟩; replace HA := Box.mk (HA.out.below b1); have HB := Box.mk hp; clear hp; replace S1 := Box.mk (S1.out.below b1); replace S2 := Box.mk (S2.out.below b1); replace S3 := Box.mk (S3.out.below b1); replace S4 := Box.mk (S4.out.below b1); replace S5 := Box.mk (tab_bel S5.out b1); replace S6 := Box.mk (bel S6.out b1); clear b1))
    | (go_at_call 21; ((with_reducible refine (lessR_any x y LX.out LY.out _ _ _ S3.out S4.out).mono ?_); rintro e w1 ⟨v2, rfl, hp, b1⟩; replace HA := Box.mk (HA.out.below b1); have HB := Box.mk hp; clear hp; replace S1 := Box.mk (S1.out.below b1); replace S2 := Box.mk (S2.out.below b1); replace S3 := Box.mk (S3.out.below b1); replace S4 := Box.mk (S4.out.below b1); replace S5 := Box.mk (tab_bel S5.out b1); replace S6 := Box.mk (bel S6.out b1); clear b1))
    | (go_at_call 23; ((with_reducible refine (turnR_any x LX.out _ _ S3.out).mono ?_); rintro e w1 ⟨v2, rfl, hp, b1⟩; replace HA := Box.mk (HA.out.below b1); have HB := Box.mk hp; clear hp; replace S1 := Box.mk (S1.out.below b1); replace S2 := Box.mk (S2.out.below b1); replace S3 := Box.mk (S3.out.below b1); replace S4 := Box.mk (S4.out.below b1); replace S5 := Box.mk (tab_bel S5.out b1); replace S6 := Box.mk (bel S6.out b1); clear b1))
    | (go_at_call 25; ((with_reducible refine (thenR_any x y LX.out LY.out _ _ _ S3.out S4.out).mono ?_); rintro e w1 ⟨v2, rfl, hp, b1⟩; replace HA := Box.mk (HA.out.below b1); have HB := Box.mk hp; clear hp; replace S1 := Box.mk (S1.out.below b1); replace S2 := Box.mk (S2.out.below b1); replace S3 := Box.mk (S3.out.below b1); replace S4 := Box.mk (S4.out.below b1); replace S5 := Box.mk (tab_bel S5.out b1); replace S6 := Box.mk (bel S6.out b1); clear b1))
    | (go_at_call 27; ((with_reducible refine (KCL.out _ _ S3.out).mono ?_); rintro e w1 ⟨v2, rfl, hp, b1⟩; replace HA := Box.mk (HA.out.below b1); have HB := Box.mk hp; clear hp; replace S1 := Box.mk (S1.out.below b1); replace S2 := Box.mk (S2.out.below b1); replace S3 := Box.mk (S3.out.below b1); replace S4 := Box.mk (S4.out.below b1); replace S5 := Box.mk (tab_bel S5.out b1); replace S6 := Box.mk (bel S6.out b1); clear b1))
    | (go_at_call 29; ((with_reducible refine (KRA.out _ _ S3.out).mono ?_); rintro e w1 ⟨rfl, b1⟩; replace S1 := Box.mk (S1.out.below b1); replace S2 := Box.mk (S2.out.below b1); replace S3 := Box.mk (S3.out.below b1); replace S4 := Box.mk (S4.out.below b1); replace S5 := Box.mk (tab_bel S5.out b1); replace S6 := Box.mk (bel S6.out b1); clear b1))
    | (go_at_call 9; ((with_reducible refine (SM.out _ _ P2.out _ _ _ HA.out HB.out).mono ?_); rintro e w1 ⟨rfl, b1⟩; replace S1 := Box.mk (S1.out.below b1); replace S2 := Box.mk (S2.out.below b1); replace S3 := Box.mk (S3.out.below b1); replace S4 := Box.mk (S4.out.below b1); replace S5 := Box.mk (tab_bel S5.out b1); replace S6 := Box.mk (bel S6.out b1); clear b1))
    | (go_at_call 9; ((with_reducible refine (SM.out _ _ P3.out _ _ _ HA.out HB.out).mono ?_); rintro e w1 ⟨rfl, b1⟩; replace S1 := Box.mk (S1.out.below b1); replace S2 := Box.mk (S2.out.below b1); replace S3 := Box.mk (S3.out.below b1); replace S4 := Box.mk (S4.out.below b1); replace S5 := Box.mk (tab_bel S5.out b1); replace S6 := Box.mk (bel S6.out b1); clear b1))
    | (go_at_call 9; ((with_reducible refine (SM.out _ _ P4.out _ _ _ HA.out HB.out).mono ?_); rintro e w1 ⟨rfl, b1⟩; replace S1 := Box.mk (S1.out.below b1); replace S2 := Box.mk (S2.out.below b1); replace S3 := Box.mk (S3.out.below b1); replace S4 := Box.mk (S4.out.below b1); replace S5 := Box.mk (tab_bel S5.out b1); replace S6 := Box.mk (bel S6.out b1); clear b1))
    | (go_at_call 9; ((with_reducible refine (SM.out _ _ P5.out _ _ _ HA.out HB.out).mono ?_); rintro e w1 ⟨rfl, b1⟩; replace S1 := Box.mk (S1.out.below b1); replace S2 := Box.mk (S2.out.below b1); replace S3 := Box.mk (S3.out.below b1); replace S4 := Box.mk (S4.out.below b1); replace S5 := Box.mk (tab_bel S5.out b1); replace S6 := Box.mk (bel S6.out b1); clear b1))
    | (go_at_call 9; ((with_reducible refine (SM.out _ _ P6.out _ _ _ HA.out HB.out).mono ?_); rintro e w1 ⟨rfl, b1⟩; replace S1 := Box.mk (S1.out.below b1); replace S2 := Box.mk (S2.out.below b1); replace S3 := Box.mk (S3.out.below b1); replace S4 := Box.mk (S4.out.below b1); replace S5 := Box.mk (tab_bel S5.out b1); replace S6 := Box.mk (bel S6.out b1); clear b1))
    | (go_at_call 9; ((with_reducible refine (SM.out _ _ P7.out _ _ _ HA.out HB.out).mono ?_); rintro e w1 ⟨rfl, b1⟩; replace S1 := Box.mk (S1.out.below b1); replace S2 := Box.mk (S2.out.below b1); replace S3 := Box.mk (S3.out.below b1); replace S4 := Box.mk (S4.out.below b1); replace S5 := Box.mk (tab_bel S5.out b1); replace S6 := Box.mk (bel S6.out b1); clear b1)))
  go_ret
  exact ⟨rfl, S6.out⟩
end Go.Proofs.YtbcbhofbikdfiaaDoor
