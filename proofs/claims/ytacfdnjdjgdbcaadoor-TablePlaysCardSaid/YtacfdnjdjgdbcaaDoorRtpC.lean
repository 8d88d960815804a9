/- Tables: ordeallaw22.TablePlays. -/
import Derived.Test.YtacfdnjdjgdbcaaDoorRtpB
import Derived.Test.YtacfdnjdjgdbcaaDoorTh
import Derived.BigQuiet
namespace Go.Proofs.YtacfdnjdjgdbcaaDoor
set_option maxRecDepth 100000
open Go.RowKit Go.Maps Go.Sort M

/-- what stands while the law goes on -/
structure PlT (w W : World) (kb : Nat) (C : List Value) (a : Nat) (mo : Option Nat) (l R : List Ent) (v : Value) (b : Nat) (no : Option Nat) (m Q : List Ent) (u : Value) : Prop where
  t1 : Tab W a mo l
  r1 : RefIn W v R
  t2 : Tab W b no m
  r2 : RefIn W u Q
  kr : W.rangeAt kb 0 C
  bel : Below w.heap.size w W
theorem PlT.below {w W X : World} {kb : Nat} {C : List Value} {a : Nat} {mo : Option Nat} {l R : List Ent} {v : Value} {b : Nat} {no : Option Nat} {m Q : List Ent} {u : Value} (h : PlT w W kb C a mo l R v b no m Q u) (hb : Below W.heap.size W X) : PlT w X kb C a mo l R v b no m Q u :=
  ⟨h.t1.below hb, h.r1.below hb, h.t2.below hb, h.r2.below hb, range_below hb h.kr, h.bel.trans (hb.mono h.bel.size)⟩
theorem list32k : ∀ (A : List Value), A.length = 32 → ∃ a0 a1 a2 a3 a4 a5 a6 a7 a8 a9 a10 a11 a12 a13 a14 a15 a16 a17 a18 a19 a20 a21 a22 a23 a24 a25 a26 a27 a28 a29 a30 a31, A = [a0, a1, a2, a3, a4, a5, a6, a7, a8, a9, a10, a11, a12, a13, a14, a15, a16, a17, a18, a19, a20, a21, a22, a23, a24, a25, a26, a27, a28, a29, a30, a31]
  | a0 :: a1 :: a2 :: a3 :: a4 :: a5 :: a6 :: a7 :: a8 :: a9 :: a10 :: a11 :: a12 :: a13 :: a14 :: a15 :: a16 :: a17 :: a18 :: a19 :: a20 :: a21 :: a22 :: a23 :: a24 :: a25 :: a26 :: a27 :: a28 :: a29 :: a30 :: a31 :: [], _ => ⟨a0, a1, a2, a3, a4, a5, a6, a7, a8, a9, a10, a11, a12, a13, a14, a15, a16, a17, a18, a19, a20, a21, a22, a23, a24, a25, a26, a27, a28, a29, a30, a31, rfl⟩
theorem slice_two (G C : List Value) (hG : G.length = 32) (hC : C.length = 32) (w : World) : (Instr.buildSlice 36 2 #[(0, .agg G.toArray), (1, .agg C.toArray)]).run Tryd.prog w = .ok (.slice (some ⟨w.heap.size, 0, none⟩) 2 2) (w.alloc (.cells (G ++ C).toArray 24)) := by
  obtain ⟨a0, a1, a2, a3, a4, a5, a6, a7, a8, a9, a10, a11, a12, a13, a14, a15, a16, a17, a18, a19, a20, a21, a22, a23, a24, a25, a26, a27, a28, a29, a30, a31, rfl⟩ := list32k C hC
  obtain ⟨g0, g1, g2, g3, g4, g5, g6, g7, g8, g9, g10, g11, g12, g13, g14, g15, g16, g17, g18, g19, g20, g21, g22, g23, g24, g25, g26, g27, g28, g29, g30, g31, rfl⟩ := list32k G hG
  kernel_rfl
theorem step_slice2 {P : Program} {ops : Array Oper} {o : Oper} {a : Act} {w : World} {K : Act → World → Prop} {Q : Exit → Act → World → Prop} {E : Prop} (hgd : o.guard = none) (t : TypeId) (x y : Operand) (ho : o.op = .buildSlice t 2 #[(0, x), (1, y)]) (vx vy : Value) (hx : a.eval x = vx) (hy : a.eval y = vy) (v : Value) (w' : World) (hr : (Instr.buildSlice t 2 #[(0, vx), (1, vy)]).run P w = .ok v w') (h : K (a.put o.dst v) w') :
    if Region.wanted o (yielded ops a.tmps) = true then Oper.wp P o a w K Q else E := by
  have hw : Region.wanted o (yielded ops a.tmps) = true := by simp [Region.wanted, hgd]
  rw [if_pos hw]
  unfold Oper.wp execOp
  simp [ho, hx, hy, hr, Result.andThen]
  exact h
theorem beq_of_iff {b c : Bool} (h : b = true ↔ c = true) : b = c := by cases b <;> cases c <;> simp_all

set_option maxRecDepth 100000 in
set_option maxHeartbeats 8000000 in
theorem tablePlays_walk (va vb : Value) (na nb : Nat) (A0 B0 A1 B1 : Nat → ByteArray) (name : ByteArray) (K : List Nat) (hKl : K.length = 32) (hKb : ∀ d ∈ K, d < 256) (w : World) (h0 : IIn w va na A0 B0) (h1 : IIn w vb nb A1 B1) (m0 : na ≤ 9223372036854775807) (m1 : nb ≤ 9223372036854775807) (hK : KTab w) :
    Calls Tryd.prog 3 #[va, vb, .string name, .agg (byts K).toArray] w fun e w' => e = .returned (.bool true) ∧ Below w.heap.size w w' := by
  obtain ⟨xp0, xc0, rfl⟩ := h0.shape
  obtain ⟨xp1, xc1, rfl⟩ := h1.shape
  obtain ⟨C, hC⟩ : ∃ C, C = byts K := ⟨_, rfl⟩
  have hCl : C.length = 32 := by rw [hC, byts_length]; exact hKl
  have hC1 : ∀ u ∈ C, u.oneCell' = true := by rw [hC]; exact byts_one K
  obtain ⟨W0, hW0⟩ : ∃ W, W = w.alloc (.cells C.toArray 24) := ⟨_, rfl⟩
  have b0 : Below w.heap.size w W0 := by rw [hW0]; exact aset22 _ _
  have k0 : W0.rangeAt w.heap.size 0 C := by rw [hW0]; exact range_new _ _ _ _ rfl
  have cg1 := grow_any _ na A0 B0 W0 (h0.below b0) m0 (ktab_below hK b0)
  have cg2 := fun W (hb : Below w.heap.size w W) => grow_any _ nb A1 B1 W (h1.below hb) m1 (ktab_below hK hb)
  have caw := fun W (h : KTab W) => awake22_any W h
  have hbb : ∀ b : Bool, (b != b) = false := fun b => by cases b <;> rfl
  have CG1 := Box.mk cg1; have CG2 := Box.mk cg2; have CA := Box.mk caw; have HK := Box.mk hK; have B0 := Box.mk b0; have K0 := Box.mk k0; have HW0 := Box.mk hW0; have HC := Box.mk hC; have HKL := Box.mk hKl; have HKB := Box.mk hKb
  rw [← hC]
  clear cg1 cg2 caw hK b0 k0 hW0 hC h0 h1 m0 m1 hKl hKb
  go_enter Tryd.func3, Tryd.ntmps3
  go_upto_region 3 with (first
    | (go_at_call 4; (rw [← HW0.out]; (with_reducible refine CG1.out.mono ?_); rintro e w1 ⟨tb1, mo1, l1, v1, R1, rfl, t1, r1, p1, u1, s1, bb1, _, _, _⟩; obtain ⟨vp1, vc1, rfl⟩ := r1.val; have T1 := Box.mk t1; have R1i := Box.mk r1; have P1 := Box.mk p1; have U1 := Box.mk u1; have S1 := Box.mk s1; have B1 := Box.mk (B0.out.trans (bb1.mono B0.out.size)); have K1 := Box.mk (range_below bb1 K0.out); clear t1 r1 p1 u1 s1 bb1 CG1 K0))
    | (go_at_call 4; ((with_reducible refine (CG2.out _ B1.out).mono ?_); rintro e w2 ⟨tb2, mo2, l2, v2, R2, rfl, t2, r2, p2, u2, s2, bb2, _, _, _⟩; obtain ⟨vp2, vc2, rfl⟩ := r2.val; have P2 := Box.mk p2; have U2 := Box.mk u2; have S2 := Box.mk s2; have X2 := Box.mk (show PlT w w2 w.heap.size C tb1 mo1 l1 R1 (.slice vp1 R1.length vc1) tb2 mo2 l2 R2 (.slice vp2 R2.length vc2) from ⟨T1.out.below bb2, R1i.out.below bb2, t2, r2, range_below bb2 K1.out, B1.out.trans (bb2.mono B1.out.size)⟩); clear t2 r2 p2 u2 s2 bb2 CG2 K1 T1 R1i)))
  have hl1 : l1.length ≤ 12 := by have := S1.out.length_le; rw [itL_length] at this; omega
  have hl2 : l2.length ≤ 12 := by have := S2.out.length_le; rw [itL_length] at this; omega
  have hr1 : R1.length ≤ 12 := by have := P1.out.length_eq; omega
  have hr2 : R2.length ≤ 12 := by have := P2.out.length_eq; omega
  have ht1 : ∀ x ∈ l1, x.text.size ≤ 1000 := fun x hx => by have := itL_text S1.out x hx; omega
  have HT1 := Box.mk ht1; have LL := Box.mk (And.intro hl1 (And.intro hl2 (And.intro hr1 hr2)))
  clear ht1 hl1 hl2 hr1 hr2 S1 S2 B1 HW0 B0
  go_upto_region 5 with (first
    | (go_at_call 5; ((with_reducible refine (CA.out _ (ktab_below HK.out X2.out.bel)).mono ?_); rintro e w3 ⟨rfl, b3⟩; have X3 := Box.mk (X2.out.below b3); clear b3))
    | (go_at_call 6; ((with_reducible refine (same_any tb1 mo1 l1 R1 _ _ X3.out.t1 X3.out.r1 P1.out U1.out (by have := LL.out.2.2.1; omega)).mono ?_); rintro e w4 ⟨rfl, b4⟩; have X4 := Box.mk (X3.out.below b4); clear b4))
    | (go_at_call 6; ((with_reducible refine (same_any tb2 mo2 l2 R2 _ _ X4.out.t2 X4.out.r2 P2.out U2.out (by have := LL.out.2.2.2; omega)).mono ?_); rintro e w5 ⟨rfl, b5⟩; have X5 := Box.mk (X4.out.below b5); clear b5))
    | (go_at_call 7; ((with_reducible refine (within_any tb1 mo1 l1 tb2 mo2 l2 _ X5.out.t1 X5.out.t2).mono ?_); rintro e w6 ⟨β, rfl, hβ, b6⟩; have HB1 := Box.mk hβ; have X6 := Box.mk (X5.out.below b6); clear b6 hβ))
    | (go_at_call 8; ((with_reducible refine (rwithin_any R1 R2 _ _ _ X6.out.r1 X6.out.r2 U2.out (by have := LL.out.2.2.1; omega) (by have := LL.out.2.2.2; omega)).mono ?_); rintro e w7 ⟨γ, rfl, hγ, b7⟩; have hbg : γ = β := beq_of_iff (hγ.trans (Iff.trans ⟨fun h x hx => P2.out.mem_iff.1 (h x (P1.out.mem_iff.2 hx)), fun h x hx => P2.out.mem_iff.2 (h x (P1.out.mem_iff.1 hx))⟩ HB1.out.symm)); subst hbg; have X7 := Box.mk (X6.out.below b7); clear b7 hγ HB1))
    | (go_at_call 9; ((with_reducible refine (tclone_any tb1 mo1 l1 _ X7.out.t1).mono ?_); rintro e w8 ⟨tb3, mo3, rfl, t3, b8⟩; have T3 := Box.mk t3; have X8 := Box.mk (X7.out.below b8); clear b8 t3))
    | (go_at_call 6; ((with_reducible refine (same_any tb3 mo3 l1 R1 _ _ T3.out X8.out.r1 P1.out U1.out (by have := LL.out.2.2.1; omega)).mono ?_); rintro e w9 ⟨rfl, b9⟩; have X9 := Box.mk (X8.out.below b9); clear b9 T3)))
  have ccu := fun W => cut_any name 20 W
  rw [show ((20 : Nat) : Int) = 20 from rfl] at ccu
  obtain ⟨N, hN⟩ : ∃ N, N = name.extract 0 20 := ⟨_, rfl⟩
  have hNs : N.size ≤ 20 := by rw [hN, ByteArray.size_extract]; omega
  rw [← hN] at ccu
  have cs := fun W (h : KTab W) => shaOf_any N (by omega) W h
  obtain ⟨D, hD⟩ : ∃ D, D = shaN (sb N) := ⟨_, rfl⟩
  have hDl : D.length = 32 := by rw [hD]; exact shaN_length _
  have hDb : ∀ d ∈ D, d < 256 := by rw [hD]; exact shaN_lt _
  rw [← hD] at cs
  have hGl : (byts D).length = 32 := by rw [byts_length]; exact hDl
  have hG1 := byts_one D
  obtain ⟨G, hG⟩ : ∃ G, G = byts D := ⟨_, rfl⟩
  rw [← hG] at cs hGl hG1
  have CCU := Box.mk ccu; have CS := Box.mk cs; have HD := Box.mk (And.intro hDl hDb); have HG := Box.mk hG
  clear ccu cs hN hNs hD hDl hDb hG
  refine wp_region_held_drew (S := fun W => PlT w W w.heap.size C tb1 mo1 l1 R1 (.slice vp1 R1.length vc1) tb2 mo2 l2 R2 (.slice vp2 R2.length vc2)) (by kernel_rfl) (X9.out.below (Below.refl _ _).drew) (fun hHeld => ?_)
  refine wpAnyH_take (i := 0) (v := .string name) rfl (by kernel_rfl) (by kernel_rfl) (by kernel_rfl) (fun _ _ _ h => h) (Or.inl ⟨by rfl, fun w' _ => by go_simp; try rfl⟩) hHeld ?_
  (try simp only [Act.put, List.getElem_toArray, List.getElem_cons_zero, List.setIfInBounds_toArray, List.set_cons_zero, List.set_cons_succ])
  refine wpAnyH_take (i := 3) (v := .agg C.toArray) rfl (by kernel_rfl) (by kernel_rfl) (by kernel_rfl) (fun _ _ _ h => h) (yieldsIf_load_mid (by rfl) _ _ rfl _ _ rfl C _ (fun w' h => h.kr) und_hash rfl (by rw [hCl]; exact info_hash)) hHeld ?_
  (try simp only [Act.put, List.getElem_toArray, List.getElem_cons_succ, List.getElem_cons_zero, List.setIfInBounds_toArray, List.set_cons_zero, List.set_cons_succ])
  refine wpAnyH_take (i := 6) (v := .int .i64 0) rfl (by kernel_rfl) (by kernel_rfl) (by kernel_rfl) (fun _ _ _ h => h) (Or.inl ⟨by rfl, fun w' _ => by go_simp; try rfl⟩) hHeld ?_
  (try simp only [Act.put, List.getElem_toArray, List.getElem_cons_succ, List.getElem_cons_zero, List.setIfInBounds_toArray, List.set_cons_zero, List.set_cons_succ])
  refine wpAnyH_ready (rs := [1]) (by kernel_rfl) (by simp) ?_
  refine AllReadyH.cons rfl (fun K' hK' => ?_) AllReadyH.nil
  go_simp
  go_at_call 11; ((with_reducible refine (CCU.out _).mono ?_); rintro e w10 ⟨rfl, rfl⟩)
  refine hK'.out _ _ hHeld (fun hHeld => ?_)
  clear hK' K'
  (try simp only [Act.put, List.getElem_toArray, List.getElem_cons_succ, List.getElem_cons_zero, List.setIfInBounds_toArray, List.set_cons_zero, List.set_cons_succ])
  refine wpAnyH_ready (rs := [2]) (by kernel_rfl) (by simp) ?_
  refine AllReadyH.cons rfl (fun K' hK' => ?_) AllReadyH.nil
  go_simp
  go_at_call 10; ((with_reducible refine (CS.out _ (ktab_below HK.out hHeld.bel)).mono ?_); rintro e w11 ⟨rfl, b11⟩)
  refine hK'.out _ _ (hHeld.below b11) (fun hHeld => ?_)
  clear hK' K' b11
  (try simp only [Act.put, List.getElem_toArray, List.getElem_cons_succ, List.getElem_cons_zero, List.setIfInBounds_toArray, List.set_cons_zero, List.set_cons_succ])
  refine wpAnyH_ready (rs := [4]) (by kernel_rfl) (by simp) ?_
  refine AllReadyH.cons rfl (fun K' hK' => ?_) AllReadyH.nil
  refine step_slice2 (by rfl) _ _ _ (by rfl) (.agg G.toArray) (.agg C.toArray) (by rfl) (by rfl) _ _ (slice_two G C hGl hCl w11) ?_
  have hr12 : (w11.alloc (.cells (G ++ C).toArray 24)).rangeAt w11.heap.size 0 (G ++ C) := range_new _ _ _ _ rfl
  refine hK'.out _ _ (hHeld.below (aset22 _ _)) (fun hHeld => ?_)
  clear hK' K'
  (try simp only [Act.put, List.getElem_toArray, List.getElem_cons_succ, List.getElem_cons_zero, List.setIfInBounds_toArray, List.set_cons_zero, List.set_cons_succ])
  refine wpAnyH_take (i := 5) (v := .int .i64 2) rfl (by kernel_rfl) (by kernel_rfl) (by kernel_rfl) (fun _ _ _ h => h) (Or.inl ⟨by rfl, fun w' _ => by go_simp; try rfl⟩) hHeld ?_
  refine wpAnyH_done (by kernel_rfl) ?_ _
  obtain ⟨W12, hW12⟩ : ∃ W, W = w11.alloc (.cells (G ++ C).toArray 24) := ⟨_, rfl⟩
  obtain ⟨sb12, hsb⟩ : ∃ b, b = w11.heap.size := ⟨_, rfl⟩
  rw [← hW12] at hHeld hr12
  rw [← hsb] at hr12
  rw [← hW12, ← hsb]
  have X12 := Box.mk hHeld; have RK := Box.mk hr12
  clear hHeld hr12 hW12 hsb X9
  (try simp only [Act.put, List.getElem_toArray, List.getElem_cons_succ, List.getElem_cons_zero, List.setIfInBounds_toArray, List.set_cons_zero, List.set_cons_succ])
  go_wp2_with fail
  go_loopw [64] (fun i wr => ∃ k : Nat, i = .int .i64 (k : Int) ∧ k ≤ 2 ∧ Box (PlT w wr w.heap.size C tb1 mo1 l1 R1 (.slice vp1 R1.length vc1) tb2 mo2 l2 R2 (.slice vp2 R2.length vc2)) ∧ Box (wr.rangeAt sb12 0 (G ++ C))) (fun i _ => 2 - (intOf i).toNat)
  case atStart => exact ⟨0, rfl, by omega, X12, RK⟩
  case round =>
    obtain ⟨k, rfl, hk, hx, hg⟩ := hrel
    clear X12 RK
    by_cases hlt : k < 2
    · obtain ⟨Q, hQl, hQb, hrq⟩ : ∃ Q : List Nat, Q.length = 32 ∧ (∀ d ∈ Q, d < 256) ∧ wr.rangeAt sb12 (k * 32) (byts Q) := by
        rcases (by omega : k = 0 ∨ k = 1) with rfl | rfl
        · refine ⟨D, HD.out.1, HD.out.2, fun j u hu => ?_⟩
          have hj : j < G.length := by rw [← HG.out] at hu; exact (List.getElem?_eq_some_iff.1 hu).1
          have := hg.out j u (by rw [List.getElem?_append_left hj, HG.out]; exact hu)
          simpa using this
        · refine ⟨K, HKL.out, HKB.out, fun j u hu => ?_⟩
          have := hg.out (32 + j) u (by rw [List.getElem?_append_right (by omega), hGl, Nat.add_sub_cancel_left, HC.out]; exact hu)
          simpa [Nat.add_assoc] using this
      obtain ⟨x, hxe⟩ : ∃ x : Ent, x = ⟨Q, ⟨#[]⟩, hQl, hQb⟩ := ⟨_, rfl⟩
      have hxk : x.key = Q := by rw [hxe]
      have hcv0 : ∀ W : World, W.rangeAt wr.heap.size 0 (byts Q) → (convert 40 9 (.slice (some ⟨wr.heap.size, 0, none⟩) 32 32)).run Tryd.prog W = .ok (.string (bs Q)) W := fun W h => conv_rangeI (cap := 32) hQl h
      have hq32 : (byts Q).length = 32 := by rw [byts_length]; exact hQl
      have hq1 := byts_one Q
      have hk0 : (0 : Int) ≤ (k : Int) := by omega
      have hk2 : (k : Int) < 2 := by omega
      have ht32 : ∀ Z : Array Value, Z.size = 32 → (wr.alloc (.cells Z 24)).there wr.heap.size 0 32 := fun Z hZ => by
        have := there_new wr 24 Z.toList wr.heap.size 0 32 rfl (by simp [hZ])
        simpa using this
      have cgt0 : ∀ W y, Tab W tb1 mo1 l1 → y ∈ l1 → y.key = Q → Calls Tryd.prog 12 #[.pointer (some ⟨tb1, 0, none⟩), .agg (byts Q).toArray] W fun e w' => e = .returned (.tuple #[.string y.text, .bool true]) ∧ Below W.heap.size W w' := fun W y ht hy hk => by
        have c := get_there tb1 mo1 l1 x y W ht hy (kkE_of (hk.trans hxk.symm))
        unfold ekE at c
        rw [hxk] at c
        exact c
      have cgn0 : ∀ W, Tab W tb1 mo1 l1 → (∀ y ∈ l1, y.key ≠ Q) → Calls Tryd.prog 12 #[.pointer (some ⟨tb1, 0, none⟩), .agg (byts Q).toArray] W fun e w' => e = .returned (.tuple #[.string ⟨#[]⟩, .bool false]) ∧ Below W.heap.size W w' := fun W ht hn => by
        have c := get_none tb1 mo1 l1 x W ht (fun y h1 h2 => hn y h1 ((kkE_eq h2).trans hxk))
        unfold ekE at c
        rw [hxk] at c
        exact c
      have cf0 : ∀ W, RefIn W (.slice vp1 R1.length vc1) R1 → Calls Tryd.prog 13 #[.slice vp1 R1.length vc1, .string (bs Q)] W (FindP R1 x W) := fun W h => by
        have c := tfind_any R1 x _ W h (by have := LL.out.2.2.1; omega)
        rw [hxk] at c
        exact c
      obtain ⟨Cq, hCq⟩ : ∃ Cq, Cq = byts Q := ⟨_, rfl⟩
      rw [← hCq] at hrq hcv0 hq32 hq1 cgt0 cgn0
      obtain ⟨SQ, hSQ⟩ : ∃ SQ, SQ = bs Q := ⟨_, rfl⟩
      rw [← hSQ] at hcv0 cf0
      obtain ⟨W13, hW13⟩ : ∃ W, W = wr.alloc (.cells Cq.toArray 24) := ⟨_, rfl⟩
      have b13 : Below wr.heap.size wr W13 := by rw [hW13]; exact aset22 _ _
      have r13 : W13.rangeAt wr.heap.size 0 Cq := by rw [hW13]; exact range_new _ _ _ _ rfl
      have X13 := Box.mk (hx.out.below b13); have G13 := Box.mk (range_below b13 hg.out); have R13 := Box.mk r13; have HW13 := Box.mk hW13; have HCV := Box.mk hcv0
      by_cases hin : ∃ y ∈ l1, y.key = Q
      · obtain ⟨y, hy, hyk⟩ := hin
        have cgt : ∀ W, PlT w W w.heap.size C tb1 mo1 l1 R1 (.slice vp1 R1.length vc1) tb2 mo2 l2 R2 (.slice vp2 R2.length vc2) → Calls Tryd.prog 12 #[.pointer (some ⟨tb1, 0, none⟩), .agg Cq.toArray] W fun e w' => e = .returned (.tuple #[.string y.text, .bool true]) ∧ Below W.heap.size W w' := fun W h => cgt0 W y h.t1 hy hyk
        have cfi : ∀ W, PlT w W w.heap.size C tb1 mo1 l1 R1 (.slice vp1 R1.length vc1) tb2 mo2 l2 R2 (.slice vp2 R2.length vc2) → Calls Tryd.prog 13 #[.slice vp1 R1.length vc1, .string SQ] W fun e w' => ∃ i : Nat, e = .returned (.int .i64 (i : Int)) ∧ R1[i]? = some y ∧ Below W.heap.size W w' := fun W h => (cf0 W h.r1).mono fun e w' ⟨hb, hh⟩ => by
          have hyr : y ∈ R1 := P1.out.mem_iff.2 hy
          rcases hh with ⟨_, hno⟩ | ⟨i, z, he, hi, hz⟩
          · exact absurd (hyk.trans hxk.symm) (hno y hyr)
          · have : z = y := rising_key U1.out (List.mem_of_getElem? hi) hyr (hz.trans (hxk.trans hyk.symm))
            exact ⟨i, he, by rw [hi, this], hb⟩
        have hyr : y ∈ R1 := P1.out.mem_iff.2 hy
        have hrl : 0 < R1.length := List.length_pos_of_mem hyr
        obtain ⟨rg, rc, hv, _, _⟩ := hx.out.r1.cells hrl
        obtain ⟨rfl, _, rfl⟩ := Value.slice.inj hv
        have CGT := Box.mk cgt; have CFI := Box.mk cfi
        have hss := str_beq y.text y.text
        rw [decide_eq_true rfl] at hss
        clear cgt cfi cgt0 cgn0 cf0 hcv0 hxk hxe hCq hSQ hW13 b13 r13 hv hyr hy hyk hQl hQb hx hg
        go_upto_region 10 with (first
          | ((with_reducible refine at_load 24 (.tmp 66) ?_); refine wpList_load_mid rfl 24 (.tmp 66) rfl sb12 (k * 32) (by first | rfl | simp) Cq _ hrq und_hash rfl (by rw [hq32]; exact info_hash) ?_)
          | ((with_reducible refine at_store 24 (.tmp 14) (.tmp 67) ?_); refine wpList_store_mid rfl 24 (.tmp 14) (.tmp 67) rfl wr.heap.size 0 Cq.toArray rfl rfl (by have e : Cq.toArray.size = 32 := (by simp [hq32]); rw [e]; exact ht32 _ rfl) (by have e : Cq.toArray.size = 32 := (by simp [hq32]); rw [e]; exact info_hash) (all_oneCell_toArray hq1) ?_; rw [show (wr.alloc _).setCells wr.heap.size 0 Cq.toArray.toList = W13 from (by rw [HW13.out]; exact fillE wr _ _ _ (by simp [hq32]))])
          | ((with_reducible refine at_load 24 (.tmp 14) ?_); refine wpList_load_mid rfl 24 (.tmp 14) rfl wr.heap.size 0 rfl Cq _ R13.out und_hash rfl (by rw [hq32]; exact info_hash) ?_)
          | (go_at_call 12; ((with_reducible refine (CGT.out _ X13.out).mono ?_); rintro e w14 ⟨rfl, b14⟩; have X14 := Box.mk (X13.out.below b14); have R14 := Box.mk (range_below b14 R13.out); have G14 := Box.mk (range_below b14 G13.out); have hcv := HCV.out w14 R14.out; clear b14))
          | (go_at_call 13; ((with_reducible refine (CFI.out _ X14.out).mono ?_); rintro e w15 ⟨i, rfl, hi, b15⟩; have X15 := Box.mk (X14.out.below b15); have G15 := Box.mk (range_below b15 G14.out); have HI := Box.mk hi; clear b15 hi)))
        have i0 : i < R1.length := (List.getElem?_eq_some_iff.1 HI.out).1
        have i1 : (0 : Int) ≤ (i : Int) := by omega
        have i2 : (i : Int) < (R1.length : Int) := by omega
        have i3 : decide ((0 : Int) ≤ (i : Int)) = true := decide_eq_true i1
        have tx : w15.cell? ⟨rg, i * 2 + 1, none⟩ = some (.string y.text) := by
          obtain ⟨g3, c3, hv3, _, hc3⟩ := X15.out.r1.cells hrl
          obtain ⟨e3, _, _⟩ := Value.slice.inj hv3
          injection e3 with e3
          injection e3 with e3
          rw [e3]; exact (hc3 i y HI.out).2
        go_wp2_with fail
        go_roundw
        case rel => exact ⟨k + 1, by go_num, by omega, X15, G15⟩
        case measure => simp [intOf]; omega
      · have hno : ∀ y ∈ l1, y.key ≠ Q := fun y h1 h2 => hin ⟨y, h1, h2⟩
        have cgt : ∀ W, PlT w W w.heap.size C tb1 mo1 l1 R1 (.slice vp1 R1.length vc1) tb2 mo2 l2 R2 (.slice vp2 R2.length vc2) → Calls Tryd.prog 12 #[.pointer (some ⟨tb1, 0, none⟩), .agg Cq.toArray] W fun e w' => e = .returned (.tuple #[.string ⟨#[]⟩, .bool false]) ∧ Below W.heap.size W w' := fun W h => cgn0 W h.t1 hno
        have cfi : ∀ W, PlT w W w.heap.size C tb1 mo1 l1 R1 (.slice vp1 R1.length vc1) tb2 mo2 l2 R2 (.slice vp2 R2.length vc2) → Calls Tryd.prog 13 #[.slice vp1 R1.length vc1, .string SQ] W fun e w' => e = .returned (.int .i64 (-1)) ∧ Below W.heap.size W w' := fun W h => (cf0 W h.r1).mono fun e w' ⟨hb, hh⟩ => by
          rcases hh with ⟨he, _⟩ | ⟨i, z, he, hi, hz⟩
          · exact ⟨he, hb⟩
          · exact absurd (hz.trans hxk) (hno z (P1.out.mem_iff.1 (List.mem_of_getElem? hi)))
        have CGT := Box.mk cgt; have CFI := Box.mk cfi
        clear cgt cfi cgt0 cgn0 cf0 hcv0 hxk hxe hCq hSQ hW13 b13 r13 hno hin hQl hQb hx hg
        go_upto_region 10 with (first
          | ((with_reducible refine at_load 24 (.tmp 66) ?_); refine wpList_load_mid rfl 24 (.tmp 66) rfl sb12 (k * 32) (by first | rfl | simp) Cq _ hrq und_hash rfl (by rw [hq32]; exact info_hash) ?_)
          | ((with_reducible refine at_store 24 (.tmp 14) (.tmp 67) ?_); refine wpList_store_mid rfl 24 (.tmp 14) (.tmp 67) rfl wr.heap.size 0 Cq.toArray rfl rfl (by have e : Cq.toArray.size = 32 := (by simp [hq32]); rw [e]; exact ht32 _ rfl) (by have e : Cq.toArray.size = 32 := (by simp [hq32]); rw [e]; exact info_hash) (all_oneCell_toArray hq1) ?_; rw [show (wr.alloc _).setCells wr.heap.size 0 Cq.toArray.toList = W13 from (by rw [HW13.out]; exact fillE wr _ _ _ (by simp [hq32]))])
          | ((with_reducible refine at_load 24 (.tmp 14) ?_); refine wpList_load_mid rfl 24 (.tmp 14) rfl wr.heap.size 0 rfl Cq _ R13.out und_hash rfl (by rw [hq32]; exact info_hash) ?_)
          | (go_at_call 12; ((with_reducible refine (CGT.out _ X13.out).mono ?_); rintro e w14 ⟨rfl, b14⟩; have X14 := Box.mk (X13.out.below b14); have R14 := Box.mk (range_below b14 R13.out); have G14 := Box.mk (range_below b14 G13.out); have hcv := HCV.out w14 R14.out; clear b14))
          | (go_at_call 13; ((with_reducible refine (CFI.out _ X14.out).mono ?_); rintro e w15 ⟨rfl, b15⟩; have X15 := Box.mk (X14.out.below b15); have G15 := Box.mk (range_below b15 G14.out); clear b15)))
        go_wp2_with fail
        go_roundw
        case rel => exact ⟨k + 1, by go_num, by omega, X15, G15⟩
        case measure => simp [intOf]; omega
    · have hk2 : ¬ (k : Int) < 2 := by omega
      have hkd : decide ((k : Int) < 2) = false := decide_eq_false hk2
      have hss := str_beq (bs (bytT R1)) (bs (bytT R1))
      rw [decide_eq_true rfl] at hss
      have htr : ∀ x ∈ R1, x.text.size ≤ 1000 := fun x h => HT1.out x (P1.out.mem_iff.1 h)
      have HTR := Box.mk htr
      clear htr
      go_wp2_with (first
        | (go_at_call 14; ((with_reducible refine (tbytes_any tb1 mo1 l1 _ hx.out.t1 (by have := LL.out.1; omega) HT1.out (ktab_below HK.out hx.out.bel)).mono ?_); rintro e w16 ⟨ys, hp, hrs, rfl, b16⟩; have hy : R1 = ys := (trising_one (hp.trans P1.out.symm) hrs U1.out).symm; subst hy; have X16 := Box.mk (hx.out.below b16); clear hp hrs b16))
        | (go_at_call 16; ((with_reducible refine (made_rows _).mono ?_); rintro e w17 ⟨⟨gs, cs, gk, ck, rfl, r1, r2, _, _⟩, b17⟩; have R17 := Box.mk (And.intro r1 r2); have X17 := Box.mk (X16.out.below b17); clear r1 r2 b17))
        | (go_at_call 15; ((with_reducible refine (refTBytes_any R1 _ _ _ _ _ _ X17.out.r1 R17.out.1 R17.out.2 (by have := LL.out.2.2.1; omega) HTR.out).mono ?_); rintro e w18 ⟨rfl, b18⟩; have X18 := Box.mk (X17.out.below b18); clear b18)))
      go_ret
      exact ⟨rfl, X18.out.bel⟩
end Go.Proofs.YtacfdnjdjgdbcaaDoor
