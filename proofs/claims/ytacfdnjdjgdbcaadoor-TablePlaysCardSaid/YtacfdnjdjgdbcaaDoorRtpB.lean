/- Tables' reference: Bytes. -/
import Derived.Test.YtacfdnjdjgdbcaaDoorRtpA
namespace Go.Proofs.YtacfdnjdjgdbcaaDoor
set_option maxRecDepth 100000
open Go.RowKit Go.Maps Go.Sort M

theorem hold {w w' : World} {a : Addr} {v : Value} (h : w.cell? a = some v) (hb : Below w.heap.size w w') : w'.cell? a = some v := by
  rw [hb.cell (World.block_lt_of_cell? w _ h)]; exact h
set_option maxRecDepth 100000 in
set_option maxHeartbeats 4000000 in
theorem refTBytes_any (R : List Ent) (v : Value) (gs cs gk ck : Nat) (w : World) (h : RefIn w v R) (hS : Row32 w gs 8 (v8l iV)) (hK : Row32 w gk 64 kN) (hR : R.length ≤ 100) (ht : ∀ x ∈ R, x.text.size ≤ 1000) :
    Calls Tryd.prog 15 #[.agg #[.slice (some ⟨gs, 0, none⟩) 8 cs, .slice (some ⟨gk, 0, none⟩) 64 ck], v] w fun e w' => e = .returned (.string (bs (bytT R))) ∧ Below w.heap.size w w' := by
  obtain ⟨vp, vc, rfl⟩ := h.val
  obtain ⟨n, hn⟩ : ∃ n, n = R.length := ⟨_, rfl⟩
  obtain ⟨W0, hW0⟩ : ∃ W, W = w.alloc (.cells #[.slice (some ⟨gs, 0, none⟩) 8 cs, .slice (some ⟨gk, 0, none⟩) 64 ck] 47) := ⟨_, rfl⟩
  have b0 : Below w.heap.size w W0 := by rw [hW0]; exact aset22 _ _
  have t0 : W0.heap[w.heap.size]? = some (.cells #[.slice (some ⟨gs, 0, none⟩) 8 cs, .slice (some ⟨gk, 0, none⟩) 64 ck] 47 (0, 0)) := by rw [hW0]; exact heap_alloc_new w _
  have s0 : W0.heap.size = w.heap.size + 1 := by rw [hW0]; simp
  have q0 : W0.cell? ⟨w.heap.size, 0, none⟩ = some (.slice (some ⟨gs, 0, none⟩) 8 cs) := by simp only [World.cell?, t0]; rfl
  have q1 : W0.cell? ⟨w.heap.size, 1, none⟩ = some (.slice (some ⟨gk, 0, none⟩) 64 ck) := by simp only [World.cell?, t0]; rfl
  have r0 := hS.below b0 (hS.lt (by decide))
  have r1 := hK.below b0 (hK.lt (by decide))
  have um : IntKind.u64.wrap (n : Int) = (n : Int) := u64small (by omega)
  have cn := fun W => refNum_any n (by omega) W
  have hnl := numL_length n
  have e0 : (⟨#[79, 82, 68, 69, 65, 76, 84, 49]⟩ : ByteArray) ++ bs (numL n) = bs (preL R 0) := by
    unfold preL
    rw [← hn, List.take_zero, List.flatMap_nil, List.append_nil, show (⟨#[79, 82, 68, 69, 65, 76, 84, 49]⟩ : ByteArray) = bs magL by rw [← mag_sb, bs_list], bs_append]
  have p0 : (bs (preL R 0)).size ≤ 200000 := by rw [bs_size]; exact preL_len R 0 hR ht
  have co : ∀ W, Below w.heap.size w W → Calls Tryd.prog 30 #[.agg #[.slice (some ⟨gs, 0, none⟩) 8 cs, .slice (some ⟨gk, 0, none⟩) 64 ck], .string (bs (preL R n))] W fun e w' => e = .returned (.string (bs (shaN (preL R n)))) ∧ Below W.heap.size W w' := fun W hb => by
    have c := refOf_any (bs (preL R n)) (by rw [bs_size]; have := preL_len R n hR ht; omega) gs cs gk ck W (hS.below hb (hS.lt (by decide))) (hK.below hb (hK.lt (by decide)))
    unfold OfP at c
    rw [sb_bs _ (preL_lt R n)] at c
    exact c
  have fin : bs (preL R n) ++ bs (shaN (preL R n)) = bs (bytT R) := by
    rw [bs_append]
    unfold bytT encT
    rw [hn]
  have CN := Box.mk cn; have CO := Box.mk co; have FI := Box.mk fin; have B0 := Box.mk b0; have HW0 := Box.mk hW0; have H := Box.mk h; have HT := Box.mk ht; have E0 := Box.mk e0; have HN := Box.mk hn; have S0 := Box.mk s0
  obtain ⟨tb, htb⟩ : ∃ tb, tb = w.heap.size := ⟨_, rfl⟩
  rw [← htb] at q0 q1
  have Q0 := Box.mk q0; have Q1 := Box.mk q1
  have HTB := Box.mk htb
  have hlt0 : (9223372036854775807 < 8 + (bs (numL n)).size) = False := eq_false (by rw [bs_size]; omega)
  have hn100 : n ≤ 100 := by omega
  rw [← hn]
  clear h hS hK cn co fin e0 b0 t0 r0 r1 hW0 htb q0 q1 s0 ht
  clear hn
  go_enter Tryd.func15, Tryd.ntmps15
  go_upto_region 2 with (go_at_call 28; ((with_reducible refine (CN.out _).mono ?_); rintro e w1 ⟨rfl, b1⟩; rw [← HW0.out] at b1; have B1 := Box.mk (B0.out.trans (b1.mono B0.out.size)); have Y1 := Box.mk b1; clear b1))
  have T1 := Box.mk (And.intro (hold Q0.out Y1.out) (hold Q1.out Y1.out))
  have htb1 : w.heap.size ≤ tb := by have := HTB.out; omega
  have TBL := Box.mk (show tb < w1.heap.size by have := HTB.out; have := S0.out; have := Y1.out.size; omega)
  have e0 := E0.out
  clear Q0 Q1 Y1 B0 S0 E0 CN
  go_upto_region 3 with fail
  rw [e0]
  clear e0
  go_loopw [5, 15] (fun x i wr => ∃ (j : Nat), i = .int .i64 (j : Int) ∧ j ≤ n ∧ x = .string (bs (preL R j)) ∧ Box (Below w.heap.size w wr) ∧ Box (Below w1.heap.size w1 wr)) (fun _ i _ => n - (intOf i).toNat)
  case atStart => exact ⟨0, rfl, by omega, rfl, B1, ⟨Below.refl _ _⟩⟩
  case round =>
    obtain ⟨j, rfl, hj, rfl, hb, hy⟩ := hrel
    by_cases hlt : j < n
    · obtain ⟨g, c, hv, hg, hc⟩ := H.out.cells (by have := HN.out; omega)
      obtain ⟨rfl, _, rfl⟩ := Value.slice.inj hv
      obtain ⟨y, hy1⟩ : ∃ y, R[j]? = some y := ⟨_, List.getElem?_eq_getElem (by have := HN.out; omega)⟩
      obtain ⟨c0, c1⟩ := hc j y hy1
      have q0 : wr.cell? ⟨g, j * 2, none⟩ = some (.string (bs y.key)) := (hb.out.cell hg).trans c0
      have q1 : wr.cell? ⟨g, j * 2 + 1, none⟩ = some (.string y.text) := (hb.out.cell hg).trans c1
      have hyt := HT.out y (List.mem_of_getElem? hy1)
      have cx := fun W => refText_any y.text (by omega) W
      have hps := preL_succ R j y hy1
      have l1 := preL_len R j (by have := HN.out; omega) HT.out
      have e1 : bs y.key ++ bs (txtL (sb y.text)) = bs (y.key ++ txtL (sb y.text)) := bs_append _ _
      have e2 : bs (preL R j) ++ bs (y.key ++ txtL (sb y.text)) = bs (preL R (j + 1)) := by rw [bs_append, ← List.append_assoc, hps]
      have x1 : (bs y.key).size = 32 := by rw [bs_size, y.kl]
      have x2 : (bs (txtL (sb y.text))).size ≤ 1009 := by
        rw [bs_size]
        unfold txtL
        have := numL_length (sb y.text).length
        rw [List.length_append, sb_length] at *
        omega
      have x3 : (bs (preL R j)).size ≤ 200000 := by rw [bs_size]; exact l1
      have x4 : (bs (y.key ++ txtL (sb y.text))).size ≤ 1041 := by rw [← e1, ByteArray.size_append]; omega
      obtain ⟨A, hA⟩ : ∃ A, A = bs y.key := ⟨_, rfl⟩
      obtain ⟨X, hX⟩ : ∃ X, X = bs (txtL (sb y.text)) := ⟨_, rfl⟩
      obtain ⟨Y, hY⟩ : ∃ Y, Y = bs (y.key ++ txtL (sb y.text)) := ⟨_, rfl⟩
      obtain ⟨P, hP⟩ : ∃ P, P = bs (preL R j) := ⟨_, rfl⟩
      obtain ⟨P2, hP2⟩ : ∃ P, P = bs (preL R (j + 1)) := ⟨_, rfl⟩
      rw [← hA] at q0 e1 x1
      rw [← hX] at cx e1 x2
      rw [← hY] at e1 e2 x4
      rw [← hP] at e2 x3 ⊢
      rw [← hP2] at e2
      obtain ⟨W1, hW1⟩ : ∃ W, W = wr.alloc (.cells #[.string A, .string y.text] 42) := ⟨_, rfl⟩
      have b1 : Below wr.heap.size wr W1.drew := by rw [hW1]; exact (aset22 _ _).drew
      have t1 : W1.drew.heap[wr.heap.size]? = some (.cells #[.string A, .string y.text] 42 (0, 0)) := by rw [hW1]; exact heap_alloc_new wr _
      have z0 : W1.drew.cell? ⟨wr.heap.size, 0, none⟩ = some (.string A) := by simp only [World.cell?, t1]; rfl
      have z1 : W1.drew.cell? ⟨wr.heap.size, 1, none⟩ = some (.string y.text) := by simp only [World.cell?, t1]; rfl
      have CX := Box.mk cx; have HW1 := Box.mk hW1; have HP2 := Box.mk hP2
      have BB := Box.mk (hb.out.trans (b1.mono hb.out.size)); have YY := Box.mk (hy.out.trans (b1.mono hy.out.size))
      have h1 : (9223372036854775807 < A.size + X.size) = False := eq_false (by omega)
      have h2 : (9223372036854775807 < P.size + Y.size) = False := eq_false (by omega)
      clear hv hc c0 c1 cx hA hX hY hP hP2 hps l1 b1 t1 hW1 x1 x2 x3 x4 hyt hb hy hy1
      go_upto_region 5 with fail
      rw [← HW1.out]
      go_region_held3 (fun W => W.cell? ⟨wr.heap.size, 0, none⟩ = some (.string A) ∧ W.cell? ⟨wr.heap.size, 1, none⟩ = some (.string y.text))
        (first | exact ⟨z0, z1⟩ | exact ⟨p0, p1⟩ | assumption)
        ((go_at_call 29; (with_reducible refine (CX.out _).mono ?_); rintro e w5 ⟨rfl, b5⟩; have p0 := hold z0 b5; have p1 := hold z1 b5; have B5 := Box.mk (BB.out.trans (b5.mono BB.out.size)); have Y5 := Box.mk (YY.out.trans (b5.mono YY.out.size)); clear b5))
      all_goals
        (try rw [e1])
        (try rw [e2])
        go_wp2_with fail
        go_roundw
        case rel => exact ⟨j + 1, by go_num, by omega, by rw [HP2.out], B5, Y5⟩
        case measure => simp [intOf]; omega
    · obtain rfl : j = n := by omega
      have q0 := hold T1.out.1 hy.out
      have q1 := hold T1.out.2 hy.out
      rw [HTB.out] at q0 q1
      have fi := FI.out
      have l1 := preL_len R j (by have := HN.out; omega) HT.out
      have x1 : (bs (preL R j)).size ≤ 200000 := by rw [bs_size]; exact l1
      have x2 : (bs (shaN (preL R j))).size = 32 := by rw [bs_size, shaN_length]
      have h1 : (9223372036854775807 < (bs (preL R j)).size + (bs (shaN (preL R j))).size) = False := eq_false (by omega)
      clear x1 x2 l1
      go_wp2_with (go_at_call 30; ((with_reducible refine (CO.out _ hb.out).mono ?_); rintro e w9 ⟨rfl, b9⟩; have B9 := Box.mk (hb.out.trans (b9.mono hb.out.size)); clear b9))
      go_ret
      exact ⟨rfl, B9.out⟩
end Go.Proofs.YtacfdnjdjgdbcaaDoor
