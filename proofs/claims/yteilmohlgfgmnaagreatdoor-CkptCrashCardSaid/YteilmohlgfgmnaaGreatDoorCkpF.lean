/- Checkpoints' laws: awake. -/
import Derived.Test.YteilmohlgfgmnaaGreatDoorCkpE
namespace Go.Proofs.YteilmohlgfgmnaaGreatDoor
set_option maxRecDepth 100000
open Go.RowKit Go.Maps Go.Sort M

/-- one item, as a law writes it -/
theorem iin_one (w : World) (a b : ByteArray) : IIn (w.alloc (.cells #[.string a, .string b] 109)) (.slice (some ⟨w.heap.size, 0, none⟩) 1 1) 1 (fun _ => a) (fun _ => b) := by
  have t : (w.alloc (.cells #[.string a, .string b] 109)).heap[w.heap.size]? = some (.cells #[.string a, .string b] 109 (0, 0)) := heap_alloc_new w _
  refine ⟨⟨_, _, rfl⟩, fun _ => ⟨w.heap.size, 0, 1, rfl, by simp, fun i hi => ?_⟩⟩
  obtain rfl : i = 0 := by omega
  exact ⟨by simp only [World.cell?, t]; rfl, by simp only [World.cell?, t]; rfl⟩

set_option maxRecDepth 100000 in
set_option maxHeartbeats 4000000 in
theorem awake23_any (w : World) (hK : KTab w) : Calls Tryz.prog 16 #[] w fun e w' => e = .returned (.bool true) ∧ Below w.heap.size w w' := by
  have kg : 0 < w.heap.size := ktab_lt hK
  have HK := Box.mk hK; have KG := Box.mk kg
  clear hK kg
  go_enter Tryz.func16, Tryz.ntmps16
  go_upto_region 2 with (go_at_call 15; ((with_reducible refine (dnew_f 1000 w (by omega) (by omega)).mono ?_); rintro e w1 ⟨b, rfl, d1, b1⟩; have D1 := Box.mk (CkD.begun d1 (by omega)); have B1 := Box.mk b1; clear d1 b1))
  go_upto_region 3 with (go_at_call 22; ((with_reducible refine (grow_any _ 1 _ _ _ (iin_one w1 _ _) (by omega) (ktab_below HK.out (B1.out.alloc B1.out.size _))).mono ?_); rintro e w3 hg; obtain ⟨tb, v, R, rfl, t3, r3, v3, l3, n3, b3⟩ := hg.tab (fun _ => False); obtain ⟨rp, rc, rfl⟩ := r3.val; have T3 := Box.mk t3; have R3 := Box.mk r3; have V3 := Box.mk v3; have L3 := Box.mk l3; have N3 := Box.mk n3; have B3 := Box.mk b3; clear hg t3 r3 v3 l3 n3 b3))
  obtain ⟨WI, hWI⟩ : ∃ W, W = w1.alloc (.cells #[.string ⟨#[97]⟩, .string ⟨#[98]⟩] 109) := ⟨_, rfl⟩
  rw [← hWI] at T3 V3 B3
  have sI : w1.heap.size ≤ WI.heap.size := by rw [hWI]; simp
  have bI : Below w1.heap.size w1 w3 := (show Below w1.heap.size w1 WI by rw [hWI]; exact aset22 _ _).trans (B3.out.mono sI)
  obtain ⟨F, hF⟩ : ∃ F, F = ExtF (fun k => k < w.heap.size) w1 w3 := ⟨_, rfl⟩
  have sub : ∀ k, ExtF (fun _ => False) WI w3 k → F k := fun k hk => by
    rw [hF]
    rcases hk with hk | ⟨h1, h2⟩
    · exact hk.elim
    · exact .inr ⟨by omega, h2⟩
  have D3 := Box.mk (show CkD w3 b F (newS 1000) 0 (fun x => x = none) by rw [hF]; exact D1.out.ext bI)
  have TT := Box.mk (T3.out.keep (KeepF.refl _ _) sub)
  have VV := Box.mk (fun h0 k hk => sub k (V3.out h0 k hk))
  have KF3 := Box.mk (show KF F by rw [hF]; exact .inl KG.out)
  have b13 : Below w.heap.size w w3 := B1.out.trans (bI.mono B1.out.size)
  have KT := Box.mk (ktab_below HK.out b13)
  have B13 := Box.mk b13
  have old := Box.mk (show ∀ k, k < w.heap.size → F k from fun k hk => by rw [hF]; exact .inl hk)
  have SZ := Box.mk (show (newS 1000).used + (bytT R).length ≤ (newS 1000).room by have := bytT_le L3.out.text; have := N3.out; show (0 : Int) + _ ≤ max 1000 0; omega)
  have CC := Box.mk (show Calm (newS 1000) from ⟨rfl, rfl, rfl⟩)
  clear hWI sI bI hF sub D1 T3 V3 b13 B3 B1 N3
  have ab := Box.mk (show w.heap.size ≤ w3.heap.size from B13.out.size)
  go_upto_region 5 with (go_at_call 24; ((with_reducible refine (save_c D3.out (by omega) TT.out KT.out KF3.out).mono ?_); rintro e w4 hs; obtain ⟨S4, rfl, d4, c4, r4, k4⟩ := hs.ok D3.out CC.out SZ.out; have D4 := Box.mk d4; have K4 := Box.mk k4; clear hs d4 c4 r4 k4 D3))
  go_upto_region 6 with (go_at_call 26; ((with_reducible refine (restart_c D4.out (by omega) (ints_nil _) (fun k h0 _ => absurd h0 (Nat.lt_irrefl _))).mono ?_); rintro e w5 ⟨S5, rfl, d5, c5, r5, k5⟩; have D5 := Box.mk d5; have C5 := Box.mk c5; have K5 := Box.mk (K4.out.trans k5); clear d5 c5 r5 k5 D4))
  have KT5 := Box.mk (ktab_keepF KT.out KF3.out K5.out)
  go_upto_region 7 with (go_at_call 20; ((with_reducible refine (load_c D5.out (by omega) C5.out.alive KT5.out [R] (fun R' h => by rw [List.mem_singleton] at h; rw [h]; exact L3.out) (fun x hx => ⟨R, by simp, hx⟩)).mono ?_); rintro e w6 ⟨R', hR', b6, ub, mo, l, rfl, t6, p6⟩; rw [List.mem_singleton] at hR'; subst hR'; have T6 := Box.mk t6; have P6 := Box.mk p6; have B6 := Box.mk b6; clear t6 p6 b6))
  have RR := Box.mk ((R3.out.keepF VV.out K5.out).below B6.out)
  go_wp2_with (go_at_call 14; ((with_reducible refine (same_yes ub mo l R' _ w6 T6.out RR.out P6.out.symm L3.out.up (by have := L3.out.len; omega)).mono ?_); rintro e w7 ⟨rfl, b7⟩; have B7 := Box.mk b7; clear b7))
  go_ret
  refine ⟨rfl, ?_⟩
  have k5 := K5.out.below (Nat.le_trans ab.out (Nat.le_refl _)) old.out
  have k6 := B13.out.trans k5
  have k7 := k6.trans (B6.out.mono k6.size)
  exact k7.trans (B7.out.mono k7.size)
end Go.Proofs.YteilmohlgfgmnaaGreatDoor
