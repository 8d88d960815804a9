/- Tables beside a disk: what a disk's calls leave alone; Same of any table and any list. -/
import Derived.Test.YteilmohlgfgmnaaGreatDoorTj
import Derived.Test.YteilmohlgfgmnaaGreatDoorHu
import Derived.BigQuiet
namespace Go.Proofs.YteilmohlgfgmnaaGreatDoor
set_option maxRecDepth 100000
open Go.RowKit Go.Maps Go.Sort M

theorem Tab.keepF {F : Nat → Prop} {w w' : World} {b : Nat} {mo : Option Nat} {l : List Ent} (h : Tab w b mo l) (hb : F b) (hm : ∀ m, mo = some m → F m) (k : KeepF F w w') : Tab w' b mo l :=
  h.keep (k.block b hb h.lt) (fun m e => k.block m (hm m e) (h.mapd m e).2.lt)
theorem RefIn.keepF {F : Nat → Prop} {w w' : World} {v : Value} {R : List Ent} (h : RefIn w v R) (hF : 0 < R.length → ∀ k, v.ownBlock = some k → F k) (k : KeepF F w w') : RefIn w' v R :=
  ⟨h.val, fun h0 => by
    obtain ⟨g, c, e, hg, hc⟩ := h.cells h0
    have fg : F g := hF h0 g (by rw [e]; rfl)
    exact ⟨g, c, e, Nat.lt_of_lt_of_le hg k.size, fun i x hx => ⟨(k.cell fg hg).trans (hc i x hx).1, (k.cell fg hg).trans (hc i x hx).2⟩⟩⟩
def KF (F : Nat → Prop) : Prop := F 0
theorem ktab_keepF {F : Nat → Prop} {w w' : World} (h : KTab w) (hF : KF F) (k : KeepF F w w') : KTab w' := fun t ht => by
  have hc := h t ht
  rw [k.cell hF (World.block_lt_of_cell? w _ hc)]; exact hc
theorem ktab_lt {w : World} (h : KTab w) : 0 < w.heap.size := World.block_lt_of_cell? w _ (h 0 (by omega))

set_option maxRecDepth 100000 in
set_option maxHeartbeats 4000000 in
theorem same_bad (b : Nat) (mo : Option Nat) (l R : List Ent) (v : Value) (w : World) (h : Tab w b mo l) (hR : RefIn w v R) (hl : l.length ≤ 100) (hp : ¬ R.Perm l) :
    Calls Tryz.prog 14 #[.pointer (some ⟨b, 0, none⟩), v] w fun e w' => e = .returned (.int .i64 (-1)) ∧ Below w.heap.size w w' := by
  obtain ⟨vp, vc, rfl⟩ := hR.val
  obtain ⟨n, hn⟩ : ∃ n, n = l.length := ⟨_, rfl⟩
  obtain ⟨m, hm⟩ : ∃ m, m = R.length := ⟨_, rfl⟩
  have ca : Calls Tryz.prog 45 #[.pointer (some ⟨b, 0, none⟩)] w fun e w' => ∃ p c ys, e = .returned (.slice p n c) ∧ EntsIn w' (.slice p n c) ys ∧ ys.length = n ∧ ys ≠ R ∧ Below w.heap.size w w' := (all_any b mo l w h (by omega)).mono fun e w' ⟨v, ys, h1, h2, h3, h4, h5, _⟩ => by
    obtain ⟨p, c, hv⟩ := h4.val
    have e2 : ys.length = n := by rw [hn]; exact h2.length_eq
    rw [hv] at h1 h4
    rw [e2] at h1 h4
    exact ⟨p, c, ys, h1, h4, e2, fun e => hp (e ▸ h2), h5⟩
  have cl : ∀ W, Below w.heap.size w W → Calls Tryz.prog 30 #[.pointer (some ⟨b, 0, none⟩)] W fun e w' => e = .returned (.int .i64 (n : Int)) ∧ W = w' := fun W hb => by
    have := len_any b mo l W (h.below hb)
    rw [← hn] at this; exact this
  have hn100 : n ≤ 100 := by omega
  rw [← hm]
  have CA := Box.mk ca; have CL := Box.mk cl; have HR := Box.mk hR; have HM := Box.mk hm
  clear ca cl hR hm hn h hl hp
  go_enter Tryz.func14, Tryz.ntmps14
  by_cases hnm : n = m
  · subst hnm
    have enn : ((n : Int) != (n : Int)) = false := by simp
    go_wp2_with (first
      | (go_at_call 45; ((with_reducible refine CA.out.mono ?_); rintro e w1 ⟨p, c, ys, rfl, e1, ly, nq, b1⟩; have E1 := Box.mk e1; have B1 := Box.mk b1; have LY := Box.mk ly; have NQ := Box.mk nq; clear e1 b1 ly nq CA))
      | (go_at_call 30; ((with_reducible refine (CL.out _ B1.out).mono ?_); rintro e w' ⟨rfl, rfl⟩)))
    go_loopw [24] (fun i wr => ∃ (k : Nat), i = .int .i64 (k : Int) ∧ k ≤ n ∧ Box (Below w1.heap.size w1 wr) ∧ Box (ys.take k = R.take k)) (fun i _ => n - (intOf i).toNat)
    case atStart => exact ⟨0, rfl, by omega, ⟨Below.refl _ _⟩, ⟨by simp⟩⟩
    case round =>
      obtain ⟨k, rfl, hk, hb, hpre⟩ := hrel
      by_cases hlt : k < n
      · obtain ⟨g, gc, hv, hg, hc⟩ := E1.out.cells (by have := LY.out; omega)
        obtain ⟨rfl, hn1, rfl⟩ := Value.slice.inj hv
        obtain ⟨xg, xc, hv2, hxg, hxc⟩ := HR.out.cells (by have := HM.out; omega)
        obtain ⟨rfl, hn2, rfl⟩ := Value.slice.inj hv2
        obtain ⟨x, hx⟩ : ∃ x, ys[k]? = some x := ⟨_, List.getElem?_eq_getElem (by have := LY.out; omega)⟩
        obtain ⟨z, hz⟩ : ∃ z, R[k]? = some z := ⟨_, List.getElem?_eq_getElem (by have := HM.out; omega)⟩
        have rg : wr.rangeAt g (k * 33) (encE x) := fun j u hu => (hb.out.cell (show g < w1.heap.size from hg)).trans (hc k x hx j u hu)
        obtain ⟨c0, c1⟩ := hxc k z hz
        obtain ⟨W2, hW2⟩ : ∃ W2, W2 = wr.alloc (.cells (encE x).toArray 103) := ⟨_, rfl⟩
        have s2 : W2.heap.size = wr.heap.size + 1 := by rw [hW2]; simp
        have b2 : Below wr.heap.size wr W2 := by rw [hW2]; exact aset22 _ _
        have bw2 : Below w.heap.size w W2 := (B1.out.trans (hb.out.mono B1.out.size)).trans (b2.mono (by have := B1.out.size; have := hb.out.size; omega))
        have q0 : W2.cell? ⟨xg, k * 2, none⟩ = some (.string (bs z.key)) := (bw2.cell hxg).trans c0
        have q1 : W2.cell? ⟨xg, k * 2 + 1, none⟩ = some (.string z.text) := (bw2.cell hxg).trans c1
        have r2 : W2.rangeAt wr.heap.size 0 (encE x) := by rw [hW2]; exact range_new _ _ _ _ rfl
        have q2 : W2.cell? ⟨wr.heap.size, 32, none⟩ = some (.string x.text) := by have := r2 32 _ (encE_last x); rwa [Nat.zero_add] at this
        have rk : W2.rangeAt wr.heap.size 0 (byts x.key) := fun j u hu => r2 j u (by
          unfold encE
          rw [List.getElem?_append_left (List.getElem?_eq_some_iff.1 hu).1]; exact hu)
        have hcv : ∀ m, (convert 26 9 (.slice (some ⟨wr.heap.size, 0, none⟩) 32 32)).run Tryz.prog (W2.drewN m) = .ok (.string (bs x.key)) (W2.drewN m) := fun m => conv_rangeI (w := W2.drewN m) (cap := 32) x.kl (fun j u hu => rk j u hu)
        have BB2 := Box.mk (hb.out.trans (b2.mono hb.out.size))
        have ht : ∀ Z : Array Value, Z.size = 33 → (wr.alloc (.cells Z 103)).there wr.heap.size 0 33 := fun Z hZ => by
          have := there_new wr 103 Z.toList wr.heap.size 0 33 rfl (by simp [hZ])
          simpa using this
        obtain ⟨du, hu, hdu⟩ := und_entry
        have nxt : bs x.key = bs z.key → x.text = z.text → ys.take (k + 1) = R.take (k + 1) := fun e1 e2 => by
          have exz : x = z := by
            have := bsk_eq.1 e1
            cases x; cases z; simp_all
          rw [List.take_add_one, List.take_add_one, hpre.out, hx, hz, exz]
        obtain ⟨S, hS⟩ : ∃ S, S = bs x.key := ⟨_, rfl⟩
        rw [← hS] at hcv
        obtain ⟨Z, hZ⟩ : ∃ Z, Z = bs z.key := ⟨_, rfl⟩
        rw [← hZ] at q0
        obtain ⟨TT, hTT⟩ : ∃ T, T = x.text := ⟨_, rfl⟩
        obtain ⟨TZ, hTZ⟩ : ∃ T, T = z.text := ⟨_, rfl⟩
        rw [← hTT] at q2
        rw [← hTZ] at q1
        rw [← hS, ← hZ, ← hTT, ← hTZ] at nxt
        have NX := Box.mk nxt
        clear nxt
        have sbk := str_beq S Z
        have sbt := str_beq TT TZ
        have HW2 := Box.mk hW2; have RG := Box.mk rg
        clear hW2 rg hv hv2 hc hxc c0 c1 hx hz r2 rk s2 b2 bw2 hS hZ hTT hTZ hn1 hn2
        go_upto_region 7 with (first
          | ((with_reducible refine at_load 103 (.tmp 27) ?_); refine wpList_load_mid rfl 103 (.tmp 27) rfl g (k * 33) (by first | rfl | simp) (encE x) du RG.out hu hdu (by rw [encE_len]; exact info_entry) ?_)
          | ((with_reducible refine at_store 103 (.tmp 7) (.tmp 28) ?_); refine wpList_store_mid rfl 103 (.tmp 7) (.tmp 28) rfl wr.heap.size 0 (encE x).toArray rfl rfl (by have e : (encE x).toArray.size = 33 := (by simp [encE_len]); rw [e]; exact ht _ rfl) (by have e : (encE x).toArray.size = 33 := (by simp [encE_len]); rw [e]; exact info_entry) (all_oneCell_toArray (encE_one x)) ?_; rw [show (wr.alloc _).setCells wr.heap.size 0 (encE x).toArray.toList = W2 from (by rw [HW2.out]; exact fillE wr _ _ _ (by simp [encE_len]))]))
        have hput : ∀ a : Act, a.put none undef = a := fun _ => rfl
        rw [hput]
        clear hput
        have done := fun (q : Nat) => Box.mk (B1.out.trans ((BB2.out.trans (Below.mono (⟨rfl, rfl, rfl, Nat.le_refl _, fun _ _ => rfl⟩ : Below W2.heap.size W2 (W2.drewN q)) BB2.out.size)).mono B1.out.size))
        by_cases h1 : S = Z
        · rw [decide_eq_true h1] at sbk
          by_cases h2 : TT = TZ
          · rw [decide_eq_true h2] at sbt
            go_quiet (fail)
            go_wp2_with fail
            go_roundw
            case rel => exact ⟨k + 1, by go_num, by omega, ⟨BB2.out.trans (Below.mono (⟨rfl, rfl, rfl, Nat.le_refl _, fun _ _ => rfl⟩ : Below W2.heap.size W2 (W2.drewN nq)) BB2.out.size)⟩, ⟨NX.out h1 h2⟩⟩
            case measure => simp [intOf] <;> omega
          · rw [decide_eq_false h2] at sbt
            go_quiet (fail)
            go_wp2_with fail
            go_ret
            exact ⟨rfl, (done _).out⟩
        · rw [decide_eq_false h1] at sbk
          clear sbt h1
          go_quiet (fail)
          go_wp2_with fail
          go_ret
          exact ⟨rfl, (done _).out⟩
      · obtain rfl : k = n := by omega
        have hh := hpre.out
        have h1 := LY.out
        have h2 := HM.out
        rw [List.take_of_length_le (by omega), List.take_of_length_le (by omega)] at hh
        exact absurd hh NQ.out
  · have enn : ((n : Int) != (m : Int)) = true := by simp; omega
    have enn2 : ((n : Int) = (m : Int)) = False := eq_false (by omega)
    go_wp2_with (first
      | (go_at_call 45; ((with_reducible refine CA.out.mono ?_); rintro e w1 ⟨p, c, ys, rfl, e1, ly, nq, b1⟩; have E1 := Box.mk e1; have B1 := Box.mk b1; have LY := Box.mk ly; have NQ := Box.mk nq; clear e1 b1 ly nq CA))
      | (go_at_call 30; ((with_reducible refine (CL.out _ B1.out).mono ?_); rintro e w' ⟨rfl, rfl⟩)))
    go_ret
    exact ⟨rfl, B1.out⟩
/-- what Same tells -/
def SameP (k : Int) (w : World) (e : Ending) (w' : World) : Prop := e = .returned (.int .i64 k) ∧ Below w.heap.size w w'
theorem same_yes (b : Nat) (mo : Option Nat) (l R : List Ent) (v : Value) (w : World) (h : Tab w b mo l) (hR : RefIn w v R) (hp : R.Perm l) (hr : Rising R) (hRl : R.length ≤ 100) :
    Calls Tryz.prog 14 #[.pointer (some ⟨b, 0, none⟩), v] w (SameP 0 w) := same_any b mo l R v w h hR hp hr hRl
theorem same_no (b : Nat) (mo : Option Nat) (l R : List Ent) (v : Value) (w : World) (h : Tab w b mo l) (hR : RefIn w v R) (hp : ¬ R.Perm l) (hl : l.length ≤ 100) :
    Calls Tryz.prog 14 #[.pointer (some ⟨b, 0, none⟩), v] w (SameP (-1) w) := same_bad b mo l R v w h hR hl hp
end Go.Proofs.YteilmohlgfgmnaaGreatDoor
