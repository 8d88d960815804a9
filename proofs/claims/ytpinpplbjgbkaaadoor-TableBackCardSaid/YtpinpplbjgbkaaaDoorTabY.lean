/- Tables' laws: Same, where a table and the reference's list hold the same. -/
import Derived.Test.YtpinpplbjgbkaaaDoorTabX
import Derived.Test.YtpinpplbjgbkaaaDoorTabU
import Derived.BigQuiet
namespace Go.Proofs.YtpinpplbjgbkaaaDoor
set_option maxRecDepth 100000
open Go.RowKit Go.Maps Go.Sort M

set_option maxRecDepth 100000 in
set_option maxHeartbeats 4000000 in
theorem same_any (b : Nat) (mo : Option Nat) (l R : List Ent) (v : Value) (w : World) (h : Tab w b mo l) (hR : RefIn w v R) (hp : R.Perm l) (hr : Rising R) (hl : R.length ≤ 100) :
    Calls Tryd.prog 14 #[.pointer (some ⟨b, 0, none⟩), v] w fun e w' => e = .returned (.int .i64 0) ∧ Below w.heap.size w w' := by
  obtain ⟨vp, vc, rfl⟩ := hR.val
  obtain ⟨n, hn⟩ : ∃ n, n = R.length := ⟨_, rfl⟩
  have hln : l.length = n := by rw [hn]; exact hp.length_eq.symm
  have ca : Calls Tryd.prog 24 #[.pointer (some ⟨b, 0, none⟩)] w fun e w' => ∃ p c, e = .returned (.slice p n c) ∧ EntsIn w' (.slice p n c) R ∧ Below w.heap.size w w' := (all_any b mo l w h (by omega)).mono fun e w' ⟨v, ys, h1, h2, h3, h4, h5, _⟩ => by
    have e1 : ys = R := rising_one (h2.trans hp.symm) h3 hr
    rw [e1] at h4
    obtain ⟨p, c, hv⟩ := h4.val
    rw [hv] at h1 h4
    rw [← hn] at h1 h4
    exact ⟨p, c, h1, h4, h5⟩
  have cl : ∀ W, Below w.heap.size w W → Calls Tryd.prog 21 #[.pointer (some ⟨b, 0, none⟩)] W fun e w' => e = .returned (.int .i64 (n : Int)) ∧ W = w' := fun W hb => by
    have := len_any b mo l W (h.below hb)
    rw [hln] at this; exact this
  have enn : ((n : Int) != (n : Int)) = false := by simp
  have hn100 : n ≤ 100 := by omega
  rw [← hn]
  have CA := Box.mk ca; have CL := Box.mk cl; have HR := Box.mk hR; have HN := Box.mk hn
  clear ca cl hR hn h hp hr hl hln
  go_enter Tryd.func14, Tryd.ntmps14
  go_wp2_with (first
    | (go_at_call 24; ((with_reducible refine CA.out.mono ?_); rintro e w1 ⟨p, c, rfl, e1, b1⟩; have E1 := Box.mk e1; have B1 := Box.mk b1; clear e1 b1 CA))
    | (go_at_call 21; ((with_reducible refine (CL.out _ B1.out).mono ?_); rintro e w' ⟨rfl, rfl⟩)))
  go_loopw [24] (fun i wr => ∃ (k : Nat), i = .int .i64 (k : Int) ∧ k ≤ n ∧ Box (Below w1.heap.size w1 wr)) (fun i _ => n - (intOf i).toNat)
  case atStart => exact ⟨0, rfl, by omega, ⟨Below.refl _ _⟩⟩
  case round =>
    obtain ⟨k, rfl, hk, hb⟩ := hrel
    by_cases hlt : k < n
    · obtain ⟨g, gc, hv, hg, hc⟩ := E1.out.cells (by have := HN.out; omega)
      obtain ⟨rfl, _, rfl⟩ := Value.slice.inj hv
      obtain ⟨xg, xc, hv2, hxg, hxc⟩ := HR.out.cells (by have := HN.out; omega)
      obtain ⟨rfl, _, rfl⟩ := Value.slice.inj hv2
      obtain ⟨x, hx⟩ : ∃ x, R[k]? = some x := ⟨_, List.getElem?_eq_getElem (by have := HN.out; omega)⟩
      have rg : wr.rangeAt g (k * 33) (encE x) := fun j u hu => (hb.out.cell (show g < w1.heap.size from hg)).trans (hc k x hx j u hu)
      obtain ⟨c0, c1⟩ := hxc k x hx
      obtain ⟨W2, hW2⟩ : ∃ W2, W2 = wr.alloc (.cells (encE x).toArray 69) := ⟨_, rfl⟩
      have s2 : W2.heap.size = wr.heap.size + 1 := by rw [hW2]; simp
      have b2 : Below wr.heap.size wr W2 := by rw [hW2]; exact aset22 _ _
      have bw2 : Below w.heap.size w W2 := (B1.out.trans (hb.out.mono B1.out.size)).trans (b2.mono (by have := B1.out.size; have := hb.out.size; omega))
      have q0 : W2.cell? ⟨xg, k * 2, none⟩ = some (.string (bs x.key)) := (bw2.cell hxg).trans c0
      have q1 : W2.cell? ⟨xg, k * 2 + 1, none⟩ = some (.string x.text) := (bw2.cell hxg).trans c1
      have r2 : W2.rangeAt wr.heap.size 0 (encE x) := by rw [hW2]; exact range_new _ _ _ _ rfl
      have q2 : W2.cell? ⟨wr.heap.size, 32, none⟩ = some (.string x.text) := by have := r2 32 _ (encE_last x); rwa [Nat.zero_add] at this
      have rk : W2.rangeAt wr.heap.size 0 (byts x.key) := fun j u hu => r2 j u (by
        unfold encE
        rw [List.getElem?_append_left (List.getElem?_eq_some_iff.1 hu).1]; exact hu)
      have hcv : ∀ m, (convert 26 9 (.slice (some ⟨wr.heap.size, 0, none⟩) 32 32)).run Tryd.prog (W2.drewN m) = .ok (.string (bs x.key)) (W2.drewN m) := fun m => conv_rangeI (w := W2.drewN m) (cap := 32) x.kl (fun j u hu => rk j u hu)
      have BB2 := Box.mk (hb.out.trans (b2.mono hb.out.size))
      have ht : ∀ Z : Array Value, Z.size = 33 → (wr.alloc (.cells Z 69)).there wr.heap.size 0 33 := fun Z hZ => by
        have := there_new wr 69 Z.toList wr.heap.size 0 33 rfl (by simp [hZ])
        simpa using this
      obtain ⟨du, hu, hdu⟩ := und_entry
      obtain ⟨S, hS⟩ : ∃ S, S = bs x.key := ⟨_, rfl⟩
      rw [← hS] at q0 hcv
      have sbk := str_beq S S
      rw [decide_eq_true rfl] at sbk
      have sbt := str_beq x.text x.text
      rw [decide_eq_true rfl] at sbt
      have HW2 := Box.mk hW2; have RG := Box.mk rg
      clear hW2 rg hv hv2 hc hxc c0 c1 hx r2 rk s2 b2 bw2 hS
      go_upto_region 7 with (first
        | ((with_reducible refine at_load 69 (.tmp 27) ?_); refine wpList_load_mid rfl 69 (.tmp 27) rfl g (k * 33) (by first | rfl | simp) (encE x) du RG.out hu hdu (by rw [encE_len]; exact info_entry) ?_)
        | ((with_reducible refine at_store 69 (.tmp 7) (.tmp 28) ?_); refine wpList_store_mid rfl 69 (.tmp 7) (.tmp 28) rfl wr.heap.size 0 (encE x).toArray rfl rfl (by have e : (encE x).toArray.size = 33 := (by simp [encE_len]); rw [e]; exact ht _ rfl) (by have e : (encE x).toArray.size = 33 := (by simp [encE_len]); rw [e]; exact info_entry) (all_oneCell_toArray (encE_one x)) ?_; rw [show (wr.alloc _).setCells wr.heap.size 0 (encE x).toArray.toList = W2 from (by rw [HW2.out]; exact fillE wr _ _ _ (by simp [encE_len]))]))
      go_quiet (fail)
      go_wp2_with fail
      go_roundw
      case rel => exact ⟨_, _, _, _, ⟨k + 1, rfl, by omega, ⟨BB2.out.trans (Below.mono (⟨rfl, rfl, rfl, Nat.le_refl _, fun _ _ => rfl⟩ : Below W2.heap.size W2 (W2.drewN nq)) BB2.out.size)⟩⟩, rfl, rfl, rfl, by go_num⟩
      case measure => simp [intOf] <;> omega
    · obtain rfl : k = n := by omega
      go_wp2_with fail
      go_ret
      exact ⟨rfl, B1.out.trans (hb.out.mono B1.out.size)⟩
end Go.Proofs.YtpinpplbjgbkaaaDoor
