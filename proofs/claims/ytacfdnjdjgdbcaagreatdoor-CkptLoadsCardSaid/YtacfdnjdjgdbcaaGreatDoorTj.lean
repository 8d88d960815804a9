/- TabX, TabU, TabY, TabZ, in one text. -/
import Derived.Test.YtacfdnjdjgdbcaaGreatDoorTi
import Derived.BigQuiet
import Derived.Test.YtacfdnjdjgdbcaaGreatDoorTg
import Derived.Deep.RegionHeld3
namespace Go.Proofs.YtacfdnjdjgdbcaaGreatDoor
set_option maxRecDepth 100000
open Go.RowKit Go.Maps Go.Sort M

/-- what Parse leaves of a table's bytes -/
def ParsG (G : List Ent) (w : World) (e : Ending) (w' : World) : Prop :=
  Below w.heap.size w w' ∧ ∃ tb mo, e = .returned (.tuple #[.pointer (some ⟨tb, 0, none⟩), .int .i64 0]) ∧ Tab w' tb mo G.reverse

set_option maxRecDepth 100000 in
set_option maxHeartbeats 2000000 in
theorem parseG_any (s : ByteArray) (w : World) (hs : s.size ≤ 20000) (hK : KTab w) (G : List Ent) (hB : sb s = bytT G) (hG1 : Rising G) (hG2 : ∀ x ∈ G, x.text.size ≤ 300) (hG3 : G.length ≤ 100) :
    Calls Tryz.prog 7 #[.string s] w (ParsG G w) := by
  obtain ⟨m, hm⟩ : ∃ m, m = s.size := ⟨_, rfl⟩
  have hsl : ∀ W, (Builtin.len_ #[9] 3 #[.string s]).run Tryz.prog W = .ok (.int .i64 (m : Int)) W := fun W => by
    rw [hm]
    simp [Builtin.len_, run_underlying Tryz.underlying9, Result.andThen]
    rfl
  have h40 : ¬ m < 40 := by
    have h := congrArg List.length hB
    rw [sb_length] at h
    unfold bytT encT preL at h
    rw [List.length_append, List.length_append, List.length_append, shaN_length] at h
    have : magL.length = 8 := rfl
    omega
  · obtain ⟨q, hq⟩ : ∃ q, q = m - 32 := ⟨_, rfl⟩
    have d40 : decide ((m : Int) < 40) = false := decide_eq_false (by omega)
    have d40p : ((m : Int) < 40) = False := eq_false (by omega)
    have hmz : ((s.size : Nat) : Int) = (m : Int) := by rw [hm]
    have qw : IntKind.i64.wrap ((m : Int) - 32) = (q : Int) := by rw [IntWalk.i64_in _ (by omega)]; omega
    have hq1 : (0 : Int) ≤ (q : Int) := by omega
    have hq2 : (q : Int) ≤ (m : Int) := by omega
    have hq3 : q ≤ m := by omega
    have hq4 : q ≤ s.size := by omega
    have HM := Box.mk hm; have HQ := Box.mk hq
    clear hm hq
    go_enter Tryz.func7, Tryz.ntmps7
    go_upto_region 3 with fail
    go_quiet (fail)
    obtain ⟨BD, hBD⟩ : ∃ BD, BD = s.extract 0 q := ⟨_, rfl⟩
    obtain ⟨SL, hSL⟩ : ∃ SL, SL = s.extract q s.size := ⟨_, rfl⟩
    rw [← hBD, ← hSL]
    have hbs : sb BD = (sb s).take q := by rw [hBD, sb_part _ _ _ hq4, List.drop_zero, Nat.sub_zero]
    have hss : sb SL = (sb s).drop q := by rw [hSL, sb_part _ _ _ (Nat.le_refl _), List.take_of_length_le (by rw [List.length_drop, sb_length]; omega)]
    have hbz : BD.size ≤ 20000 := by rw [← sb_length, hbs, List.length_take, sb_length]; omega
    have hall : sb s = sb BD ++ sb SL := by rw [hbs, hss, List.take_append_drop]
    have hbw : Below w.heap.size w (w.drewN nq) := ⟨rfl, rfl, rfl, Nat.le_refl _, fun _ _ => rfl⟩
    have hKw : KTab (w.drewN nq) := ktab_below hK hbw
    generalize w.drewN nq = w2 at hbw hKw ⊢
    have hq5 : q = (encT G).length := by
      have h := congrArg List.length hB
      rw [sb_length] at h
      unfold bytT at h
      rw [List.length_append, shaN_length] at h
      have a := HM.out; have b := HQ.out
      omega
    have hbe : sb BD = encT G := by rw [hbs, hB, hq5]; unfold bytT; rw [List.take_left]
    have hse : sb SL = shaN (encT G) := by rw [hss, hB, hq5]; unfold bytT; rw [List.drop_left]
    have hgood : Good BD G := ⟨hbe, hG1, hG2, hG3⟩
    have c2 := shaOf_any BD (by omega) w2 hKw
    obtain ⟨D, hD⟩ : ∃ D, D = shaN (sb BD) := ⟨_, rfl⟩
    have hDl : D.length = 32 := by rw [hD]; exact shaN_length _
    have hDb : ∀ d ∈ D, d < 2 ^ 8 := by rw [hD]; exact shaN_lt _
    rw [← hD] at c2
    obtain ⟨S2, hS2⟩ : ∃ S, S = bs D := ⟨_, rfl⟩
    have hcv : ∀ W : World, (convert 26 9 (.slice (some ⟨W.heap.size, 0, none⟩) 32 32)).run Tryz.prog (W.alloc (.cells (byts D).toArray 24)) = .ok (.string S2) (W.alloc (.cells (byts D).toArray 24)) := fun W => by
      rw [hS2]
      exact conv_rangeI (cap := 32) hDl (range_new _ _ _ _ rfl)
    have ht : ∀ (W : World) (Z : Array Value), Z.size = 32 → (W.alloc (.cells Z 24)).there W.heap.size 0 32 := fun W Z hZ => by
      have := there_new W 24 Z.toList W.heap.size 0 32 rfl (by simp [hZ])
      simpa using this
    have hbl : (byts D).length = 32 := by rw [byts_length]; exact hDl
    have hb1 := byts_one D
    obtain ⟨C, hC⟩ : ∃ C, C = byts D := ⟨_, rfl⟩
    rw [← hC] at c2 hcv hbl hb1
    obtain ⟨E, hE⟩ : ∃ E, E = (S2.toList == SL.toList) := ⟨_, rfl⟩
    have hEs : E = decide (S2 = SL) := by rw [hE]; exact str_beq S2 SL
    have hEq : (S2.toList == SL.toList) = E := hE.symm
    have crd := fun W => read_any BD (by omega) W
    have cdc := fun W (rb : Nat) (h : Rd W rb BD 0 0) => decodedG_any rb BD W h (by omega) G hgood
    have cdn := fun W (rb a x : Nat) (h : Rd W rb BD a x) => done_any rb BD a x W h
    have het : E = true := by
      rw [hEs]
      refine decide_eq_true ?_
      rw [hS2, hD, hbe, ← hse, bs_list]
    have C2 := Box.mk c2; have HCV := Box.mk hcv; have CRD := Box.mk crd; have CDC := Box.mk cdc; have CDN := Box.mk cdn; have BW := Box.mk hbw; have HD := Box.mk hD
    subst het
    clear hB hG1 hG2 hG3 hbe hse hq5 hgood
    clear c2 hcv crd cdc cdn hbw hKw hBD hSL hbs hss hall hD hDl hDb hS2 hC hE hEs hsl hq1 hq2 hq3 hq4 hmz qw d40 d40p h40 HM HQ
    go_upto_region 10 with (first
      | (go_at_call 6; ((with_reducible refine C2.out.mono ?_); rintro e w7 ⟨rfl, b7⟩; have B7 := Box.mk b7; have hcv7 := HCV.out w7; clear b7 C2))
      | ((with_reducible refine at_store 24 (.tmp 6) (.tmp 24) ?_); refine wpList_store_mid rfl 24 (.tmp 6) (.tmp 24) rfl w7.heap.size 0 C.toArray rfl rfl (by have e : C.toArray.size = 32 := (by simp [hbl]); rw [e]; exact ht w7 _ rfl) (by have e : C.toArray.size = 32 := (by simp [hbl]); rw [e]; exact info_hash) (all_oneCell_toArray hb1) ?_; rw [show (w7.alloc _).setCells w7.heap.size 0 C.toArray.toList = w7.alloc (.cells C.toArray 24) from fillE w7 _ _ _ (by simp [hbl])])
      | (go_at_call 21; ((with_reducible refine (CRD.out _).mono ?_); rintro e w8 ⟨rfl, r8, b8⟩; have sz7 : (w7.alloc (.cells C.toArray 24)).heap.size = w7.heap.size + 1 := (by simp); rw [sz7] at r8; have R8 := Box.mk r8; have B8 := Box.mk b8; clear r8 b8))
      | (go_at_call 22; ((with_reducible refine (CDC.out _ _ R8.out).mono ?_); rintro e w9 ⟨tb, mo, rfl, t9, r9, o9⟩; have R9 := Box.mk r9; have O9 := Box.mk o9; have T9 := Box.mk t9; clear r9 o9 t9))
      | (go_at_call 23; ((with_reducible refine (CDN.out _ _ _ _ R9.out).mono ?_); rintro e w10 ⟨rfl, r10, o10⟩; have O10 := Box.mk o10; clear r10 o10)))
    have u7 := BW.out.trans (B7.out.mono BW.out.size)
    have u8 := u7.alloc u7.size (.cells C.toArray 24)
    have u9 := u8.trans (B8.out.mono u8.size)
    have h7 := u7.size
    have u10 := u9.trans (O9.out.below (B := w.heap.size) (by omega) u9.size)
    have u11 := u10.trans (O10.out.below (B := w.heap.size) (by omega) u10.size)
    have U := Box.mk u11
    have hT := T9.out
    have hne : tb ≠ w7.heap.size + 1 := fun e => by
      have h1 := hT.cell
      have h2 := R9.out.c0
      rw [e, h2] at h1
      cases h1
    have hT10 := hT.keep (O10.out.block tb hT.lt hne) (fun m e => O10.out.block m (hT.mapd m e).2.lt (mapE_ne (hT.mapd m e).2 R9.out.c0))
    have TT := Box.mk hT10
    clear hT hne hT10 u7 u8 u9 u10 u11 h7
    go_wp2
    exact bodyPost_ret (v := .tuple #[.pointer (some ⟨tb, 0, none⟩), .int .i64 0]) (by simp [results, go_sem]) rfl ⟨U.out, tb, mo, rfl, TT.out⟩

end Go.Proofs.YtacfdnjdjgdbcaaGreatDoor
namespace Go.Proofs.YtacfdnjdjgdbcaaGreatDoor
set_option maxRecDepth 100000
open Go.RowKit Go.Maps Go.Sort M

theorem Tab.nodup {w : World} {b : Nat} {mo : Option Nat} {l : List Ent} (h : Tab w b mo l) : (l.map kkE).Nodup := by
  cases mo with
  | none => rw [h.empt rfl]; exact List.nodup_nil
  | some m => exact (h.mapd m rfl).2.nd
end Go.Proofs.YtacfdnjdjgdbcaaGreatDoor
namespace Go.Proofs.YtacfdnjdjgdbcaaGreatDoor
set_option maxRecDepth 100000
open Go.RowKit Go.Maps Go.Sort M

set_option maxRecDepth 100000 in
set_option maxHeartbeats 4000000 in
theorem same_any (b : Nat) (mo : Option Nat) (l R : List Ent) (v : Value) (w : World) (h : Tab w b mo l) (hR : RefIn w v R) (hp : R.Perm l) (hr : Rising R) (hl : R.length ≤ 100) :
    Calls Tryz.prog 11 #[.pointer (some ⟨b, 0, none⟩), v] w fun e w' => e = .returned (.int .i64 0) ∧ Below w.heap.size w w' := by
  obtain ⟨vp, vc, rfl⟩ := hR.val
  obtain ⟨n, hn⟩ : ∃ n, n = R.length := ⟨_, rfl⟩
  have hln : l.length = n := by rw [hn]; exact hp.length_eq.symm
  have ca : Calls Tryz.prog 33 #[.pointer (some ⟨b, 0, none⟩)] w fun e w' => ∃ p c, e = .returned (.slice p n c) ∧ EntsIn w' (.slice p n c) R ∧ Below w.heap.size w w' := (all_any b mo l w h (by omega)).mono fun e w' ⟨v, ys, h1, h2, h3, h4, h5, _⟩ => by
    have e1 : ys = R := trising_one (h2.trans hp.symm) h3 hr
    rw [e1] at h4
    obtain ⟨p, c, hv⟩ := h4.val
    rw [hv] at h1 h4
    rw [← hn] at h1 h4
    exact ⟨p, c, h1, h4, h5⟩
  have cl : ∀ W, Below w.heap.size w W → Calls Tryz.prog 32 #[.pointer (some ⟨b, 0, none⟩)] W fun e w' => e = .returned (.int .i64 (n : Int)) ∧ W = w' := fun W hb => by
    have := len_any b mo l W (h.below hb)
    rw [hln] at this; exact this
  have enn : ((n : Int) != (n : Int)) = false := by simp
  have hn100 : n ≤ 100 := by omega
  rw [← hn]
  have CA := Box.mk ca; have CL := Box.mk cl; have HR := Box.mk hR; have HN := Box.mk hn
  clear ca cl hR hn h hp hr hl hln
  go_enter Tryz.func11, Tryz.ntmps11
  go_wp2_with (first
    | (go_at_call 33; ((with_reducible refine CA.out.mono ?_); rintro e w1 ⟨p, c, rfl, e1, b1⟩; have E1 := Box.mk e1; have B1 := Box.mk b1; clear e1 b1 CA))
    | (go_at_call 32; ((with_reducible refine (CL.out _ B1.out).mono ?_); rintro e w' ⟨rfl, rfl⟩)))
  go_loopw [24] (fun i wr => ∃ (k : Nat), i = .int .i64 (k : Int) ∧ k ≤ n ∧ Box (Below w1.heap.size w1 wr)) (fun i _ => n - (intOf i).toNat)
  case atStart => exact ⟨0, rfl, by omega, ⟨Below.refl _ _⟩⟩
  case round =>
    obtain ⟨k, rfl, hk, hb⟩ := hrel
    by_cases hlt : k < n
    · obtain ⟨g, gc, hv, hg, hc⟩ := E1.out.cells (by have := HN.out; omega)
      obtain ⟨rfl, _, rfl⟩ := Value.slice.inj hv
      obtain ⟨xg, xc, hv2, hxg, hxc⟩ := HR.out.cells (by have := HN.out; omega)
      obtain ⟨rfl, _, rfl⟩ := Value.slice.inj hv2
      obtain ⟨x, hx⟩ : ∃ x, R[k]? = some x := ⟨_, List.getElem?_eq_getElem (by have := HN.out; omega)⟩
      have rg : wr.rangeAt g (k * 33) (encE x) := fun j u hu => (hb.out.cell (show g < w1.heap.size from hg)).trans (hc k x hx j u hu)
      obtain ⟨c0, c1⟩ := hxc k x hx
      obtain ⟨W2, hW2⟩ : ∃ W2, W2 = wr.alloc (.cells (encE x).toArray 86) := ⟨_, rfl⟩
      have s2 : W2.heap.size = wr.heap.size + 1 := by rw [hW2]; simp
      have b2 : Below wr.heap.size wr W2 := by rw [hW2]; exact aset22 _ _
      have bw2 : Below w.heap.size w W2 := (B1.out.trans (hb.out.mono B1.out.size)).trans (b2.mono (by have := B1.out.size; have := hb.out.size; omega))
      have q0 : W2.cell? ⟨xg, k * 2, none⟩ = some (.string (bs x.key)) := (bw2.cell hxg).trans c0
      have q1 : W2.cell? ⟨xg, k * 2 + 1, none⟩ = some (.string x.text) := (bw2.cell hxg).trans c1
      have r2 : W2.rangeAt wr.heap.size 0 (encE x) := by rw [hW2]; exact range_new _ _ _ _ rfl
      have q2 : W2.cell? ⟨wr.heap.size, 32, none⟩ = some (.string x.text) := by have := r2 32 _ (encE_last x); rwa [Nat.zero_add] at this
      have rk : W2.rangeAt wr.heap.size 0 (byts x.key) := fun j u hu => r2 j u (by
        unfold encE
        rw [List.getElem?_append_left (List.getElem?_eq_some_iff.1 hu).1]; exact hu)
      have hcv : ∀ m, (convert 26 9 (.slice (some ⟨wr.heap.size, 0, none⟩) 32 32)).run Tryz.prog (W2.drewN m) = .ok (.string (bs x.key)) (W2.drewN m) := fun m => conv_rangeI (w := W2.drewN m) (cap := 32) x.kl (fun j u hu => rk j u hu)
      have BB2 := Box.mk (hb.out.trans (b2.mono hb.out.size))
      have ht : ∀ Z : Array Value, Z.size = 33 → (wr.alloc (.cells Z 86)).there wr.heap.size 0 33 := fun Z hZ => by
        have := there_new wr 86 Z.toList wr.heap.size 0 33 rfl (by simp [hZ])
        simpa using this
      obtain ⟨du, hu, hdu⟩ := und_entry
      obtain ⟨S, hS⟩ : ∃ S, S = bs x.key := ⟨_, rfl⟩
      rw [← hS] at q0 hcv
      have sbk := str_beq S S
      rw [decide_eq_true rfl] at sbk
      have sbt := str_beq x.text x.text
      rw [decide_eq_true rfl] at sbt
      have HW2 := Box.mk hW2; have RG := Box.mk rg
      clear hW2 rg hv hv2 hc hxc c0 c1 hx r2 rk s2 b2 bw2 hS
      go_upto_region 7 with (first
        | ((with_reducible refine at_load 86 (.tmp 27) ?_); refine wpList_load_mid rfl 86 (.tmp 27) rfl g (k * 33) (by first | rfl | simp) (encE x) du RG.out hu hdu (by rw [encE_len]; exact info_entry) ?_)
        | ((with_reducible refine at_store 86 (.tmp 7) (.tmp 28) ?_); refine wpList_store_mid rfl 86 (.tmp 7) (.tmp 28) rfl wr.heap.size 0 (encE x).toArray rfl rfl (by have e : (encE x).toArray.size = 33 := (by simp [encE_len]); rw [e]; exact ht _ rfl) (by have e : (encE x).toArray.size = 33 := (by simp [encE_len]); rw [e]; exact info_entry) (all_oneCell_toArray (encE_one x)) ?_; rw [show (wr.alloc _).setCells wr.heap.size 0 (encE x).toArray.toList = W2 from (by rw [HW2.out]; exact fillE wr _ _ _ (by simp [encE_len]))]))
      go_quiet (fail)
      go_wp2_with fail
      go_roundw
      case rel => exact ⟨_, _, _, _, ⟨k + 1, rfl, by omega, ⟨BB2.out.trans (Below.mono (⟨rfl, rfl, rfl, Nat.le_refl _, fun _ _ => rfl⟩ : Below W2.heap.size W2 (W2.drewN nq)) BB2.out.size)⟩⟩, rfl, rfl, rfl, by go_num⟩
      case measure => simp [intOf] <;> omega
    · obtain rfl : k = n := by omega
      go_wp2_with fail
      go_ret
      exact ⟨rfl, B1.out.trans (hb.out.mono B1.out.size)⟩
end Go.Proofs.YtacfdnjdjgdbcaaGreatDoor
namespace Go.Proofs.YtacfdnjdjgdbcaaGreatDoor
set_option maxRecDepth 100000
open Go.RowKit Go.Maps Go.Sort M

theorem bytT_lt (G : List Ent) : ∀ d ∈ bytT G, d < 2 ^ 8 := by
  intro d hd
  rcases List.mem_append.1 hd with h | h
  · exact preL_lt _ _ d h
  · exact shaN_lt _ d h
theorem bytT_len {G : List Ent} (h1 : G.length ≤ 12) (h2 : ∀ x ∈ G, x.text.size ≤ 60) : (bytT G).length ≤ 20000 ∧ 40 ≤ (bytT G).length := by
  unfold bytT encT preL
  rw [List.take_length, List.length_append, List.length_append, List.length_append, shaN_length]
  have a := flat_len G 60 h2
  have b := numL_length G.length
  have c : magL.length = 8 := rfl
  have d : G.length * (41 + 60) ≤ 12 * 101 := Nat.mul_le_mul_right _ h1
  omega
end Go.Proofs.YtacfdnjdjgdbcaaGreatDoor
