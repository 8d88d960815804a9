/- Tables: layer 22's answers that the document fixes; TableOne. -/
import Derived.Test.YtpinpplbjgbkaaaDoorTabL
namespace Go.Proofs.YtpinpplbjgbkaaaDoor
set_option maxRecDepth 100000
open Go.RowKit Go.Maps Go.Sort M

theorem TExt.below {b B : Nat} {mo mo' : Option Nat} {w w' : World} (h : TExt b mo mo' w w') (hB : B ≤ b) (hs : B ≤ w.heap.size) (hm : ∀ m, mo = some m → B ≤ m) : Below B w w' :=
  ⟨h.os, h.tape, h.output, h.size, fun k hk => h.block k (by omega) (by omega) (fun e => by have := hm k e; omega)⟩

set_option maxRecDepth 100000 in
set_option maxHeartbeats 2000000 in
theorem awake22_any (w : World) (hK : KTab w) : Calls Tryd.prog 9 #[] w fun e w' => e = .returned (.bool true) ∧ Below w.heap.size w w' := by
  obtain ⟨D, hD⟩ : ∃ D, D = shaN (sb ⟨#[120]⟩) := ⟨_, rfl⟩
  have hDl : D.length = 32 := by rw [hD]; exact shaN_length _
  have hDb : ∀ d ∈ D, d < 2 ^ 8 := by rw [hD]; exact shaN_lt _
  obtain ⟨x, hx⟩ : ∃ x : Ent, x = ⟨D, ⟨#[97]⟩, hDl, hDb⟩ := ⟨_, rfl⟩
  obtain ⟨y, hy⟩ : ∃ y : Ent, y = ⟨D, ⟨#[98]⟩, hDl, hDb⟩ := ⟨_, rfl⟩
  have hxk : x.key = D := by rw [hx]
  have hyk : y.key = D := by rw [hy]
  have hxt : x.text = ⟨#[97]⟩ := by rw [hx]
  have hyt : y.text = ⟨#[98]⟩ := by rw [hy]
  have hkk : kkE x = kkE y := by unfold kkE; rw [hxk, hyk]
  obtain ⟨V, hV⟩ : ∃ V, V = w.alloc (.cells #[.map none] 40) := ⟨_, rfl⟩
  have bV : Below w.heap.size w V := by rw [hV]; exact (Below.refl _ _).alloc (Nat.le_refl _) _
  have tV : V.heap[w.heap.size]? = some (.cells #[.map none] 40 (0, 0)) := by rw [hV]; exact heap_alloc_new w _
  have T0 : Tab V w.heap.size none [] := ⟨by simp only [World.cell?, tV]; rfl, by simp only [World.frozen?, tV]; rfl, fun _ => rfl, fun m e => by cases e⟩
  have c1 := shaOf_any ⟨#[120]⟩ (by decide) V (ktab_below hK bV)
  rw [← hD] at c1
  have hbl : (byts D).length = 32 := by rw [byts_length]; exact hDl
  have hb1 := byts_one D
  have ht : ∀ (W : World) (Z : Array Value), Z.size = 32 → (W.alloc (.cells Z 24)).there W.heap.size 0 32 := fun W Z hZ => by
    have := there_new W 24 Z.toList W.heap.size 0 32 rfl (by simp [hZ])
    simpa using this
  have cp1 : ∀ W, Tab W w.heap.size none [] → Calls Tryd.prog 12 #[.pointer (some ⟨w.heap.size, 0, none⟩), .agg (byts D).toArray, .string ⟨#[97]⟩] W fun e w' => e = .returned (.bool true) ∧ ∃ mo', Tab w' w.heap.size mo' [x] ∧ TExt w.heap.size none mo' W w' := fun W h => by
    have p := put_new w.heap.size none [] x W h (fun z hz => by simp at hz) (by simp [maxLen])
    unfold ekE at p
    rw [hxk, hxt] at p
    exact p
  have cp2 : ∀ W mo, Tab W w.heap.size mo [x] → Calls Tryd.prog 12 #[.pointer (some ⟨w.heap.size, 0, none⟩), .agg (byts D).toArray, .string ⟨#[98]⟩] W fun e w' => e = .returned (.bool false) ∧ Below W.heap.size W w' := fun W mo h => by
    have p := put_there w.heap.size mo [x] y x W h (by simp) hkk
    unfold ekE at p
    rw [hyk, hyt] at p
    exact p
  have cg : ∀ W mo, Tab W w.heap.size mo [x] → Calls Tryd.prog 20 #[.pointer (some ⟨w.heap.size, 0, none⟩), .agg (byts D).toArray] W fun e w' => e = .returned (.tuple #[.string ⟨#[97]⟩, .bool true]) ∧ Below W.heap.size W w' := fun W mo h => by
    have p := get_there w.heap.size mo [x] y x W h (by simp) hkk
    unfold ekE at p
    rw [hyk, hxt] at p
    exact p
  have cl : ∀ W mo, Tab W w.heap.size mo [x] → Calls Tryd.prog 21 #[.pointer (some ⟨w.heap.size, 0, none⟩)] W fun e w' => e = .returned (.int .i64 1) ∧ W = w' := fun W mo h => len_any w.heap.size mo [x] W h
  obtain ⟨C, hC⟩ : ∃ C, C = byts D := ⟨_, rfl⟩
  rw [← hC] at c1 hbl hb1 cp1 cp2 cg
  have C1 := Box.mk c1; have CP1 := Box.mk cp1; have CP2 := Box.mk cp2; have CG := Box.mk cg; have CL := Box.mk cl; have TT0 := Box.mk T0; have BV := Box.mk bV; have HV := Box.mk hV
  clear c1 cp1 cp2 cg cl T0 tV bV hV hD hDl hDb hx hy hxk hyk hxt hyt hkk hC
  go_enter Tryd.func9, Tryd.ntmps9
  go_wp2_with (first
    | (go_at_call 7; (rw [← HV.out]; (with_reducible refine C1.out.mono ?_); rintro e w1 ⟨rfl, b1⟩; have lw : w.heap.size < w1.heap.size := (Nat.lt_of_lt_of_le TT0.out.lt b1.size); have LW := Box.mk lw; clear lw; have T1 := Box.mk (TT0.out.below (b1.alloc (by exact b1.size) (.cells C.toArray 24))); have B1 := Box.mk (BV.out.trans ((b1.alloc (by exact b1.size) (.cells C.toArray 24)).mono BV.out.size)); have rr := range_new w1 24 C w1.heap.size rfl; have RR := Box.mk rr; clear b1 rr C1))
    | ((with_reducible refine at_store 24 (.tmp 2) (.tmp 7) ?_); refine wpList_store_mid rfl 24 (.tmp 2) (.tmp 7) rfl w1.heap.size 0 C.toArray rfl rfl (by have e : C.toArray.size = 32 := (by simp [hbl]); rw [e]; exact ht w1 _ rfl) (by have e : C.toArray.size = 32 := (by simp [hbl]); rw [e]; exact info_hash) (all_oneCell_toArray hb1) ?_; rw [show (w1.alloc _).setCells w1.heap.size 0 C.toArray.toList = w1.alloc (.cells C.toArray 24) from fillE w1 _ _ _ (by simp [hbl])]; obtain ⟨W2, hW2⟩ : ∃ W2, W2 = w1.alloc (.cells C.toArray 24) := ⟨_, rfl⟩; rw [← hW2]; rw [← hW2] at T1 B1 RR; clear hW2)
    | ((with_reducible refine at_load 24 (.tmp 2) ?_); refine wpList_load_mid rfl 24 (.tmp 2) rfl w1.heap.size 0 rfl C _ RR.out und_hash rfl (by rw [hbl]; exact info_hash) ?_)
    | ((with_reducible refine at_load 24 (.tmp 2) ?_); refine wpList_load_mid rfl 24 (.tmp 2) rfl w1.heap.size 0 rfl C _ RR3.out und_hash rfl (by rw [hbl]; exact info_hash) ?_)
    | ((with_reducible refine at_load 24 (.tmp 2) ?_); refine wpList_load_mid rfl 24 (.tmp 2) rfl w1.heap.size 0 rfl C _ RR4.out und_hash rfl (by rw [hbl]; exact info_hash) ?_)
    | (go_at_call 12; ((with_reducible refine (CP1.out _ T1.out).mono ?_); rintro e w3 ⟨rfl, mo, t3, x3⟩; have T3 := Box.mk t3; have B3 := Box.mk (B1.out.trans (x3.below (B := w.heap.size) (Nat.le_refl _) B1.out.size (fun m e => by cases e))); have RR3 := Box.mk (range_keep RR.out (x3.block w1.heap.size (World.block_lt_of_cell? _ _ (RR.out 0 _ (List.getElem?_eq_getElem (by omega)))) (by have := LW.out; omega) (fun e => by cases e))); clear t3 x3 CP1))
    | (go_at_call 12; ((with_reducible refine (CP2.out _ _ T3.out).mono ?_); rintro e w4 ⟨rfl, b4⟩; have T4 := Box.mk (T3.out.below b4); have B4 := Box.mk (B3.out.trans (b4.mono B3.out.size)); have RR4 := Box.mk (range_below b4 RR3.out); clear b4 CP2))
    | (go_at_call 20; ((with_reducible refine (CG.out _ _ T4.out).mono ?_); rintro e w5 ⟨rfl, b5⟩; have T5 := Box.mk (T4.out.below b5); have B5 := Box.mk (B4.out.trans (b5.mono B4.out.size)); clear b5 CG))
    | (go_at_call 21; ((with_reducible refine (CL.out _ _ T5.out).mono ?_); rintro e w' ⟨rfl, rfl⟩)))
  go_ret
  exact ⟨rfl, B5.out⟩

/-! ### bytes that are read as a table are its bytes -/
theorem rising_one {xs ys : List Ent} (hp : xs.Perm ys) (h1 : Rising xs) (h2 : Rising ys) : xs = ys := by
  refine List.Perm.eq_of_pairwise (le := fun a b => cfE a b < 0) (fun a b _ _ h1 h2 => ?_) h1 h2 hp
  have := cb_trans _ _ _ h1 h2
  rw [cb_self] at this
  exact absurd this (by decide)
theorem bytT_small {ys : List Ent} {s : ByteArray} (h : sb s = bytT ys) (hs : s.size ≤ 900) : ys.length ≤ 100 ∧ ∀ x ∈ ys, x.text.size ≤ 1000 := by
  have hl := congrArg List.length h
  rw [sb_length] at hl
  unfold bytT encT preL at hl
  rw [List.take_length, List.length_append, List.length_append, List.length_append] at hl
  have h1 := flat_ge ys
  refine ⟨by omega, fun x hx => ?_⟩
  obtain ⟨a, b, rfl⟩ := List.append_of_mem hx
  have h2 : x.text.size ≤ ((a ++ x :: b).flatMap entL).length := by
    rw [List.flatMap_append, List.flatMap_cons, List.length_append, List.length_append]
    have : x.text.size ≤ (entL x).length := by unfold entL txtL; rw [List.length_append, List.length_append, sb_length]; omega
    omega
  omega
end Go.Proofs.YtpinpplbjgbkaaaDoor
