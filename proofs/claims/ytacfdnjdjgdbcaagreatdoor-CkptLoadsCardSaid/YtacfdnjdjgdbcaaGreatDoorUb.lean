/- CkpC, CkpE, CkpF, in one text. -/
import Derived.Test.YtacfdnjdjgdbcaaGreatDoorCkpB
import Derived.Test.YtacfdnjdjgdbcaaGreatDoorUa
import Derived.BigQuiet
namespace Go.Proofs.YtacfdnjdjgdbcaaGreatDoor
set_option maxRecDepth 100000
open Go.RowKit Go.Maps Go.Sort M

theorem readC {S : DS} {s f : Option Nat} (hd : S.dead = false) (n : CNow S s f) : findC S nmS = (if s.isSome then 0 else 5) ∧ readD S nmS = (s.map fun m => (S.file m).data).getD [] := by
  have e := kget_S n.names
  have hd' : ¬ S.dead = true := by rw [hd]; decide
  unfold findC readD findN
  rw [if_neg hd', if_neg hd', e]
  exact ⟨rfl, by cases s <;> rfl⟩
/-- what Load answers where all is well -/
def LoadP (ok : Bool) (R : List Ent) (w : World) (e : Ending) (w' : World) : Prop :=
  Below w.heap.size w w' ∧ ∃ tb mo l, e = .returned (.tuple #[.pointer (some ⟨tb, 0, none⟩), .bool ok, .int .i64 0]) ∧ Tab w' tb mo l ∧ l.Perm R
theorem load_none (b : Nat) (F : Nat → Prop) (S : DS) (f : Option Nat) (w : World) (h : HasF w b F S) (hr : ∀ p ∈ S.names, 1 ≤ p.2 ∧ p.2 ≤ S.made) (hd : S.dead = false) (n : CNow S none f) :
    Calls Tryz.prog 17 #[.pointer (some ⟨b, 0, none⟩)] w (LoadP false [] w) := by
  have c : Calls Tryz.prog 42 #[.pointer (some ⟨b, 0, none⟩), .string ⟨#[115, 116, 111, 114, 101]⟩] w fun e w' => e = .returned (.tuple #[.string (bs (readD S nmS)), .int .i64 (findC S nmS)]) ∧ w = w' := read_f b F S nmS w h hr nmS_len
  obtain ⟨r1, r2⟩ := readC hd n
  rw [r1, r2] at c
  have C := Box.mk c
  obtain ⟨V, hV⟩ : ∃ V, V = w.alloc (.cells #[.map none] 78) := ⟨_, rfl⟩
  have bV : Below w.heap.size w V := by rw [hV]; exact aset22 _ _
  have tV : V.heap[w.heap.size]? = some (.cells #[.map none] 78 (0, 0)) := by rw [hV]; exact heap_alloc_new w _
  have T0 : Tab V w.heap.size none [] := ⟨by simp only [World.cell?, tV]; rfl, by simp only [World.frozen?, tV]; rfl, fun _ => rfl, fun m e => by cases e⟩
  have HV := Box.mk hV; have BV := Box.mk bV; have TT := Box.mk T0
  clear c h hr hd n r1 r2 hV bV tV T0
  go_enter Tryz.func17, Tryz.ntmps17
  go_wp2_with (go_at_call 42; ((with_reducible refine C.out.mono ?_); rintro e w' ⟨rfl, rfl⟩; clear C))
  rw [← HV.out]
  exact bodyPost_ret (v := .tuple #[.pointer (some ⟨w.heap.size, 0, none⟩), .bool false, .int .i64 0]) (by simp [results, go_sem]) rfl ⟨BV.out, _, none, [], rfl, TT.out, List.Perm.refl _⟩
theorem load_some (b : Nat) (F : Nat → Prop) (S : DS) (m : Nat) (f : Option Nat) (R : List Ent) (w : World) (h : HasF w b F S) (hr : ∀ p ∈ S.names, 1 ≤ p.2 ∧ p.2 ≤ S.made) (hd : S.dead = false) (n : CNow S (some m) f) (hK : KTab w)
    (hR : (S.file m).data = bytT R) (h1 : Rising R) (h2 : ∀ x ∈ R, x.text.size ≤ 60) (h3 : R.length ≤ 12) :
    Calls Tryz.prog 17 #[.pointer (some ⟨b, 0, none⟩)] w (LoadP true R w) := by
  have c : Calls Tryz.prog 42 #[.pointer (some ⟨b, 0, none⟩), .string ⟨#[115, 116, 111, 114, 101]⟩] w fun e w' => e = .returned (.tuple #[.string (bs (readD S nmS)), .int .i64 (findC S nmS)]) ∧ w = w' := read_f b F S nmS w h hr nmS_len
  obtain ⟨r1, r2⟩ := readC hd n
  rw [r1, r2] at c
  have c : Calls Tryz.prog 42 #[.pointer (some ⟨b, 0, none⟩), .string ⟨#[115, 116, 111, 114, 101]⟩] w fun e w' => e = .returned (.tuple #[.string (bs (bytT R)), .int .i64 0]) ∧ w = w' := by rw [← hR]; exact c
  have hsz : (bs (bytT R)).size ≤ 20000 := by rw [bs_size]; have := bytT_small' h3 h2; omega
  have cp : Calls Tryz.prog 7 #[.string (bs (bytT R))] w (ParsG R w) :=
    parseG_any _ w hsz hK R (by rw [sb_bs _ (bytT_lt R)]) h1 (fun x hx => by have := h2 x hx; omega) (by omega)
  obtain ⟨D, hD⟩ : ∃ D, D = bs (bytT R) := ⟨_, rfl⟩
  rw [← hD] at c cp
  have C := Box.mk c; have CP := Box.mk cp
  clear c cp hD h hr hd n r1 r2 hK hR h1 h2 h3 hsz
  go_enter Tryz.func17, Tryz.ntmps17
  go_wp2_with (first
    | (go_at_call 42; ((with_reducible refine C.out.mono ?_); rintro e w' ⟨rfl, rfl⟩; clear C))
    | (go_at_call 7; ((with_reducible refine CP.out.mono ?_); rintro e w2 ⟨b2, tb, mo, rfl, t2⟩; have B2 := Box.mk b2; have T2 := Box.mk t2; clear b2 t2 CP)))
  exact bodyPost_ret (v := .tuple #[.pointer (some ⟨tb, 0, none⟩), .bool true, .int .i64 0]) (by simp [results, go_sem]) rfl ⟨B2.out, tb, mo, _, rfl, T2.out, List.reverse_perm R⟩
end Go.Proofs.YtacfdnjdjgdbcaaGreatDoor
namespace Go.Proofs.YtacfdnjdjgdbcaaGreatDoor
set_option maxRecDepth 100000
open Go.RowKit Go.Maps Go.Sort M

/-- blocks of F, and those made since -/
def ExtF (F : Nat → Prop) (w w' : World) : Nat → Prop := fun k => F k ∨ (w.heap.size ≤ k ∧ k < w'.heap.size)
theorem HasF.ext {w w' : World} {b : Nat} {F : Nat → Prop} {S : DS} (h : HasF w b F S) (hb : Below w.heap.size w w') : HasF w' b (ExtF F w w') S :=
  h.mine hb.size (fun k hl _ => hb.block k hl) (fun _ hk => hk)
/-- a disk that holds a table, or none: P says what its file may hold, now and behind any crash -/
structure CkD (w : World) (b : Nat) (F : Nat → Prop) (S : DS) (k : Nat) (P : Option (List Nat) → Prop) : Prop where
  h : HasF w b F S
  z : Sz S k k
  i : CInv S P
  n : ∃ s f, CNow S s f
theorem CkD.ext {w w' : World} {b k : Nat} {F : Nat → Prop} {S : DS} {P : Option (List Nat) → Prop} (d : CkD w b F S k P) (hb : Below w.heap.size w w') : CkD w' b (ExtF F w w') S k P := ⟨d.h.ext hb, d.z, d.i, d.n⟩
theorem CkD.below {w w' : World} {b k : Nat} {F : Nat → Prop} {S : DS} {P : Option (List Nat) → Prop} (d : CkD w b F S k P) (hb : Below w.heap.size w w') : CkD w' b F S k P := ⟨d.h.below hb, d.z, d.i, d.n⟩
theorem CkD.mono {w : World} {b k : Nat} {F : Nat → Prop} {S : DS} {P Q : Option (List Nat) → Prop} (d : CkD w b F S k P) (h : ∀ x, P x → Q x) : CkD w b F S k Q := ⟨d.h, d.z, d.i.mono h, d.n⟩
theorem CkD.lt {w : World} {b k : Nat} {F : Nat → Prop} {S : DS} {P : Option (List Nat) → Prop} (d : CkD w b F S k P) {j : Nat} (h : F j) : j < w.heap.size := d.h.lt h
theorem CkD.begun {w : World} {b : Nat} {F : Nat → Prop} {room : Int} (h : HasF w b F (newS room)) (hr : room ≤ 9223372036854775807) : CkD w b F (newS room) 0 (fun x => x = none) :=
  ⟨h, Sz.begun room hr, (inv_new room (fun x => x = none) rfl).1, none, none, (inv_new room (fun x => x = none) rfl).2⟩

/-- what a law's Save leaves -/
def SavC (b : Nat) (F : Nat → Prop) (S : DS) (k : Nat) (P : Option (List Nat) → Prop) (R : List Ent) (w : World) (e : Ending) (w' : World) : Prop :=
  ∃ kk S', e = .returned (.int .i64 kk) ∧ SaveR (bytT R) S kk S' ∧ CkD w' b F S' (k + 120) (fun x => P x ∨ x = some (bytT R)) ∧ (kk = 0 → CkD w' b F S' (k + 120) (fun x => x = some (bytT R))) ∧ KeepF F w w'
theorem save_c {w : World} {b k tb : Nat} {F : Nat → Prop} {S : DS} {P : Option (List Nat) → Prop} {R : List Ent} (d : CkD w b F S k P) (hk : k ≤ 40000) (hT : TabF w F tb R) (hK : KTab w) (kF : KF F) :
    Calls Tryz.prog 35 #[.pointer (some ⟨b, 0, none⟩), .pointer (some ⟨tb, 0, none⟩)] w (SavC b F S k P R w) :=
  (save_any b F S tb R w d.h d.z (by omega) (by omega) hT hK kF).mono fun e w' ⟨kk, S', h1, h2, h3, h4⟩ => by
    obtain ⟨s, f, n⟩ := d.n
    obtain ⟨⟨a, n'⟩, c⟩ := h2.inv d.i n
    have z := (h2.sz d.z (bytT_small' hT.len hT.text)).up (Nat.le_refl _) (show k + 6 ≤ k + 120 by omega)
    exact ⟨kk, S', h1, h2, ⟨h3, z, a, n'⟩, fun e => ⟨h3, z, c e, n'⟩, h4⟩
/-- .. on a disk on which nothing goes wrong -/
theorem SavC.ok {b k : Nat} {F : Nat → Prop} {S : DS} {P : Option (List Nat) → Prop} {R : List Ent} {w w' : World} {e : Ending} (h : SavC b F S k P R w e w') (d : CkD w b F S k P) (hc : Calm S) (hr : S.used + (bytT R).length ≤ S.room) :
    ∃ S', e = .returned (.int .i64 0) ∧ CkD w' b F S' (k + 120) (fun x => x = some (bytT R)) ∧ Calm S' ∧ S'.room = S.room ∧ KeepF F w w' := by
  obtain ⟨kk, S', h1, h2, h3, h4, h5⟩ := h
  obtain ⟨s, f, n⟩ := d.n
  obtain ⟨e0, c, r⟩ := h2.ok hc d.i n hr
  exact ⟨S', by rw [h1, e0], h4 e0, c, r, h5⟩
theorem CkD.used {w : World} {b k : Nat} {F : Nat → Prop} {S : DS} {P : Option (List Nat) → Prop} (d : CkD w b F S k P) : S.used ≤ (100 * k : Nat) := by
  obtain ⟨C, h⟩ := d.z
  exact h.used1
/-- what a law's Restart leaves -/
def RestC (b : Nat) (F : Nat → Prop) (S : DS) (k : Nat) (P : Option (List Nat) → Prop) (w : World) (e : Ending) (w' : World) : Prop :=
  ∃ S', e = .returned (.tuple #[]) ∧ CkD w' b F S' k P ∧ Calm S' ∧ S'.room = S.room ∧ KeepF F w w'
theorem restart_c {w : World} {b k : Nat} {F : Nat → Prop} {S : DS} {P : Option (List Nat) → Prop} {v : Value} {choice : List Int} (d : CkD w b F S k P) (hk : k ≤ 40000) (hv : IntsIn w v choice) (hvo : ∀ k, 0 < choice.length → v.ownBlock = some k → F k) :
    Calls Tryz.prog 36 #[.pointer (some ⟨b, 0, none⟩), v] w (RestC b F S k P w) :=
  (restart_f b F S v choice w d.h (d.z.fine (by omega) (by omega)) (d.z.crestOk (by omega) choice) hv hvo).mono fun e w' ⟨h1, h2, h3⟩ => by
    obtain ⟨a, n⟩ := inv_again d.i choice
    obtain ⟨c, r⟩ := again_calm d.i choice
    exact ⟨_, h1, ⟨h2, d.z.again d.i choice, a, n⟩, c, r, h3⟩
/-- a list as the laws' tables have it -/
structure LstOk (R : List Ent) : Prop where
  up : Rising R
  text : ∀ x ∈ R, x.text.size ≤ 60
  len : R.length ≤ 12
theorem LstOk.nil : LstOk [] := ⟨List.Pairwise.nil, fun x hx => (nomatch hx), by simp⟩
theorem load_c {w : World} {b k : Nat} {F : Nat → Prop} {S : DS} {P : Option (List Nat) → Prop} (d : CkD w b F S k P) (hk : k ≤ 40000) (hd : S.dead = false) (hK : KTab w) (L : List (List Ent)) (hL : ∀ R ∈ L, LstOk R) (hP : ∀ x, P x → ∃ R ∈ L, x = some (bytT R)) :
    Calls Tryz.prog 17 #[.pointer (some ⟨b, 0, none⟩)] w fun e w' => ∃ R ∈ L, LoadP true R w e w' := by
  obtain ⟨s, f, n⟩ := d.n
  have v := d.i.at n
  obtain ⟨R, hR, e⟩ := hP _ v.what
  have o := hL R hR
  cases s with
  | none => cases e
  | some m =>
    have e : (S.file m).data = bytT R := Option.some.inj e
    exact (load_some b F S m f R w d.h (d.z.fine (by omega) (by omega)).nref hd n hK e o.up o.text o.len).mono fun e w' h => ⟨R, hR, h⟩

theorem bytT_le {G : List Ent} (h2 : ∀ x ∈ G, x.text.size ≤ 60) : (bytT G).length ≤ 200 + 101 * G.length := by
  unfold bytT encT preL
  rw [List.take_length, List.length_append, List.length_append, List.length_append, shaN_length]
  have a := flat_len G 60 h2
  have b := numL_length G.length
  have c : magL.length = 8 := rfl
  have d : G.length * (41 + 60) = 101 * G.length := Nat.mul_comm _ _
  omega
/-- what a law's Grow leaves, beside a disk -/
theorem GrowP.tab {w w' : World} {n : Nat} {A B : Nat → ByteArray} {e : Ending} (h : GrowP w n A B e w') (F : Nat → Prop) :
    ∃ tb v R, e = .returned (.tuple #[.pointer (some ⟨tb, 0, none⟩), v]) ∧ TabF w' (ExtF F w w') tb R ∧ RefIn w' v R ∧ (0 < R.length → ∀ k, v.ownBlock = some k → ExtF F w w' k) ∧ LstOk R ∧ R.length ≤ n ∧ Below w.heap.size w w' := by
  obtain ⟨tb, mo, l, v, R, h1, t, r, p, u, s, hb, o1, o2, o3⟩ := h
  have hl : l.length ≤ 12 := by have := s.length_le; rw [itL_length] at this; omega
  have hx := itL_text s
  have lo : LstOk R := ⟨u, fun x hx' => hx x (p.mem_iff.1 hx'), by rw [p.length_eq]; exact hl⟩
  refine ⟨tb, v, R, h1, ⟨⟨mo, l, t, fun m e => .inr ⟨o2 m e, (t.mapd m e).2.lt⟩, p.symm⟩, .inr ⟨o1, t.lt⟩, lo.up, lo.text, lo.len⟩, r, fun h0 k hk => .inr ⟨o3 k hk, ?_⟩, lo, by have := s.length_le; rw [itL_length] at this; have := p.length_eq; omega, hb⟩
  obtain ⟨g, c, e, hg, _⟩ := r.cells h0
  rw [e] at hk
  cases hk; exact hg
end Go.Proofs.YtacfdnjdjgdbcaaGreatDoor
namespace Go.Proofs.YtacfdnjdjgdbcaaGreatDoor
set_option maxRecDepth 100000
open Go.RowKit Go.Maps Go.Sort M

/-- one item, as a law writes it -/
theorem iin_one (w : World) (a b : ByteArray) : IIn (w.alloc (.cells #[.string a, .string b] 94)) (.slice (some ⟨w.heap.size, 0, none⟩) 1 1) 1 (fun _ => a) (fun _ => b) := by
  have t : (w.alloc (.cells #[.string a, .string b] 94)).heap[w.heap.size]? = some (.cells #[.string a, .string b] 94 (0, 0)) := heap_alloc_new w _
  refine ⟨⟨_, _, rfl⟩, fun _ => ⟨w.heap.size, 0, 1, rfl, by simp, fun i hi => ?_⟩⟩
  obtain rfl : i = 0 := by omega
  exact ⟨by simp only [World.cell?, t]; rfl, by simp only [World.cell?, t]; rfl⟩

set_option maxRecDepth 100000 in
set_option maxHeartbeats 4000000 in
theorem awake23_any (w : World) (hK : KTab w) : Calls Tryz.prog 13 #[] w fun e w' => e = .returned (.bool true) ∧ Below w.heap.size w w' := by
  have kg : 0 < w.heap.size := ktab_lt hK
  have HK := Box.mk hK; have KG := Box.mk kg
  clear hK kg
  go_enter Tryz.func13, Tryz.ntmps13
  go_upto_region 2 with (go_at_call 12; ((with_reducible refine (dnew_f 1000 w (by omega) (by omega)).mono ?_); rintro e w1 ⟨b, rfl, d1, b1⟩; have D1 := Box.mk (CkD.begun d1 (by omega)); have B1 := Box.mk b1; clear d1 b1))
  go_upto_region 3 with (go_at_call 34; ((with_reducible refine (grow_any _ 1 _ _ _ (iin_one w1 _ _) (by omega) (ktab_below HK.out (B1.out.alloc B1.out.size _))).mono ?_); rintro e w3 hg; obtain ⟨tb, v, R, rfl, t3, r3, v3, l3, n3, b3⟩ := hg.tab (fun _ => False); obtain ⟨rp, rc, rfl⟩ := r3.val; have T3 := Box.mk t3; have R3 := Box.mk r3; have V3 := Box.mk v3; have L3 := Box.mk l3; have N3 := Box.mk n3; have B3 := Box.mk b3; clear hg t3 r3 v3 l3 n3 b3))
  obtain ⟨WI, hWI⟩ : ∃ W, W = w1.alloc (.cells #[.string ⟨#[97]⟩, .string ⟨#[98]⟩] 94) := ⟨_, rfl⟩
  rw [← hWI] at T3 V3 B3
  have sI : w1.heap.size ≤ WI.heap.size := by rw [hWI]; simp
  have bI : Below w1.heap.size w1 w3 := (show Below w1.heap.size w1 WI by rw [hWI]; exact aset22 _ _).trans (B3.out.mono sI)
  obtain ⟨F, hF⟩ : ∃ F, F = ExtF (fun k => k < w.heap.size) w1 w3 := ⟨_, rfl⟩
  have sub : ∀ k, ExtF (fun _ => False) WI w3 k → F k := fun k hk => by
    rw [hF]
    rcases hk with hk | ⟨h1, h2⟩
    · exact hk.elim
    · exact .inr ⟨by omega, h2⟩
  have D3 := Box.mk (show CkD w3 b F (newS 1000) 0 (fun x => x = none) by rw [hF]; exact D1.out.ext bI)
  have TT := Box.mk (T3.out.keep (KeepF.refl _ _) sub)
  have VV := Box.mk (fun h0 k hk => sub k (V3.out h0 k hk))
  have KF3 := Box.mk (show KF F by rw [hF]; exact .inl KG.out)
  have b13 : Below w.heap.size w w3 := B1.out.trans (bI.mono B1.out.size)
  have KT := Box.mk (ktab_below HK.out b13)
  have B13 := Box.mk b13
  have old := Box.mk (show ∀ k, k < w.heap.size → F k from fun k hk => by rw [hF]; exact .inl hk)
  have SZ := Box.mk (show (newS 1000).used + (bytT R).length ≤ (newS 1000).room by have := bytT_le L3.out.text; have := N3.out; show (0 : Int) + _ ≤ max 1000 0; omega)
  have CC := Box.mk (show Calm (newS 1000) from ⟨rfl, rfl, rfl⟩)
  clear hWI sI bI hF sub D1 T3 V3 b13 B3 B1 N3
  have ab := Box.mk (show w.heap.size ≤ w3.heap.size from B13.out.size)
  go_upto_region 5 with (go_at_call 35; ((with_reducible refine (save_c D3.out (by omega) TT.out KT.out KF3.out).mono ?_); rintro e w4 hs; obtain ⟨S4, rfl, d4, c4, r4, k4⟩ := hs.ok D3.out CC.out SZ.out; have D4 := Box.mk d4; have K4 := Box.mk k4; clear hs d4 c4 r4 k4 D3))
  go_upto_region 6 with (go_at_call 36; ((with_reducible refine (restart_c D4.out (by omega) (ints_nil _) (fun k h0 _ => absurd h0 (Nat.lt_irrefl _))).mono ?_); rintro e w5 ⟨S5, rfl, d5, c5, r5, k5⟩; have D5 := Box.mk d5; have C5 := Box.mk c5; have K5 := Box.mk (K4.out.trans k5); clear d5 c5 r5 k5 D4))
  have KT5 := Box.mk (ktab_keepF KT.out KF3.out K5.out)
  go_upto_region 7 with (go_at_call 17; ((with_reducible refine (load_c D5.out (by omega) C5.out.alive KT5.out [R] (fun R' h => by rw [List.mem_singleton] at h; rw [h]; exact L3.out) (fun x hx => ⟨R, by simp, hx⟩)).mono ?_); rintro e w6 ⟨R', hR', b6, ub, mo, l, rfl, t6, p6⟩; rw [List.mem_singleton] at hR'; subst hR'; have T6 := Box.mk t6; have P6 := Box.mk p6; have B6 := Box.mk b6; clear t6 p6 b6))
  have RR := Box.mk ((R3.out.keepF VV.out K5.out).below B6.out)
  go_wp2_with (go_at_call 11; ((with_reducible refine (same_yes ub mo l R' _ w6 T6.out RR.out P6.out.symm L3.out.up (by have := L3.out.len; omega)).mono ?_); rintro e w7 ⟨rfl, b7⟩; have B7 := Box.mk b7; clear b7))
  go_ret
  refine ⟨rfl, ?_⟩
  have k5 := K5.out.below (Nat.le_trans ab.out (Nat.le_refl _)) old.out
  have k6 := B13.out.trans k5
  have k7 := k6.trans (B6.out.mono k6.size)
  exact k7.trans (B7.out.mono k7.size)
end Go.Proofs.YtacfdnjdjgdbcaaGreatDoor
