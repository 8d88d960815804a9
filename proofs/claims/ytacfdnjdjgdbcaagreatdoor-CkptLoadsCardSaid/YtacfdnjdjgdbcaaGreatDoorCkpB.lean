/- Checkpoints' contracts: Clean, Load, Save. -/
import Derived.Test.YtacfdnjdjgdbcaaGreatDoorCkpA
import Derived.Test.YtacfdnjdjgdbcaaGreatDoorUa
import Derived.Test.YtacfdnjdjgdbcaaGreatDoorTj
namespace Go.Proofs.YtacfdnjdjgdbcaaGreatDoor
set_option maxRecDepth 100000
open Go.RowKit Go.Maps Go.Sort M

theorem clean_any (b : Nat) (F : Nat → Prop) (S : DS) (w : World) (h : HasF w b F S) (hf : Fine S) :
    Calls Tryz.prog 62 #[.pointer (some ⟨b, 0, none⟩)] w (FP b F w (.int .i64 (cleanC S)) (cleanS S)) := by
  have c : Calls Tryz.prog 93 #[.pointer (some ⟨b, 0, none⟩), .string ⟨#[115, 116, 111, 114, 101, 45, 110, 101, 119]⟩] w (FP b F w (.int .i64 (removeC S nmF)) (removeS S nmF)) := remove_f b F S nmF w h hf nmF_len
  unfold cleanC cleanS
  obtain ⟨k, hk⟩ : ∃ k, k = removeC S nmF := ⟨_, rfl⟩
  obtain ⟨S', hS⟩ : ∃ S', S' = removeS S nmF := ⟨_, rfl⟩
  rw [← hk, ← hS] at c ⊢
  have C := Box.mk c
  clear c hk hS h
  go_enter Tryz.func62, Tryz.ntmps62
  by_cases h5 : k = 5
  · subst h5
    go_wp2_with (go_at_call 93; ((with_reducible refine C.out.mono ?_); rintro e w1 ⟨rfl, d1, k1⟩; have D1 := Box.mk d1; have K1 := Box.mk k1; clear d1 k1 C))
    go_ret
    exact ⟨rfl, D1.out, K1.out⟩
  · have e1 : (k == 5) = false := by simp [h5]
    rw [if_neg h5]
    go_wp2_with (go_at_call 93; ((with_reducible refine C.out.mono ?_); rintro e w1 ⟨rfl, d1, k1⟩; have D1 := Box.mk d1; have K1 := Box.mk k1; clear d1 k1 C))
    go_ret
    exact ⟨rfl, D1.out, K1.out⟩

/-- the six steps of Save as function values -/
def stepV (db tb : Nat) (d : Value) : List Value :=
  [.func (.func 61) #[] #[.pointer (some ⟨db, 0, none⟩)], .func (.func 63) #[] #[.pointer (some ⟨db, 0, none⟩)], .func (.func 64) #[] #[.pointer (some ⟨db, 0, none⟩), .pointer (some ⟨tb, 0, none⟩)],
   .func (.func 66) #[] #[.pointer (some ⟨db, 0, none⟩)], .func (.func 68) #[] #[.pointer (some ⟨db, 0, none⟩)], .func (.func 70) #[d] #[]]

theorem save1_any (db b : Nat) (F : Nat → Prop) (S : DS) (w : World) (hd : w.cell? ⟨db, 0, none⟩ = some (.pointer (some ⟨b, 0, none⟩))) (h : HasF w b F S) (hf : Fine S) :
    Calls Tryz.prog 61 #[.pointer (some ⟨db, 0, none⟩)] w (FP b F w (.int .i64 (cleanC S)) (cleanS S)) := by
  have C := Box.mk (clean_any b F S w h hf)
  clear h
  go_enter Tryz.func61, Tryz.ntmps61
  go_wp2_with (go_at_call 62; ((with_reducible refine C.out.mono ?_); rintro e w1 ⟨rfl, d1, k1⟩; have D1 := Box.mk d1; have K1 := Box.mk k1; clear d1 k1 C))
  go_ret
  exact ⟨rfl, D1.out, K1.out⟩
theorem save2_any (db b : Nat) (F : Nat → Prop) (S : DS) (w : World) (hd : w.cell? ⟨db, 0, none⟩ = some (.pointer (some ⟨b, 0, none⟩))) (h : HasF w b F S) (hf : Fine S) :
    Calls Tryz.prog 63 #[.pointer (some ⟨db, 0, none⟩)] w (FP b F w (.int .i64 (createC S nmF)) (createS S nmF)) := by
  have c : Calls Tryz.prog 15 #[.pointer (some ⟨b, 0, none⟩), .string ⟨#[115, 116, 111, 114, 101, 45, 110, 101, 119]⟩] w (FP b F w (.int .i64 (createC S nmF)) (createS S nmF)) := create_f b F S nmF w h hf nmF_len
  have C := Box.mk c
  clear c
  clear h
  go_enter Tryz.func63, Tryz.ntmps63
  go_wp2_with (go_at_call 15; ((with_reducible refine C.out.mono ?_); rintro e w1 ⟨rfl, d1, k1⟩; have D1 := Box.mk d1; have K1 := Box.mk k1; clear d1 k1 C))
  go_ret
  exact ⟨rfl, D1.out, K1.out⟩
theorem save4_any (db b : Nat) (F : Nat → Prop) (S : DS) (w : World) (hd : w.cell? ⟨db, 0, none⟩ = some (.pointer (some ⟨b, 0, none⟩))) (h : HasF w b F S) (hf : Fine S) :
    Calls Tryz.prog 66 #[.pointer (some ⟨db, 0, none⟩)] w (FP b F w (.int .i64 (syncC S nmF)) (syncS S nmF)) := by
  have c : Calls Tryz.prog 67 #[.pointer (some ⟨b, 0, none⟩), .string ⟨#[115, 116, 111, 114, 101, 45, 110, 101, 119]⟩] w (FP b F w (.int .i64 (syncC S nmF)) (syncS S nmF)) := sync_f b F S nmF w h hf nmF_len
  have C := Box.mk c
  clear c
  clear h
  go_enter Tryz.func66, Tryz.ntmps66
  go_wp2_with (go_at_call 67; ((with_reducible refine C.out.mono ?_); rintro e w1 ⟨rfl, d1, k1⟩; have D1 := Box.mk d1; have K1 := Box.mk k1; clear d1 k1 C))
  go_ret
  exact ⟨rfl, D1.out, K1.out⟩
theorem rename_f (b : Nat) (F : Nat → Prop) (S : DS) (src dst : ByteArray) (w : World) (h : HasF w b F S) (hf : Fine S) (hn : src.size ≤ maxLen) (hd : dst.size ≤ maxLen) :
    Calls Tryz.prog 69 #[.pointer (some ⟨b, 0, none⟩), .string src, .string dst] w (FP b F w (.int .i64 (renameC S src dst)) (renameS S src dst)) := by
  obtain ⟨L, d, rfl, o⟩ := h
  exact (rename_any L S src dst w d hf hn hd).mono fun _ _ ⟨he, r⟩ => ⟨he, HasF.ran rfl o r⟩
theorem save5_any (db b : Nat) (F : Nat → Prop) (S : DS) (w : World) (hd : w.cell? ⟨db, 0, none⟩ = some (.pointer (some ⟨b, 0, none⟩))) (h : HasF w b F S) (hf : Fine S) :
    Calls Tryz.prog 68 #[.pointer (some ⟨db, 0, none⟩)] w (FP b F w (.int .i64 (renameC S nmF nmS)) (renameS S nmF nmS)) := by
  have c : Calls Tryz.prog 69 #[.pointer (some ⟨b, 0, none⟩), .string ⟨#[115, 116, 111, 114, 101, 45, 110, 101, 119]⟩, .string ⟨#[115, 116, 111, 114, 101]⟩] w (FP b F w (.int .i64 (renameC S nmF nmS)) (renameS S nmF nmS)) := rename_f b F S nmF nmS w h hf nmF_len nmS_len
  have C := Box.mk c
  clear c
  clear h
  go_enter Tryz.func68, Tryz.ntmps68
  go_wp2_with (go_at_call 69; ((with_reducible refine C.out.mono ?_); rintro e w1 ⟨rfl, d1, k1⟩; have D1 := Box.mk d1; have K1 := Box.mk k1; clear d1 k1 C))
  go_ret
  exact ⟨rfl, D1.out, K1.out⟩
theorem bytT_small' {G : List Ent} (h1 : G.length ≤ 12) (h2 : ∀ x ∈ G, x.text.size ≤ 60) : (bytT G).length ≤ 2000 := by
  unfold bytT encT preL
  rw [List.take_length, List.length_append, List.length_append, List.length_append, shaN_length]
  have a := flat_len G 60 h2
  have b := numL_length G.length
  have c : magL.length = 8 := rfl
  have d : G.length * (41 + 60) ≤ 12 * 101 := Nat.mul_le_mul_right _ h1
  omega
/-- a table that lies beside a disk -/
structure TabF (w : World) (F : Nat → Prop) (tb : Nat) (R : List Ent) : Prop where
  ex : ∃ mo l, Tab w tb mo l ∧ (∀ m, mo = some m → F m) ∧ l.Perm R
  own : F tb
  up : Rising R
  text : ∀ x ∈ R, x.text.size ≤ 60
  len : R.length ≤ 12
theorem TabF.keep {w w' : World} {F F' : Nat → Prop} {tb : Nat} {R : List Ent} (h : TabF w F tb R) (k : KeepF F w w') (hF : ∀ k, F k → F' k) : TabF w' F' tb R := by
  obtain ⟨mo, l, t, a, b⟩ := h.ex
  exact ⟨⟨mo, l, t.keepF h.own a k, fun m e => hF _ (a m e), b⟩, hF _ h.own, h.up, h.text, h.len⟩
theorem bytes_f {w : World} {F : Nat → Prop} {tb : Nat} {R : List Ent} (h : TabF w F tb R) (hK : KTab w) :
    Calls Tryz.prog 65 #[.pointer (some ⟨tb, 0, none⟩)] w fun e w' => e = .returned (.string (bs (bytT R))) ∧ Below w.heap.size w w' := by
  obtain ⟨mo, l, t, a, b⟩ := h.ex
  have hl : l.length ≤ 12 := by rw [b.length_eq]; exact h.len
  exact (tbytes_any tb mo l w t (by omega) (fun x hx => by have := h.text x (b.mem_iff.1 hx); omega) hK).mono fun e w' ⟨ys, h1, h2, h3, h4⟩ => ⟨by rw [h3, trising_one (h1.trans b) h2 h.up], h4⟩
theorem save3_any (db tc tb b : Nat) (F : Nat → Prop) (S : DS) (R : List Ent) (w : World) (hd : w.cell? ⟨db, 0, none⟩ = some (.pointer (some ⟨b, 0, none⟩))) (ht : w.cell? ⟨tc, 0, none⟩ = some (.pointer (some ⟨tb, 0, none⟩))) (fd : F db) (ft : F tc) (h : HasF w b F S) (hf : Fine S)
    (hT : TabF w F tb R) (hK : KTab w) :
    Calls Tryz.prog 64 #[.pointer (some ⟨db, 0, none⟩), .pointer (some ⟨tc, 0, none⟩)] w (FP b F w (.int .i64 (appendC S nmF (bytT R))) (appendS S nmF (bytT R))) := by
  have hsb : sb (bs (bytT R)) = bytT R := sb_bs _ (bytT_lt R)
  have hsz : (bs (bytT R)).size ≤ 20000 := by rw [bs_size]; exact (bytT_len hT.len hT.text).1
  have cb : ∀ W, Below w.heap.size w W → Calls Tryz.prog 65 #[.pointer (some ⟨tb, 0, none⟩)] W fun e w' => e = .returned (.string (bs (bytT R))) ∧ Below W.heap.size W w' := fun W hb =>
    bytes_f (hT.keep (KeepF.of_below hb) (fun _ h => h)) (ktab_below hK hb)
  have ca : ∀ W, Below w.heap.size w W → Calls Tryz.prog 16 #[.pointer (some ⟨b, 0, none⟩), .string ⟨#[115, 116, 111, 114, 101, 45, 110, 101, 119]⟩, .string (bs (bytT R))] W (FP b F W (.int .i64 (appendC S nmF (bytT R))) (appendS S nmF (bytT R))) := fun W hb => by
    have := append_f b F S nmF (bs (bytT R)) W (h.below hb) hf nmF_len (by omega)
    rw [hsb] at this; exact this
  obtain ⟨D, hD⟩ : ∃ D, D = bs (bytT R) := ⟨_, rfl⟩
  rw [← hD] at cb ca
  obtain ⟨k, hk⟩ : ∃ k, k = appendC S nmF (bytT R) := ⟨_, rfl⟩
  obtain ⟨S', hS'⟩ : ∃ S', S' = appendS S nmF (bytT R) := ⟨_, rfl⟩
  rw [← hk, ← hS'] at ca ⊢
  have ks : ∀ W, KeepF F w W → W.cell? ⟨db, 0, none⟩ = some (.pointer (some ⟨b, 0, none⟩)) ∧ W.cell? ⟨tc, 0, none⟩ = some (.pointer (some ⟨tb, 0, none⟩)) ∧ KeepF F w W := fun W hk =>
    ⟨(hk.cell fd (World.block_lt_of_cell? w _ hd)).trans hd, (hk.cell ft (World.block_lt_of_cell? w _ ht)).trans ht, hk⟩
  have CB := Box.mk cb; have CA := Box.mk ca; have KS := Box.mk ks
  clear cb ca hD hk hS' h hf hT hK hsb hsz hd ht fd ft ks
  go_enter Tryz.func64, Tryz.ntmps64
  go_upto_region 1 with fail
  go_region_held3 (fun W => W.cell? ⟨db, 0, none⟩ = some (.pointer (some ⟨b, 0, none⟩)) ∧ W.cell? ⟨tc, 0, none⟩ = some (.pointer (some ⟨tb, 0, none⟩)) ∧ KeepF F w W)
    (first
      | (exact KS.out _ (KeepF.refl F w).drew)
      | (exact KS.out _ K2.out)
      | (exact KS.out _ K3.out))
    (first
      | (go_at_call 65; ((with_reducible refine (CB.out _ (Below.refl _ _).drew).mono ?_); rintro e w2 ⟨rfl, b2⟩; have B2 := Box.mk ((Below.refl w.heap.size w).drew.trans b2); have K2 := Box.mk ((KeepF.refl F w).drew.trans (KeepF.of_below b2)); clear b2))
      | (go_at_call 16; ((with_reducible refine (CA.out _ B2.out).mono ?_); rintro e w3 ⟨rfl, d3, k3⟩; have D3 := Box.mk d3; have K3 := Box.mk (K2.out.trans k3); clear d3 k3)))
  go_wp2
  go_ret
  exact ⟨rfl, D3.out, K3.out⟩
/-- what Save leaves -/
def SaveP (b : Nat) (F : Nat → Prop) (S : DS) (D : List Nat) (w : World) (e : Ending) (w' : World) : Prop :=
  ∃ k S', e = .returned (.int .i64 k) ∧ SaveR D S k S' ∧ HasF w' b F S' ∧ KeepF F w w'

set_option maxRecDepth 100000 in
set_option maxHeartbeats 4000000 in
theorem save_any (b : Nat) (F : Nat → Prop) (S : DS) (tb : Nat) (R : List Ent) (w : World) {k c : Nat} (h : HasF w b F S) (hz : Sz S k c) (hk : k + 120 ≤ 100000) (hc : c + 6 ≤ 100000000) (hT : TabF w F tb R) (hK : KTab w) (kF : KF F) :
    Calls Tryz.prog 35 #[.pointer (some ⟨b, 0, none⟩), .pointer (some ⟨tb, 0, none⟩)] w (SaveP b F S (bytT R) w) := by
  have hD : (bytT R).length ≤ 2000 := bytT_small' hT.len hT.text
  obtain ⟨D, hDe⟩ : ∃ D, D = bytT R := ⟨_, rfl⟩
  rw [← hDe] at hD ⊢
  have fin : ∀ i, i ≤ 6 → Fine (stN D S i) := fun i hi => (hz.steps hD i).fine (by omega) (by omega)
  have rel : ∀ i, i ≤ 6 → RelsOk (stN D S i) := fun i hi => (hz.steps hD i).rels (by omega)
  obtain ⟨W1, hW1⟩ : ∃ W, W = w.alloc (.cells #[.pointer (some ⟨b, 0, none⟩)] 41) := ⟨_, rfl⟩
  have s1 : W1.heap.size = w.heap.size + 1 := by rw [hW1]; simp
  obtain ⟨W2, hW2⟩ : ∃ W, W = W1.alloc (.cells #[.pointer (some ⟨tb, 0, none⟩)] 27) := ⟨_, rfl⟩
  have s2 : W2.heap.size = w.heap.size + 2 := by rw [hW2]; simp [s1]
  obtain ⟨V, hV⟩ : ∃ V, V = stepV w.heap.size (w.heap.size + 1) (.pointer (some ⟨b, 0, none⟩)) := ⟨_, rfl⟩
  obtain ⟨W3, hW3⟩ : ∃ W, W = W2.alloc (.cells V.toArray 63) := ⟨_, rfl⟩
  have s3 : W3.heap.size = w.heap.size + 3 := by rw [hW3]; simp [s2]
  have b1 : Below w.heap.size w W1 := by rw [hW1]; exact aset22 _ _
  have b2 : Below w.heap.size w W2 := by rw [hW2]; exact b1.alloc (by omega) _
  have b3 : Below w.heap.size w W3 := by rw [hW3]; exact b2.alloc (by omega) _
  have cd0 : W1.cell? ⟨w.heap.size, 0, none⟩ = some (.pointer (some ⟨b, 0, none⟩)) := by
    have t : W1.heap[w.heap.size]? = some (.cells #[.pointer (some ⟨b, 0, none⟩)] 41 (0, 0)) := by rw [hW1]; exact heap_alloc_new w _
    simp only [World.cell?, t]; rfl
  have cd1 : W2.cell? ⟨w.heap.size, 0, none⟩ = some (.pointer (some ⟨b, 0, none⟩)) := by rw [hW2]; exact (cell_new cd0).trans cd0
  have cd : W3.cell? ⟨w.heap.size, 0, none⟩ = some (.pointer (some ⟨b, 0, none⟩)) := by rw [hW3]; exact (cell_new cd1).trans cd1
  have ct1 : W2.cell? ⟨w.heap.size + 1, 0, none⟩ = some (.pointer (some ⟨tb, 0, none⟩)) := by
    have t : W2.heap[w.heap.size + 1]? = some (.cells #[.pointer (some ⟨tb, 0, none⟩)] 27 (0, 0)) := by rw [hW2, ← s1]; exact heap_alloc_new W1 _
    simp only [World.cell?, t]; rfl
  have ct : W3.cell? ⟨w.heap.size + 1, 0, none⟩ = some (.pointer (some ⟨tb, 0, none⟩)) := by rw [hW3]; exact (cell_new ct1).trans ct1
  have cv : W3.rangeAt W2.heap.size 0 V := by rw [hW3]; exact range_new _ _ _ _ rfl
  obtain ⟨G, hG⟩ : ∃ G : Nat → Prop, G = fun k => F k ∨ (w.heap.size ≤ k ∧ k < w.heap.size + 3) := ⟨_, rfl⟩
  have fg : ∀ k, F k → G k := fun k hk => by rw [hG]; exact .inl hk
  have gn : ∀ k, w.heap.size ≤ k → k < w.heap.size + 3 → G k := fun k h1 h2 => by rw [hG]; exact .inr ⟨h1, h2⟩
  have H0 : HasF W3 b G S := h.mine b3.size (fun k hl _ => b3.block k hl) (fun k hk => by
    rw [hG] at hk
    rcases hk with hk | ⟨h1, h2⟩
    · exact .inl hk
    · exact .inr ⟨h1, by omega⟩)
  have T0 : TabF W3 G tb R := hT.keep (KeepF.of_below b3) fg
  have K0 : KTab W3 := ktab_below hK b3
  have kfin : ∀ W', KeepF G W3 W' → KeepF F w W' := fun W' hk => (KeepF.of_below b3).trans (hk.mono fg)
  have cell : ∀ W', KeepF G W3 W' → W'.cell? ⟨w.heap.size, 0, none⟩ = some (.pointer (some ⟨b, 0, none⟩)) ∧ W'.cell? ⟨w.heap.size + 1, 0, none⟩ = some (.pointer (some ⟨tb, 0, none⟩)) ∧ ∀ i v, V[i]? = some v → W'.cell? ⟨w.heap.size + 2, i, none⟩ = some v := fun W' hk =>
    ⟨(hk.cell (gn _ (Nat.le_refl _) (by omega)) (by omega)).trans cd, (hk.cell (gn _ (by omega) (by omega)) (by omega)).trans ct, fun i v hv => (hk.cell (gn _ (by omega) (by omega)) (by omega)).trans (by have := cv i v hv; rwa [Nat.zero_add, s2] at this)⟩
  have c1 : ∀ W', HasF W' b G (stN D S 0) → KeepF G W3 W' → Calls Tryz.prog 61 #[.pointer (some ⟨w.heap.size, 0, none⟩)] W' (FP b G W' (.int .i64 (stC D 0 (stN D S 0))) (stN D S 1)) := fun W' hh hk => save1_any _ b G _ W' (cell W' hk).1 hh (fin 0 (by omega))
  have c2 : ∀ W', HasF W' b G (stN D S 1) → KeepF G W3 W' → Calls Tryz.prog 63 #[.pointer (some ⟨w.heap.size, 0, none⟩)] W' (FP b G W' (.int .i64 (stC D 1 (stN D S 1))) (stN D S 2)) := fun W' hh hk => save2_any _ b G _ W' (cell W' hk).1 hh (fin 1 (by omega))
  have c3 : ∀ W', HasF W' b G (stN D S 2) → KeepF G W3 W' → Calls Tryz.prog 64 #[.pointer (some ⟨w.heap.size, 0, none⟩), .pointer (some ⟨w.heap.size + 1, 0, none⟩)] W' (FP b G W' (.int .i64 (stC D 2 (stN D S 2))) (stN D S 3)) := fun W' hh hk => by
    have := save3_any _ _ tb b G _ R W' (cell W' hk).1 (cell W' hk).2.1 (gn _ (Nat.le_refl _) (by omega)) (gn _ (by omega) (by omega)) hh (fin 2 (by omega)) (T0.keep hk (fun _ h => h)) (ktab_keepF K0 (fg _ kF) hk)
    rw [← hDe] at this; exact this
  have c4 : ∀ W', HasF W' b G (stN D S 3) → KeepF G W3 W' → Calls Tryz.prog 66 #[.pointer (some ⟨w.heap.size, 0, none⟩)] W' (FP b G W' (.int .i64 (stC D 3 (stN D S 3))) (stN D S 4)) := fun W' hh hk => save4_any _ b G _ W' (cell W' hk).1 hh (fin 3 (by omega))
  have c5 : ∀ W', HasF W' b G (stN D S 4) → KeepF G W3 W' → Calls Tryz.prog 68 #[.pointer (some ⟨w.heap.size, 0, none⟩)] W' (FP b G W' (.int .i64 (stC D 4 (stN D S 4))) (stN D S 5)) := fun W' hh hk => save5_any _ b G _ W' (cell W' hk).1 hh (fin 4 (by omega))
  have c6 : ∀ W', HasF W' b G (stN D S 5) → KeepF G W3 W' → Calls Tryz.prog 70 #[.pointer (some ⟨b, 0, none⟩)] W' (FP b G W' (.int .i64 (stC D 5 (stN D S 5))) (stN D S 6)) := fun W' hh hk => syncNames_f b G _ W' hh (fin 5 (by omega)) (rel 5 (by omega))
  have out : ∀ W' i kk, i < 6 → (∀ j, j < i → stC D j (stN D S j) = 0) → kk = stC D i (stN D S i) → kk ≠ 0 → HasF W' b G (stN D S (i + 1)) → KeepF G W3 W' → SaveP b F S D w (.returned (.int .i64 kk)) W' := fun W' i kk hi hj he hn hh hk =>
    ⟨kk, _, rfl, .inl ⟨i, hi, hj, he, hn, rfl⟩, hh.less fg, kfin W' hk⟩
  have ok : ∀ W', (∀ j, j < 6 → stC D j (stN D S j) = 0) → HasF W' b G (stN D S 6) → KeepF G W3 W' → SaveP b F S D w (.returned (.int .i64 0)) W' := fun W' hj hh hk =>
    ⟨0, _, rfl, .inr ⟨hj, rfl, rfl⟩, hh.less fg, kfin W' hk⟩
  have allz : ∀ i kk, (∀ j, j < i → stC D j (stN D S j) = 0) → kk = stC D i (stN D S i) → kk = 0 → ∀ j, j < i + 1 → stC D j (stN D S j) = 0 := fun i kk hj he h0 j hlt => by
    rcases Nat.lt_succ_iff_lt_or_eq.1 hlt with q | q
    · exact hj j q
    · rw [q, ← he, h0]
  have C1 := Box.mk c1; have C2 := Box.mk c2; have C3 := Box.mk c3; have C4 := Box.mk c4; have C5 := Box.mk c5; have C6 := Box.mk c6
  have OUT := Box.mk out; have OKK := Box.mk ok; have CELL := Box.mk cell; have HH0 := Box.mk H0; have ALZ := Box.mk allz
  have E1 := Box.mk hW1; have E2 := Box.mk hW2; have E3 := Box.mk hW3; have EV := Box.mk hV
  clear c1 c2 c3 c4 c5 c6 out ok cell H0 allz hW1 hW2 hW3 hV h hz hk hc hT hK kF hD fin rel b1 b2 b3 cd0 cd ct1 cv T0 K0 kfin s3 hG fg gn hDe ct
  go_enter Tryz.func35, Tryz.ntmps35
  go_upto_region 1 with fail
  rw [← E1.out, ← E2.out]
  go_wp2_with fail
  have hW : W2.alloc (.cells #[.func (.func 61) #[] #[.pointer (some ⟨w.heap.size, 0, none⟩)], .func (.func 63) #[] #[.pointer (some ⟨w.heap.size, 0, none⟩)], .func (.func 64) #[] #[.pointer (some ⟨w.heap.size, 0, none⟩), .pointer (some ⟨w.heap.size + 1, 0, none⟩)], .func (.func 66) #[] #[.pointer (some ⟨w.heap.size, 0, none⟩)], .func (.func 68) #[] #[.pointer (some ⟨w.heap.size, 0, none⟩)], .func (.func 70) #[.pointer (some ⟨b, 0, none⟩)] #[]] 63) = W3 := by rw [E3.out, EV.out]; rfl
  rw [hW]
  clear hW
  go_loopw [19] (fun i wr => ∃ (k : Nat), i = .int .i64 (k : Int) ∧ k ≤ 6 ∧ Box (HasF wr b G (stN D S k)) ∧ Box (KeepF G W3 wr) ∧ Box (∀ j, j < k → stC D j (stN D S j) = 0)) (fun i _ => 6 - (intOf i).toNat)
  case atStart => exact ⟨0, rfl, by omega, HH0, ⟨KeepF.refl _ _⟩, ⟨fun j hj => absurd hj (by omega)⟩⟩
  case round =>
    obtain ⟨k, rfl, hk6, hH, hK, hZ⟩ := hrel
    have cs : k = 0 ∨ k = 1 ∨ k = 2 ∨ k = 3 ∨ k = 4 ∨ k = 5 ∨ k = 6 := by omega
    rcases cs with rfl | rfl | rfl | rfl | rfl | rfl | rfl
    · have q0 : wr.cell? ⟨w.heap.size + 2, 0, none⟩ = some (.func (.func 61) #[] #[.pointer (some ⟨w.heap.size, 0, none⟩)]) := (CELL.out wr hK.out).2.2 0 _ (by rw [EV.out]; rfl)
      have c := C1.out wr hH.out hK.out
      obtain ⟨kk, hkk⟩ : ∃ kk, kk = stC D 0 (stN D S 0) := ⟨_, rfl⟩
      obtain ⟨S', hS'⟩ : ∃ S', S' = stN D S 1 := ⟨_, rfl⟩
      rw [← hkk, ← hS'] at c
      have C := Box.mk c; have HKK := Box.mk hkk; have HS := Box.mk hS'
      clear c hkk hS' C1 C2 C3 C4 C5 C6
      by_cases h0 : kk = 0
      · have HZ := Box.mk (ALZ.out 0 kk hZ.out HKK.out h0)
        subst h0
        go_wp2_with (go_at_call 61; ((with_reducible refine C.out.mono ?_); rintro e w1 ⟨rfl, d1, k1⟩; have D1 := Box.mk (show HasF w1 b G (stN D S 1) by rw [← HS.out]; exact d1); have K1 := Box.mk (hK.out.trans k1); clear d1 k1 C))
        go_roundw
        case rel => exact ⟨1, by go_num, by omega, D1, K1, HZ⟩
        case measure => simp [intOf] <;> omega
      · have e1 : (kk == 0) = false := by simp [h0]
        have e2 : (kk != 0) = true := by simp [h0]
        have e3 : (kk = 0) = False := eq_false h0
        go_wp2_with (go_at_call 61; ((with_reducible refine C.out.mono ?_); rintro e w1 ⟨rfl, d1, k1⟩; have D1 := Box.mk (show HasF w1 b G (stN D S 1) by rw [← HS.out]; exact d1); have K1 := Box.mk (hK.out.trans k1); clear d1 k1 C))
        go_ret
        exact OUT.out w1 0 kk (by omega) hZ.out HKK.out h0 D1.out K1.out
    · have q0 : wr.cell? ⟨w.heap.size + 2, 1, none⟩ = some (.func (.func 63) #[] #[.pointer (some ⟨w.heap.size, 0, none⟩)]) := (CELL.out wr hK.out).2.2 1 _ (by rw [EV.out]; rfl)
      have c := C2.out wr hH.out hK.out
      obtain ⟨kk, hkk⟩ : ∃ kk, kk = stC D 1 (stN D S 1) := ⟨_, rfl⟩
      obtain ⟨S', hS'⟩ : ∃ S', S' = stN D S 2 := ⟨_, rfl⟩
      rw [← hkk, ← hS'] at c
      have C := Box.mk c; have HKK := Box.mk hkk; have HS := Box.mk hS'
      clear c hkk hS' C1 C2 C3 C4 C5 C6
      by_cases h0 : kk = 0
      · have HZ := Box.mk (ALZ.out 1 kk hZ.out HKK.out h0)
        subst h0
        go_wp2_with (go_at_call 63; ((with_reducible refine C.out.mono ?_); rintro e w1 ⟨rfl, d1, k1⟩; have D1 := Box.mk (show HasF w1 b G (stN D S 2) by rw [← HS.out]; exact d1); have K1 := Box.mk (hK.out.trans k1); clear d1 k1 C))
        go_roundw
        case rel => exact ⟨2, by go_num, by omega, D1, K1, HZ⟩
        case measure => simp [intOf] <;> omega
      · have e1 : (kk == 0) = false := by simp [h0]
        have e2 : (kk != 0) = true := by simp [h0]
        have e3 : (kk = 0) = False := eq_false h0
        go_wp2_with (go_at_call 63; ((with_reducible refine C.out.mono ?_); rintro e w1 ⟨rfl, d1, k1⟩; have D1 := Box.mk (show HasF w1 b G (stN D S 2) by rw [← HS.out]; exact d1); have K1 := Box.mk (hK.out.trans k1); clear d1 k1 C))
        go_ret
        exact OUT.out w1 1 kk (by omega) hZ.out HKK.out h0 D1.out K1.out
    · have q0 : wr.cell? ⟨w.heap.size + 2, 2, none⟩ = some (.func (.func 64) #[] #[.pointer (some ⟨w.heap.size, 0, none⟩), .pointer (some ⟨w.heap.size + 1, 0, none⟩)]) := (CELL.out wr hK.out).2.2 2 _ (by rw [EV.out]; rfl)
      have c := C3.out wr hH.out hK.out
      obtain ⟨kk, hkk⟩ : ∃ kk, kk = stC D 2 (stN D S 2) := ⟨_, rfl⟩
      obtain ⟨S', hS'⟩ : ∃ S', S' = stN D S 3 := ⟨_, rfl⟩
      rw [← hkk, ← hS'] at c
      have C := Box.mk c; have HKK := Box.mk hkk; have HS := Box.mk hS'
      clear c hkk hS' C1 C2 C3 C4 C5 C6
      by_cases h0 : kk = 0
      · have HZ := Box.mk (ALZ.out 2 kk hZ.out HKK.out h0)
        subst h0
        go_wp2_with (go_at_call 64; ((with_reducible refine C.out.mono ?_); rintro e w1 ⟨rfl, d1, k1⟩; have D1 := Box.mk (show HasF w1 b G (stN D S 3) by rw [← HS.out]; exact d1); have K1 := Box.mk (hK.out.trans k1); clear d1 k1 C))
        go_roundw
        case rel => exact ⟨3, by go_num, by omega, D1, K1, HZ⟩
        case measure => simp [intOf] <;> omega
      · have e1 : (kk == 0) = false := by simp [h0]
        have e2 : (kk != 0) = true := by simp [h0]
        have e3 : (kk = 0) = False := eq_false h0
        go_wp2_with (go_at_call 64; ((with_reducible refine C.out.mono ?_); rintro e w1 ⟨rfl, d1, k1⟩; have D1 := Box.mk (show HasF w1 b G (stN D S 3) by rw [← HS.out]; exact d1); have K1 := Box.mk (hK.out.trans k1); clear d1 k1 C))
        go_ret
        exact OUT.out w1 2 kk (by omega) hZ.out HKK.out h0 D1.out K1.out
    · have q0 : wr.cell? ⟨w.heap.size + 2, 3, none⟩ = some (.func (.func 66) #[] #[.pointer (some ⟨w.heap.size, 0, none⟩)]) := (CELL.out wr hK.out).2.2 3 _ (by rw [EV.out]; rfl)
      have c := C4.out wr hH.out hK.out
      obtain ⟨kk, hkk⟩ : ∃ kk, kk = stC D 3 (stN D S 3) := ⟨_, rfl⟩
      obtain ⟨S', hS'⟩ : ∃ S', S' = stN D S 4 := ⟨_, rfl⟩
      rw [← hkk, ← hS'] at c
      have C := Box.mk c; have HKK := Box.mk hkk; have HS := Box.mk hS'
      clear c hkk hS' C1 C2 C3 C4 C5 C6
      by_cases h0 : kk = 0
      · have HZ := Box.mk (ALZ.out 3 kk hZ.out HKK.out h0)
        subst h0
        go_wp2_with (go_at_call 66; ((with_reducible refine C.out.mono ?_); rintro e w1 ⟨rfl, d1, k1⟩; have D1 := Box.mk (show HasF w1 b G (stN D S 4) by rw [← HS.out]; exact d1); have K1 := Box.mk (hK.out.trans k1); clear d1 k1 C))
        go_roundw
        case rel => exact ⟨4, by go_num, by omega, D1, K1, HZ⟩
        case measure => simp [intOf] <;> omega
      · have e1 : (kk == 0) = false := by simp [h0]
        have e2 : (kk != 0) = true := by simp [h0]
        have e3 : (kk = 0) = False := eq_false h0
        go_wp2_with (go_at_call 66; ((with_reducible refine C.out.mono ?_); rintro e w1 ⟨rfl, d1, k1⟩; have D1 := Box.mk (show HasF w1 b G (stN D S 4) by rw [← HS.out]; exact d1); have K1 := Box.mk (hK.out.trans k1); clear d1 k1 C))
        go_ret
        exact OUT.out w1 3 kk (by omega) hZ.out HKK.out h0 D1.out K1.out
    · have q0 : wr.cell? ⟨w.heap.size + 2, 4, none⟩ = some (.func (.func 68) #[] #[.pointer (some ⟨w.heap.size, 0, none⟩)]) := (CELL.out wr hK.out).2.2 4 _ (by rw [EV.out]; rfl)
      have c := C5.out wr hH.out hK.out
      obtain ⟨kk, hkk⟩ : ∃ kk, kk = stC D 4 (stN D S 4) := ⟨_, rfl⟩
      obtain ⟨S', hS'⟩ : ∃ S', S' = stN D S 5 := ⟨_, rfl⟩
      rw [← hkk, ← hS'] at c
      have C := Box.mk c; have HKK := Box.mk hkk; have HS := Box.mk hS'
      clear c hkk hS' C1 C2 C3 C4 C5 C6
      by_cases h0 : kk = 0
      · have HZ := Box.mk (ALZ.out 4 kk hZ.out HKK.out h0)
        subst h0
        go_wp2_with (go_at_call 68; ((with_reducible refine C.out.mono ?_); rintro e w1 ⟨rfl, d1, k1⟩; have D1 := Box.mk (show HasF w1 b G (stN D S 5) by rw [← HS.out]; exact d1); have K1 := Box.mk (hK.out.trans k1); clear d1 k1 C))
        go_roundw
        case rel => exact ⟨5, by go_num, by omega, D1, K1, HZ⟩
        case measure => simp [intOf] <;> omega
      · have e1 : (kk == 0) = false := by simp [h0]
        have e2 : (kk != 0) = true := by simp [h0]
        have e3 : (kk = 0) = False := eq_false h0
        go_wp2_with (go_at_call 68; ((with_reducible refine C.out.mono ?_); rintro e w1 ⟨rfl, d1, k1⟩; have D1 := Box.mk (show HasF w1 b G (stN D S 5) by rw [← HS.out]; exact d1); have K1 := Box.mk (hK.out.trans k1); clear d1 k1 C))
        go_ret
        exact OUT.out w1 4 kk (by omega) hZ.out HKK.out h0 D1.out K1.out
    · have q0 : wr.cell? ⟨w.heap.size + 2, 5, none⟩ = some (.func (.func 70) #[.pointer (some ⟨b, 0, none⟩)] #[]) := (CELL.out wr hK.out).2.2 5 _ (by rw [EV.out]; rfl)
      have c := C6.out wr hH.out hK.out
      obtain ⟨kk, hkk⟩ : ∃ kk, kk = stC D 5 (stN D S 5) := ⟨_, rfl⟩
      obtain ⟨S', hS'⟩ : ∃ S', S' = stN D S 6 := ⟨_, rfl⟩
      rw [← hkk, ← hS'] at c
      have C := Box.mk c; have HKK := Box.mk hkk; have HS := Box.mk hS'
      clear c hkk hS' C1 C2 C3 C4 C5 C6
      by_cases h0 : kk = 0
      · have HZ := Box.mk (ALZ.out 5 kk hZ.out HKK.out h0)
        subst h0
        go_wp2_with (go_at_call 70; ((with_reducible refine C.out.mono ?_); rintro e w1 ⟨rfl, d1, k1⟩; have D1 := Box.mk (show HasF w1 b G (stN D S 6) by rw [← HS.out]; exact d1); have K1 := Box.mk (hK.out.trans k1); clear d1 k1 C))
        go_roundw
        case rel => exact ⟨6, by go_num, by omega, D1, K1, HZ⟩
        case measure => simp [intOf] <;> omega
      · have e1 : (kk == 0) = false := by simp [h0]
        have e2 : (kk != 0) = true := by simp [h0]
        have e3 : (kk = 0) = False := eq_false h0
        go_wp2_with (go_at_call 70; ((with_reducible refine C.out.mono ?_); rintro e w1 ⟨rfl, d1, k1⟩; have D1 := Box.mk (show HasF w1 b G (stN D S 6) by rw [← HS.out]; exact d1); have K1 := Box.mk (hK.out.trans k1); clear d1 k1 C))
        go_ret
        exact OUT.out w1 5 kk (by omega) hZ.out HKK.out h0 D1.out K1.out
    · go_wp2_with fail
      go_ret
      exact OKK.out wr hZ.out hH.out hK.out
end Go.Proofs.YtacfdnjdjgdbcaaGreatDoor
