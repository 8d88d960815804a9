/- The reference's relations: With. -/
import Derived.Test.YtbcbhofbikdfiaaDoorPaiB
namespace Go.Proofs.YtbcbhofbikdfiaaDoor
set_option maxRecDepth 100000
open Go.RowKit M

/-- a row goes behind one's own, in a region that draws -/
theorem step_append_rows {ops : Array Oper} {o : Oper} {a : Act} {K : Act → World → Prop} {Q : Exit → Act → World → Prop} {E : Prop} {w : World} (B : Nat) (hB : B ≤ w.heap.size) (hg : o.guard = none) (s x : Operand) (t e : TypeId) (z by' : Nat) (zv : Value)
    (hop : o.op = Op.call { callee := Callee.builtin Builtin.append, args := #[s, x], argTypes := #[t, t] }) (ht : Tryd.prog.underlying t = some (.slice e)) (hi : (Tryd.prog.info? e).map (fun i => (i.zero, i.size, i.bytes)) = some (some zv, z, by')) (hz : zv.cells.size = z) (hz0 : 0 < z) (hby : by' ≤ 1000)
    (g n cap : Nat) (xs : List Value) (hs : a.eval s = .slice (some ⟨g, 0, none⟩) n cap) (hrow : w.ownsRow B e z (.slice (some ⟨g, 0, none⟩) n cap) n xs)
    (v : Value) (m : Nat) (ys : List Value) (hx : a.eval x = v) (hv : SlIn w v z m ys) (h1 : ∀ u ∈ ys, u.oneCell' = true) (hnm : n + m ≤ 1000000)
    (h : ∀ g' cap' w', w'.ownsRow B e z (.slice (some ⟨g', 0, none⟩) (n + m) cap') (n + m) (xs ++ ys) → Below B w w' → w.grownBy w' (some g) → K (a.put o.dst (.slice (some ⟨g', 0, none⟩) (n + m) cap')) w') :
    if Region.wanted o (yielded ops a.tmps) = true then Oper.wp Tryd.prog o a w K Q else E := by
  have hw : Region.wanted o (yielded ops a.tmps) = true := by simp [Region.wanted, hg]
  rw [if_pos hw]
  obtain ⟨i0, hi1, hz1, hz2, hz3⟩ := info_parts hi
  have hcap : n ≤ cap := by
    rcases hrow.2 with ⟨hv, _⟩ | ⟨_, _, _, hv, _, _, h2, _⟩
    · cases hv
    · obtain ⟨_, _, e3⟩ := Value.slice.inj hv; omega
  by_cases hm : m = 0
  · subst hm
    obtain ⟨p, c, rfl⟩ := hv.slice
    have hy : ys = [] := List.eq_nil_of_length_eq_zero (by have := hv.1; omega)
    subst hy
    have src : Src Tryd.prog i0.size t (.slice p 0 c) 0 [] w := by
      cases p with
      | none => exact Src.ofNil w ht c
      | some ad => exact Src.ofSlice w ht ad 0 c [] (by simp) (by simp) (by simp)
    have hrun := run_append_room_src (P := Tryd.prog) (w := w) t t o.type e i0 ht hi1 g 0 n cap (.slice p 0 c) 0 [] src (by omega) (by simp) (by simp)
    have e0 : w.setCells g (0 + n * i0.size) [] = w := rfl
    rw [e0] at hrun
    have := h g cap w (by simpa using hrow) ⟨rfl, rfl, rfl, Nat.le_refl _, fun _ _ => rfl⟩ ⟨rfl, rfl, rfl, Nat.le_refl _, fun _ _ _ => rfl⟩
    unfold Oper.wp
    simp [execOp, hop, resolve, invoke, builtin, hs, hx, hrun, Result.andThen]
    have t2 : K (a.put o.dst (.slice (some ⟨g, 0, none⟩) n cap)) w := by simpa using this
    exact t2
  · obtain ⟨b, off, c, rfl, hbl, hcl⟩ := hv.at (by omega)
    have hbytes : (n + m) * by' ≤ 1000000 * 1000 := Nat.mul_le_mul hnm hby
    refine wp_append_lies w s x t hop B e i0 zv z by' ht hi1 hz1 hz2 hz3 hz hz0 _ n xs hs hrow ⟨b, off, none⟩ m c ys hx hv.1 (fun j u hu => ?_) h1 (by omega) (by unfold maxLen; omega) (by omega) hB w.heap.size rfl (fun g' cap' w' r1 r2 r3 r4 => ?_)
    · rw [Addr.add_mid]; exact hcl j u hu
    · exact h g' cap' w' r1 (Below.grown ⟨rfl, rfl, rfl, Nat.le_refl _, fun _ _ => rfl⟩ r2 hB (fun k hk => (rowLt hrow k hk).1)) r2
theorem row_ne {w : World} {B e z n : Nat} {g cap b : Nat} {xs : List Value} (h : w.ownsRow B e z (.slice (some ⟨g, 0, none⟩) n cap) n xs) (hb : b < B) : some g ≠ some b := fun e => by
  have := (rowLt h g rfl).1
  injection e with e
  omega
/-- one pair more -/
def withQ (l : List (Nat × Nat)) (a b : Int) : List (Nat × Nat) := if (0 ≤ a ∧ a < 16) ∧ (0 ≤ b ∧ b < 16) ∧ hasQ l a b = false then l ++ [(a.toNat, b.toNat)] else l
theorem news_pair {w : World} {b : Nat} {x y : Int} (h : w.heap[b]? = some (.cells #[.int .i64 x, .int .i64 y] 36 (0, 0))) : SlIn w (.slice (some ⟨b, 0, none⟩) 1 1) 2 1 [.int .i64 x, .int .i64 y] :=
  ⟨rfl, .inr ⟨b, 0, 1, rfl, (Array.getElem?_eq_some_iff.1 h).1, fun i u hu => by rw [Nat.zero_add, cOf' h]; simpa using hu⟩⟩
theorem row_zero {w : World} {B e z n : Nat} {v : Value} {xs : List Value} (h : w.ownsRow B e z v (0 + n) ([] ++ xs)) : w.ownsRow B e z v n xs := by simpa using h
theorem take_pair {w : World} {B : Nat} {v : Value} {l : List (Nat × Nat)} {x y : Nat} (h : w.ownsRow B 36 2 v (l.length + 1) (prs l ++ [.int .i64 (x : Int), .int .i64 (y : Int)])) : PIn w v (l ++ [(x, y)]) := by
  have h1 := rowSlIn h
  have e : prs l ++ [.int .i64 (x : Int), .int .i64 (y : Int)] = prs (l ++ [(x, y)]) := by rw [← prs_app]; rfl
  rw [e] at h1
  unfold PIn
  rw [List.length_append]
  exact h1
set_option maxRecDepth 100000 in
set_option linter.unusedSimpArgs false in
set_option maxHeartbeats 4000000 in
theorem withR_new (l : List (Nat × Nat)) (hl : l.length ≤ 100000) (v : Value) (x y : Nat) (hx : x < 16) (hy : y < 16) (hn : hasQ l (x : Int) (y : Int) = false) (w : World) (h : PIn w v l) :
    Calls Tryd.prog 15 #[v, .agg #[.int .i64 (x : Int), .int .i64 (y : Int)]] w fun e w' => ∃ v', e = .returned v' ∧ PIn w' v' (l ++ [(x, y)]) ∧ Below w.heap.size w w' ∧ ∀ k, v'.ownBlock = some k → w.heap.size ≤ k := by
  obtain ⟨p0, c0, rfl⟩ := SlIn.slice h
  have H := Box.mk (h.below (aset w (.cells #[.int .i64 (x : Int), .int .i64 (y : Int)] 36)))
  have BB := Box.mk (aset w (.cells #[.int .i64 (x : Int), .int .i64 (y : Int)] 36))
  have PB : Box ((w.alloc (.cells #[.int .i64 (x : Int), .int .i64 (y : Int)] 36)).heap[w.heap.size]? = some (.cells #[.int .i64 (x : Int), .int .i64 (y : Int)] 36 (0, 0))) := ⟨heap_alloc_new _ _⟩
  have hh := hasR_any l hl (.slice p0 l.length c0) (x : Int) (y : Int) (w.alloc (.cells #[.int .i64 (x : Int), .int .i64 (y : Int)] 36)) H.out
  rw [hn] at hh
  have HH := Box.mk hh
  have HQ : Box (∀ (g cap : Nat) (w2 : World), w2.ownsRow (w.heap.size + 1) 36 2 (.slice (some ⟨g, 0, none⟩) (l.length + 1) cap) (l.length + 1) (prs l ++ [.int .i64 (x : Int), .int .i64 (y : Int)]) → PIn w2 (.slice (some ⟨g, 0, none⟩) (l.length + 1) cap) (l ++ [(x, y)]) ∧ ∀ k, (Value.slice (some ⟨g, 0, none⟩) (l.length + 1) cap).ownBlock = some k → w.heap.size ≤ k) := ⟨fun g cap w2 r => ⟨take_pair r, fun k hk => by have := (rowLt r k hk).1; omega⟩⟩
  clear h hh hn
  have i1 : ¬ (x : Int) < 0 := by omega
  have i2 : ¬ (15 : Int) < (x : Int) := by omega
  have i3 : ¬ (y : Int) < 0 := by omega
  have i4 : ¬ (15 : Int) < (y : Int) := by omega
  go_enter Tryd.func15, Tryd.ntmps15
  go_wp2_with (first
    | (go_at_call 13; ((with_reducible refine HH.out.mono ?_); rintro e w0 ⟨rfl, b0⟩; have B0 := Box.mk b0; clear b0))
    | fail)
  have PINd := Box.mk (H.out.below B0.out)
  have BBd := Box.mk (bel BB.out B0.out)
  have PBd : Box (w0.heap[w.heap.size]? = some (.cells #[.int .i64 (x : Int), .int .i64 (y : Int)] 36 (0, 0))) := ⟨(B0.out.block _ (by simp)).trans PB.out⟩
  have sd : w.heap.size + 1 ≤ w0.heap.size := by have := B0.out.size; simpa using this
  clear H BB PB HH B0
  refine wp_region_held_drew (S := fun w' => w'.heap[w.heap.size]? = some (.cells #[.int .i64 (x : Int), .int .i64 (y : Int)] 36 (0, 0))) (by kernel_rfl) PBd.out (fun hHeld => ?_)
  have PIN2 : Box (PIn w0.drew (.slice p0 l.length c0) l) := ⟨PINd.out⟩
  have BB2 : Box (Below w.heap.size w w0.drew) := ⟨BBd.out.drew⟩
  have sd2 : w.heap.size + 1 ≤ w0.drew.heap.size := sd
  clear PINd BBd PBd sd
  generalize w0.drew = Wd at *
  have PINd := PIN2; have BBd := BB2; have sd := sd2
  clear PIN2 BB2 sd2
  refine wpAnyH_take (i := 1) (v := _) rfl (by kernel_rfl) (by kernel_rfl) (by kernel_rfl) (fun _ _ _ h => h) (Or.inl ⟨by rfl, fun w' hw' => by go_simp; rfl⟩) hHeld ?_
  try simp only [Act.put, List.setIfInBounds_toArray, List.set_cons_zero, List.set_cons_succ]
  refine wpAnyH_take (i := 3) (v := .agg #[.int .i64 (x : Int), .int .i64 (y : Int)]) rfl (by kernel_rfl) (by kernel_rfl) (by kernel_rfl) (fun _ _ _ h => h) (Or.inl ⟨by rfl, fun w' hw' => by
    have q0 : w'.cell? ⟨w.heap.size, 0, none⟩ = some (.int .i64 (x : Int)) := by rw [cOf' hw']; rfl
    have q1 : w'.cell? ⟨w.heap.size, 1, none⟩ = some (.int .i64 (y : Int)) := by rw [cOf' hw']; rfl
    go_simp⟩) hHeld ?_
  try simp only [Act.put, List.setIfInBounds_toArray, List.set_cons_zero, List.set_cons_succ]
  refine wpAnyH_ready (rs := [0, 4]) (by kernel_rfl) (by simp) ?_
  refine AllReadyH.cons rfl (fun K hK => ?_) (AllReadyH.cons rfl (fun K hK => ?_) AllReadyH.nil)
  · go_simp
    have rowA := newRow Wd (w.heap.size + 1) 36 2 sd
    have bA : Below (w.heap.size + 1) Wd (Wd.alloc (.cells #[] 36)) := (aset Wd _).mono sd
    refine hK.out _ _ ((bA.block w.heap.size (by omega)).trans hHeld) (fun hHeld => ?_)
    clear hK K
    try simp only [Act.put, List.setIfInBounds_toArray, List.set_cons_zero, List.set_cons_succ]
    refine wpAnyH_ready (rs := [2, 4]) (by kernel_rfl) (by simp) ?_
    refine AllReadyH.cons rfl (fun K hK => ?_) (AllReadyH.cons rfl (fun K hK => ?_) AllReadyH.nil)
    · refine step_append_rows (w := Wd.alloc (.cells #[] 36)) (w.heap.size + 1) (by simp <;> omega) rfl (.tmp 29) (.tmp 30) 26 36 2 16 (.agg #[.int .i64 0, .int .i64 0]) (by rfl) Tryd.underlying26 info_pair rfl (by decide) (by decide) _ 0 0 [] (by rfl) rowA _ l.length (prs l) (by rfl) (PINd.out.below (aset Wd (.cells #[] 36))) (prs_one l) (by omega) (fun g1 cap1 w1 r1 bl1 gr1 => ?_)
      rw [Nat.zero_add] at r1 ⊢
      rw [List.nil_append] at r1
      refine hK.out _ _ ((bl1.block w.heap.size (by omega)).trans hHeld) (fun hHeld => ?_)
      clear hK K
      try simp only [Act.put, List.setIfInBounds_toArray, List.set_cons_zero, List.set_cons_succ]
      have s1 : w.heap.size + 1 ≤ w1.heap.size := by have := bl1.size; simp at this; omega
      refine wpAnyH_ready (rs := [4]) (by kernel_rfl) (by simp) ?_
      refine AllReadyH.cons rfl (fun K hK => ?_) AllReadyH.nil
      go_simp
      have b4 : Below (w.heap.size + 1) w1 (w1.alloc (.cells #[.int .i64 (x : Int), .int .i64 (y : Int)] 36)) := (aset w1 _).mono s1
      refine hK.out _ _ ((b4.block w.heap.size (by omega)).trans hHeld) (fun hHeld => ?_)
      clear hK K
      try simp only [Act.put, List.setIfInBounds_toArray, List.set_cons_zero, List.set_cons_succ]
      refine wpAnyH_ready (rs := [5]) (by kernel_rfl) (by simp) ?_
      refine AllReadyH.cons rfl (fun K hK => ?_) AllReadyH.nil
      refine step_append_rows (w := w1.alloc (.cells #[.int .i64 (x : Int), .int .i64 (y : Int)] 36)) (w.heap.size + 1) (by simp; omega) rfl (.tmp 31) (.tmp 33) 26 36 2 16 (.agg #[.int .i64 0, .int .i64 0]) (by rfl) Tryd.underlying26 info_pair rfl (by decide) (by decide) g1 l.length cap1 (prs l) (by rfl) (r1.alloc _) _ 1 [.int .i64 (x : Int), .int .i64 (y : Int)] (by rfl) (news_pair (heap_alloc_new w1 _)) (by intro u hu; simp at hu; rcases hu with rfl | rfl <;> rfl) (by omega) (fun g2 cap2 w2 r2 bl2 gr2 => ?_)
      refine hK.out _ _ ((bl2.block w.heap.size (by omega)).trans hHeld) (fun hHeld => ?_)
      clear hK K
      try simp only [Act.put, List.setIfInBounds_toArray, List.set_cons_zero, List.set_cons_succ]
      refine wpAnyH_ready (rs := [6]) (by kernel_rfl) (by simp) ?_
      refine AllReadyH.cons rfl (fun K hK => ?_) AllReadyH.nil
      go_simp
      refine hK.out _ _ hHeld (fun hHeld => ?_)
      clear hK K
      try simp only [Act.put, List.setIfInBounds_toArray, List.set_cons_zero, List.set_cons_succ]
      refine wpAnyH_done (by kernel_rfl) ?_ _
      go_wp2_with fail
      go_ret
      exact ⟨_, rfl, (HQ.out _ _ _ r2).1, (BBd.out.trans ((((bA.trans bl1).trans b4).trans bl2).mono (by omega))), (HQ.out _ _ _ r2).2⟩
    · go_simp
      have b4 : Below (w.heap.size + 1) (Wd.alloc (.cells #[] 36)) ((Wd.alloc (.cells #[] 36)).alloc (.cells #[.int .i64 (x : Int), .int .i64 (y : Int)] 36)) := (aset _ _).mono (by simp; omega)
      have n4 : ((Wd.alloc (.cells #[] 36)).alloc (.cells #[.int .i64 (x : Int), .int .i64 (y : Int)] 36)).heap[Wd.heap.size + 1]? = some (.cells #[.int .i64 (x : Int), .int .i64 (y : Int)] 36 (0, 0)) := by have := heap_alloc_new (Wd.alloc (.cells #[] 36)) (.cells #[.int .i64 (x : Int), .int .i64 (y : Int)] 36); rw [World.size_alloc] at this; exact this
      refine hK.out _ _ ((b4.block w.heap.size (by omega)).trans hHeld) (fun hHeld => ?_)
      clear hK K
      try simp only [Act.put, List.setIfInBounds_toArray, List.set_cons_zero, List.set_cons_succ]
      refine wpAnyH_ready (rs := [2]) (by kernel_rfl) (by simp) ?_
      refine AllReadyH.cons rfl (fun K hK => ?_) AllReadyH.nil
      refine step_append_rows (w := (Wd.alloc (.cells #[] 36)).alloc (.cells #[.int .i64 (x : Int), .int .i64 (y : Int)] 36)) (w.heap.size + 1) (by simp <;> omega) rfl (.tmp 29) (.tmp 30) 26 36 2 16 (.agg #[.int .i64 0, .int .i64 0]) (by rfl) Tryd.underlying26 info_pair rfl (by decide) (by decide) _ 0 0 [] (by rfl) (rowA.alloc _) _ l.length (prs l) (by rfl) ((PINd.out.below (aset Wd (.cells #[] 36))).below (aset _ _)) (prs_one l) (by omega) (fun g1 cap1 w1 r1 bl1 gr1 => ?_)
      rw [Nat.zero_add] at r1 ⊢
      rw [List.nil_append] at r1
      have n5 := (gr1.block (Wd.heap.size + 1) (by simp) (by intro e; injection e with e; omega)).trans n4
      have s1 : w.heap.size + 1 ≤ w1.heap.size := by have := bl1.size; simp at this; omega
      refine hK.out _ _ ((bl1.block w.heap.size (by omega)).trans hHeld) (fun hHeld => ?_)
      clear hK K
      try simp only [Act.put, List.setIfInBounds_toArray, List.set_cons_zero, List.set_cons_succ]
      refine wpAnyH_ready (rs := [5]) (by kernel_rfl) (by simp) ?_
      refine AllReadyH.cons rfl (fun K hK => ?_) AllReadyH.nil
      refine step_append_rows (w := w1) (w.heap.size + 1) s1 rfl (.tmp 31) (.tmp 33) 26 36 2 16 (.agg #[.int .i64 0, .int .i64 0]) (by rfl) Tryd.underlying26 info_pair rfl (by decide) (by decide) g1 l.length cap1 (prs l) (by rfl) r1 _ 1 [.int .i64 (x : Int), .int .i64 (y : Int)] (by rfl) (news_pair n5) (by intro u hu; simp at hu; rcases hu with rfl | rfl <;> rfl) (by omega) (fun g2 cap2 w2 r2 bl2 gr2 => ?_)
      refine hK.out _ _ ((bl2.block w.heap.size (by omega)).trans hHeld) (fun hHeld => ?_)
      clear hK K
      try simp only [Act.put, List.setIfInBounds_toArray, List.set_cons_zero, List.set_cons_succ]
      refine wpAnyH_ready (rs := [6]) (by kernel_rfl) (by simp) ?_
      refine AllReadyH.cons rfl (fun K hK => ?_) AllReadyH.nil
      go_simp
      refine hK.out _ _ hHeld (fun hHeld => ?_)
      clear hK K
      try simp only [Act.put, List.setIfInBounds_toArray, List.set_cons_zero, List.set_cons_succ]
      refine wpAnyH_done (by kernel_rfl) ?_ _
      go_wp2_with fail
      go_ret
      exact ⟨_, rfl, (HQ.out _ _ _ r2).1, (BBd.out.trans ((((bA.trans b4).trans bl1).trans bl2).mono (by omega))), (HQ.out _ _ _ r2).2⟩
  · go_simp
    have b4 : Below (w.heap.size + 1) Wd (Wd.alloc (.cells #[.int .i64 (x : Int), .int .i64 (y : Int)] 36)) := (aset Wd _).mono sd
    have n4 : (Wd.alloc (.cells #[.int .i64 (x : Int), .int .i64 (y : Int)] 36)).heap[Wd.heap.size]? = some (.cells #[.int .i64 (x : Int), .int .i64 (y : Int)] 36 (0, 0)) := heap_alloc_new Wd _
    refine hK.out _ _ ((b4.block w.heap.size (by omega)).trans hHeld) (fun hHeld => ?_)
    clear hK K
    try simp only [Act.put, List.setIfInBounds_toArray, List.set_cons_zero, List.set_cons_succ]
    refine wpAnyH_ready (rs := [0]) (by kernel_rfl) (by simp) ?_
    refine AllReadyH.cons rfl (fun K hK => ?_) AllReadyH.nil
    go_simp
    have rowA := newRow (Wd.alloc (.cells #[.int .i64 (x : Int), .int .i64 (y : Int)] 36)) (w.heap.size + 1) 36 2 (by simp; omega)
    have bA : Below (w.heap.size + 1) (Wd.alloc (.cells #[.int .i64 (x : Int), .int .i64 (y : Int)] 36)) ((Wd.alloc (.cells #[.int .i64 (x : Int), .int .i64 (y : Int)] 36)).alloc (.cells #[] 36)) := (aset _ _).mono (by simp; omega)
    have n5 := (Below.heap_alloc (Wd.alloc (.cells #[.int .i64 (x : Int), .int .i64 (y : Int)] 36)) (.cells #[] 36) Wd.heap.size (by simp)).trans n4
    rw [World.size_alloc] at rowA
    refine hK.out _ _ ((bA.block w.heap.size (by omega)).trans hHeld) (fun hHeld => ?_)
    clear hK K
    try simp only [Act.put, List.setIfInBounds_toArray, List.set_cons_zero, List.set_cons_succ]
    refine wpAnyH_ready (rs := [2]) (by kernel_rfl) (by simp) ?_
    refine AllReadyH.cons rfl (fun K hK => ?_) AllReadyH.nil
    refine step_append_rows (w := (Wd.alloc (.cells #[.int .i64 (x : Int), .int .i64 (y : Int)] 36)).alloc (.cells #[] 36)) (w.heap.size + 1) (by simp <;> omega) rfl (.tmp 29) (.tmp 30) 26 36 2 16 (.agg #[.int .i64 0, .int .i64 0]) (by rfl) Tryd.underlying26 info_pair rfl (by decide) (by decide) _ 0 0 [] (by rfl) rowA _ l.length (prs l) (by rfl) ((PINd.out.below (aset Wd (.cells #[.int .i64 (x : Int), .int .i64 (y : Int)] 36))).below (aset _ _)) (prs_one l) (by omega) (fun g1 cap1 w1 r1 bl1 gr1 => ?_)
    rw [Nat.zero_add] at r1 ⊢
    rw [List.nil_append] at r1
    have n6 := (gr1.block Wd.heap.size (by simp; omega) (by intro e; injection e with e; omega)).trans n5
    have s1 : w.heap.size + 1 ≤ w1.heap.size := by have := bl1.size; simp at this; omega
    refine hK.out _ _ ((bl1.block w.heap.size (by omega)).trans hHeld) (fun hHeld => ?_)
    clear hK K
    try simp only [Act.put, List.setIfInBounds_toArray, List.set_cons_zero, List.set_cons_succ]
    refine wpAnyH_ready (rs := [5]) (by kernel_rfl) (by simp) ?_
    refine AllReadyH.cons rfl (fun K hK => ?_) AllReadyH.nil
    refine step_append_rows (w := w1) (w.heap.size + 1) s1 rfl (.tmp 31) (.tmp 33) 26 36 2 16 (.agg #[.int .i64 0, .int .i64 0]) (by rfl) Tryd.underlying26 info_pair rfl (by decide) (by decide) g1 l.length cap1 (prs l) (by rfl) r1 _ 1 [.int .i64 (x : Int), .int .i64 (y : Int)] (by rfl) (news_pair n6) (by intro u hu; simp at hu; rcases hu with rfl | rfl <;> rfl) (by omega) (fun g2 cap2 w2 r2 bl2 gr2 => ?_)
    refine hK.out _ _ ((bl2.block w.heap.size (by omega)).trans hHeld) (fun hHeld => ?_)
    clear hK K
    try simp only [Act.put, List.setIfInBounds_toArray, List.set_cons_zero, List.set_cons_succ]
    refine wpAnyH_ready (rs := [6]) (by kernel_rfl) (by simp) ?_
    refine AllReadyH.cons rfl (fun K hK => ?_) AllReadyH.nil
    go_simp
    refine hK.out _ _ hHeld (fun hHeld => ?_)
    clear hK K
    try simp only [Act.put, List.setIfInBounds_toArray, List.set_cons_zero, List.set_cons_succ]
    refine wpAnyH_done (by kernel_rfl) ?_ _
    go_wp2_with fail
    go_ret
    exact ⟨_, rfl, (HQ.out _ _ _ r2).1, (BBd.out.trans ((((b4.trans bA).trans bl1).trans bl2).mono (by omega))), (HQ.out _ _ _ r2).2⟩
end Go.Proofs.YtbcbhofbikdfiaaDoor
