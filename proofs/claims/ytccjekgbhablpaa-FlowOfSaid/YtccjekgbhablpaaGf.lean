/- ReA, ReB, ReC, ReD, ReE, in one text. -/
import Derived.Test.YtccjekgbhablpaaTolA
import Derived.Test.YtccjekgbhablpaaGd
import Derived.Test.YtccjekgbhablpaaFloO
import Derived.Test.YtccjekgbhablpaaLitY2
import Derived.Test.YtccjekgbhablpaaWordY
namespace Go.Proofs.Ytccjekgbhablpaa
set_option maxRecDepth 100000
open Go.RowKit

theorem info_iR : (Try.prog.info? 3).map (fun i => (i.zero, i.size, i.bytes)) = some (some (.int .i64 0), 1, 8) := by kernel_rfl
theorem slHeapR {w : World} {b z n : Nat} {C : List Value} {T : TypeId} {X : List Value} (h : w.heap[b]? = some (.cells (C ++ X).toArray T (0, 0))) (hl : C.length = n * z) (c : Nat) : SlIn w (.slice (some ⟨b, 0, none⟩) n c) z n C :=
  ⟨hl, .inr ⟨_, _, _, rfl, ltOf h, fun i u hu => by
    rw [Nat.zero_add, cOf h]
    have hi := (List.getElem?_eq_some_iff.1 hu).1
    rw [List.getElem?_toArray, List.getElem?_append_left hi]; exact hu⟩⟩
theorem atDropR {α : Type} {l : List α} {j : Nat} {a : α} (h : l[j]? = some a) : l.drop j = a :: l.drop (j + 1) := by
  have hlt := (List.getElem?_eq_some_iff.1 h).1
  rw [List.drop_eq_getElem_cons hlt]
  rw [List.getElem?_eq_getElem hlt] at h
  rw [Option.some.inj h]
theorem wpList_append_nil {P : Program} {ops : Array Oper} {rest : List Oper} {o : Oper} {a : Act} {w : World} {Q : Exit → Act → World → Prop}
    (hg : o.guard = none) (s x : Operand) (t : TypeId) (hop : o.op = Op.call { callee := Callee.builtin Builtin.append, args := #[s, x], argTypes := #[t, t] })
    (e : TypeId) (i : TypeInfo) (h1 : P.underlying t = some (.slice e)) (h2 : P.info? e = some i) (b off n cap : Nat) (hn : n ≤ cap) (hs : a.eval s = .slice (some ⟨b, off, none⟩) n cap) (p : Option Addr) (c : Nat) (hx : a.eval x = .slice p 0 c)
    (h : wpList P ops Q rest (a.put o.dst (.slice (some ⟨b, off, none⟩) n cap)) w) : wpList P ops Q (o :: rest) a w := by
  refine wpList_plain hg fun K hK => ?_
  have src : Src P i.size t (.slice p 0 c) 0 [] w := by
    cases p with
    | none => exact Src.ofNil w h1 c
    | some ad => exact Src.ofSlice w h1 ad 0 c [] (by simp) (by simp) (by simp)
  have hrun := run_append_room_src (P := P) (w := w) t t o.type e i h1 h2 b off n cap (.slice p 0 c) 0 [] src (by omega) (by simp) (by simp)
  have e0 : w.setCells b (off + n * i.size) [] = w := rfl
  rw [e0] at hrun
  unfold Oper.wp
  simp [execOp, hop, resolve, invoke, builtin, hs, hx, hrun, Result.andThen]
  exact hK _ _ h
/-- a row goes behind one's own -/
theorem wpList_append_rows {ops : Array Oper} {rest : List Oper} {o : Oper} {a : Act} {Q : Exit → Act → World → Prop} {w : World} (B : Nat) (hB : B ≤ w.heap.size) (hg : o.guard = none) (s x : Operand) (t e : TypeId) (z by' : Nat) (zv : Value)
    (hop : o.op = Op.call { callee := Callee.builtin Builtin.append, args := #[s, x], argTypes := #[t, t] }) (ht : Try.prog.underlying t = some (.slice e)) (hi : (Try.prog.info? e).map (fun i => (i.zero, i.size, i.bytes)) = some (some zv, z, by')) (hz : zv.cells.size = z) (hz0 : 0 < z) (hby : by' ≤ 1000)
    (g n cap : Nat) (xs : List Value) (hs : a.eval s = .slice (some ⟨g, 0, none⟩) n cap) (hrow : w.ownsRow B e z (.slice (some ⟨g, 0, none⟩) n cap) n xs)
    (v : Value) (m : Nat) (ys : List Value) (hx : a.eval x = v) (hv : SlIn w v z m ys) (h1 : ∀ u ∈ ys, u.oneCell' = true) (hnm : n + m ≤ 1000000)
    (h : ∀ g' cap' w', w'.ownsRow B e z (.slice (some ⟨g', 0, none⟩) (n + m) cap') (n + m) (xs ++ ys) → Below B w w' → (g' = g ∨ g' = w.heap.size) → wpList Try.prog ops Q rest (a.put o.dst (.slice (some ⟨g', 0, none⟩) (n + m) cap')) w') :
    wpList Try.prog ops Q (o :: rest) a w := by
  obtain ⟨i0, hi1, hz1, hz2, hz3⟩ := info_parts hi
  have hcap : n ≤ cap := by
    rcases hrow.2 with ⟨hv, _⟩ | ⟨_, _, _, hv, _, _, h2, _⟩
    · cases hv
    · obtain ⟨_, _, e3⟩ := Value.slice.inj hv; omega
  by_cases hm : m = 0
  · subst hm
    obtain ⟨p, c, rfl⟩ := hv.slice
    have hy : ys = [] := List.eq_nil_of_length_eq_zero (by have := hv.1; omega)
    subst hy
    refine wpList_append_nil hg s x t hop e i0 ht hi1 g 0 n cap hcap hs p c hx ?_
    have := h g cap w (by simpa using hrow) ⟨rfl, rfl, rfl, Nat.le_refl _, fun _ _ => rfl⟩ (.inl rfl)
    simpa using this
  · obtain ⟨b, off, c, rfl, hbl, hcl⟩ := hv.at (by omega)
    have hbytes : (n + m) * by' ≤ 1000000 * 1000 := Nat.mul_le_mul hnm hby
    refine wpList_append_lies (w := w) hg s x t hop B e i0 zv z by' ht hi1 hz1 hz2 hz3 hz hz0 _ n xs hs hrow ⟨b, off, none⟩ m c ys hx hv.1 (fun j u hu => ?_) h1 (by omega) (by unfold maxLen; omega) (by omega) hB w.heap.size rfl (fun g' cap' w' r1 r2 r3 r4 => ?_)
    · rw [Addr.add_mid]; exact hcl j u hu
    · refine h g' cap' w' r1 (Below.grown ⟨rfl, rfl, rfl, Nat.le_refl _, fun _ _ => rfl⟩ r2 hB (fun k hk => (rowLt hrow k hk).1)) ?_
      rcases r3 with r3 | r3
      · left
        have : g = g' := by simpa [Value.ownBlock] using r3
        exact this.symm
      · exact .inr r3
theorem newRow0 (w : World) (B : Nat) (e z : Nat) (hB : B ≤ w.heap.size) : (w.alloc (.cells #[] e)).ownsRow B e z (.slice (some ⟨w.heap.size, 0, none⟩) 0 0) 0 [] := newRow w B e z hB
/-- bits of numbers -/
def maskM (l : List Nat) : Nat := l.foldl (fun (v k : Nat) => withN v (k : Int)) 0
theorem withN_or (v : Nat) (n : Int) : withN v n = v ||| withN 0 n := by
  unfold withN
  split <;> simp
theorem mask_from (l : List Nat) : ∀ v, l.foldl (fun (v k : Nat) => withN v (k : Int)) v = v ||| maskM l := by
  unfold maskM
  induction l with
  | nil => intro v; simp
  | cons a l ih =>
    intro v
    rw [List.foldl_cons, List.foldl_cons, ih, ih (withN 0 a), withN_or v, Nat.or_assoc]
theorem mask_app (a b : List Nat) : maskM (a ++ b) = maskM a ||| maskM b := by
  unfold maskM
  rw [List.foldl_append]
  exact mask_from b _
theorem mask_one (k : Nat) : maskM [k] = bit1 k := by
  unfold maskM bit1
  simp only [List.foldl_cons, List.foldl_nil]
theorem mask_lt (l : List Nat) : maskM l < 18446744073709551616 := by
  unfold maskM
  have : ∀ (l : List Nat) v, v < 18446744073709551616 → l.foldl (fun (v k : Nat) => withN v (k : Int)) v < 18446744073709551616 := fun l => by
    induction l with
    | nil => intro v h; exact h
    | cons a l ih => intro v h; rw [List.foldl_cons]; exact ih _ (withN_lt h _)
  exact this l 0 (by decide)
/-- a slice of numbers whose bits these are, in a block that is good -/
def MaskIn (W : World) (G : Nat → Prop) (b : Nat) (v : Value) (f : Nat) : Prop := ∃ l : List Nat, SlIn W v 1 l.length (nI l) ∧ maskM l = f ∧ l.length ≤ b ∧ ∀ k, 0 < l.length → v.ownBlock = some k → G k
theorem SlIn.keep {w w' : World} {v : Value} {z n : Nat} {cs : List Value} (hz : 0 < z) (h : SlIn w v z n cs) (hk : ∀ k, 0 < n → v.ownBlock = some k → k < w.heap.size → w'.heap[k]? = w.heap[k]?) : SlIn w' v z n cs := by
  by_cases hn : n = 0
  · obtain ⟨p, c, e⟩ := h.slice
    rw [hn] at e
    exact ⟨h.1, .inl ⟨hn, p, c, e⟩⟩
  · obtain ⟨b, off, c, hv, hb, hc⟩ := h.at (by omega)
    subst hv
    have e := hk b (by omega) rfl hb
    have hl : 0 < cs.length := by rw [h.1]; exact Nat.mul_pos (by omega) hz
    obtain ⟨u0, hu0⟩ : ∃ u, cs[0]? = some u := ⟨_, List.getElem?_eq_getElem hl⟩
    have hc' : ∀ i u, cs[i]? = some u → w'.cell? ⟨b, off + i, none⟩ = some u := fun i u hu => keepC e (hc i u hu)
    exact ⟨h.1, .inr ⟨b, off, c, rfl, World.block_lt_of_cell? _ _ (hc' 0 u0 hu0), hc'⟩⟩
theorem SlIn.lt {w : World} {v : Value} {z n : Nat} {cs : List Value} (h : SlIn w v z n cs) (hn : 0 < n) : ∀ k, v.ownBlock = some k → k < w.heap.size := by
  obtain ⟨b, off, c, hv, hb, hc⟩ := h.at hn
  subst hv
  intro k hk
  have : b = k := by simpa [Value.ownBlock] using hk
  omega
theorem MaskIn.keep {W W' : World} {G : Nat → Prop} {b : Nat} {v : Value} {f : Nat} (h : MaskIn W G b v f) (hk : ∀ k, G k → k < W.heap.size → W'.heap[k]? = W.heap[k]?) : MaskIn W' G b v f := by
  obtain ⟨l, h1, h2, h3, h4⟩ := h
  exact ⟨l, h1.keep (by decide) (fun k hn hv => hk k (h4 k hn hv)), h2, h3, h4⟩
theorem MaskIn.imp {W : World} {G G' : Nat → Prop} {b : Nat} {v : Value} {f : Nat} (h : MaskIn W G b v f) (hg : ∀ k, G k → k < W.heap.size → G' k) : MaskIn W G' b v f := by
  obtain ⟨l, h1, h2, h3, h4⟩ := h
  exact ⟨l, h1, h2, h3, fun k hn hv => hg k (h4 k hn hv) (h1.lt hn k hv)⟩
theorem MaskIn.below {W W' : World} {G : Nat → Prop} {b : Nat} {v : Value} {f : Nat} (h : MaskIn W G b v f) (hb : Below W.heap.size W W') : MaskIn W' G b v f := h.keep fun k _ hl => hb.block k hl
theorem MaskIn.mono {W : World} {G : Nat → Prop} {b b' : Nat} {v : Value} {f : Nat} (h : MaskIn W G b v f) (hb : b ≤ b') : MaskIn W G b' v f := by
  obtain ⟨l, h1, h2, h3, h4⟩ := h
  exact ⟨l, h1, h2, by omega, h4⟩
theorem MaskIn.nil (W : World) (G : Nat → Prop) (b : Nat) : MaskIn W G b (.slice none 0 0) 0 := ⟨[], ⟨rfl, .inl ⟨rfl, _, _, rfl⟩⟩, rfl, by simp, fun k _ h => by cases h⟩
theorem nI_one (l : List Nat) : ∀ u ∈ nI l, u.oneCell' = true := by
  intro u hu; simp [nI] at hu; obtain ⟨n, _, rfl⟩ := hu; rfl
theorem nI_app (a b : List Nat) : nI a ++ nI b = nI (a ++ b) := by simp [nI]
set_option maxHeartbeats 3200000 in
theorem mask_any (w : World) (G : Nat → Prop) (b : Nat) (hb : b ≤ 1000000) (v : Value) (f : Nat) (h : MaskIn w G b v f) :
    Calls Try.prog 13 #[v] w fun e w' => e = .returned (.int .u64 (f : Int)) ∧ Below w.heap.size w w' := by
  obtain ⟨l, h1, h2, h3, _⟩ := h
  obtain ⟨p, c, rfl⟩ := h1.slice
  have H1 := Bx.mk h1; have H2 := Bx.mk h2
  clear h1 h2
  go_enter Try.func13, Try.ntmps13
  go_wp2_with fail
  go_loopw [3, 8] (fun x q wr => ∃ (j : Nat) (y : Nat), q = .int .i64 (j : Int) ∧ x = .int .u64 (y : Int) ∧ j ≤ l.length ∧ y < 18446744073709551616 ∧ Bx ((l.drop j).foldl (fun (v k : Nat) => withN v (k : Int)) y = f) ∧ Bx (Below w.heap.size w wr)) (fun _ q _ => l.length - (intOf q).toNat)
  case atStart => exact ⟨0, 0, rfl, rfl, by omega, by decide, H2, ⟨Below.refl _ _⟩⟩
  case round =>
    obtain ⟨j, y, rfl, rfl, hj, hy, hf, hbw⟩ := hrel
    by_cases hlt : j < l.length
    · obtain ⟨bb, off, c', hv, hbl, hcl⟩ := H1.out.at (by omega)
      obtain ⟨rfl, _, rfl⟩ := Value.slice.inj hv
      obtain ⟨k, hk⟩ : ∃ k, l[j]? = some k := ⟨_, List.getElem?_eq_getElem hlt⟩
      have q0 : wr.cell? ⟨bb, off + j, none⟩ = some (.int .i64 (k : Int)) := (hbw.out.cell hbl).trans (hcl j _ (by unfold nI; rw [List.getElem?_map, hk]; rfl))
      have e := hf.out
      rw [atDropR hk, List.foldl_cons] at e
      have E := Bx.mk e
      have cw := Bx.mk (fun W => refWith_any y (k : Int) hy W)
      have hlt2 := withN_lt hy (k : Int)
      clear hv hcl hk e hf
      go_wp2_with (go_at_call 28; ((with_reducible refine (cw.out _).mono ?_); rintro e w2 ⟨rfl, b2⟩; have B2 := Bx.mk (bel hbw.out b2); clear b2))
      go_roundw
      case rel => exact ⟨j + 1, _, by go_num, rfl, by omega, hlt2, E, B2⟩
      case measure => simp [intOf] <;> omega
    · obtain rfl : j = l.length := by omega
      have e := hf.out
      rw [List.drop_length] at e
      have E : Bx (y = f) := ⟨e⟩
      clear e hf
      go_wp2_with fail
      go_ret
      exact ⟨by rw [← E.out]; rfl, hbw.out⟩
end Go.Proofs.Ytccjekgbhablpaa
namespace Go.Proofs.Ytccjekgbhablpaa
set_option maxRecDepth 100000
open Go.RowKit

theorem MaskIn.slice {W : World} {G : Nat → Prop} {b : Nat} {v : Value} {f : Nat} (h : MaskIn W G b v f) : ∃ p n c, v = .slice p n c := by
  obtain ⟨l, h1, _⟩ := h
  obtain ⟨p, c, e⟩ := h1.slice
  exact ⟨p, _, c, e⟩
set_option maxHeartbeats 3200000 in
theorem join_any (w : World) (G : Nat → Prop) (hG : ∀ k, w.heap.size ≤ k → G k) (ba bb : Nat) (hb : ba + bb ≤ 1000000) (va vb : Value) (fa fb : Nat) (ha : MaskIn w G ba va fa) (hb' : MaskIn w G bb vb fb) :
    Calls Try.prog 47 #[va, vb] w fun e w' => ∃ p n c, e = .returned (.slice p n c) ∧ MaskIn w' G (ba + bb) (.slice p n c) (fa ||| fb) ∧ Below w.heap.size w w' := by
  obtain ⟨la, a1, a2, a3, _⟩ := ha
  obtain ⟨lb, b1, b2, b3, _⟩ := hb'
  obtain ⟨pa, ca, rfl⟩ := a1.slice
  obtain ⟨pb, cb, rfl⟩ := b1.slice
  have A1 := Bx.mk (a1.below (aset w (.cells #[] 3))); have B1 := Bx.mk b1
  have R0 := Bx.mk (newRow0 w w.heap.size 3 1 (Nat.le_refl _))
  have FF : Bx (maskM (la ++ lb) = fa ||| fb) := ⟨by rw [mask_app, a2, b2]⟩
  clear a1 b1 a2 b2
  go_enter Try.func47, Try.ntmps47
  go_wp2_with (first
    | (at_builtin; refine wpList_append_rows (w := w.alloc (.cells #[] 3)) w.heap.size (by simp) rfl (.tmp 5) (.tmp 6) 64 3 1 8 (.int .i64 0) (by rfl) Try.underlying64 info_iR rfl (by decide) (by decide) w.heap.size 0 0 [] (by rfl) R0.out _ la.length (nI la) (by rfl) A1.out (nI_one la) (by omega) ?_; intro g1 cap1 w1 r1 bl1 _; have R1 : Bx (w1.ownsRow w.heap.size 3 1 (.slice (some ⟨g1, 0, none⟩) la.length cap1) la.length (nI la)) := ⟨(by simpa using r1)⟩; have BL1 := Bx.mk ((aset w (.cells #[] 3)).trans bl1); have s1 := BL1.out.size; clear r1 bl1)
    | (at_builtin; refine wpList_append_rows (w := w1) w.heap.size s1 rfl (.tmp 7) (.tmp 8) 64 3 1 8 (.int .i64 0) (by rfl) Try.underlying64 info_iR rfl (by decide) (by decide) g1 la.length cap1 (nI la) (by rfl) R1.out _ lb.length (nI lb) (by rfl) (B1.out.below ((BL1.out).mono (Nat.le_refl _))) (nI_one lb) (by omega) ?_; intro g2 cap2 w2 r2 bl2 _; have R2 := Bx.mk r2; have BL2 := Bx.mk bl2; clear r2 bl2))
  go_ret
  refine ⟨_, _, _, rfl, ⟨la ++ lb, ?_, FF.out, by simp; omega, fun k _ hk => hG k (rowLt R2.out k hk).1⟩, BL1.out.trans BL2.out⟩
  have h := (rowSlIn R2.out).1
  rw [nI_app] at h
  rw [List.length_append]
  exact h

/-- registers of the reference -/
def rgX (x : Value × Cn) : List Value := [.bool x.2.k, .int .u64 (x.2.v : Int), x.1]
structure RegM (W : World) (G : Nat → Prop) (b : Nat) (v : Value) (L : List Cn) : Prop where
  ex : ∃ X : List (Value × Cn), X.map (·.2) = L ∧ SlIn W v 3 X.length (X.flatMap rgX) ∧ ∀ x ∈ X, MaskIn W G b x.1 x.2.f
  gd : ∀ k, 0 < L.length → v.ownBlock = some k → G k
theorem RegM.keep {W W' : World} {G : Nat → Prop} {b : Nat} {v : Value} {L : List Cn} (h : RegM W G b v L) (hk : ∀ k, G k → k < W.heap.size → W'.heap[k]? = W.heap[k]?) : RegM W' G b v L := by
  obtain ⟨X, h1, h2, h3⟩ := h.ex
  have hl : X.length = L.length := by rw [← h1]; simp
  exact ⟨⟨X, h1, h2.keep (by decide) (fun k hn hv => hk k (h.gd k (by omega) hv)), fun x hx => (h3 x hx).keep hk⟩, h.gd⟩
theorem RegM.imp {W : World} {G G' : Nat → Prop} {b : Nat} {v : Value} {L : List Cn} (h : RegM W G b v L) (hg : ∀ k, G k → k < W.heap.size → G' k) : RegM W G' b v L := by
  obtain ⟨X, h1, h2, h3⟩ := h.ex
  have hl : X.length = L.length := by rw [← h1]; simp
  exact ⟨⟨X, h1, h2, fun x hx => (h3 x hx).imp hg⟩, fun k hn hv => hg k (h.gd k hn hv) (h2.lt (by omega) k hv)⟩
theorem RegM.below {W W' : World} {G : Nat → Prop} {b : Nat} {v : Value} {L : List Cn} (h : RegM W G b v L) (hb : Below W.heap.size W W') : RegM W' G b v L := h.keep fun k _ hl => hb.block k hl
theorem RegM.mono {W : World} {G : Nat → Prop} {b b' : Nat} {v : Value} {L : List Cn} (h : RegM W G b v L) (hb : b ≤ b') : RegM W G b' v L := by
  obtain ⟨X, h1, h2, h3⟩ := h.ex
  exact ⟨⟨X, h1, h2, fun x hx => (h3 x hx).mono hb⟩, h.gd⟩
theorem RegM.slice {W : World} {G : Nat → Prop} {b : Nat} {v : Value} {L : List Cn} (h : RegM W G b v L) : ∃ p c, v = .slice p L.length c := by
  obtain ⟨X, h1, h2, _⟩ := h.ex
  obtain ⟨p, c, e⟩ := h2.slice
  exact ⟨p, c, by rw [e, ← h1]; simp⟩
theorem RegM.at {W : World} {G : Nat → Prop} {b : Nat} {v : Value} {L : List Cn} (h : RegM W G b v L) {k : Nat} {c : Cn} (hk : L[k]? = some c) : ∃ bb off cap sv, v = .slice (some ⟨bb, off, none⟩) L.length cap ∧ bb < W.heap.size ∧ MaskIn W G b sv c.f ∧ W.cell? ⟨bb, off + k * 3, none⟩ = some (.bool c.k) ∧ W.cell? ⟨bb, off + k * 3 + 1, none⟩ = some (.int .u64 (c.v : Int)) ∧ W.cell? ⟨bb, off + k * 3 + 2, none⟩ = some sv := by
  obtain ⟨X, h1, h2, h3⟩ := h.ex
  have hkl := (List.getElem?_eq_some_iff.1 hk).1
  rw [← h1] at hk
  rw [List.getElem?_map] at hk
  obtain ⟨x, hx, rfl⟩ := Option.map_eq_some_iff.1 hk
  have hxl := (List.getElem?_eq_some_iff.1 hx).1
  obtain ⟨bb, off, cap, rfl, hbl, hcl⟩ := h2.at (by omega)
  refine ⟨bb, off, cap, x.1, by rw [← h1]; simp, hbl, h3 x (List.mem_of_getElem? hx), ?_, ?_, ?_⟩
  · exact hcl _ _ (flatAt rgX 3 (fun _ => rfl) X k 0 x hx (by decide))
  · rw [Nat.add_assoc]; exact hcl _ _ (flatAt rgX 3 (fun _ => rfl) X k 1 x hx (by decide))
  · rw [Nat.add_assoc]; exact hcl _ _ (flatAt rgX 3 (fun _ => rfl) X k 2 x hx (by decide))
theorem rgX_one {W : World} {G : Nat → Prop} {b : Nat} {X : List (Value × Cn)} (h : ∀ x ∈ X, MaskIn W G b x.1 x.2.f) : ∀ u ∈ X.flatMap rgX, u.oneCell' = true := by
  intro u hu
  obtain ⟨x, hx, hu⟩ := List.mem_flatMap.1 hu
  obtain ⟨p, n, c, e⟩ := (h x hx).slice
  simp only [rgX, List.mem_cons, List.not_mem_nil, or_false] at hu
  rcases hu with rfl | rfl | rfl
  · rfl
  · rfl
  · rw [e]; rfl
set_option maxHeartbeats 3200000 in
theorem argR_any (w : World) (G : Nat → Prop) (b : Nat) (rp : Option Addr) (rc : Nat) (pv lv fv : Value) (p1 p2 p3 : Option Addr) (n1 c1 n2 c2 n3 c3 : Nat) (e1 : pv = .slice p1 n1 c1) (e2 : lv = .slice p2 n2 c2) (e3 : fv = .slice p3 n3 c3) (last : Int) (kn : Bool) (s : WkM) (h8 : s.regs.length = 8) (hr : RegM w G b (.slice rp 8 rc) s.regs) (r : Bool) (n : Nat) (hn : r = true → n < 8) :
    Calls Try.prog 46 #[.agg #[.slice rp 8 rc, pv, .int .i64 last, lv, fv, .bool kn], .agg #[.bool r, .int .u64 (n : Int)]] w fun e w' => ∃ p m c, e = .returned (.agg #[.bool (argM s r n).k, .int .u64 ((argM s r n).v : Int), .slice p m c]) ∧ MaskIn w' G b (.slice p m c) (argM s r n).f ∧ Below w.heap.size w w' := by
  subst e1 e2 e3
  have B3 : Bx (∀ u v x : Obj, Below w.heap.size w (((w.alloc u).alloc v).alloc x)) := ⟨fun u v x => bel (bel (aset _ _) (aset _ _)) (aset _ _)⟩
  cases r
  · have e : argM s false n = numC0 n := rfl
    rw [e]
    go_enter Try.func46, Try.ntmps46
    go_wp2_with fail
    refine bodyPost_ret (v := .agg #[.bool true, .int .u64 (n : Int), .slice none 0 0]) (by simp [results, go_sem]) rfl ⟨none, 0, 0, rfl, MaskIn.nil _ _ _, ?_⟩
    first
      | exact B3.out _ _ _
      | exact belSet (belSet (belSet (B3.out _ _ _) _ _ _ (by simp; omega)) _ _ _ (by simp; omega)) _ _ _ (by simp; omega)
  · have hn8 := hn rfl
    obtain ⟨c, hc⟩ : ∃ c, s.regs[n]? = some c := ⟨_, List.getElem?_eq_getElem (by omega)⟩
    have e : argM s true n = c := by unfold argM cnAt; simp [List.getD_eq_getElem?_getD, hc]
    rw [e]
    obtain ⟨bb, off, cap, sv, hv, hbl, hm, k0, k1, k2⟩ := hr.at hc
    rw [h8] at hv
    obtain ⟨rfl, _, rfl⟩ := Value.slice.inj hv
    obtain ⟨sp, sn, sc, rfl⟩ := hm.slice
    have HM := Bx.mk hm
    have hni : (n : Int) < 8 := by omega
    have hn0 : (0 : Int) ≤ (n : Int) := by omega
    have k0' : ∀ u v x : Obj, (((w.alloc u).alloc v).alloc x).cell? ⟨bb, off + n * 3, none⟩ = some (.bool c.k) := fun u v x => cBel k0 (B3.out u v x)
    have k1' : ∀ u v x : Obj, (((w.alloc u).alloc v).alloc x).cell? ⟨bb, off + n * 3 + 1, none⟩ = some (.int .u64 (c.v : Int)) := fun u v x => cBel k1 (B3.out u v x)
    have k2' : ∀ u v x : Obj, (((w.alloc u).alloc v).alloc x).cell? ⟨bb, off + n * 3 + 2, none⟩ = some (.slice sp sn sc) := fun u v x => cBel k2 (B3.out u v x)
    clear hc e hv hm hr k0 k1 k2
    go_enter Try.func46, Try.ntmps46
    go_wp2_with fail
    refine bodyPost_ret (v := .agg #[.bool c.k, .int .u64 (c.v : Int), .slice sp sn sc]) (by simp [results, go_sem]) rfl ⟨sp, sn, sc, rfl, ?_, ?_⟩
    · first
        | exact HM.out.below (B3.out _ _ _)
        | exact HM.out.below (belSet (belSet (belSet (B3.out _ _ _) _ _ _ (by simp; omega)) _ _ _ (by simp; omega)) _ _ _ (by simp; omega))
    · first
        | exact B3.out _ _ _
        | exact belSet (belSet (belSet (B3.out _ _ _) _ _ _ (by simp; omega)) _ _ _ (by simp; omega)) _ _ _ (by simp; omega)
end Go.Proofs.Ytccjekgbhablpaa
namespace Go.Proofs.Ytccjekgbhablpaa
set_option maxRecDepth 100000
open Go.RowKit

theorem info_rw : (Try.prog.info? 70).map (fun i => (i.zero, i.size, i.bytes)) = some (some (.agg #[.bool false, .int .u64 0, .slice none 0 0]), 3, 40) := by kernel_rfl
/-- where a row lies, with what is behind it -/
theorem rowHeapG {w : World} {B e z g n cap : Nat} {xs : List Value} (h : w.ownsRow B e z (.slice (some ⟨g, 0, none⟩) n cap) n xs) : ∃ T : List Value, w.heap[g]? = some (.cells (xs ++ T).toArray e (0, 0)) ∧ B ≤ g := by
  rcases h.2 with ⟨hv, _⟩ | ⟨g', cap', cur, hv, hB, hh, _, _, hs, ht⟩
  · cases hv
  · obtain ⟨e1, _, _⟩ := Value.slice.inj hv
    obtain rfl : g = g' := by injection e1 with e1; injection e1
    refine ⟨cur.toList.drop (n * z), ?_, hB⟩
    rw [hh]
    have e : cur.toList = xs ++ cur.toList.drop (n * z) := by
      conv => lhs; rw [← List.take_append_drop (n * z) cur.toList]
      congr 1
    rw [← e]
theorem flat_split {β : Type} (f : β → List Value) {Y : List β} {k : Nat} {y : β} (h : Y[k]? = some y) : Y.flatMap f = (Y.take k).flatMap f ++ f y ++ (Y.drop (k + 1)).flatMap f := by
  have hk := (List.getElem?_eq_some_iff.1 h).1
  have e : Y = Y.take k ++ y :: Y.drop (k + 1) := by
    conv => lhs; rw [← List.take_append_drop k Y]
    rw [List.drop_eq_getElem_cons hk]
    rw [List.getElem?_eq_getElem hk] at h
    rw [Option.some.inj h]
  conv => lhs; rw [e]
  rw [List.flatMap_append, List.flatMap_cons, List.append_assoc]
theorem flat_len {β : Type} (f : β → List Value) (z : Nat) (hz : ∀ x, (f x).length = z) (Y : List β) : (Y.flatMap f).length = Y.length * z := by
  induction Y with
  | nil => simp
  | cons x X ih => rw [List.flatMap_cons, List.length_append, ih, hz, List.length_cons, Nat.succ_mul]; omega
theorem flat_setCells {β : Type} (f : β → List Value) (z : Nat) (hz : ∀ x, (f x).length = z) {W : World} {g : Nat} {e : TypeId} {Y : List β} {T : List Value} {k : Nat} (y : β) (hk : k < Y.length) (hh : W.heap[g]? = some (.cells (Y.flatMap f ++ T).toArray e (0, 0))) :
    (W.setCells g (k * z) (f y)).heap[g]? = some (.cells ((Y.set k y).flatMap f ++ T).toArray e (0, 0)) := by
  obtain ⟨x, hx⟩ : ∃ x, Y[k]? = some x := ⟨_, List.getElem?_eq_getElem hk⟩
  rw [flat_split f hx, List.append_assoc] at hh
  have h2 := heapSets (f y) W ((Y.take k).flatMap f) (f x) ((Y.drop (k + 1)).flatMap f ++ T) (by rw [hz, hz]) (by rw [hh])
  rw [flat_len f z hz, List.length_take, Nat.min_eq_left (by omega)] at h2
  rw [h2]
  have hs : (Y.set k y)[k]? = some y := by rw [List.getElem?_set_self hk]
  rw [flat_split f hs, List.take_set_of_le (Nat.le_refl k), List.drop_set_of_lt (by omega)]
  simp [List.append_assoc]
theorem reg_mk {W : World} {G : Nat → Prop} {b g c : Nat} (hg : G g) {X : List (Value × Cn)} {T : List Value} {e : TypeId} (k : Nat) (sv : Value) (x : Cn) (hh : W.heap[g]? = some (.cells ((X.set k (sv, x)).flatMap rgX ++ T).toArray e (0, 0))) (hX : ∀ y ∈ X, MaskIn W G b y.1 y.2.f) (hs : MaskIn W G b sv x.f) :
    RegM W G b (.slice (some ⟨g, 0, none⟩) X.length c) ((X.map (·.2)).set k x) := by
  refine ⟨⟨X.set k (sv, x), by rw [List.map_set], ?_, fun y hy => ?_⟩, fun k _ hk => by
    have : g = k := by simpa [Value.ownBlock] using hk
    rw [← this]; exact hg⟩
  · rw [List.length_set]
    exact slHeapR hh (by rw [flat_len rgX 3 (fun _ => rfl), List.length_set]) c
  · rcases List.mem_or_eq_of_mem_set hy with h | rfl
    · exact hX y h
    · exact hs

set_option maxHeartbeats 12800000 in
theorem setR_any (w : World) (G : Nat → Prop) (hGn : ∀ k, w.heap.size ≤ k → G k) (b : Nat) (rp : Option Addr) (rc : Nat) (p1 p2 p3 : Option Addr) (n1 c1 n2 c2 n3 c3 : Nat) (last : Int) (kn : Bool) (L : List Cn) (h8 : L.length = 8) (hr : RegM w G b (.slice rp 8 rc) L) (rd : Nat) (hrd : rd < 8) (k : Bool) (v f : Nat) (sp : Option Addr) (sn sc : Nat) (hs : MaskIn w G b (.slice sp sn sc) f) :
    Calls Try.prog 48 #[.agg #[.slice rp 8 rc, .slice p1 n1 c1, .int .i64 last, .slice p2 n2 c2, .slice p3 n3 c3, .bool kn], .int .i64 (rd : Int), .agg #[.bool k, .int .u64 (v : Int), .slice sp sn sc]] w fun e w' => ∃ rp' rc', e = .returned (.agg #[.slice rp' 8 rc', .slice p1 n1 c1, .int .i64 last, .slice p2 n2 c2, .slice p3 n3 c3, .bool kn]) ∧ RegM w' G b (.slice rp' 8 rc') (L.set rd ⟨k, if k then v else 0, f⟩) ∧ Below w.heap.size w w' := by
  obtain ⟨X, hX1, hX2, hX3⟩ := hr.ex
  have hXl : X.length = 8 := by rw [← h8, ← hX1]; simp
  rw [hXl] at hX2
  have HX2 := Bx.mk hX2; have HX3 := Bx.mk hX3; have HX1 := Bx.mk hX1; have HS := Bx.mk hs
  have hrd1 : (rd : Int) < 8 := by omega
  have hrd0 : (0 : Int) ≤ (rd : Int) := by omega
  clear hr hX1 hX2 hX3 hs
  cases k
  · go_enter Try.func48, Try.ntmps48
    go_upto_region 3 with fail
    obtain ⟨W, hW⟩ : ∃ W, W = ((w.alloc (.cells #[.slice rp 8 rc, .slice p1 n1 c1, .int .i64 last, .slice p2 n2 c2, .slice p3 n3 c3, .bool kn] 105)).alloc (.cells #[.bool false, .int .u64 0, .slice sp sn sc] 70)).alloc (.cells #[.slice none 0 0, .slice none 0 0, .int .i64 0, .slice none 0 0, .slice none 0 0, .bool false] 105) := ⟨_, rfl⟩
    have e0 : W.heap[w.heap.size]? = some (.cells #[.slice rp 8 rc, .slice p1 n1 c1, .int .i64 last, .slice p2 n2 c2, .slice p3 n3 c3, .bool kn] 105 (0, 0)) := by
      rw [hW]
      exact ((aset _ _).block _ (by first | (simp; done) | (simp; omega))).trans (((aset _ _).block _ (by first | (simp; done) | (simp; omega))).trans (heap_alloc_new _ _))
    have e1 : W.heap[w.heap.size + 1]? = some (.cells #[.bool false, .int .u64 0, .slice sp sn sc] 70 (0, 0)) := by
      have q := heap_alloc_new (w.alloc (.cells #[.slice rp 8 rc, .slice p1 n1 c1, .int .i64 last, .slice p2 n2 c2, .slice p3 n3 c3, .bool kn] 105)) (.cells #[.bool false, .int .u64 0, .slice sp sn sc] 70)
      have q2 := ((aset _ (.cells #[.slice none 0 0, .slice none 0 0, .int .i64 0, .slice none 0 0, .slice none 0 0, .bool false] 105)).block _ (ltOf q)).trans q
      have z : (w.alloc (.cells #[.slice rp 8 rc, .slice p1 n1 c1, .int .i64 last, .slice p2 n2 c2, .slice p3 n3 c3, .bool kn] 105)).heap.size = w.heap.size + 1 := by simp
      rw [z] at q2
      rw [hW]
      exact q2
    have e2 : W.heap[w.heap.size + 1 + 1]? = some (.cells #[.slice none 0 0, .slice none 0 0, .int .i64 0, .slice none 0 0, .slice none 0 0, .bool false] 105 (0, 0)) := by
      have q := heap_alloc_new ((w.alloc (.cells #[.slice rp 8 rc, .slice p1 n1 c1, .int .i64 last, .slice p2 n2 c2, .slice p3 n3 c3, .bool kn] 105)).alloc (.cells #[.bool false, .int .u64 0, .slice sp sn sc] 70)) (.cells #[.slice none 0 0, .slice none 0 0, .int .i64 0, .slice none 0 0, .slice none 0 0, .bool false] 105)
      have z : ((w.alloc (.cells #[.slice rp 8 rc, .slice p1 n1 c1, .int .i64 last, .slice p2 n2 c2, .slice p3 n3 c3, .bool kn] 105)).alloc (.cells #[.bool false, .int .u64 0, .slice sp sn sc] 70)).heap.size = w.heap.size + 1 + 1 := by simp
      rw [z] at q
      rw [hW]
      exact q
    have bW : Below w.heap.size w W := by
      rw [hW]
      exact bel (bel (aset _ _) (aset _ _)) (aset _ _)
    have sW : W.heap.size = w.heap.size + 1 + 1 + 1 := by rw [hW]; simp
    (try rw [← hW])
    clear hW
    have x0 := cOf e0 0; have x1 := cOf e0 1; have x2 := cOf e0 2; have x3 := cOf e0 3; have x4 := cOf e0 4; have x5 := cOf e0 5; have xf0 := tOf e0 0
    simp only [List.getElem?_toArray, List.getElem?_cons_zero, List.getElem?_cons_succ] at x0 x1 x2 x3 x4 x5
    have E0 := Bx.mk e0; have E1 := Bx.mk e1; have E2 := Bx.mk e2; have BW := Bx.mk bW
    have R0 : Bx ((W.alloc (.cells #[] 70)).ownsRow W.heap.size 70 3 (.slice (some ⟨w.heap.size + 1 + 1 + 1, 0, none⟩) 0 0) 0 []) := ⟨by rw [← sW]; exact newRow0 W W.heap.size 70 3 (Nat.le_refl _)⟩
    have AX := Bx.mk (HX2.out.below (bel bW (aset W (.cells #[] 70))))
    clear e0 e1 e2 bW
    go_upto_region 4 with (at_builtin; refine wpList_append_rows (w := W.alloc (.cells #[] 70)) W.heap.size (by simp) rfl (.tmp 11) (.tmp 13) 53 70 3 40 (.agg #[.bool false, .int .u64 0, .slice none 0 0]) (by rfl) Try.underlying53 info_rw rfl (by decide) (by decide) (w.heap.size + 1 + 1 + 1) 0 0 [] (by rfl) R0.out _ 8 (X.flatMap rgX) (by rfl) AX.out (rgX_one HX3.out) (by omega) ?_; intro g cap w4 r1 bl1 _; have R1 : Bx (w4.ownsRow W.heap.size 70 3 (.slice (some ⟨g, 0, none⟩) 8 cap) 8 (X.flatMap rgX)) := ⟨(by simpa using r1)⟩; have B4 := Bx.mk ((aset W (.cells #[] 70)).trans bl1); have y0 := cBel x0 B4.out; have yf0 := tOf ((B4.out.block _ (ltOf E0.out)).trans E0.out) 0; clear r1 bl1)
    obtain ⟨T, hT, hgB⟩ := rowHeapG R1.out
    obtain ⟨Gw, hG⟩ : ∃ Gw, Gw = w4.setCell ⟨w.heap.size, 0, none⟩ (.slice (some ⟨g, 0, none⟩) 8 cap) := ⟨_, rfl⟩
    have g0 : Gw.heap[w.heap.size]? = some (.cells #[.slice (some ⟨g, 0, none⟩) 8 cap, .slice p1 n1 c1, .int .i64 last, .slice p2 n2 c2, .slice p3 n3 c3, .bool kn] 105 (0, 0)) := by rw [hG, heapSet' ((B4.out.block _ (ltOf E0.out)).trans E0.out)]; rfl
    have g1 : Gw.heap[w.heap.size + 1]? = some (.cells #[.bool false, .int .u64 0, .slice sp sn sc] 70 (0, 0)) := by rw [hG, hset (by omega)]; exact (B4.out.block _ (ltOf E1.out)).trans E1.out
    have g2 : Gw.heap[w.heap.size + 1 + 1]? = some (.cells #[.slice none 0 0, .slice none 0 0, .int .i64 0, .slice none 0 0, .slice none 0 0, .bool false] 105 (0, 0)) := by rw [hG, hset (by omega)]; exact (B4.out.block _ (ltOf E2.out)).trans E2.out
    have gg : Gw.heap[g]? = some (.cells (X.flatMap rgX ++ T).toArray 70 (0, 0)) := by rw [hG, hset (by omega)]; exact hT
    have bG : Below w.heap.size w Gw := by rw [hG]; exact belSet (bel BW.out B4.out) _ _ _ (Nat.le_refl _)
    rw [← hG]
    clear hG hT R1 B4 y0 yf0 x0 x1 x2 x3 x4 x5 xf0 R0 AX E0 E1 E2 BW
    have x0 := cOf g0 0; have x1 := cOf g0 1; have x2 := cOf g0 2; have x3 := cOf g0 3; have x4 := cOf g0 4; have x5 := cOf g0 5
    have v0 := cOf g1 0; have v1 := cOf g1 1; have v2 := cOf g1 2
    have z0 := cOf g2 0; have z1 := cOf g2 1; have z2 := cOf g2 2; have z3 := cOf g2 3; have z4 := cOf g2 4; have z5 := cOf g2 5
    have zf0 := tOf g2 0; have zf1 := tOf g2 1; have zf2 := tOf g2 2; have zf3 := tOf g2 3; have zf4 := tOf g2 4; have zf5 := tOf g2 5
    simp only [List.getElem?_toArray, List.getElem?_cons_zero, List.getElem?_cons_succ] at x0 x1 x2 x3 x4 x5 v0 v1 v2 z0 z1 z2 z3 z4 z5
    have rl := flat_len rgX 3 (fun _ => rfl) X
    have rc0 : ∃ u, Gw.cell? ⟨g, rd * 3, none⟩ = some u := ⟨_, by rw [cOf gg]; exact Array.getElem?_eq_getElem (by rw [List.size_toArray, List.length_append, rl, hXl]; omega)⟩
    have rc1 : ∃ u, Gw.cell? ⟨g, rd * 3 + 1, none⟩ = some u := ⟨_, by rw [cOf gg]; exact Array.getElem?_eq_getElem (by rw [List.size_toArray, List.length_append, rl, hXl]; omega)⟩
    have rc2 : ∃ u, Gw.cell? ⟨g, rd * 3 + 2, none⟩ = some u := ⟨_, by rw [cOf gg]; exact Array.getElem?_eq_getElem (by rw [List.size_toArray, List.length_append, rl, hXl]; omega)⟩
    obtain ⟨u0, r0⟩ := rc0
    obtain ⟨u1, r1⟩ := rc1
    obtain ⟨u2, r2⟩ := rc2
    have rf0 := tOf gg (rd * 3); have rf1 := tOf gg (rd * 3 + 1); have rf2 := tOf gg (rd * 3 + 2)
    have GG := Bx.mk gg; have BG := Bx.mk bG; have G0 := Bx.mk g0; have G1 := Bx.mk g1; have G2 := Bx.mk g2
    have hng0 : w.heap.size ≠ g := by omega
    have hng1 : w.heap.size + 1 ≠ g := by omega
    have hng2 : w.heap.size + 1 + 1 ≠ g := by omega
    clear g0 g1 g2 gg bG rl
    go_upto_region 5 with fail
    obtain ⟨K, hK⟩ : ∃ K, K = Gw.setCells g (rd * 3) (rgX (.slice sp sn sc, ⟨false, 0, f⟩)) := ⟨_, rfl⟩
    have bK : Below w.heap.size w K := by rw [hK]; exact belSets (by omega) _ _ _ BG.out
    have KG : K.heap[g]? = some (.cells ((X.set rd (.slice sp sn sc, ⟨false, 0, f⟩)).flatMap rgX ++ T).toArray 70 (0, 0)) := by rw [hK]; exact flat_setCells rgX 3 (fun _ => rfl) (.slice sp sn sc, ⟨false, 0, f⟩) (by omega) GG.out
    have k0 : K.heap[w.heap.size]? = some (.cells #[.slice (some ⟨g, 0, none⟩) 8 cap, .slice p1 n1 c1, .int .i64 last, .slice p2 n2 c2, .slice p3 n3 c3, .bool kn] 105 (0, 0)) := by rw [hK]; exact (heapSets' hng0 _ _ _).trans G0.out
    have k2 : K.heap[w.heap.size + 1 + 1]? = some (.cells #[.slice none 0 0, .slice none 0 0, .int .i64 0, .slice none 0 0, .slice none 0 0, .bool false] 105 (0, 0)) := by rw [hK]; exact (heapSets' hng2 _ _ _).trans G2.out
    have eK : ((Gw.setCell ⟨g, rd * 3, none⟩ (.bool false)).setCell ⟨g, rd * 3 + 1, none⟩ (.int .u64 0)).setCell ⟨g, rd * 3 + 2, none⟩ (.slice sp sn sc) = K := by rw [hK]; rfl
    rw [eK]
    have KGG := Bx.mk KG; have BK := Bx.mk bK
    clear x0 x1 x2 x3 x4 x5 v0 v1 v2 z0 z1 z2 z3 z4 z5 zf0 zf1 zf2 zf3 zf4 zf5 r0 r1 r2 rf0 rf1 rf2 hK eK KG bK GG BG G0 G1 G2
    have x0 := cOf k0 0; have x1 := cOf k0 1; have x2 := cOf k0 2; have x3 := cOf k0 3; have x4 := cOf k0 4; have x5 := cOf k0 5
    have z0 := cOf k2 0; have z1 := cOf k2 1; have z2 := cOf k2 2; have z3 := cOf k2 3; have z4 := cOf k2 4; have z5 := cOf k2 5
    have zf0 := tOf k2 0; have zf1 := tOf k2 1; have zf2 := tOf k2 2; have zf3 := tOf k2 3; have zf4 := tOf k2 4; have zf5 := tOf k2 5
    simp only [List.getElem?_toArray, List.getElem?_cons_zero, List.getElem?_cons_succ] at x0 x1 x2 x3 x4 x5 z0 z1 z2 z3 z4 z5
    have hk2 := ltOf k2
    clear k0 k2
    go_wp2_with fail
    refine bodyPost_ret (v := .agg #[.slice (some ⟨g, 0, none⟩) 8 cap, .slice p1 n1 c1, .int .i64 last, .slice p2 n2 c2, .slice p3 n3 c3, .bool kn]) (by simp [results, go_sem, z0, z1, z2, z3, z4, z5]) rfl ⟨_, _, rfl, ?_, ?_⟩
    · have bF := belSet (belSet (belSet (belSet (belSet (belSet BK.out (w.heap.size + 1 + 1) 0 (.slice (some ⟨g, 0, none⟩) 8 cap) (by omega)) (w.heap.size + 1 + 1) 1 (.slice p1 n1 c1) (by omega)) (w.heap.size + 1 + 1) 2 (.int .i64 last) (by omega)) (w.heap.size + 1 + 1) 3 (.slice p2 n2 c2) (by omega)) (w.heap.size + 1 + 1) 4 (.slice p3 n3 c3) (by omega)) (w.heap.size + 1 + 1) 5 (.bool kn) (by omega)
      have := reg_mk (G := G) (hGn g (by omega)) (b := b) (c := cap) (X := X) (T := T) (e := 70) rd (.slice sp sn sc) ⟨false, 0, f⟩ (by rw [hset hng2.symm, hset hng2.symm, hset hng2.symm, hset hng2.symm, hset hng2.symm, hset hng2.symm]; exact KGG.out) (fun y hy => (HX3.out y hy).below bF) (HS.out.below bF)
      rw [hXl, HX1.out] at this
      exact this
    · exact belSet (belSet (belSet (belSet (belSet (belSet BK.out _ _ _ (by omega)) _ _ _ (by omega)) _ _ _ (by omega)) _ _ _ (by omega)) _ _ _ (by omega)) _ _ _ (by omega)
  · go_enter Try.func48, Try.ntmps48
    go_upto_region 3 with fail
    obtain ⟨W, hW⟩ : ∃ W, W = ((w.alloc (.cells #[.slice rp 8 rc, .slice p1 n1 c1, .int .i64 last, .slice p2 n2 c2, .slice p3 n3 c3, .bool kn] 105)).alloc (.cells #[.bool true, .int .u64 (v : Int), .slice sp sn sc] 70)).alloc (.cells #[.slice none 0 0, .slice none 0 0, .int .i64 0, .slice none 0 0, .slice none 0 0, .bool false] 105) := ⟨_, rfl⟩
    have e0 : W.heap[w.heap.size]? = some (.cells #[.slice rp 8 rc, .slice p1 n1 c1, .int .i64 last, .slice p2 n2 c2, .slice p3 n3 c3, .bool kn] 105 (0, 0)) := by
      rw [hW]
      exact ((aset _ _).block _ (by first | (simp; done) | (simp; omega))).trans (((aset _ _).block _ (by first | (simp; done) | (simp; omega))).trans (heap_alloc_new _ _))
    have e1 : W.heap[w.heap.size + 1]? = some (.cells #[.bool true, .int .u64 (v : Int), .slice sp sn sc] 70 (0, 0)) := by
      have q := heap_alloc_new (w.alloc (.cells #[.slice rp 8 rc, .slice p1 n1 c1, .int .i64 last, .slice p2 n2 c2, .slice p3 n3 c3, .bool kn] 105)) (.cells #[.bool true, .int .u64 (v : Int), .slice sp sn sc] 70)
      have q2 := ((aset _ (.cells #[.slice none 0 0, .slice none 0 0, .int .i64 0, .slice none 0 0, .slice none 0 0, .bool false] 105)).block _ (ltOf q)).trans q
      have z : (w.alloc (.cells #[.slice rp 8 rc, .slice p1 n1 c1, .int .i64 last, .slice p2 n2 c2, .slice p3 n3 c3, .bool kn] 105)).heap.size = w.heap.size + 1 := by simp
      rw [z] at q2
      rw [hW]
      exact q2
    have e2 : W.heap[w.heap.size + 1 + 1]? = some (.cells #[.slice none 0 0, .slice none 0 0, .int .i64 0, .slice none 0 0, .slice none 0 0, .bool false] 105 (0, 0)) := by
      have q := heap_alloc_new ((w.alloc (.cells #[.slice rp 8 rc, .slice p1 n1 c1, .int .i64 last, .slice p2 n2 c2, .slice p3 n3 c3, .bool kn] 105)).alloc (.cells #[.bool true, .int .u64 (v : Int), .slice sp sn sc] 70)) (.cells #[.slice none 0 0, .slice none 0 0, .int .i64 0, .slice none 0 0, .slice none 0 0, .bool false] 105)
      have z : ((w.alloc (.cells #[.slice rp 8 rc, .slice p1 n1 c1, .int .i64 last, .slice p2 n2 c2, .slice p3 n3 c3, .bool kn] 105)).alloc (.cells #[.bool true, .int .u64 (v : Int), .slice sp sn sc] 70)).heap.size = w.heap.size + 1 + 1 := by simp
      rw [z] at q
      rw [hW]
      exact q
    have bW : Below w.heap.size w W := by
      rw [hW]
      exact bel (bel (aset _ _) (aset _ _)) (aset _ _)
    have sW : W.heap.size = w.heap.size + 1 + 1 + 1 := by rw [hW]; simp
    (try rw [← hW])
    clear hW
    have x0 := cOf e0 0; have x1 := cOf e0 1; have x2 := cOf e0 2; have x3 := cOf e0 3; have x4 := cOf e0 4; have x5 := cOf e0 5; have xf0 := tOf e0 0
    simp only [List.getElem?_toArray, List.getElem?_cons_zero, List.getElem?_cons_succ] at x0 x1 x2 x3 x4 x5
    have E0 := Bx.mk e0; have E1 := Bx.mk e1; have E2 := Bx.mk e2; have BW := Bx.mk bW
    have R0 : Bx ((W.alloc (.cells #[] 70)).ownsRow W.heap.size 70 3 (.slice (some ⟨w.heap.size + 1 + 1 + 1, 0, none⟩) 0 0) 0 []) := ⟨by rw [← sW]; exact newRow0 W W.heap.size 70 3 (Nat.le_refl _)⟩
    have AX := Bx.mk (HX2.out.below (bel bW (aset W (.cells #[] 70))))
    clear e0 e1 e2 bW
    go_upto_region 4 with (at_builtin; refine wpList_append_rows (w := W.alloc (.cells #[] 70)) W.heap.size (by simp) rfl (.tmp 11) (.tmp 13) 53 70 3 40 (.agg #[.bool false, .int .u64 0, .slice none 0 0]) (by rfl) Try.underlying53 info_rw rfl (by decide) (by decide) (w.heap.size + 1 + 1 + 1) 0 0 [] (by rfl) R0.out _ 8 (X.flatMap rgX) (by rfl) AX.out (rgX_one HX3.out) (by omega) ?_; intro g cap w4 r1 bl1 _; have R1 : Bx (w4.ownsRow W.heap.size 70 3 (.slice (some ⟨g, 0, none⟩) 8 cap) 8 (X.flatMap rgX)) := ⟨(by simpa using r1)⟩; have B4 := Bx.mk ((aset W (.cells #[] 70)).trans bl1); have y0 := cBel x0 B4.out; have yf0 := tOf ((B4.out.block _ (ltOf E0.out)).trans E0.out) 0; clear r1 bl1)
    obtain ⟨T, hT, hgB⟩ := rowHeapG R1.out
    obtain ⟨Gw, hG⟩ : ∃ Gw, Gw = w4.setCell ⟨w.heap.size, 0, none⟩ (.slice (some ⟨g, 0, none⟩) 8 cap) := ⟨_, rfl⟩
    have g0 : Gw.heap[w.heap.size]? = some (.cells #[.slice (some ⟨g, 0, none⟩) 8 cap, .slice p1 n1 c1, .int .i64 last, .slice p2 n2 c2, .slice p3 n3 c3, .bool kn] 105 (0, 0)) := by rw [hG, heapSet' ((B4.out.block _ (ltOf E0.out)).trans E0.out)]; rfl
    have g1 : Gw.heap[w.heap.size + 1]? = some (.cells #[.bool true, .int .u64 (v : Int), .slice sp sn sc] 70 (0, 0)) := by rw [hG, hset (by omega)]; exact (B4.out.block _ (ltOf E1.out)).trans E1.out
    have g2 : Gw.heap[w.heap.size + 1 + 1]? = some (.cells #[.slice none 0 0, .slice none 0 0, .int .i64 0, .slice none 0 0, .slice none 0 0, .bool false] 105 (0, 0)) := by rw [hG, hset (by omega)]; exact (B4.out.block _ (ltOf E2.out)).trans E2.out
    have gg : Gw.heap[g]? = some (.cells (X.flatMap rgX ++ T).toArray 70 (0, 0)) := by rw [hG, hset (by omega)]; exact hT
    have bG : Below w.heap.size w Gw := by rw [hG]; exact belSet (bel BW.out B4.out) _ _ _ (Nat.le_refl _)
    rw [← hG]
    clear hG hT R1 B4 y0 yf0 x0 x1 x2 x3 x4 x5 xf0 R0 AX E0 E1 E2 BW
    have x0 := cOf g0 0; have x1 := cOf g0 1; have x2 := cOf g0 2; have x3 := cOf g0 3; have x4 := cOf g0 4; have x5 := cOf g0 5
    have v0 := cOf g1 0; have v1 := cOf g1 1; have v2 := cOf g1 2
    have z0 := cOf g2 0; have z1 := cOf g2 1; have z2 := cOf g2 2; have z3 := cOf g2 3; have z4 := cOf g2 4; have z5 := cOf g2 5
    have zf0 := tOf g2 0; have zf1 := tOf g2 1; have zf2 := tOf g2 2; have zf3 := tOf g2 3; have zf4 := tOf g2 4; have zf5 := tOf g2 5
    simp only [List.getElem?_toArray, List.getElem?_cons_zero, List.getElem?_cons_succ] at x0 x1 x2 x3 x4 x5 v0 v1 v2 z0 z1 z2 z3 z4 z5
    have rl := flat_len rgX 3 (fun _ => rfl) X
    have rc0 : ∃ u, Gw.cell? ⟨g, rd * 3, none⟩ = some u := ⟨_, by rw [cOf gg]; exact Array.getElem?_eq_getElem (by rw [List.size_toArray, List.length_append, rl, hXl]; omega)⟩
    have rc1 : ∃ u, Gw.cell? ⟨g, rd * 3 + 1, none⟩ = some u := ⟨_, by rw [cOf gg]; exact Array.getElem?_eq_getElem (by rw [List.size_toArray, List.length_append, rl, hXl]; omega)⟩
    have rc2 : ∃ u, Gw.cell? ⟨g, rd * 3 + 2, none⟩ = some u := ⟨_, by rw [cOf gg]; exact Array.getElem?_eq_getElem (by rw [List.size_toArray, List.length_append, rl, hXl]; omega)⟩
    obtain ⟨u0, r0⟩ := rc0
    obtain ⟨u1, r1⟩ := rc1
    obtain ⟨u2, r2⟩ := rc2
    have rf0 := tOf gg (rd * 3); have rf1 := tOf gg (rd * 3 + 1); have rf2 := tOf gg (rd * 3 + 2)
    have GG := Bx.mk gg; have BG := Bx.mk bG; have G0 := Bx.mk g0; have G1 := Bx.mk g1; have G2 := Bx.mk g2
    have hng0 : w.heap.size ≠ g := by omega
    have hng1 : w.heap.size + 1 ≠ g := by omega
    have hng2 : w.heap.size + 1 + 1 ≠ g := by omega
    clear g0 g1 g2 gg bG rl
    go_upto_region 5 with fail
    obtain ⟨K, hK⟩ : ∃ K, K = Gw.setCells g (rd * 3) (rgX (.slice sp sn sc, ⟨true, v, f⟩)) := ⟨_, rfl⟩
    have bK : Below w.heap.size w K := by rw [hK]; exact belSets (by omega) _ _ _ BG.out
    have KG : K.heap[g]? = some (.cells ((X.set rd (.slice sp sn sc, ⟨true, v, f⟩)).flatMap rgX ++ T).toArray 70 (0, 0)) := by rw [hK]; exact flat_setCells rgX 3 (fun _ => rfl) (.slice sp sn sc, ⟨true, v, f⟩) (by omega) GG.out
    have k0 : K.heap[w.heap.size]? = some (.cells #[.slice (some ⟨g, 0, none⟩) 8 cap, .slice p1 n1 c1, .int .i64 last, .slice p2 n2 c2, .slice p3 n3 c3, .bool kn] 105 (0, 0)) := by rw [hK]; exact (heapSets' hng0 _ _ _).trans G0.out
    have k2 : K.heap[w.heap.size + 1 + 1]? = some (.cells #[.slice none 0 0, .slice none 0 0, .int .i64 0, .slice none 0 0, .slice none 0 0, .bool false] 105 (0, 0)) := by rw [hK]; exact (heapSets' hng2 _ _ _).trans G2.out
    have eK : ((Gw.setCell ⟨g, rd * 3, none⟩ (.bool true)).setCell ⟨g, rd * 3 + 1, none⟩ (.int .u64 (v : Int))).setCell ⟨g, rd * 3 + 2, none⟩ (.slice sp sn sc) = K := by rw [hK]; rfl
    rw [eK]
    have KGG := Bx.mk KG; have BK := Bx.mk bK
    clear x0 x1 x2 x3 x4 x5 v0 v1 v2 z0 z1 z2 z3 z4 z5 zf0 zf1 zf2 zf3 zf4 zf5 r0 r1 r2 rf0 rf1 rf2 hK eK KG bK GG BG G0 G1 G2
    have x0 := cOf k0 0; have x1 := cOf k0 1; have x2 := cOf k0 2; have x3 := cOf k0 3; have x4 := cOf k0 4; have x5 := cOf k0 5
    have z0 := cOf k2 0; have z1 := cOf k2 1; have z2 := cOf k2 2; have z3 := cOf k2 3; have z4 := cOf k2 4; have z5 := cOf k2 5
    have zf0 := tOf k2 0; have zf1 := tOf k2 1; have zf2 := tOf k2 2; have zf3 := tOf k2 3; have zf4 := tOf k2 4; have zf5 := tOf k2 5
    simp only [List.getElem?_toArray, List.getElem?_cons_zero, List.getElem?_cons_succ] at x0 x1 x2 x3 x4 x5 z0 z1 z2 z3 z4 z5
    have hk2 := ltOf k2
    clear k0 k2
    go_wp2_with fail
    refine bodyPost_ret (v := .agg #[.slice (some ⟨g, 0, none⟩) 8 cap, .slice p1 n1 c1, .int .i64 last, .slice p2 n2 c2, .slice p3 n3 c3, .bool kn]) (by simp [results, go_sem, z0, z1, z2, z3, z4, z5]) rfl ⟨_, _, rfl, ?_, ?_⟩
    · have bF := belSet (belSet (belSet (belSet (belSet (belSet BK.out (w.heap.size + 1 + 1) 0 (.slice (some ⟨g, 0, none⟩) 8 cap) (by omega)) (w.heap.size + 1 + 1) 1 (.slice p1 n1 c1) (by omega)) (w.heap.size + 1 + 1) 2 (.int .i64 last) (by omega)) (w.heap.size + 1 + 1) 3 (.slice p2 n2 c2) (by omega)) (w.heap.size + 1 + 1) 4 (.slice p3 n3 c3) (by omega)) (w.heap.size + 1 + 1) 5 (.bool kn) (by omega)
      have := reg_mk (G := G) (hGn g (by omega)) (b := b) (c := cap) (X := X) (T := T) (e := 70) rd (.slice sp sn sc) ⟨true, v, f⟩ (by rw [hset hng2.symm, hset hng2.symm, hset hng2.symm, hset hng2.symm, hset hng2.symm, hset hng2.symm]; exact KGG.out) (fun y hy => (HX3.out y hy).below bF) (HS.out.below bF)
      rw [hXl, HX1.out] at this
      exact this
    · exact belSet (belSet (belSet (belSet (belSet (belSet BK.out _ _ _ (by omega)) _ _ _ (by omega)) _ _ _ (by omega)) _ _ _ (by omega)) _ _ _ (by omega)) _ _ _ (by omega)
end Go.Proofs.Ytccjekgbhablpaa
namespace Go.Proofs.Ytccjekgbhablpaa
set_option maxRecDepth 100000
open Go.RowKit

def inL (op : Int) : List Int → Bool
  | [] => false
  | x :: r => if x = op then true else inL op r
set_option maxHeartbeats 1600000 in
theorem in_any (op : Int) (l : List Int) (b : Nat) (hl : l.length ≤ 10) (w : World) (hc : ∀ i x, l[i]? = some x → w.cell? ⟨b, i, none⟩ = some (.int .i64 x)) :
    Calls Try.prog 87 #[.int .i64 op, .slice (some ⟨b, 0, none⟩) l.length l.length] w fun e w' => e = .returned (.bool (inL op l)) ∧ Below w.heap.size w w' := by
  have HC := Bx.mk hc
  clear hc
  go_enter Try.func87, Try.ntmps87
  go_wp2_with fail
  go_loopw [9] (fun q wr => ∃ j : Nat, q = .int .i64 (j : Int) ∧ j ≤ l.length ∧ Bx (inL op l = inL op (l.drop j)) ∧ Bx (wr = w)) (fun q _ => l.length - (intOf q).toNat)
  case atStart => exact ⟨0, rfl, by omega, ⟨rfl⟩, ⟨rfl⟩⟩
  case round =>
    obtain ⟨j, rfl, hj, hd, hw⟩ := hrel
    obtain rfl := hw.out
    by_cases hlt : j < l.length
    · obtain ⟨x, hx⟩ : ∃ x, l[j]? = some x := ⟨_, List.getElem?_eq_getElem hlt⟩
      have q0 := HC.out j x hx
      have e := hd.out
      rw [atDropR hx, inL] at e
      by_cases hxo : x = op
      · rw [if_pos hxo] at e
        have hq : ((x : Int) == op) = true := by rw [beq_iff_eq]; exact hxo
        have E := Bx.mk e
        clear e hd hxo hx
        go_wp2_with fail
        go_ret
        exact ⟨by rw [E.out]; rfl, Below.refl _ _⟩
      · rw [if_neg hxo] at e
        have hq : ((x : Int) == op) = false := by rw [beq_eq_false_iff_ne]; exact hxo
        have E := Bx.mk e
        clear e hd hxo hx
        go_wp2_with fail
        go_roundw
        case rel => exact ⟨j + 1, by go_num, by omega, E, ⟨by first | rfl | trivial⟩⟩
        case measure => simp [intOf] <;> omega
    · obtain rfl : j = l.length := by omega
      have e := hd.out
      rw [List.drop_length] at e
      have E := Bx.mk e
      clear e hd
      go_wp2_with fail
      go_ret
      exact ⟨by rw [E.out]; rfl, Below.refl _ _⟩
theorem in_wr (op : Int) : inL op [10, 11, 12, 14] = kwr op := by
  unfold inL inL inL inL inL kwr
  by_cases h1 : op = 10
  · subst h1; rfl
  by_cases h2 : op = 11
  · subst h2; rfl
  by_cases h3 : op = 12
  · subst h3; rfl
  by_cases h4 : op = 14
  · subst h4; rfl
  rw [if_neg (fun e => h1 e.symm), if_neg (fun e => h2 e.symm), if_neg (fun e => h3 e.symm), if_neg (fun e => h4 e.symm)]
  simp [h1, h2, h3, h4]
theorem in_rd (op : Int) : inL op [9, 11, 12, 13] = krd op := by
  unfold inL inL inL inL inL krd
  by_cases h1 : op = 9
  · subst h1; rfl
  by_cases h2 : op = 11
  · subst h2; rfl
  by_cases h3 : op = 12
  · subst h3; rfl
  by_cases h4 : op = 13
  · subst h4; rfl
  rw [if_neg (fun e => h1 e.symm), if_neg (fun e => h2 e.symm), if_neg (fun e => h3 e.symm), if_neg (fun e => h4 e.symm)]
  simp [h1, h2, h3, h4]
theorem in_cells {W : World} {b : Nat} {a c d e : Int} {T : TypeId} (h : W.heap[b]? = some (.cells #[.int .i64 a, .int .i64 c, .int .i64 d, .int .i64 e] T (0, 0))) : ∀ i x, ([a, c, d, e] : List Int)[i]? = some x → W.cell? ⟨b, i, none⟩ = some (.int .i64 x) := by
  intro i x hx
  rw [cOf h]
  match i, hx with
  | 0, hx => simp at hx; subst hx; rfl
  | 1, hx => simp at hx; subst hx; rfl
  | 2, hx => simp at hx; subst hx; rfl
  | 3, hx => simp at hx; subst hx; rfl
  | i + 4, hx => simp at hx
theorem refWrites_any (op : Int) (w : World) :
    Calls Try.prog 77 #[.int .i64 op] w fun e w' => e = .returned (.bool (kwr op)) ∧ Below w.heap.size w w' := by
  have c : Bx (∀ (b : Nat) (W : World), W.heap[b]? = some (.cells #[.int .i64 10, .int .i64 11, .int .i64 12, .int .i64 14] 3 (0, 0)) → Calls Try.prog 87 #[.int .i64 op, .slice (some ⟨b, 0, none⟩) 4 4] W fun e w' => e = .returned (.bool (kwr op)) ∧ Below W.heap.size W w') := ⟨fun b W h => by
    have := in_any op [10, 11, 12, 14] b (by decide) W (in_cells h)
    rw [in_wr] at this; exact this⟩
  go_enter Try.func77, Try.ntmps77
  go_wp2_with (go_at_call 87; ((with_reducible refine (c.out _ _ (heap_alloc_new _ _)).mono ?_); rintro e w2 ⟨rfl, b2⟩; have B2 := Bx.mk (bel (aset _ _) b2); clear b2))
  go_ret
  exact ⟨rfl, B2.out⟩
theorem refReads_any (op : Int) (w : World) :
    Calls Try.prog 78 #[.int .i64 op] w fun e w' => e = .returned (.bool (krd op)) ∧ Below w.heap.size w w' := by
  have c : Bx (∀ (b : Nat) (W : World), W.heap[b]? = some (.cells #[.int .i64 9, .int .i64 11, .int .i64 12, .int .i64 13] 3 (0, 0)) → Calls Try.prog 87 #[.int .i64 op, .slice (some ⟨b, 0, none⟩) 4 4] W fun e w' => e = .returned (.bool (krd op)) ∧ Below W.heap.size W w') := ⟨fun b W h => by
    have := in_any op [9, 11, 12, 13] b (by decide) W (in_cells h)
    rw [in_rd] at this; exact this⟩
  go_enter Try.func78, Try.ntmps78
  go_wp2_with (go_at_call 87; ((with_reducible refine (c.out _ _ (heap_alloc_new _ _)).mono ?_); rintro e w2 ⟨rfl, b2⟩; have B2 := Bx.mk (bel (aset _ _) b2); clear b2))
  go_ret
  exact ⟨rfl, B2.out⟩
theorem isMem_eq (op : Int) : isMem op = decide (9 ≤ op ∧ op ≤ 14) := by
  unfold isMem krd kwr
  by_cases h : 9 ≤ op ∧ op ≤ 14
  · rw [decide_eq_true h]
    have : op = 9 ∨ op = 10 ∨ op = 11 ∨ op = 12 ∨ op = 13 ∨ op = 14 := by omega
    rcases this with rfl | rfl | rfl | rfl | rfl | rfl <;> rfl
  · rw [decide_eq_false h]
    simp
    omega
theorem refMemory_any (op : Int) (w : World) :
    Calls Try.prog 22 #[.int .i64 op] w fun e w' => e = .returned (.bool (isMem op)) ∧ w = w' := by
  rw [isMem_eq]
  by_cases h1 : 9 ≤ op
  · by_cases h2 : op ≤ 14
    · rw [decide_eq_true ⟨h1, h2⟩]
      go_enter Try.func22, Try.ntmps22
      go_wp2
      go_ret
      exact ⟨rfl, rfl⟩
    · rw [decide_eq_false (by omega)]
      go_enter Try.func22, Try.ntmps22
      go_wp2
      go_ret
      exact ⟨rfl, rfl⟩
  · rw [decide_eq_false (by omega)]
    go_enter Try.func22, Try.ntmps22
    go_wp2
    go_ret
    exact ⟨rfl, rfl⟩

/-- a fact of the reference -/
structure Fx where
  st : Nat
  pr : Nat
  wk : Bool
  wv : Nat
  pl : Nat
  va : Nat
  pa : Nat
def fxC (y : Value × Value × Value × Fx) : List Value := [.int .i64 (y.2.2.2.st : Int), .int .i64 (y.2.2.2.pr : Int), .bool y.2.2.2.wk, .int .u64 (y.2.2.2.wv : Int), .slice none 0 0, y.1, y.2.1, y.2.2.1]
structure FxM (W : World) (G : Nat → Prop) (b : Nat) (y : Value × Value × Value × Fx) : Prop where
  pl : MaskIn W G b y.1 y.2.2.2.pl
  va : MaskIn W G b y.2.1 y.2.2.2.va
  pa : MaskIn W G b y.2.2.1 y.2.2.2.pa
theorem FxM.keep {W W' : World} {G : Nat → Prop} {b : Nat} {y : Value × Value × Value × Fx} (h : FxM W G b y) (hk : ∀ k, G k → k < W.heap.size → W'.heap[k]? = W.heap[k]?) : FxM W' G b y := ⟨h.pl.keep hk, h.va.keep hk, h.pa.keep hk⟩
theorem FxM.imp {W : World} {G G' : Nat → Prop} {b : Nat} {y : Value × Value × Value × Fx} (h : FxM W G b y) (hg : ∀ k, G k → k < W.heap.size → G' k) : FxM W G' b y := ⟨h.pl.imp hg, h.va.imp hg, h.pa.imp hg⟩
theorem FxM.mono {W : World} {G : Nat → Prop} {b b' : Nat} {y : Value × Value × Value × Fx} (h : FxM W G b y) (hb : b ≤ b') : FxM W G b' y := ⟨h.pl.mono hb, h.va.mono hb, h.pa.mono hb⟩
structure FactM (W : World) (G : Nat → Prop) (b : Nat) (v : Value) (L : List Fx) : Prop where
  ex : ∃ Y : List (Value × Value × Value × Fx), Y.map (·.2.2.2) = L ∧ SlIn W v 8 Y.length (Y.flatMap fxC) ∧ ∀ y ∈ Y, FxM W G b y
  gd : ∀ k, 0 < L.length → v.ownBlock = some k → G k
theorem FactM.keep {W W' : World} {G : Nat → Prop} {b : Nat} {v : Value} {L : List Fx} (h : FactM W G b v L) (hk : ∀ k, G k → k < W.heap.size → W'.heap[k]? = W.heap[k]?) : FactM W' G b v L := by
  obtain ⟨X, h1, h2, h3⟩ := h.ex
  have hl : X.length = L.length := by rw [← h1]; simp
  exact ⟨⟨X, h1, h2.keep (by decide) (fun k hn hv => hk k (h.gd k (by omega) hv)), fun x hx => (h3 x hx).keep hk⟩, h.gd⟩
theorem FactM.imp {W : World} {G G' : Nat → Prop} {b : Nat} {v : Value} {L : List Fx} (h : FactM W G b v L) (hg : ∀ k, G k → k < W.heap.size → G' k) : FactM W G' b v L := by
  obtain ⟨X, h1, h2, h3⟩ := h.ex
  have hl : X.length = L.length := by rw [← h1]; simp
  exact ⟨⟨X, h1, h2, fun x hx => (h3 x hx).imp hg⟩, fun k hn hv => hg k (h.gd k hn hv) (h2.lt (by omega) k hv)⟩
theorem FactM.below {W W' : World} {G : Nat → Prop} {b : Nat} {v : Value} {L : List Fx} (h : FactM W G b v L) (hb : Below W.heap.size W W') : FactM W' G b v L := h.keep fun k _ hl => hb.block k hl
theorem FactM.mono {W : World} {G : Nat → Prop} {b b' : Nat} {v : Value} {L : List Fx} (h : FactM W G b v L) (hb : b ≤ b') : FactM W G b' v L := by
  obtain ⟨X, h1, h2, h3⟩ := h.ex
  exact ⟨⟨X, h1, h2, fun x hx => (h3 x hx).mono hb⟩, h.gd⟩
theorem FactM.slice {W : World} {G : Nat → Prop} {b : Nat} {v : Value} {L : List Fx} (h : FactM W G b v L) : ∃ p c, v = .slice p L.length c := by
  obtain ⟨X, h1, h2, _⟩ := h.ex
  obtain ⟨p, c, e⟩ := h2.slice
  exact ⟨p, c, by rw [e, ← h1]; simp⟩
theorem fxC_one {W : World} {G : Nat → Prop} {b : Nat} {X : List (Value × Value × Value × Fx)} (h : ∀ x ∈ X, FxM W G b x) : ∀ u ∈ X.flatMap fxC, u.oneCell' = true := by
  intro u hu
  obtain ⟨x, hx, hu⟩ := List.mem_flatMap.1 hu
  obtain ⟨p1, n1, c1, e1⟩ := (h x hx).pl.slice
  obtain ⟨p2, n2, c2, e2⟩ := (h x hx).va.slice
  obtain ⟨p3, n3, c3, e3⟩ := (h x hx).pa.slice
  simp only [fxC, List.mem_cons, List.not_mem_nil, or_false] at hu
  rcases hu with rfl | rfl | rfl | rfl | rfl | rfl | rfl | rfl
  · rfl
  · rfl
  · rfl
  · rfl
  · rfl
  · rw [e1]; rfl
  · rw [e2]; rfl
  · rw [e3]; rfl
theorem info_fx : (Try.prog.info? 72).map (fun i => (i.zero, i.size, i.bytes)) = some (some (.agg #[.int .i64 0, .int .i64 0, .bool false, .int .u64 0, .slice none 0 0, .slice none 0 0, .slice none 0 0, .slice none 0 0]), 8, 128) := by kernel_rfl
theorem fact_mk {W : World} {G : Nat → Prop} {b g c : Nat} (hg : G g) {X : List (Value × Value × Value × Fx)} {T : List Value} {e : TypeId} (k : Nat) (y : Value × Value × Value × Fx) (hh : W.heap[g]? = some (.cells ((X.set k y).flatMap fxC ++ T).toArray e (0, 0))) (hX : ∀ y ∈ X, FxM W G b y) (hs : FxM W G b y) :
    FactM W G b (.slice (some ⟨g, 0, none⟩) X.length c) ((X.map (·.2.2.2)).set k y.2.2.2) := by
  refine ⟨⟨X.set k y, by rw [List.map_set], ?_, fun z hz => ?_⟩, fun k _ hk => by
    have : g = k := by simpa [Value.ownBlock] using hk
    rw [← this]; exact hg⟩
  · rw [List.length_set]
    exact slHeapR hh (by rw [flat_len fxC 8 (fun _ => rfl), List.length_set]) c
  · rcases List.mem_or_eq_of_mem_set hz with h | rfl
    · exact hX z h
    · exact hs
end Go.Proofs.Ytccjekgbhablpaa
namespace Go.Proofs.Ytccjekgbhablpaa
set_option maxRecDepth 100000
open Go.RowKit

/-- the reference's thread under way -/
structure RefSt where
  regs : List Cn
  path : Nat
  last : Nat
  left : Nat
  facts : List Fx
  known : Bool
def wkOf (L : List Cn) : WkM := ⟨L, 0, 0, 0, [], [], [], [], [], [], []⟩
def argL (L : List Cn) (r : Bool) (n : Nat) : Cn := argM (wkOf L) r n
def opX (o : Nat × Nat × Ins) : List Value := .int .i64 (o.1 : Int) :: .int .i64 (o.2.1 : Int) :: insC o.2.2
theorem opX_len (o : Nat × Nat × Ins) : (opX o).length = 15 := rfl
/-- is the last one a Lr of this location? -/
def lastIs (os : List (Nat × Nat × Ins)) (last : Nat) (loc : Int) : Bool := decide (0 < last) && (match os[last - 1]? with
  | some o => decide (o.2.2.op = 13) && decide (o.2.2.loc = loc)
  | none => false)
def mF0 (s : RefSt) : Fx := ⟨1, 0, false, 0, 0, 0, s.path⟩
def mF1 (s : RefSt) (x : Ins) : Fx := if 0 < x.dep then { mF0 s with pl := (cnAt s.regs (x.dep.toNat - 1)).f } else mF0 s
def mA (s : RefSt) (x : Ins) : Cn := argL s.regs x.ar x.an.toNat
def mF2 (s : RefSt) (x : Ins) : Fx := if kwr x.op then { mF1 s x with wk := (mA s x).k, wv := (mA s x).v, va := (mA s x).f } else mF1 s x
def mF3 (s : RefSt) (x : Ins) (rk : Bool) (rv : Nat) : Fx := if x.op = 12 then { mF2 s x with wk := (mA s x).k && rk, wv := addM (mA s x).v rv } else mF2 s x
def mF4 (s : RefSt) (x : Ins) (rk : Bool) (rv : Nat) : Fx := if (mF3 s x rk rv).wk then mF3 s x rk rv else { mF3 s x rk rv with wv := 0 }
def mS1 (s : RefSt) (x : Ins) (rk : Bool) (rv k : Nat) : RefSt := if krd x.op then { s with regs := s.regs.set x.rd.toNat ⟨rk, if rk then rv else 0, bit1 k⟩ } else s
def mF5 (os : List (Nat × Nat × Ins)) (s : RefSt) (x : Ins) (rk : Bool) (rv : Nat) (works : Bool) : Fx :=
  if x.op = 14 then
    let p := if lastIs os s.last x.loc then s.last else (mF4 s x rk rv).pr
    if works then { mF4 s x rk rv with pr := p } else ⟨2, p, false, 0, 0, 0, 0⟩
  else mF4 s x rk rv
def mS2 (s : RefSt) (x : Ins) (rk : Bool) (rv k : Nat) (works : Bool) : RefSt :=
  if x.op = 14 then { mS1 s x rk rv k with regs := (mS1 s x rk rv k).regs.set x.rd.toNat (if works then ⟨true, 0, bit1 k⟩ else ⟨true, 1, 0⟩) } else mS1 s x rk rv k
def mS3 (s : RefSt) (x : Ins) (rk : Bool) (rv k : Nat) (works : Bool) : RefSt := if x.op = 13 ∨ x.op = 14 then { mS2 s x rk rv k works with last := k + 1 } else mS2 s x rk rv k works
/-- Op k runs -/
def memR (os : List (Nat × Nat × Ins)) (s : RefSt) (x : Ins) (k : Nat) (rk : Bool) (rv : Nat) (works : Bool) : RefSt := { mS3 s x rk rv k works with facts := s.facts.set k (mF5 os s x rk rv works) }
/-- in the middle of it: what lies in the variables -/
structure MemH (w W : World) (G : Nat → Prop) (b fb : Nat) (x : Ins) (rk : Bool) (rv : Nat) (s : RefSt) (f : Fx) (R P L F pl va pa : Value) : Prop where
  b0 : W.heap[w.heap.size]? = some (.cells #[R, P, .int .i64 (s.last : Int), L, F, .bool s.known] 105 (0, 0))
  b1 : W.heap[w.heap.size + 1]? = some (.cells #[.bool rk, .int .u64 (rv : Int), .slice none 0 0] 70 (0, 0))
  b2 : W.heap[w.heap.size + 1 + 1]? = some (.cells #[.slice none 0 0, .slice none 0 0, .int .i64 0, .slice none 0 0, .slice none 0 0, .bool false] 105 (0, 0))
  b3 : W.heap[w.heap.size + 1 + 1 + 1]? = some (.cells (insC x).toArray 50 (0, 0))
  b4 : W.heap[w.heap.size + 1 + 1 + 1 + 1]? = some (.cells #[.int .i64 (f.st : Int), .int .i64 (f.pr : Int), .bool f.wk, .int .u64 (f.wv : Int), .slice none 0 0, pl, va, pa] 72 (0, 0))
  regs : RegM W G b R s.regs
  path : MaskIn W G b P s.path
  left : MaskIn W G b L s.left
  facts : FactM W G fb F s.facts
  fx : FxM W G fb (pl, va, pa, f)
  bel : Below w.heap.size w W
/-- blocks that are no variables of it -/
def Far (n : Nat) (G : Nat → Prop) (k : Nat) : Prop := G k ∧ (k < n ∨ n + 1 + 1 + 1 + 1 < k)
/-- behind a call -/
theorem MemH.below {w W W' : World} {G : Nat → Prop} {b fb : Nat} {x : Ins} {rk : Bool} {rv : Nat} {s : RefSt} {f : Fx} {R P L F pl va pa : Value} (h : MemH w W G b fb x rk rv s f R P L F pl va pa) (hb : Below W.heap.size W W') : MemH w W' G b fb x rk rv s f R P L F pl va pa :=
  ⟨(hb.block _ (ltOf h.b0)).trans h.b0, (hb.block _ (ltOf h.b1)).trans h.b1, (hb.block _ (ltOf h.b2)).trans h.b2, (hb.block _ (ltOf h.b3)).trans h.b3, (hb.block _ (ltOf h.b4)).trans h.b4, h.regs.below hb, h.path.below hb, h.left.below hb, h.facts.below hb, h.fx.keep (fun k _ hl => hb.block k hl), _root_.Go.Proofs.Ytccjekgbhablpaa.bel h.bel hb⟩
/-- behind a store into the fact -/
theorem MemH.setF {w W W' : World} {G : Nat → Prop} {b fb : Nat} {x : Ins} {rk : Bool} {rv : Nat} {s : RefSt} {f f' : Fx} {R P L F pl va pa pl' va' pa' : Value} (h : MemH w W (Far w.heap.size G) b fb x rk rv s f R P L F pl va pa)
    (hk : ∀ k, k ≠ w.heap.size + 1 + 1 + 1 + 1 → W'.heap[k]? = W.heap[k]?) (h4 : W'.heap[w.heap.size + 1 + 1 + 1 + 1]? = some (.cells #[.int .i64 (f'.st : Int), .int .i64 (f'.pr : Int), .bool f'.wk, .int .u64 (f'.wv : Int), .slice none 0 0, pl', va', pa'] 72 (0, 0)))
    (hm : FxM W (Far w.heap.size G) fb (pl', va', pa', f')) (hb : Below w.heap.size w W') : MemH w W' (Far w.heap.size G) b fb x rk rv s f' R P L F pl' va' pa' := by
  have kk : ∀ k, Far w.heap.size G k → k < W.heap.size → W'.heap[k]? = W.heap[k]? := fun k hf _ => hk k (by unfold Far at hf; omega)
  exact ⟨(hk _ (by omega)).trans h.b0, (hk _ (by omega)).trans h.b1, (hk _ (by omega)).trans h.b2, (hk _ (by omega)).trans h.b3, h4, h.regs.keep kk, h.path.keep kk, h.left.keep kk, h.facts.keep kk, hm.keep kk, hb⟩
/-- behind a store into the walk -/
theorem MemH.setW {w W W' : World} {G : Nat → Prop} {b fb : Nat} {x : Ins} {rk : Bool} {rv : Nat} {s s' : RefSt} {f : Fx} {R P L F pl va pa R' F' : Value} (h : MemH w W (Far w.heap.size G) b fb x rk rv s f R P L F pl va pa)
    (hk : ∀ k, k ≠ w.heap.size → W'.heap[k]? = W.heap[k]?) (h0 : W'.heap[w.heap.size]? = some (.cells #[R', P, .int .i64 (s'.last : Int), L, F', .bool s'.known] 105 (0, 0)))
    (hr : RegM W (Far w.heap.size G) b R' s'.regs) (hF : FactM W (Far w.heap.size G) fb F' s'.facts) (e : s'.path = s.path ∧ s'.left = s.left) (hb : Below w.heap.size w W') : MemH w W' (Far w.heap.size G) b fb x rk rv s' f R' P L F' pl va pa := by
  have kk : ∀ k, Far w.heap.size G k → k < W.heap.size → W'.heap[k]? = W.heap[k]? := fun k hf _ => hk k (by unfold Far at hf; omega)
  exact ⟨h0, (hk _ (by omega)).trans h.b1, (hk _ (by omega)).trans h.b2, (hk _ (by omega)).trans h.b3, (hk _ (by omega)).trans h.b4, hr.keep kk, by rw [e.1]; exact h.path.keep kk, by rw [e.2]; exact h.left.keep kk, hF.keep kk, h.fx.keep kk, hb⟩
/-- the value of A -/
structure ValA (n : Nat) (W : World) (G : Nat → Prop) (b ab : Nat) (a : Cn) (av : Value) : Prop where
  hp : W.heap[ab]? = some (.cells #[.bool a.k, .int .u64 (a.v : Int), av] 70 (0, 0))
  ge : n + 1 + 1 + 1 + 1 < ab
  m : MaskIn W G b av a.f
theorem ValA.below {n : Nat} {W W' : World} {G : Nat → Prop} {b ab : Nat} {a : Cn} {av : Value} (h : ValA n W G b ab a av) (hb : Below W.heap.size W W') : ValA n W' G b ab a av := ⟨(hb.block _ (ltOf h.hp)).trans h.hp, h.ge, h.m.below hb⟩
theorem ValA.keep {n : Nat} {W W' : World} {G : Nat → Prop} {b ab : Nat} {a : Cn} {av : Value} (h : ValA n W (Far n G) b ab a av) (hk : ∀ k, (k < n ∨ n + 1 + 1 + 1 + 1 < k) → W'.heap[k]? = W.heap[k]?) : ValA n W' (Far n G) b ab a av :=
  ⟨(hk _ (.inr h.ge)).trans h.hp, h.ge, h.m.keep fun k hf _ => hk k hf.2⟩
theorem rngOpX {w : World} {ob oo : Nat} {os : List (Nat × Nat × Ins)} {k : Nat} {o : Nat × Nat × Ins} (hc : ∀ i u, (os.flatMap opX)[i]? = some u → w.cell? ⟨ob, oo + i, none⟩ = some u) (ho : os[k]? = some o) : w.rangeAt ob (oo + k * 15 + 2) (insC o.2.2) := fun j v hv => by
  have hj : j < 13 := (List.getElem?_eq_some_iff.1 hv).1
  have := flatAt opX 15 opX_len os k (2 + j) o ho (by omega)
  rw [show oo + k * 15 + 2 + j = oo + (k * 15 + (2 + j)) by omega]
  refine hc _ _ (this.trans ?_)
  unfold opX
  rw [show 2 + j = j + 1 + 1 by omega, List.getElem?_cons_succ, List.getElem?_cons_succ]
  exact hv
end Go.Proofs.Ytccjekgbhablpaa
