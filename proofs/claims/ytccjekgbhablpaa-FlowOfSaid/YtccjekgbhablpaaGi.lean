/- ReM, ReN, in one text. -/
import Derived.Test.YtccjekgbhablpaaGh
import Derived.Test.YtccjekgbhablpaaFloP
import Derived.Test.YtccjekgbhablpaaReL
import Derived.Test.YtccjekgbhablpaaReFa
namespace Go.Proofs.Ytccjekgbhablpaa
set_option maxRecDepth 100000
open Go.RowKit

theorem made_fx (n : Nat) : madeCells (Value.agg #[.int .i64 0, .int .i64 0, .bool false, .int .u64 0, .slice none 0 0, .slice none 0 0, .slice none 0 0, .slice none 0 0]).cells (n * 8) = ((List.replicate n ((.slice none 0 0, .slice none 0 0, .slice none 0 0, fx0) : Value × Value × Value × Fx)).flatMap fxC).toArray := by
  apply Array.ext_getElem?
  intro j
  have hlen : ((List.replicate n ((.slice none 0 0, .slice none 0 0, .slice none 0 0, fx0) : Value × Value × Value × Fx)).flatMap fxC).length = n * 8 := by
    rw [flat_len fxC 8 (fun _ => rfl)]; simp
  by_cases hj : j < n * 8
  · have h1 := flatAt fxC 8 (fun _ => rfl) (List.replicate n ((.slice none 0 0, .slice none 0 0, .slice none 0 0, fx0) : Value × Value × Value × Fx)) (j / 8) (j % 8) (.slice none 0 0, .slice none 0 0, .slice none 0 0, fx0) (by rw [List.getElem?_replicate, if_pos (by omega)]) (Nat.mod_lt _ (by decide))
    rw [show j / 8 * 8 + j % 8 = j by omega] at h1
    have h3 : ((List.replicate n ((.slice none 0 0, .slice none 0 0, .slice none 0 0, fx0) : Value × Value × Value × Fx)).flatMap fxC).toArray[j]? = ((List.replicate n ((.slice none 0 0, .slice none 0 0, .slice none 0 0, fx0) : Value × Value × Value × Fx)).flatMap fxC)[j]? := by simp
    rw [h3, h1]
    have h2 : j % 8 = 0 ∨ j % 8 = 1 ∨ j % 8 = 2 ∨ j % 8 = 3 ∨ j % 8 = 4 ∨ j % 8 = 5 ∨ j % 8 = 6 ∨ j % 8 = 7 := by omega
    rcases h2 with h2 | h2 | h2 | h2 | h2 | h2 | h2 | h2 <;> simp [madeCells, hj, Value.cells, h2, fxC, fx0]
  · rw [Array.getElem?_eq_none (by simp [madeCells]; omega), Array.getElem?_eq_none (by simp [hlen]; omega)]
theorem info_vs : (Try.prog.info? 53).map (fun i => (i.zero, i.size, i.bytes)) = some (some (.slice none 0 0), 1, 24) := by kernel_rfl
theorem info_is : (Try.prog.info? 64).map (fun i => (i.zero, i.size, i.bytes)) = some (some (.slice none 0 0), 1, 24) := by kernel_rfl
/-- something goes behind a row of one's own, be it none yet -/
theorem wpList_append_own {ops : Array Oper} {rest : List Oper} {o : Oper} {a : Act} {Q : Exit → Act → World → Prop} {w : World} (B : Nat) (hB : B ≤ w.heap.size) (hg : o.guard = none) (s x : Operand) (t e : TypeId) (z by' : Nat) (zv : Value)
    (hop : o.op = Op.call { callee := Callee.builtin Builtin.append, args := #[s, x], argTypes := #[t, t] }) (ht : Try.prog.underlying t = some (.slice e)) (hi : (Try.prog.info? e).map (fun i => (i.zero, i.size, i.bytes)) = some (some zv, z, by')) (hz : zv.cells.size = z) (hz0 : 0 < z) (hby : by' ≤ 1000)
    (v0 : Value) (n : Nat) (xs : List Value) (hs : a.eval s = v0) (hrow : w.ownsRow B e z v0 n xs)
    (v : Value) (m : Nat) (hm : 0 < m) (ys : List Value) (hx : a.eval x = v) (hv : SlIn w v z m ys) (h1 : ∀ u ∈ ys, u.oneCell' = true) (hnm : n + m ≤ 1000000)
    (h : ∀ g' cap' w', w'.ownsRow B e z (.slice (some ⟨g', 0, none⟩) (n + m) cap') (n + m) (xs ++ ys) → Below B w w' → (∀ q, q < w.heap.size → v0.ownBlock ≠ some q → w'.heap[q]? = w.heap[q]?) → (v0.ownBlock = some g' ∨ g' = w.heap.size) → wpList Try.prog ops Q rest (a.put o.dst (.slice (some ⟨g', 0, none⟩) (n + m) cap')) w') :
    wpList Try.prog ops Q (o :: rest) a w := by
  obtain ⟨i0, hi1, hz1, hz2, hz3⟩ := info_parts hi
  obtain ⟨b, off, c, rfl, hbl, hcl⟩ := hv.at hm
  have hbytes : (n + m) * by' ≤ 1000000 * 1000 := Nat.mul_le_mul hnm hby
  refine wpList_append_lies (w := w) hg s x t hop B e i0 zv z by' ht hi1 hz1 hz2 hz3 hz hz0 v0 n xs hs hrow ⟨b, off, none⟩ m c ys hx hv.1 (fun j u hu => ?_) h1 (by omega) (by unfold maxLen; omega) (by omega) hB w.heap.size rfl (fun g' cap' w' r1 r2 r3 r4 => ?_)
  · rw [Addr.add_mid]; exact hcl j u hu
  · exact h g' cap' w' r1 (Below.grown ⟨rfl, rfl, rfl, Nat.le_refl _, fun _ _ => rfl⟩ r2 hB (fun k hk => (rowLt hrow k hk).1)) (fun q hq hn => r2.block q hq (fun e => hn e.symm)) r3
/-- blocks that are no variables and no rows of Of -/
def GD (fb rb : Nat) (RR LL : Value) (q : Nat) : Prop := q ≠ fb ∧ q ≠ rb ∧ RR.ownBlock ≠ some q ∧ LL.ownBlock ≠ some q
structure RwR (W : World) (fb rb : Nat) (RR LL F : Value) (XR : List (Value × List Cn)) (XL : List (Value × Nat)) (fs : List Fx) : Prop where
  rr : W.ownsRow (fb + 1) 53 1 RR XR.length (XR.map (·.1))
  ll : W.ownsRow (fb + 1) 64 1 LL XL.length (XL.map (·.1))
  ne : ∀ q, RR.ownBlock = some q → LL.ownBlock ≠ some q
  ra : ∀ y ∈ XR, RegM W (GD fb rb RR LL) 6561 y.1 y.2
  la : ∀ y ∈ XL, MaskIn W (GD fb rb RR LL) 6561 y.1 y.2
  fa : FactM W (GD fb rb RR LL) 10000 F fs
theorem RwR.keep {W W' : World} {fb rb : Nat} {RR LL F : Value} {XR : List (Value × List Cn)} {XL : List (Value × Nat)} {fs : List Fx} (h : RwR W fb rb RR LL F XR XL fs) (hk : ∀ q, q ≠ fb → q < W.heap.size → W'.heap[q]? = W.heap[q]?) : RwR W' fb rb RR LL F XR XL fs :=
  ⟨rowKeep h.rr fun k e => hk k (by have := (rowLt h.rr k e).1; omega) (rowLt h.rr k e).2, rowKeep h.ll fun k e => hk k (by have := (rowLt h.ll k e).1; omega) (rowLt h.ll k e).2, h.ne, fun y hy => (h.ra y hy).keep fun k hg hl => hk k hg.1 hl, fun y hy => (h.la y hy).keep fun k hg hl => hk k hg.1 hl, h.fa.keep fun k hg hl => hk k hg.1 hl⟩
theorem RwR.below {W W' : World} {fb rb : Nat} {RR LL F : Value} {XR : List (Value × List Cn)} {XL : List (Value × Nat)} {fs : List Fx} (h : RwR W fb rb RR LL F XR XL fs) (hb : Below W.heap.size W W') : RwR W' fb rb RR LL F XR XL fs := h.keep fun q _ hl => hb.block q hl
theorem RwR.setF {W : World} {fb rb : Nat} {RR LL F F' : Value} {XR : List (Value × List Cn)} {XL : List (Value × Nat)} {fs fs' : List Fx} (h : RwR W fb rb RR LL F XR XL fs) (hf : FactM W (GD fb rb RR LL) 10000 F' fs') : RwR W fb rb RR LL F' XR XL fs' := ⟨h.rr, h.ll, h.ne, h.ra, h.la, hf⟩
theorem own_slice (g n c : Nat) : (Value.slice (some ⟨g, 0, none⟩) n c).ownBlock = some g := rfl
theorem RwR.addR {W W' : World} {fb rb : Nat} {RR LL F : Value} {XR : List (Value × List Cn)} {XL : List (Value × Nat)} {fs : List Fx} (h : RwR W fb rb RR LL F XR XL fs) {R : Value} {regs : List Cn} (hR : RegM W (GD fb rb RR LL) 6561 R regs) {g c : Nat}
    (hrow : W'.ownsRow (fb + 1) 53 1 (.slice (some ⟨g, 0, none⟩) (XR.length + 1) c) (XR.length + 1) (XR.map (·.1) ++ [R])) (hst : ∀ q, q < W.heap.size → RR.ownBlock ≠ some q → W'.heap[q]? = W.heap[q]?) (hg : RR.ownBlock = some g ∨ W.heap.size ≤ g) :
    RwR W' fb rb (.slice (some ⟨g, 0, none⟩) (XR.length + 1) c) LL F (XR ++ [(R, regs)]) XL fs := by
  have ki : ∀ q, GD fb rb RR LL q → q < W.heap.size → GD fb rb (.slice (some ⟨g, 0, none⟩) (XR.length + 1) c) LL q := fun q hq hl => ⟨hq.1, hq.2.1, by
    rw [own_slice]; intro e; obtain rfl : g = q := by injection e
    rcases hg with e | e
    · exact hq.2.2.1 e
    · omega, hq.2.2.2⟩
  have kh : ∀ q, GD fb rb RR LL q → q < W.heap.size → W'.heap[q]? = W.heap[q]? := fun q hq hl => hst q hl hq.2.2.1
  have k2 : ∀ q, GD fb rb RR LL q → q < W.heap.size → (GD fb rb RR LL q ∧ GD fb rb (.slice (some ⟨g, 0, none⟩) (XR.length + 1) c) LL q) := fun q a b => ⟨a, ki q a b⟩
  have k3 : ∀ q, (GD fb rb RR LL q ∧ GD fb rb (.slice (some ⟨g, 0, none⟩) (XR.length + 1) c) LL q) → q < W.heap.size → W'.heap[q]? = W.heap[q]? := fun q a b => kh q a.1 b
  have k4 : ∀ q, (GD fb rb RR LL q ∧ GD fb rb (.slice (some ⟨g, 0, none⟩) (XR.length + 1) c) LL q) → q < W'.heap.size → GD fb rb (.slice (some ⟨g, 0, none⟩) (XR.length + 1) c) LL q := fun q a _ => a.2
  refine ⟨by simpa using hrow, rowKeep h.ll fun k e => hst k (rowLt h.ll k e).2 (fun e2 => h.ne k e2 e), fun q hq hl => ?_, fun y hy => ?_, fun y hy => (((h.la y hy).imp k2).keep k3).imp k4, ((h.fa.imp k2).keep k3).imp k4⟩
  · rw [own_slice] at hq
    obtain rfl : g = q := by injection hq
    rcases hg with e | e
    · exact h.ne g e hl
    · have := (rowLt h.ll g hl).2; omega
  · rcases List.mem_append.1 hy with hy | hy
    · exact (((h.ra y hy).imp k2).keep k3).imp k4
    · obtain rfl : y = (R, regs) := by simpa using hy
      exact ((hR.imp k2).keep k3).imp k4
theorem RwR.addL {W W' : World} {fb rb : Nat} {RR LL F : Value} {XR : List (Value × List Cn)} {XL : List (Value × Nat)} {fs : List Fx} (h : RwR W fb rb RR LL F XR XL fs) {L : Value} {left : Nat} (hL : MaskIn W (GD fb rb RR LL) 6561 L left) {g c : Nat}
    (hrow : W'.ownsRow (fb + 1) 64 1 (.slice (some ⟨g, 0, none⟩) (XL.length + 1) c) (XL.length + 1) (XL.map (·.1) ++ [L])) (hst : ∀ q, q < W.heap.size → LL.ownBlock ≠ some q → W'.heap[q]? = W.heap[q]?) (hg : LL.ownBlock = some g ∨ W.heap.size ≤ g) :
    RwR W' fb rb RR (.slice (some ⟨g, 0, none⟩) (XL.length + 1) c) F XR (XL ++ [(L, left)]) fs := by
  have ki : ∀ q, GD fb rb RR LL q → q < W.heap.size → GD fb rb RR (.slice (some ⟨g, 0, none⟩) (XL.length + 1) c) q := fun q hq hl => ⟨hq.1, hq.2.1, hq.2.2.1, by
    rw [own_slice]; intro e; obtain rfl : g = q := by injection e
    rcases hg with e | e
    · exact hq.2.2.2 e
    · omega⟩
  have kh : ∀ q, GD fb rb RR LL q → q < W.heap.size → W'.heap[q]? = W.heap[q]? := fun q hq hl => hst q hl hq.2.2.2
  have k2 : ∀ q, GD fb rb RR LL q → q < W.heap.size → (GD fb rb RR LL q ∧ GD fb rb RR (.slice (some ⟨g, 0, none⟩) (XL.length + 1) c) q) := fun q a b => ⟨a, ki q a b⟩
  have k3 : ∀ q, (GD fb rb RR LL q ∧ GD fb rb RR (.slice (some ⟨g, 0, none⟩) (XL.length + 1) c) q) → q < W.heap.size → W'.heap[q]? = W.heap[q]? := fun q a b => kh q a.1 b
  have k4 : ∀ q, (GD fb rb RR LL q ∧ GD fb rb RR (.slice (some ⟨g, 0, none⟩) (XL.length + 1) c) q) → q < W'.heap.size → GD fb rb RR (.slice (some ⟨g, 0, none⟩) (XL.length + 1) c) q := fun q a _ => a.2
  refine ⟨rowKeep h.rr fun k e => hst k (rowLt h.rr k e).2 (fun e2 => h.ne k e e2), by simpa using hrow, fun q hq hl => ?_, fun y hy => (((h.ra y hy).imp k2).keep k3).imp k4, fun y hy => ?_, ((h.fa.imp k2).keep k3).imp k4⟩
  · rw [own_slice] at hl
    obtain rfl : g = q := by injection hl
    rcases hg with e | e
    · exact h.ne g hq e
    · have := (rowLt h.rr g hq).2; omega
  · rcases List.mem_append.1 hy with hy | hy
    · exact (((h.la y hy).imp k2).keep k3).imp k4
    · obtain rfl : y = (L, left) := by simpa using hy
      exact ((hL.imp k2).keep k3).imp k4
/-- lengths stay -/
theorem thrR_keep (c : CtxM) (os : List (Nat × Nat × Ins)) : ∀ (l : List Ins) (at' k skip : Nat) (s : RefSt), (thrR c os l at' k skip s).facts.length = s.facts.length ∧ (thrR c os l at' k skip s).regs.length = s.regs.length
  | [], _, _, _, s => ⟨rfl, rfl⟩
  | x :: l, at', k, skip, s => by
    rw [thrR]
    split
    · obtain ⟨a, b⟩ := thrR_keep c os l (at' + 1) (if isMem x.op then k + 1 else k) (skip - 1) (leaveR s at' k (isMem x.op))
      refine ⟨a.trans ?_, b.trans rfl⟩
      unfold leaveR
      show (if _ then _ else _ : List Fx).length = _
      split <;> simp
    · split
      · obtain ⟨a, b⟩ := thrR_keep c os l (at' + 1) (k + 1) 0 (memR os s x k (rdK c k) (rdV c k) (worksM c k))
        obtain ⟨m1, _, _, m4, _⟩ := len_mem os s x k (rdK c k) (rdV c k) (worksM c k)
        exact ⟨a.trans m4, b.trans m1⟩
      · split
        · exact thrR_keep c os l (at' + 1) k 0 s
        · split
          · split
            · exact thrR_keep c os l (at' + 1) k _ (brR s x)
            · exact ⟨rfl, rfl⟩
          · obtain ⟨a, b⟩ := thrR_keep c os l (at' + 1) k 0 (compR s x)
            obtain ⟨m1, _, _, _, m5, _⟩ := len_comp s x
            exact ⟨a.trans (by rw [m5]), b.trans m1⟩
theorem thrsR_snoc (c : CtxM) (os : List (Nat × Nat × Ins)) : ∀ (T : List (List Ins)) (l : List Ins) (k : Nat) (g : RefFl), thrsR c os (T ++ [l]) k g = endR (thrsR c os T k g) (thrR c os l 0 (k + memT T) 0 (startR (thrsR c os T k g)))
  | [], l, k, g => rfl
  | m :: T, l, k, g => by
    rw [List.cons_append, thrsR, thrsR_snoc c os T l, thrsR, memT_cons, Nat.add_assoc]
theorem thrsR_len (c : CtxM) (os : List (Nat × Nat × Ins)) : ∀ (T : List (List Ins)) (k : Nat) (g : RefFl), (thrsR c os T k g).facts.length = g.facts.length
  | [], _, _ => rfl
  | l :: T, k, g => by
    rw [thrsR, thrsR_len c os T]
    exact (thrR_keep c os l 0 k 0 (startR g)).1
theorem seg_of {t : List (List Ins)} {i : Nat} {l : List Ins} (h : t[i]? = some l) : ∀ j o, (opsXL i 0 l)[j]? = some o → (opsX 0 t)[memT (t.take i) + j]? = some o := fun j o hj => by
  have e : t = t.take (i + 1) ++ t.drop (i + 1) := (List.take_append_drop _ _).symm
  rw [e, opsX_app, opsX_take h]
  have hl := (List.getElem?_eq_some_iff.1 hj).1
  have h1 : (opsX 0 (t.take i)).length = memT (t.take i) := opsX_len _ _
  rw [List.getElem?_append_left (by rw [List.length_append, h1]; have : (List.take i (List.take (i + 1) t ++ List.drop (i + 1) t)) = t.take i := by rw [← e]
                                    rw [this]; omega)]
  rw [List.getElem?_append_right (by rw [h1]; have : (List.take i (List.take (i + 1) t ++ List.drop (i + 1) t)) = t.take i := by rw [← e]
                                     rw [this]; omega)]
  rw [h1]
  have : (List.take i (List.take (i + 1) t ++ List.drop (i + 1) t)) = t.take i := by rw [← e]
  rw [this, Nat.add_sub_cancel_left]
  exact hj
def nilsR (j : Nat) : List Value := (List.replicate j ((.slice none 0 0, numC0 0) : Value × Cn)).flatMap rgX
theorem nilsR_succ (j : Nat) : nilsR (j + 1) = nilsR j ++ [.bool true, .int .u64 0, .slice none 0 0] := by
  unfold nilsR
  rw [List.replicate_succ', List.flatMap_append]; rfl
end Go.Proofs.Ytccjekgbhablpaa
namespace Go.Proofs.Ytccjekgbhablpaa
set_option maxRecDepth 100000
open Go.RowKit

theorem rowSlN {w : World} {B e z n : Nat} {v : Value} {xs : List Value} (h : w.ownsRow B e z v n xs) : SlIn w v z n xs := (rowSlIn h).1
/-- the variables of Of -/
structure OfV (W : World) (fb : Nat) (F RR LL : Value) (wh : Bool) : Prop where
  h : W.heap[fb]? = some (.cells #[F, RR, LL, .bool wh] 62 (0, 0))
set_option maxRecDepth 100000 in
set_option maxHeartbeats 25600000 in
theorem ofR_any (lv tv av : Value) (t : TestM) (hl4 : t.thr.length ≤ 4) (hl8 : ∀ l ∈ t.thr, l.length ≤ 8) (hx : ∀ l ∈ t.thr, ∀ x ∈ l, InsN x ∧ 1 ≤ x.op ∧ x.op ≤ 17) (c : CtxM) (hc : CtxOk c) (n : Nat) (hn : memT t.thr = n) (rv wv : Value) (w : World) (h : TestIn w lv tv av t)
    (hrv : SlIn w rv 3 n ((List.range n).flatMap fun k => [.bool (rdK c k), .int .u64 (rdV c k : Int), .slice none 0 0])) (hwv : SlIn w wv 1 n ((List.range n).map fun k => Value.bool (worksM c k))) :
    Calls Try.prog 12 #[.agg #[lv, tv, av], rv, wv] w fun e w' => ∃ (F RR LL : Value) (XR : List (Value × List Cn)) (XL : List (Value × Nat)) (fb rb : Nat), e = .returned (.agg #[F, RR, LL, .bool (ofR c t.thr).whole]) ∧ XR.map (·.2) = (ofR c t.thr).regs ∧ XL.map (·.2) = (ofR c t.thr).left ∧ RwR w' fb rb RR LL F XR XL (ofR c t.thr).facts ∧ Below w.heap.size w w' := by
  have hn32 : n ≤ 32 := by have := memT_le 8 t.thr hl8; omega
  have k1 : ∀ W : World, (Instr.makeSlice 58 (.int .i64 (n : Int)) (.int .i64 (n : Int))).run Try.prog W = .ok (.slice (some ⟨W.heap.size, 0, none⟩) n n) (W.alloc (.cells ((List.replicate n ((.slice none 0 0, .slice none 0 0, .slice none 0 0, fx0) : Value × Value × Value × Fx)).flatMap fxC).toArray 72)) := fun W => by
    have := mk_row (T := 58) Try.underlying58 info_fx (by decide) n (by omega) W
    rw [made_fx] at this; exact this
  have hol : (opsX 0 t.thr).length = n := by rw [opsX_len, hn]
  have CO := Bx.mk (fun W (hW : TestIn W lv tv av t) => refOps_any lv tv av t (by omega) (fun l hl => by have := hl8 l hl; omega) W hW)
  obtain ⟨lp, lc, tp, tc, ap, ac, rfl, rfl, rfl⟩ : ∃ lp lc tp tc ap ac, lv = .slice lp t.locs.length lc ∧ tv = .slice tp t.thr.length tc ∧ av = .slice ap t.asks.length ac := by
    obtain ⟨a, ⟨vs, _, b, _⟩, d⟩ := h
    obtain ⟨lp, lc, h1⟩ := a.slice
    obtain ⟨tp, tc, h2⟩ := b.slice
    obtain ⟨ap, ac, h3⟩ := d.slice
    exact ⟨lp, lc, tp, tc, ap, ac, h1, h2, h3⟩
  obtain ⟨rp, rc, rfl⟩ := hrv.slice
  obtain ⟨wp, wpc, rfl⟩ := hwv.slice
  have HT := Bx.mk h; have HRV := Bx.mk hrv; have HWV := Bx.mk hwv; have HC := Bx.mk hc; have HX := Bx.mk hx; have HL8 := Bx.mk hl8; have HN := Bx.mk hn; have HOL := Bx.mk hol
  have b01 := bel (aset w (.cells #[.slice lp t.locs.length lc, .slice tp t.thr.length tc, .slice ap t.asks.length ac] 37)) (aset _ (.cells #[.slice none 0 0, .slice none 0 0, .slice none 0 0, .bool false] 62))
  have s01 : ((w.alloc (.cells #[.slice lp t.locs.length lc, .slice tp t.thr.length tc, .slice ap t.asks.length ac] 37)).alloc (.cells #[.slice none 0 0, .slice none 0 0, .slice none 0 0, .bool false] 62)).heap.size = w.heap.size + 1 + 1 := by simp
  have c0 : ((w.alloc (.cells #[.slice lp t.locs.length lc, .slice tp t.thr.length tc, .slice ap t.asks.length ac] 37)).alloc (.cells #[.slice none 0 0, .slice none 0 0, .slice none 0 0, .bool false] 62)).heap[w.heap.size]? = some (.cells #[.slice lp t.locs.length lc, .slice tp t.thr.length tc, .slice ap t.asks.length ac] 37 (0, 0)) := ((aset _ _).block _ (by simp)).trans (heap_alloc_new _ _)
  have c1 : ((w.alloc (.cells #[.slice lp t.locs.length lc, .slice tp t.thr.length tc, .slice ap t.asks.length ac] 37)).alloc (.cells #[.slice none 0 0, .slice none 0 0, .slice none 0 0, .bool false] 62)).heap[w.heap.size + 1]? = some (.cells #[.slice none 0 0, .slice none 0 0, .slice none 0 0, .bool false] 62 (0, 0)) := by
    have q := heap_alloc_new (w.alloc (.cells #[.slice lp t.locs.length lc, .slice tp t.thr.length tc, .slice ap t.asks.length ac] 37)) (.cells #[.slice none 0 0, .slice none 0 0, .slice none 0 0, .bool false] 62)
    rwa [World.size_alloc] at q
  have CO1 := CO.out _ (h.below b01)
  have HS01 := Bx.mk s01
  clear h hrv hwv hc hx hl8 hn hol CO
  go_enter Try.func12, Try.ntmps12
  go_upto_region 1 with fail
  generalize ((w.alloc (.cells #[.slice lp t.locs.length lc, .slice tp t.thr.length tc, .slice ap t.asks.length ac] 37)).alloc (.cells #[.slice none 0 0, .slice none 0 0, .slice none 0 0, .bool false] 62)) = W1 at *
  have C0 := Bx.mk c0; have C1 := Bx.mk c1; have B01 := Bx.mk b01; have CO1 := Bx.mk CO1
  have t0 := cOf c0 0; have t1 := cOf c0 1; have t2 := cOf c0 2
  simp only [List.getElem?_toArray, List.getElem?_cons_zero, List.getElem?_cons_succ] at t0 t1 t2
  clear c0 c1 b01
  go_upto_region 2 with (go_at_call 9; ((with_reducible refine (CO1.out).mono ?_); rintro e w2 ⟨ov, rfl, hrow, b2⟩; have ROW := Bx.mk hrow; have B2 := Bx.mk b2; clear hrow b2))
  have hos := rowSlN ROW.out
  rw [HOL.out] at hos
  obtain ⟨op, oc, rfl⟩ := hos.slice
  have s12 := B2.out.size
  have E0 := Bx.mk ((B2.out.block _ (ltOf C0.out)).trans C0.out); have E1 := Bx.mk ((B2.out.block _ (ltOf C1.out)).trans C1.out)
  have HOS := Bx.mk hos
  have BW2 := Bx.mk (bel B01.out B2.out)
  clear hos ROW t0 t1 t2 B2 C0 C1 B01 CO1
  -- facts, and the flow
  have d1 := aset w2 (.cells ((List.replicate n ((.slice none 0 0, .slice none 0 0, .slice none 0 0, fx0) : Value × Value × Value × Fx)).flatMap fxC).toArray 72)
  have dn := heap_alloc_new w2 (.cells ((List.replicate n ((.slice none 0 0, .slice none 0 0, .slice none 0 0, fx0) : Value × Value × Value × Fx)).flatMap fxC).toArray 72)
  have ds : (w2.alloc (.cells ((List.replicate n ((.slice none 0 0, .slice none 0 0, .slice none 0 0, fx0) : Value × Value × Value × Fx)).flatMap fxC).toArray 72)).heap.size = w2.heap.size + 1 := by simp
  have D1 := Bx.mk d1; have DN := Bx.mk dn; have DS := Bx.mk ds
  clear d1 dn ds
  go_upto_region 3 with fail
  have hrb : w.heap.size + 1 < w2.heap.size := by have := HS01.out; omega
  generalize w2.alloc (.cells ((List.replicate n ((.slice none 0 0, .slice none 0 0, .slice none 0 0, fx0) : Value × Value × Value × Fx)).flatMap fxC).toArray 72) = z at *
  obtain ⟨fb, hfb⟩ : ∃ fb, fb = w2.heap.size + 1 := ⟨_, rfl⟩
  obtain ⟨rb, hrbe⟩ : ∃ rb, rb = w.heap.size + 1 := ⟨_, rfl⟩
  have hzs : z.heap.size = fb := by rw [hfb]; exact DS.out
  have BZ := Bx.mk (bel BW2.out D1.out)
  have Z0 := Bx.mk ((D1.out.block _ (ltOf E0.out)).trans E0.out); have Z1 := Bx.mk ((D1.out.block _ (ltOf E1.out)).trans E1.out)
  have ZT := HT.out.below BZ.out
  have ZO := Bx.mk (HOS.out.below D1.out); have ZR := Bx.mk (HRV.out.below BZ.out); have ZW := Bx.mk (HWV.out.below BZ.out)
  obtain ⟨_, ⟨vs, hvl, hth, hins⟩, _⟩ := ZT
  have HTH := Bx.mk hth; have HVL := Bx.mk hvl; have HIN := Bx.mk hins
  have OF0 : Bx ((z.alloc (.cells #[.slice (some ⟨w2.heap.size, 0, none⟩) n n, .slice none 0 0, .slice none 0 0, .bool true] 62)).heap[fb]? = some (.cells #[.slice (some ⟨w2.heap.size, 0, none⟩) n n, .slice none 0 0, .slice none 0 0, .bool true] 62 (0, 0))) := ⟨by rw [← hzs]; exact heap_alloc_new _ _⟩
  have BF0 := Bx.mk (aset z (.cells #[.slice (some ⟨w2.heap.size, 0, none⟩) n n, .slice none 0 0, .slice none 0 0, .bool true] 62))
  have RW0 : Bx (RwR (z.alloc (.cells #[.slice (some ⟨w2.heap.size, 0, none⟩) n n, .slice none 0 0, .slice none 0 0, .bool true] 62)) fb rb (.slice none 0 0) (.slice none 0 0) (.slice (some ⟨w2.heap.size, 0, none⟩) n n) [] [] (List.replicate n fx0)) := ⟨by
    refine ⟨World.ownsRow_nil _ _ _ _, World.ownsRow_nil _ _ _ _, fun q hq => by simp [Value.ownBlock] at hq, fun y hy => by simp at hy, fun y hy => by simp at hy, ⟨⟨List.replicate n (.slice none 0 0, .slice none 0 0, .slice none 0 0, fx0), by simp, ?_, fun y hy => ?_⟩, fun k _ hk => ?_⟩⟩
    · rw [List.length_replicate]
      have hh := (BF0.out.block _ (ltOf DN.out)).trans DN.out
      exact slHeapR (X := []) (by rw [List.append_nil]; exact hh) (by rw [flat_len fxC 8 (fun _ => rfl)]; simp) n
    · obtain rfl := List.eq_of_mem_replicate hy
      exact ⟨MaskIn.nil _ _ _, MaskIn.nil _ _ _, MaskIn.nil _ _ _⟩
    · rw [own_slice] at hk
      obtain rfl : w2.heap.size = k := by injection hk
      refine ⟨by omega, by omega, by simp [Value.ownBlock], by simp [Value.ownBlock]⟩⟩
  have x1 := cOf ((BF0.out.block _ (ltOf Z0.out)).trans Z0.out) 1
  simp only [List.getElem?_toArray, List.getElem?_cons_zero, List.getElem?_cons_succ] at x1
  have HRB := Bx.mk hrbe; have HFB := Bx.mk hfb
  have hrf : rb < fb := by omega
  rw [← hfb]
  (try rw [← hrbe])
  clear hth hvl hins hrbe hfb DN DS D1 E0 E1 BW2 HT HOS HRV HWV HS01 hrb s12 k1
  generalize z.alloc (.cells #[.slice (some ⟨w2.heap.size, 0, none⟩) n n, .slice none 0 0, .slice none 0 0, .bool true] 62) = W4 at *
  obtain ⟨tn, htn⟩ : ∃ tn, tn = t.thr.length := ⟨_, rfl⟩
  have TN := Bx.mk htn
  rw [← htn] at x1 HTH
  rw [← htn]
  have htn4 : tn ≤ 4 := by omega
  clear htn
  go_wp2_with fail
  go_loopw [9, 27] (fun kv iv wr => ∃ (i k : Nat) (g : RefFl) (F RR LL : Value) (XR : List (Value × List Cn)) (XL : List (Value × Nat)), kv = .int .i64 (k : Int) ∧ iv = .int .i64 (i : Int) ∧ i ≤ tn ∧ XR.length = i ∧ XL.length = i ∧ Bx (k = memT (t.thr.take i)) ∧ Bx (g = thrsR c (opsX 0 t.thr) (t.thr.take i) 0 ⟨List.replicate n fx0, [], [], true⟩) ∧ Bx (XR.map (·.2) = g.regs) ∧ Bx (XL.map (·.2) = g.left) ∧ Bx (wr.heap[fb]? = some (.cells #[F, RR, LL, .bool g.whole] 62 (0, 0))) ∧ Bx (RwR wr fb rb RR LL F XR XL g.facts) ∧ Bx (Below z.heap.size z wr)) (fun _ iv _ => tn - (intOf iv).toNat)
  case atStart => exact ⟨0, 0, _, _, _, _, [], [], rfl, rfl, by omega, rfl, rfl, ⟨by simp [memT]⟩, ⟨rfl⟩, ⟨rfl⟩, ⟨rfl⟩, OF0, RW0, BF0⟩
  case round =>
    clear OF0 RW0 BF0 x1
    obtain ⟨i, k, g, F, RR, LL, XR, XL, rfl, rfl, hi, hXR, hXL, hk, hg, hgR, hgL, hof, hrw, hbz⟩ := hrel
    obtain ⟨Wa, rfl⟩ : ∃ Wa : World, Wa = wr := ⟨_, rfl⟩
    by_cases hlt : i < tn
    · obtain ⟨bb, off, c', hv, hbl, hcl⟩ := HTH.out.at (by omega)
      obtain ⟨rfl, _, rfl⟩ := Value.slice.inj hv
      have hkt : i < t.thr.length := by rw [← TN.out]; exact hlt
      obtain ⟨u, hvk⟩ : ∃ u, vs[i]? = some u := ⟨_, List.getElem?_eq_getElem (by rw [HVL.out]; exact hkt)⟩
      obtain ⟨l, hlk, hsl⟩ := HIN.out i u hvk
      obtain ⟨ip, ic, rfl⟩ := hsl.slice
      have hll := HL8.out l (List.mem_of_getElem? hlk)
      have q0 : Wa.cell? ⟨bb, off + i, none⟩ = some (.slice ip l.length ic) := (hbz.out.cell hbl).trans (hcl i _ hvk)
      have HSL := Bx.mk (hsl.below hbz.out)
      have HSLZ := Bx.mk hsl
      have HLK := Bx.mk hlk
      have hgl : g.facts.length = n := by rw [hg.out, thrsR_len]; simp
      obtain ⟨fq, fc, hFe⟩ := hrw.out.fa.slice
      rw [hgl] at hFe
      subst hFe
      have HGL := Bx.mk hgl
      have i9 : (i : Int) < (tn : Int) := by omega
      have of0 := cOf hof.out 0
      simp only [List.getElem?_toArray, List.getElem?_cons_zero] at of0
      have hfa : fb < Wa.heap.size := ltOf hof.out
      have BWb := Bx.mk (aset Wa (.cells #[.slice none 0 0, .slice none 0 0, .int .i64 0, .slice none 0 0, .slice fq n fc, .bool true] 105))
      have NWb := Bx.mk (heap_alloc_new Wa (.cells #[.slice none 0 0, .slice none 0 0, .int .i64 0, .slice none 0 0, .slice fq n fc, .bool true] 105))
      clear hcl hv hvk hsl hlk hgl hkt
      go_upto_region 8 with fail
      clear of0 q0
      generalize Wa.alloc (.cells #[.slice none 0 0, .slice none 0 0, .int .i64 0, .slice none 0 0, .slice fq n fc, .bool true] 105) = Wb at *
      obtain ⟨wb, hwb⟩ : ∃ wb, wb = Wa.heap.size := ⟨_, rfl⟩
      rw [← hwb] at NWb
      rw [← hwb]
      have HWB := Bx.mk hwb
      have hfw : fb < wb := by omega
      clear hwb hfa
      go_wp2_with fail
      go_loopw [13] (fun q wx => ∃ (j : Nat) (v : Value), q = .int .i64 (j : Int) ∧ j ≤ 8 ∧ Bx (wx.heap[wb]? = some (.cells #[v, .slice none 0 0, .int .i64 0, .slice none 0 0, .slice fq n fc, .bool true] 105 (0, 0))) ∧ Bx (wx.ownsRow (wb + 1) 70 3 v j (nilsR j)) ∧ Bx (Below Wa.heap.size Wa wx)) (fun q _ => 8 - (intOf q).toNat)
      case atStart => exact ⟨0, _, rfl, by omega, NWb, ⟨World.ownsRow_nil _ _ _ _⟩, BWb⟩
      case round =>
        clear NWb BWb
        obtain ⟨j, v, rfl, hj8, hwv, hrow, hbx⟩ := hrel
        by_cases hj : j < 8
        · have j9 : (j : Int) < 8 := by omega
          have v0 := cOf hwv.out 0; have vf0 := tOf hwv.out 0
          simp only [List.getElem?_toArray, List.getElem?_cons_zero] at v0
          have hwl := ltOf hwv.out
          have R1 := Bx.mk (hrow.out.alloc (.cells #[.bool true, .int .u64 0, .slice none 0 0] 70))
          have N1 := Bx.mk (slNewR wr #[.bool true, .int .u64 0, .slice none 0 0] 70 3 1 rfl)
          go_upto_region 10 with (at_builtin; refine wpList_append_own (w := wr.alloc (.cells #[.bool true, .int .u64 0, .slice none 0 0] 70)) (wb + 1) (by simp; omega) rfl (.tmp 39) (.tmp 41) 53 70 3 40 (.agg #[.bool false, .int .u64 0, .slice none 0 0]) (by rfl) Try.underlying53 info_rw rfl (by decide) (by decide) v j (nilsR j) (by rfl) R1.out _ 1 (by decide) [.bool true, .int .u64 0, .slice none 0 0] (by rfl) N1.out (by simp [Value.oneCell']) (by omega) ?_; intro g1 cap1 w1 r1 bl1 _ _; have RR1 := Bx.mk r1; have BL1 := Bx.mk (((aset wr (.cells #[.bool true, .int .u64 0, .slice none 0 0] 70)).mono hwl).trans bl1); have v0 := keepC (BL1.out.block wb (by omega)) v0; have vf0 := tOf ((BL1.out.block wb (by omega)).trans hwv.out) 0; clear r1 bl1)
          go_wp2_with fail
          go_roundw
          case rel =>
            have hh := (BL1.out.block wb (by omega)).trans hwv.out
            refine ⟨j + 1, _, by go_num, by omega, ⟨by rw [heapSet' hh]; rfl⟩, ⟨?_⟩, ⟨belSet (hbx.out.trans (BL1.out.mono (by have := HWB.out; omega))) _ _ _ (by have := HWB.out; omega)⟩⟩
            rw [nilsR_succ]
            exact rowKeep RR1.out fun q hq => hset (by have := (rowLt RR1.out q hq).1; omega)
          case measure => simp [intOf]; omega
        · have hj2 : j = 8 := by omega
          have j9 : ((j : Int) < (8 : Int)) = False := by simp; omega
          rw [hj2] at hrow
          clear hj2 hj hj8
          obtain ⟨rq, rqc, rfl⟩ : ∃ rq rqc, v = .slice rq 8 rqc := (rowSlN hrow.out).slice
          have hwl := ltOf hwv.out
          have REG : RegM wr (fun q => GD fb rb RR LL q ∧ q ≠ wb) 1 (.slice rq 8 rqc) (startR g).regs := by
            refine ⟨⟨List.replicate 8 (.slice none 0 0, numC0 0), by simp [startR, regs0], by simpa [nilsR] using rowSlN hrow.out, fun y hy => ?_⟩, fun q _ hq => ?_⟩
            · obtain rfl := List.eq_of_mem_replicate hy
              exact MaskIn.nil _ _ _
            · have h1 := (rowLt hrow.out q hq).1
              have h2 := HWB.out
              refine ⟨⟨by omega, by omega, fun e => ?_, fun e => ?_⟩, by omega⟩
              · have := (rowLt hrw.out.rr q e).2; omega
              · have := (rowLt hrw.out.ll q e).2; omega
          have hrwx := hrw.out.below hbx.out
          have FAC : FactM wr (fun q => GD fb rb RR LL q ∧ q ≠ wb) 10000 (.slice fq n fc) (startR g).facts := (hrw.out.fa.imp (fun q a b => ⟨a, by have := HWB.out; omega⟩)).below hbx.out
          have GG1 : ∀ q, wr.heap.size ≤ q → (GD fb rb RR LL q ∧ q ≠ wb) := fun q hq => by
            refine ⟨⟨by omega, by omega, fun e => ?_, fun e => ?_⟩, by omega⟩
            · have := (rowLt hrwx.rr q e).2; omega
            · have := (rowLt hrwx.ll q e).2; omega
          have hkm : k + memL l ≤ n := by rw [hk.out, ← HN.out]; exact memT_take_le HLK.out
          have BZx := Bx.mk (hbz.out.trans (hbx.out.mono hbz.out.size))
          have ct := (thread_any wr (fun q => GD fb rb RR LL q ∧ q ≠ wb) GG1 (opsX 0 t.thr) (by rw [HOL.out]; omega) (.slice op n oc) (by rw [HOL.out]; exact ZO.out.below BZx.out) (startR g) rfl (fun d hd => by
              obtain rfl : d = numC0 0 := List.eq_of_mem_replicate hd
              decide) (by rw [HOL.out]; exact Nat.zero_le _) (by rw [HOL.out]; exact HGL.out) (.slice rq 8 rqc) (.slice none 0 0) (.slice none 0 0) (.slice fq n fc) REG (MaskIn.nil _ _ _) (MaskIn.nil _ _ _) FAC
            i l hll (.slice ip l.length ic) (HSL.out.below hbx.out) (HX.out l (List.mem_of_getElem? HLK.out)) c HC.out k (by rw [HOL.out]; exact hkm) (fun q o hq => by rw [hk.out]; exact seg_of HLK.out q o hq) (.slice rp n rc) (.slice wp n wpc) (by rw [HOL.out]; exact ZR.out.below BZx.out) (by rw [HOL.out]; exact ZW.out.below BZx.out))
          rw [show (((startR g).last : Nat) : Int) = 0 from rfl, show (startR g).known = true from rfl] at ct
          have CT := Bx.mk ct
          clear ct
          have RWX := Bx.mk hrwx
          have OFX := Bx.mk ((hbx.out.block _ (ltOf hof.out)).trans hof.out)
          have v0 := cOf hwv.out 0; have v1 := cOf hwv.out 1; have v2 := cOf hwv.out 2; have v3 := cOf hwv.out 3; have v4 := cOf hwv.out 4; have v5 := cOf hwv.out 5
          simp only [List.getElem?_toArray, List.getElem?_cons_zero, List.getElem?_cons_succ] at v0 v1 v2 v3 v4 v5
          clear REG FAC GG1 hrwx hrow
          obtain ⟨s', hs'⟩ : ∃ s', s' = thrR c (opsX 0 t.thr) l 0 k 0 (startR g) := ⟨_, rfl⟩
          rw [← hs'] at CT
          have HS' := Bx.mk hs'
          have h8' : s'.regs.length = 8 := by rw [hs', (thrR_keep _ _ _ _ _ _ _).2]; rfl
          have hfn' : s'.facts.length = n := by rw [hs', (thrR_keep _ _ _ _ _ _ _).1]; exact HGL.out
          have H8' := Bx.mk h8'; have HFN' := Bx.mk hfn'
          clear hs' h8' hfn'
          go_upto_region 13 with (go_at_call 27; ((with_reducible refine (CT.out).mono ?_); rintro e w7 ⟨R7, P7, L7, F7, rfl, hr7, hp7, hl7, hf7, b7⟩; obtain ⟨r1, r2, e1⟩ := hr7.slice; rw [H8'.out] at e1; subst e1; obtain ⟨p1, p2, p3, rfl⟩ := hp7.slice; obtain ⟨l1, l2, l3, rfl⟩ := hl7.slice; obtain ⟨f1, f2, e2⟩ := hf7.slice; rw [HFN'.out] at e2; subst e2; have H7 := Bx.mk ((b7.block _ hwl).trans hwv.out); have e0 := cOf H7.out 0; have e1 := cOf H7.out 1; have e2 := cOf H7.out 2; have e3 := cOf H7.out 3; have e4 := cOf H7.out 4; have e5 := cOf H7.out 5; have ef0 := tOf H7.out 0; have ef1 := tOf H7.out 1; have ef2 := tOf H7.out 2; have ef3 := tOf H7.out 3; have ef4 := tOf H7.out 4; have ef5 := tOf H7.out 5; simp only [List.getElem?_toArray, List.getElem?_cons_zero, List.getElem?_cons_succ] at e0 e1 e2 e3 e4 e5; have HR7 := Bx.mk hr7; have HL7 := Bx.mk hl7; have HF7 := Bx.mk hf7; have B7 := Bx.mk b7; clear hr7 hp7 hl7 hf7 b7))
          obtain ⟨W8, hW8⟩ : ∃ W8, W8 = ((((((w7.setCell ⟨wb, 0, none⟩ (.slice r1 8 r2)).setCell ⟨wb, 1, none⟩ (.slice p1 p2 p3)).setCell ⟨wb, 2, none⟩ (.int .i64 (s'.last : Int))).setCell ⟨wb, 3, none⟩ (.slice l1 l2 l3)).setCell ⟨wb, 4, none⟩ (.slice f1 n f2)).setCell ⟨wb, 5, none⟩ (.bool s'.known)) := ⟨_, rfl⟩
          have k8 : ∀ q, q ≠ wb → W8.heap[q]? = w7.heap[q]? := fun q hq => by rw [hW8]; exact hset6 hq
          have hwa : Wa.heap.size ≤ wb := by have := HWB.out; omega
          have B8 : Below Wa.heap.size Wa W8 := by rw [hW8]; exact belSet (belSet (belSet (belSet (belSet (belSet (hbx.out.trans (B7.out.mono hbx.out.size)) _ _ _ hwa) _ _ _ hwa) _ _ _ hwa) _ _ _ hwa) _ _ _ hwa) _ _ _ hwa
          have HW8 : W8.heap[wb]? = some (.cells #[.slice r1 8 r2, .slice p1 p2 p3, .int .i64 (s'.last : Int), .slice l1 l2 l3, .slice f1 n f2, .bool s'.known] 105 (0, 0)) := by
            rw [hW8, heapSet' (heapSet' (heapSet' (heapSet' (heapSet' (heapSet' H7.out _ _) _ _) _ _) _ _) _ _) _ _]; rfl
          have OF8 : W8.heap[fb]? = some (.cells #[.slice fq n fc, RR, LL, .bool g.whole] 62 (0, 0)) := (B8.block _ (ltOf hof.out)).trans hof.out
          have kk8 : ∀ q, (GD fb rb RR LL q ∧ q ≠ wb) → q < w7.heap.size → W8.heap[q]? = w7.heap[q]? := fun q hq _ => k8 q hq.2
          have R8 := (HR7.out.keep kk8).imp (fun q a _ => a.1)
          have L8 := (HL7.out.keep kk8).imp (fun q a _ => a.1)
          have F8 := (HF7.out.keep kk8).imp (fun q a _ => a.1)
          have RW8 := hrw.out.below B8
          rw [← hW8]
          have BB8 := Bx.mk B8; have HR8 := Bx.mk R8; have HL8' := Bx.mk L8; have HF8 := Bx.mk F8; have HRW8 := Bx.mk RW8; have HHW8 := Bx.mk HW8; have HOF8 := Bx.mk OF8
          have hne : wb ≠ fb := by omega
          have hne' : fb ≠ wb := by omega
          clear hW8 k8 kk8 B8 R8 L8 F8 RW8 HW8 OF8 HR7 HL7 HF7 H7 B7 CT RWX OFX v0 v1 v2 v3 v4 v5 e0 e1 e2 e3 e4 e5 ef0 ef1 ef2 ef3 ef4 ef5 BZx hwl hwv hbx HSL
          have a0 := cOf HOF8.out 0; have af0 := tOf HOF8.out 0; have b4 := cOf HHW8.out 4
          simp only [List.getElem?_toArray, List.getElem?_cons_zero, List.getElem?_cons_succ] at a0 b4
          go_upto_region 14 with fail
          -- region 13 is over
          obtain ⟨W9, hW9⟩ : ∃ W9, W9 = W8.setCell ⟨fb, 0, none⟩ (.slice f1 n f2) := ⟨_, rfl⟩
          have k9 : ∀ q, q ≠ fb → q < W8.heap.size → W9.heap[q]? = W8.heap[q]? := fun q hq _ => by rw [hW9]; exact hset hq
          have g9 : ∀ q, GD fb rb RR LL q → q < W8.heap.size → W9.heap[q]? = W8.heap[q]? := fun q hq hl => k9 q hq.1 hl
          have HR9 := Bx.mk (HR8.out.keep g9); have HL9 := Bx.mk (HL8'.out.keep g9)
          have HRW9 := Bx.mk ((HRW8.out.keep k9).setF (HF8.out.keep g9))
          have HOF9 : Bx (W9.heap[fb]? = some (.cells #[.slice f1 n f2, RR, LL, .bool g.whole] 62 (0, 0))) := ⟨by rw [hW9, heapSet' HOF8.out]; rfl⟩
          have HHW9 : Bx (W9.heap[wb]? = some (.cells #[.slice r1 8 r2, .slice p1 p2 p3, .int .i64 (s'.last : Int), .slice l1 l2 l3, .slice f1 n f2, .bool s'.known] 105 (0, 0))) := ⟨by rw [hW9, hset hne]; exact HHW8.out⟩
          have BZ9 : Bx (Below z.heap.size z W9) := ⟨by rw [hW9]; exact belSet (hbz.out.trans (BB8.out.mono hbz.out.size)) _ _ _ (by omega)⟩
          rw [← hW9]
          clear hW9 k9 g9 HR8 HL8' HF8 HRW8 HOF8 HHW8 BB8 a0 af0 b4
          have hf9 := ltOf HOF9.out
          have a1 := cOf HOF9.out 1; have af1 := tOf HOF9.out 1; have b0 := cOf HHW9.out 0
          simp only [List.getElem?_toArray, List.getElem?_cons_zero, List.getElem?_cons_succ] at a1 b0
          have N9 := Bx.mk (slNewR W9 #[.slice r1 8 r2] 53 1 1 rfl)
          have RA9 := Bx.mk (HRW9.out.rr.alloc (.cells #[.slice r1 8 r2] 53))
          have A9 := Bx.mk (aset W9 (.cells #[.slice r1 8 r2] 53))
          have hXR1 : XR.length ≤ 4 := by omega
          have hXL1 : XL.length ≤ 4 := by omega
          go_upto_region 15 with (at_builtin; refine wpList_append_own (w := W9.alloc (.cells #[.slice r1 8 r2] 53)) (fb + 1) (by simp; omega) rfl (.tmp 55) (.tmp 58) 59 53 1 24 (.slice none 0 0) (by rfl) Try.underlying59 info_vs rfl (by decide) (by decide) RR XR.length (XR.map (·.1)) (by rfl) RA9.out _ 1 (by decide) [.slice r1 8 r2] (by rfl) N9.out (by simp [Value.oneCell']) (by omega) ?_; intro g1 cap1 w10 rw10 bl10 st10 gg10; have R10 := Bx.mk rw10; have BL10 := Bx.mk bl10; have ST10 := Bx.mk st10; have GG10 := Bx.mk gg10; have F10 : w10.heap[fb]? = W9.heap[fb]? := (bl10.block fb (by omega)).trans (A9.out.block fb hf9); have a1 := keepC F10 a1; have af1 := tOf (F10.trans HOF9.out) 1; clear rw10 bl10 st10 gg10)
          have st10 : ∀ q, q < W9.heap.size → RR.ownBlock ≠ some q → w10.heap[q]? = W9.heap[q]? := fun q hq hn => (ST10.out q (by simp; omega) hn).trans (A9.out.block q hq)
          have gg10 : RR.ownBlock = some g1 ∨ W9.heap.size ≤ g1 := by
            rcases GG10.out with e | e
            · exact .inl e
            · right; rw [e]; simp
          have rw10 := HRW9.out.addR HR9.out R10.out st10 gg10
          rw [hXR] at rw10
          have L10 := HL9.out
          have l10 : MaskIn w10 (GD fb rb (.slice (some ⟨g1, 0, none⟩) (i + 1) cap1) LL) 6561 (.slice l1 l2 l3) s'.left := by
            refine ((HL9.out.imp (G' := fun q => GD fb rb RR LL q ∧ GD fb rb (.slice (some ⟨g1, 0, none⟩) (i + 1) cap1) LL q) (fun q a hl => ⟨a, a.1, a.2.1, ?_, a.2.2.2⟩)).keep (fun q a hl => st10 q hl a.1.2.2.1)).imp (fun q a _ => a.2)
            rw [own_slice]; intro e; obtain rfl : g1 = q := by injection e
            rcases gg10 with e | e
            · exact a.2.2.1 e
            · omega
          obtain ⟨W10, hW10⟩ : ∃ W10, W10 = w10.setCell ⟨fb, 1, none⟩ (.slice (some ⟨g1, 0, none⟩) (i + 1) cap1) := ⟨_, rfl⟩
          have k10 : ∀ q, q ≠ fb → q < w10.heap.size → W10.heap[q]? = w10.heap[q]? := fun q hq _ => by rw [hW10]; exact hset hq
          have HRW10 := Bx.mk (rw10.keep k10)
          have HL10 := Bx.mk (l10.keep (fun q a hl => k10 q a.1 hl))
          have HOF10 : Bx (W10.heap[fb]? = some (.cells #[.slice f1 n f2, .slice (some ⟨g1, 0, none⟩) (i + 1) cap1, LL, .bool g.whole] 62 (0, 0))) := ⟨by rw [hW10, heapSet' (F10.trans HOF9.out)]; rfl⟩
          have BZ10 : Bx (Below z.heap.size z W10) := ⟨by rw [hW10]; exact belSet (BZ9.out.trans ((A9.out.mono BZ9.out.size).trans (BL10.out.mono (by omega)))) _ _ _ (by omega)⟩
          have hw9 : wb < W9.heap.size := ltOf HHW9.out
          have hnr : RR.ownBlock ≠ some wb := fun e => by have := (rowLt hrw.out.rr wb e).2; have := HWB.out; omega
          have HHW10 : Bx (W10.heap[wb]? = some (.cells #[.slice r1 8 r2, .slice p1 p2 p3, .int .i64 (s'.last : Int), .slice l1 l2 l3, .slice f1 n f2, .bool s'.known] 105 (0, 0))) := ⟨by rw [hW10, hset hne, st10 wb hw9 hnr]; exact HHW9.out⟩
          rw [← hW10]
          clear hW10 k10 st10 gg10 rw10 l10 L10 F10 HR9 HL9 HRW9 HOF9 HHW9 BZ9 a1 af1 b0 R10 BL10 ST10 GG10 N9 RA9 A9 hf9 hw9
          have hf10 := ltOf HOF10.out
          have a2 := cOf HOF10.out 2; have af2 := tOf HOF10.out 2; have b3 := cOf HHW10.out 3
          simp only [List.getElem?_toArray, List.getElem?_cons_zero, List.getElem?_cons_succ] at a2 b3
          have N10 := Bx.mk (slNewR W10 #[.slice l1 l2 l3] 64 1 1 rfl)
          have RA10 := Bx.mk (HRW10.out.ll.alloc (.cells #[.slice l1 l2 l3] 64))
          have A10 := Bx.mk (aset W10 (.cells #[.slice l1 l2 l3] 64))
          go_upto_region 16 with (at_builtin; refine wpList_append_own (w := W10.alloc (.cells #[.slice l1 l2 l3] 64)) (fb + 1) (by simp; omega) rfl (.tmp 62) (.tmp 65) 60 64 1 24 (.slice none 0 0) (by rfl) Try.underlying60 info_is rfl (by decide) (by decide) LL XL.length (XL.map (·.1)) (by rfl) RA10.out _ 1 (by decide) [.slice l1 l2 l3] (by rfl) N10.out (by simp [Value.oneCell']) (by omega) ?_; intro g2 cap2 w11 rw11 bl11 st11 gg11; have R11 := Bx.mk rw11; have BL11 := Bx.mk bl11; have ST11 := Bx.mk st11; have GG11 := Bx.mk gg11; have F11 : w11.heap[fb]? = W10.heap[fb]? := (bl11.block fb (by omega)).trans (A10.out.block fb hf10); have a2 := keepC F11 a2; have af2 := tOf (F11.trans HOF10.out) 2; clear rw11 bl11 st11 gg11)
          have st11 : ∀ q, q < W10.heap.size → LL.ownBlock ≠ some q → w11.heap[q]? = W10.heap[q]? := fun q hq hn => (ST11.out q (by simp; omega) hn).trans (A10.out.block q hq)
          have gg11 : LL.ownBlock = some g2 ∨ W10.heap.size ≤ g2 := by
            rcases GG11.out with e | e
            · exact .inl e
            · right; rw [e]; simp
          have rw11 := HRW10.out.addL HL10.out R11.out st11 gg11
          rw [hXL] at rw11
          obtain ⟨W11, hW11⟩ : ∃ W11, W11 = w11.setCell ⟨fb, 2, none⟩ (.slice (some ⟨g2, 0, none⟩) (i + 1) cap2) := ⟨_, rfl⟩
          have k11 : ∀ q, q ≠ fb → q < w11.heap.size → W11.heap[q]? = w11.heap[q]? := fun q hq _ => by rw [hW11]; exact hset hq
          have HRW11 := Bx.mk (rw11.keep k11)
          have HOF11 : Bx (W11.heap[fb]? = some (.cells #[.slice f1 n f2, .slice (some ⟨g1, 0, none⟩) (i + 1) cap1, .slice (some ⟨g2, 0, none⟩) (i + 1) cap2, .bool g.whole] 62 (0, 0))) := ⟨by rw [hW11, heapSet' (F11.trans HOF10.out)]; rfl⟩
          have BZ11 : Bx (Below z.heap.size z W11) := ⟨by rw [hW11]; exact belSet (BZ10.out.trans ((A10.out.mono BZ10.out.size).trans (BL11.out.mono (by omega)))) _ _ _ (by omega)⟩
          have hnl : LL.ownBlock ≠ some wb := fun e => by have := (rowLt hrw.out.ll wb e).2; have := HWB.out; omega
          have HHW11 : Bx (W11.heap[wb]? = some (.cells #[.slice r1 8 r2, .slice p1 p2 p3, .int .i64 (s'.last : Int), .slice l1 l2 l3, .slice f1 n f2, .bool s'.known] 105 (0, 0))) := ⟨by rw [hW11, hset hne, st11 wb (ltOf HHW10.out) hnl]; exact HHW10.out⟩
          rw [← hW11]
          clear hW11 k11 st11 gg11 rw11 F11 HL10 HRW10 HOF10 HHW10 BZ10 a2 af2 b3 R11 BL11 ST11 GG11 N10 RA10 A10 hf10
          obtain ⟨gw, hgw⟩ : ∃ gw, gw = g.whole := ⟨_, rfl⟩
          obtain ⟨sk, hsk⟩ : ∃ sk, sk = s'.known := ⟨_, rfl⟩
          rw [← hgw] at HOF11
          rw [← hsk] at HHW11
          have HGW := Bx.mk hgw; have HSK := Bx.mk hsk
          clear hgw hsk hof
          have a3 := cOf HOF11.out 3; have af3 := tOf HOF11.out 3; have b5 := cOf HHW11.out 5
          simp only [List.getElem?_toArray, List.getElem?_cons_zero, List.getElem?_cons_succ] at a3 b5
          go_cut [27] (fun iv wx => iv = .int .i64 (i : Int) ∧ Bx (wx = W11.setCell ⟨fb, 3, none⟩ (.bool (gw && sk))))
          case first =>
            cases gw
            · go_wp2_with fail
              go_meet
              exact ⟨rfl, ⟨rfl⟩⟩
            · go_wp2_with fail
              go_meet
              exact ⟨rfl, ⟨by rw [Bool.true_and]⟩⟩
          case rest =>
          obtain ⟨rfl, hwx⟩ := hcut
          have HOF12 : Bx (wc.heap[fb]? = some (.cells #[.slice f1 n f2, .slice (some ⟨g1, 0, none⟩) (i + 1) cap1, .slice (some ⟨g2, 0, none⟩) (i + 1) cap2, .bool (gw && sk)] 62 (0, 0))) := ⟨by rw [hwx.out, heapSet' HOF11.out]; rfl⟩
          have HRW12 := Bx.mk (HRW11.out.keep (W' := wc) (fun q hq _ => by rw [hwx.out]; exact hset hq))
          have BZ12 : Bx (Below z.heap.size z wc) := ⟨by rw [hwx.out]; exact belSet BZ11.out _ _ _ (by omega)⟩
          have b0 : wc.cell? ⟨wb, 0, none⟩ = some (.slice r1 8 r2) := by rw [cOf (by rw [hwx.out, hset hne]; exact HHW11.out)]; rfl
          clear hwx HOF11 HRW11 BZ11 HHW11 a3 af3 b5
          go_wp2_with fail
          clear b0
          go_loopw [78] (fun q wx => ∃ (j : Nat) (b : Bool), q = .int .i64 (j : Int) ∧ j ≤ 8 ∧ Bx (b = ((gw && sk) && (s'.regs.take j).all (·.k))) ∧ Bx (wx.heap[fb]? = some (.cells #[.slice f1 n f2, .slice (some ⟨g1, 0, none⟩) (i + 1) cap1, .slice (some ⟨g2, 0, none⟩) (i + 1) cap2, .bool b] 62 (0, 0))) ∧ Bx (RwR wx fb rb (.slice (some ⟨g1, 0, none⟩) (i + 1) cap1) (.slice (some ⟨g2, 0, none⟩) (i + 1) cap2) (.slice f1 n f2) (XR ++ [(.slice r1 8 r2, s'.regs)]) (XL ++ [(.slice l1 l2 l3, s'.left)]) s'.facts) ∧ Bx (Below z.heap.size z wx)) (fun q _ => 8 - (intOf q).toNat)
          case atStart => exact ⟨0, _, rfl, by omega, ⟨by simp⟩, HOF12, HRW12, BZ12⟩
          case round =>
            clear HOF12 HRW12 BZ12
            obtain ⟨j, b, rfl, hj8, hb, hof, hrw', hbz'⟩ := hrel
            by_cases hj : j < 8
            · have j9 : (j : Int) < 8 := by omega
              obtain ⟨d, hd⟩ : ∃ d, s'.regs[j]? = some d := ⟨_, List.getElem?_eq_getElem (by rw [H8'.out]; exact hj)⟩
              obtain ⟨rb', ro', rcap, sv, hrv, hrl, hrm, r0, r1', r2'⟩ := (hrw'.out.ra _ (List.mem_append_right _ (List.mem_singleton.2 rfl))).at hd
              obtain ⟨rfl, hq8, rfl⟩ := Value.slice.inj hrv
              clear hq8
              obtain ⟨sp, sn, sc, rfl⟩ := hrm.slice
              have b3 := cOf hof.out 3; have bf3 := tOf hof.out 3
              simp only [List.getElem?_toArray, List.getElem?_cons_zero, List.getElem?_cons_succ] at b3
              have hfl := ltOf hof.out
              have HBT : Bx ((b && d.k) = ((gw && sk) && (s'.regs.take (j + 1)).all (·.k))) := ⟨by rw [List.take_add_one, hd, List.all_append, hb.out]; simp [Bool.and_assoc]⟩
              clear hrv hrm hd
              have FIN : ∀ (W : World) (bb : Bool), Bx (W = (wr.setCell ⟨fb, 3, none⟩ (.bool bb)).alloc (.cells #[.bool d.k, .int .u64 (d.v : Int), .slice sp sn sc] 70)) → Bx (W.heap[fb]? = some (.cells #[.slice f1 n f2, .slice (some ⟨g1, 0, none⟩) (i + 1) cap1, .slice (some ⟨g2, 0, none⟩) (i + 1) cap2, .bool bb] 62 (0, 0))) ∧ Bx (RwR W fb rb (.slice (some ⟨g1, 0, none⟩) (i + 1) cap1) (.slice (some ⟨g2, 0, none⟩) (i + 1) cap2) (.slice f1 n f2) (XR ++ [(.slice (some ⟨rb', ro', none⟩) 8 r2, s'.regs)]) (XL ++ [(.slice l1 l2 l3, s'.left)]) s'.facts) ∧ Bx (Below z.heap.size z W) := fun W bb hW => by
                refine ⟨⟨?_⟩, ⟨?_⟩, ⟨?_⟩⟩
                · rw [hW.out]
                  exact ((aset _ _).block _ (by have e : (wr.setCell ⟨fb, 3, none⟩ (.bool bb)).heap[fb]? = _ := heapSet' hof.out 3 (.bool bb); exact ltOf e)).trans ((heapSet' hof.out 3 (.bool bb)).trans rfl)
                · exact (hrw'.out.keep (W' := wr.setCell ⟨fb, 3, none⟩ (.bool bb)) (fun q hq _ => hset hq)).below (by rw [hW.out]; exact aset _ _)
                · rw [hW.out]
                  have b1 : Below z.heap.size z (wr.setCell ⟨fb, 3, none⟩ (.bool bb)) := belSet hbz'.out _ _ _ (by omega)
                  exact b1.trans ((aset _ _).mono b1.size)
              cases b
              · go_wp2_with fail
                go_roundw
                case rel =>
                  obtain ⟨q1, q2, q3⟩ := FIN _ false ⟨rfl⟩
                  exact ⟨j + 1, false, by go_num, by omega, HBT, q1, q2, q3⟩
                case measure => simp [intOf]; omega
              · go_wp2_with fail
                go_roundw
                case rel =>
                  obtain ⟨q1, q2, q3⟩ := FIN _ d.k ⟨rfl⟩
                  exact ⟨j + 1, d.k, by go_num, by omega, HBT, q1, q2, q3⟩
                case measure => simp [intOf]; omega
            · have hj2 : j = 8 := by omega
              have j9' : ((j : Int) < (8 : Int)) = False := by simp; omega
              have HBF : Bx (b = ((gw && sk) && s'.regs.all (·.k))) := ⟨by rw [hb.out, List.take_of_length_le (by rw [H8'.out]; omega)]⟩
              clear hb hj2 hj hj8
              go_wp2_with fail
              go_loopw [9, 92] (fun kv q wx => ∃ (j kj : Nat), kv = .int .i64 (kj : Int) ∧ q = .int .i64 (j : Int) ∧ j ≤ l.length ∧ Bx (kj = k + memL (l.take j)) ∧ Bx (wx.heap[fb]? = some (.cells #[.slice f1 n f2, .slice (some ⟨g1, 0, none⟩) (i + 1) cap1, .slice (some ⟨g2, 0, none⟩) (i + 1) cap2, .bool b] 62 (0, 0))) ∧ Bx (RwR wx fb rb (.slice (some ⟨g1, 0, none⟩) (i + 1) cap1) (.slice (some ⟨g2, 0, none⟩) (i + 1) cap2) (.slice f1 n f2) (XR ++ [(.slice r1 8 r2, s'.regs)]) (XL ++ [(.slice l1 l2 l3, s'.left)]) s'.facts) ∧ Bx (Below z.heap.size z wx)) (fun _ q _ => l.length - (intOf q).toNat)
              case atStart => exact ⟨0, k, rfl, rfl, by omega, ⟨by simp [memL]⟩, hof, hrw', hbz'⟩
              case round =>
                clear hof hrw' hbz'
                obtain ⟨j, kj, rfl, rfl, hjl, HKJ, hof, hrw', hbz'⟩ := hrel
                by_cases hj : j < l.length
                · obtain ⟨x, hxj⟩ : ∃ x, l[j]? = some x := ⟨_, List.getElem?_eq_getElem hj⟩
                  obtain ⟨ib, io, ic', hiv, hil, hicl⟩ := HSLZ.out.at (by omega)
                  obtain ⟨rfl, _, rfl⟩ := Value.slice.inj hiv
                  obtain ⟨y0, y1, y2, y3, y4, y5, y6, y7, y8, y9, y10, y11, y12⟩ : InsAt wr ib (io + j * 13) x := (SlIn.ins hicl hxj).below hbz'.out
                  have CM := Bx.mk (fun W => refMemory_any x.op W)
                  have AA := Bx.mk (aset wr (.cells #[.int .i64 x.op, .int .i64 x.rd, .int .i64 x.loc, .bool x.ar, .int .u64 x.an, .bool x.br, .int .u64 x.bn, .bool x.acq, .bool x.rel, .int .i64 x.dep, .int .i64 x.pred, .int .i64 x.succ, .int .i64 x.skip] 50))
                  have j9'' : (j : Int) < (l.length : Int) := by omega
                  have hm : memL (l.take (j + 1)) = memL (l.take j) + (if isMem x.op then 1 else 0) := by
                    rw [List.take_add_one, hxj]
                    unfold memL
                    rw [List.filter_append, List.length_append]
                    show _ + (([x].filter fun x => isMem x.op).length) = _
                    cases hM : isMem x.op <;> simp [hM]
                  have HM := Bx.mk hm
                  have hkj : kj ≤ 1000000 := by
                    have h1 : memL (l.take j) ≤ (l.take j).length := List.length_filter_le _ _
                    have h2 : (l.take j).length ≤ 8 := by rw [List.length_take]; omega
                    have h3 : k ≤ n := by omega
                    have h4 := HKJ.out
                    omega
                  have hof2 := Bx.mk ((AA.out.block _ (ltOf hof.out)).trans hof.out)
                  have hrw2 := Bx.mk (hrw'.out.below AA.out)
                  have hbz2 := Bx.mk (hbz'.out.trans (AA.out.mono hbz'.out.size))
                  clear hiv hicl hxj hm hof hrw' hbz'
                  cases hM : isMem x.op with
                  | false =>
                    rw [hM] at CM
                    go_wp2_with (go_at_call 22; ((with_reducible refine (CM.out _).mono ?_); rintro e w5 ⟨rfl, rfl⟩))
                    go_roundw
                    case rel => exact ⟨j + 1, kj, rfl, by go_num, by omega, ⟨by rw [HM.out, hM, HKJ.out]; simp⟩, hof2, hrw2, hbz2⟩
                    case measure => simp [intOf]; omega
                  | true =>
                    rw [hM] at CM
                    go_wp2_with (go_at_call 22; ((with_reducible refine (CM.out _).mono ?_); rintro e w5 ⟨rfl, rfl⟩))
                    go_roundw
                    case rel => exact ⟨j + 1, kj + 1, by go_num, by go_num, by omega, ⟨by rw [HM.out, hM, HKJ.out]; simp; omega⟩, hof2, hrw2, hbz2⟩
                    case measure => simp [intOf]; omega
                · obtain rfl : j = l.length := by omega
                  have j9'' : ((l.length : Int) < (l.length : Int)) = False := by simp
                  have hkl := HKJ.out
                  rw [List.take_length] at hkl
                  have HKL := Bx.mk hkl
                  clear hkl HKJ
                  go_wp2_with fail
                  go_roundw
                  case rel =>
                    have e1 : t.thr.take (i + 1) = t.thr.take i ++ [l] := by rw [List.take_add_one, HLK.out]; rfl
                    have e2 : thrsR c (opsX 0 t.thr) (t.thr.take (i + 1)) 0 ⟨List.replicate n fx0, [], [], true⟩ = endR g s' := by
                      rw [e1, thrsR_snoc, ← hg.out, Nat.zero_add, ← hk.out, ← HS'.out]
                    refine ⟨i + 1, kj, endR g s', _, _, _, XR ++ [(.slice r1 8 r2, s'.regs)], XL ++ [(.slice l1 l2 l3, s'.left)], rfl, by go_num, by omega, by simp [hXR], by simp [hXL], ⟨by rw [HKL.out, memT_take HLK.out, hk.out]⟩, ⟨e2.symm⟩, ⟨?_⟩, ⟨?_⟩, ⟨?_⟩, hrw', hbz'⟩
                    · rw [List.map_append, hgR.out]; rfl
                    · rw [List.map_append, hgL.out]; rfl
                    · rw [hof.out, HBF.out, HGW.out, HSK.out]; rfl
                  case measure => simp [intOf]; omega
    · obtain rfl : i = tn := by omega
      have i9 : ((i : Int) < (i : Int)) = False := by simp
      have hG : g = ofR c t.thr := by
        rw [hg.out, TN.out, List.take_length]
        unfold ofR
        rw [HN.out]
      subst hG
      obtain ⟨fq, fc, hFe⟩ := hrw.out.fa.slice
      subst hFe
      obtain ⟨q1, q2, hRe⟩ := (rowSlN hrw.out.rr).slice
      subst hRe
      obtain ⟨q3, q4, hLe⟩ := (rowSlN hrw.out.ll).slice
      subst hLe
      obtain ⟨fl, hfl⟩ : ∃ fl, fl = (ofR c t.thr).facts.length := ⟨_, rfl⟩
      obtain ⟨xr, hxr⟩ : ∃ xr, xr = XR.length := ⟨_, rfl⟩
      obtain ⟨xl, hxl⟩ : ∃ xl, xl = XL.length := ⟨_, rfl⟩
      rw [← hfl, ← hxr, ← hxl] at hof hrw
      have v0 := cOf hof.out 0; have v1 := cOf hof.out 1; have v2 := cOf hof.out 2; have v3 := cOf hof.out 3
      have zz := (hbz.out.block _ (ltOf Z1.out)).trans Z1.out
      rw [← HRB.out] at zz
      have r0 := cOf zz 0; have r1 := cOf zz 1; have r2 := cOf zz 2; have r3 := cOf zz 3
      have rf0 := tOf zz 0; have rf1 := tOf zz 1; have rf2 := tOf zz 2; have rf3 := tOf zz 3
      simp only [List.getElem?_toArray, List.getElem?_cons_zero, List.getElem?_cons_succ] at v0 v1 v2 v3 r0 r1 r2 r3
      have hrl := ltOf zz
      clear zz hfl hxr hxl hXR hXL
      go_wp2_with fail
      refine bodyPost_ret (v := .agg #[.slice fq fl fc, .slice q1 xr q2, .slice q3 xl q4, .bool (ofR c t.thr).whole]) (by simp [results, go_sem, r0, r1, r2, r3]) rfl ?_
      have kF : ∀ q, GD fb rb (.slice q1 xr q2) (.slice q3 xl q4) q → q < Wa.heap.size → ((((Wa.setCell ⟨rb, 0, none⟩ (.slice fq fl fc)).setCell ⟨rb, 1, none⟩ (.slice q1 xr q2)).setCell ⟨rb, 2, none⟩ (.slice q3 xl q4)).setCell ⟨rb, 3, none⟩ (.bool (ofR c t.thr).whole)).heap[q]? = Wa.heap[q]? := fun q hq _ => by
        rw [hset hq.2.1, hset hq.2.1, hset hq.2.1, hset hq.2.1]
      have kR : ∀ q, fb + 1 ≤ q → ((((Wa.setCell ⟨rb, 0, none⟩ (.slice fq fl fc)).setCell ⟨rb, 1, none⟩ (.slice q1 xr q2)).setCell ⟨rb, 2, none⟩ (.slice q3 xl q4)).setCell ⟨rb, 3, none⟩ (.bool (ofR c t.thr).whole)).heap[q]? = Wa.heap[q]? := fun q hq => by
        have h : q ≠ rb := by omega
        rw [hset h, hset h, hset h, hset h]
      refine ⟨_, _, _, XR, XL, fb, rb, rfl, hgR.out, hgL.out, ⟨rowKeep hrw.out.rr fun q e => kR q (rowLt hrw.out.rr q e).1, rowKeep hrw.out.ll fun q e => kR q (rowLt hrw.out.ll q e).1, hrw.out.ne, fun y hy => (hrw.out.ra y hy).keep kF, fun y hy => (hrw.out.la y hy).keep kF, hrw.out.fa.keep kF⟩, ?_⟩
      have hwr : w.heap.size ≤ rb := by have := HRB.out; omega
      exact belSet (belSet (belSet (belSet (BZ.out.trans (hbz.out.mono BZ.out.size)) _ _ _ hwr) _ _ _ hwr) _ _ _ hwr) _ _ _ hwr
end Go.Proofs.Ytccjekgbhablpaa
