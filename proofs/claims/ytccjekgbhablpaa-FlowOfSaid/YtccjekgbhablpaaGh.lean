/- ReV, ReW, in one text. -/
import Derived.Test.YtccjekgbhablpaaGg
import Derived.Test.YtccjekgbhablpaaFloU
namespace Go.Proofs.Ytccjekgbhablpaa
set_option maxRecDepth 100000
open Go.RowKit

theorem refReckR_any (op : Int) (h1 : 2 ≤ op) (h2 : op ≤ 8) (a b : Nat) (ha : a < 18446744073709551616) (hb : b < 18446744073709551616) (w : World) :
    Calls Try.prog 49 #[.int .i64 op, .int .u64 (a : Int), .int .u64 (b : Int)] w fun e w' => e = .returned (.int .u64 ((reckM op a b : Nat) : Int)) ∧ Below w.heap.size w w' := by
  have h : op = 2 ∨ op = 3 ∨ op = 4 ∨ op = 5 ∨ op = 6 ∨ op = 7 ∨ op = 8 := by omega
  rcases h with rfl | rfl | rfl | rfl | rfl | rfl | rfl
  · exact refReckon_add a b ha hb w
  · exact refReckon_sub a b ha hb w
  · exact refReckon_xor a b ha hb w
  · exact refReckon_and a b ha hb w
  · exact refReckon_or a b ha hb w
  · exact refReckon_shl a b ha hb w
  · exact refReckon_shr a b ha hb w
def V64 (L : List Cn) : Prop := ∀ c ∈ L, c.v < 18446744073709551616
theorem V64.set {L : List Cn} (h : V64 L) (j : Nat) {c : Cn} (hc : c.v < 18446744073709551616) : V64 (L.set j c) := fun d hd => by
  rcases List.mem_or_eq_of_mem_set hd with h' | rfl
  · exact h d h'
  · exact hc
theorem V64.arg {L : List Cn} (h : V64 L) (r : Bool) {n : Nat} (hn : n < 18446744073709551616) : (argL L r n).v < 18446744073709551616 := by
  unfold argL argM
  cases r
  · exact hn
  · rw [if_pos rfl]
    unfold cnAt
    rw [List.getD_eq_getElem?_getD]
    show ((L[n]?).getD _).v < _
    cases hc : L[n]? with
    | none => simp
    | some c => exact h c (List.mem_of_getElem? hc)
theorem V64.comp {s : RefSt} (h : V64 s.regs) {x : Ins} (hx : InsN x) : V64 (compR s x).regs := by
  have ha := h.arg x.ar (n := x.an.toNat) (by have := hx.an; omega)
  have hb := h.arg x.br (n := x.bn.toNat) (by have := hx.bn; omega)
  unfold compR
  split
  · refine h.set _ ?_
    show (if _ then _ else 0) < _
    split
    · exact ha
    · omega
  · refine h.set _ ?_
    show (if _ then _ else 0) < _
    split
    · exact reck_ok _ ha hb
    · omega
theorem V64.mem {os : List (Nat × Nat × Ins)} {s : RefSt} (h : V64 s.regs) (x : Ins) (k : Nat) (rk : Bool) {rv : Nat} (hrv : rv < 18446744073709551616) (wk : Bool) : V64 (memR os s x k rk rv wk).regs := by
  have e1 : V64 (mS1 s x rk rv k).regs := by
    unfold mS1
    split
    · refine h.set _ ?_
      show (if _ then _ else 0) < _
      split
      · exact hrv
      · omega
    · exact h
  have e2 : V64 (mS2 s x rk rv k wk).regs := by
    unfold mS2
    split
    · refine e1.set _ ?_
      cases wk
      · show (1 : Nat) < _; omega
      · show (0 : Nat) < _; omega
    · exact e1
  show V64 (mS3 s x rk rv k wk).regs
  unfold mS3
  split
  · exact e2
  · exact e2
theorem len_comp (s : RefSt) (x : Ins) : (compR s x).regs.length = s.regs.length ∧ (compR s x).last = s.last ∧ (compR s x).path = s.path ∧ (compR s x).left = s.left ∧ (compR s x).facts = s.facts ∧ (compR s x).known = s.known := by
  unfold compR refSet
  split
  · exact ⟨by simp, rfl, rfl, rfl, rfl, rfl⟩
  · exact ⟨by simp, rfl, rfl, rfl, rfl, rfl⟩
theorem len_mem (os : List (Nat × Nat × Ins)) (s : RefSt) (x : Ins) (k : Nat) (rk : Bool) (rv : Nat) (wk : Bool) : (memR os s x k rk rv wk).regs.length = s.regs.length ∧ (memR os s x k rk rv wk).path = s.path ∧ (memR os s x k rk rv wk).left = s.left ∧ (memR os s x k rk rv wk).facts.length = s.facts.length ∧ ((memR os s x k rk rv wk).last = s.last ∨ (memR os s x k rk rv wk).last = k + 1) := by
  have e1 : (mS1 s x rk rv k).regs.length = s.regs.length ∧ (mS1 s x rk rv k).path = s.path ∧ (mS1 s x rk rv k).left = s.left ∧ (mS1 s x rk rv k).last = s.last := by
    unfold mS1; split <;> simp
  have e2 : (mS2 s x rk rv k wk).regs.length = s.regs.length ∧ (mS2 s x rk rv k wk).path = s.path ∧ (mS2 s x rk rv k wk).left = s.left ∧ (mS2 s x rk rv k wk).last = s.last := by
    unfold mS2; split
    · exact ⟨by simp [e1.1], e1.2.1, e1.2.2.1, e1.2.2.2⟩
    · exact e1
  have e3 : (mS3 s x rk rv k wk).regs.length = s.regs.length ∧ (mS3 s x rk rv k wk).path = s.path ∧ (mS3 s x rk rv k wk).left = s.left ∧ ((mS3 s x rk rv k wk).last = s.last ∨ (mS3 s x rk rv k wk).last = k + 1) := by
    unfold mS3; split
    · exact ⟨e2.1, e2.2.1, e2.2.2.1, .inr rfl⟩
    · exact ⟨e2.1, e2.2.1, e2.2.2.1, .inl e2.2.2.2⟩
  exact ⟨e3.1, e3.2.1, e3.2.2.1, by show (s.facts.set _ _).length = _; simp, e3.2.2.2⟩
/-- behind a store of the whole walk -/
theorem ThrH.store6 {w W : World} {G : Nat → Prop} {b fb : Nat} {s s' : RefSt} {R P L F R' P' L' F' : Value} (h : ThrH w W (FarT w.heap.size G) b fb s R P L F)
    (hr : RegM W (FarT w.heap.size G) b R' s'.regs) (hp : MaskIn W (FarT w.heap.size G) b P' s'.path) (hl : MaskIn W (FarT w.heap.size G) b L' s'.left) (hF : FactM W (FarT w.heap.size G) fb F' s'.facts) :
    ThrH w ((((((W.setCell ⟨w.heap.size, 0, none⟩ R').setCell ⟨w.heap.size, 1, none⟩ P').setCell ⟨w.heap.size, 2, none⟩ (.int .i64 (s'.last : Int))).setCell ⟨w.heap.size, 3, none⟩ L').setCell ⟨w.heap.size, 4, none⟩ F').setCell ⟨w.heap.size, 5, none⟩ (.bool s'.known)) (FarT w.heap.size G) b fb s' R' P' L' F' :=
  h.setW (fun q hq => (hset hq).trans ((hset hq).trans ((hset hq).trans ((hset hq).trans ((hset hq).trans (hset hq)))))) (by rw [heapSet' (heapSet' (heapSet' (heapSet' (heapSet' (heapSet' h.b0 _ _) _ _) _ _) _ _) _ _) _ _]; rfl) hr hp hl hF (belSet (belSet (belSet (belSet (belSet (belSet h.bel _ _ _ (Nat.le_refl _)) _ _ _ (Nat.le_refl _)) _ _ _ (Nat.le_refl _)) _ _ _ (Nat.le_refl _)) _ _ _ (Nat.le_refl _)) _ _ _ (Nat.le_refl _))
theorem ThrH.drew {w W : World} {G : Nat → Prop} {b fb : Nat} {s : RefSt} {R P L F : Value} (h : ThrH w W G b fb s R P L F) : ThrH w W.drew G b fb s R P L F := h.below ⟨rfl, rfl, rfl, Nat.le_refl _, fun _ _ => rfl⟩
theorem rdV_lt {c : CtxM} (hc : CtxOk c) (k : Nat) : rdV c k < 18446744073709551616 := by
  unfold rdV
  rw [List.getD_eq_getElem?_getD]
  cases h : c.reads[k]? with
  | none => simp
  | some p => exact hc.rv p (List.mem_of_getElem? h)
end Go.Proofs.Ytccjekgbhablpaa
namespace Go.Proofs.Ytccjekgbhablpaa
set_option maxRecDepth 100000
open Go.RowKit

/-- both Args, in whatever order: what is there so far -/
structure TwoR (E W : World) (G : Nat → Prop) (d : Nat) (R : Nat → Bool) (v10 v14 v4 v5 : Value) (b4 b5 : Nat) (a b : Cn) : Prop where
  bel : Below E.heap.size E W
  ha : R 3 = false → ∃ p n c, v10 = .agg #[.bool a.k, .int .u64 (a.v : Int), .slice p n c] ∧ MaskIn W G d (.slice p n c) a.f
  hb : R 7 = false → ∃ p n c, v14 = .agg #[.bool b.k, .int .u64 (b.v : Int), .slice p n c] ∧ MaskIn W G d (.slice p n c) b.f
  h4 : R 8 = false → v4 = .pointer (some ⟨b4, 0, none⟩) ∧ E.heap.size ≤ b4 ∧ W.heap[b4]? = some (.cells #[.bool false, .int .u64 0, .slice none 0 0] 70 (0, 0))
  h5 : R 9 = false → v5 = .pointer (some ⟨b5, 0, none⟩) ∧ E.heap.size ≤ b5 ∧ W.heap[b5]? = some (.cells #[.bool false, .int .u64 0, .slice none 0 0] 70 (0, 0))
  h45 : R 8 = false → R 9 = false → b4 ≠ b5
theorem TwoR.setA {E W W2 : World} {G : Nat → Prop} {d : Nat} {R : Nat → Bool} {v10 v14 v4 v5 : Value} {b4 b5 : Nat} {a b : Cn} (h : TwoR E W G d R v10 v14 v4 v5 b4 b5 a b) (hb : Below W.heap.size W W2) (_hR : R 3 = true) {p : Option Addr} {n c : Nat} (hm : MaskIn W2 G d (.slice p n c) a.f) :
    TwoR E W2 G d (fun j => R j && j != 3) (.agg #[.bool a.k, .int .u64 (a.v : Int), .slice p n c]) v14 v4 v5 b4 b5 a b :=
  ⟨Go.Proofs.Ytccjekgbhablpaa.bel h.bel hb, fun _ => ⟨p, n, c, rfl, hm⟩, fun e => by obtain ⟨p, n, c, x, y⟩ := h.hb (by simpa using e); exact ⟨p, n, c, x, y.below hb⟩, fun e => by obtain ⟨x, y, z⟩ := h.h4 (by simpa using e); exact ⟨x, y, (hb.block _ (ltOf z)).trans z⟩, fun e => by obtain ⟨x, y, z⟩ := h.h5 (by simpa using e); exact ⟨x, y, (hb.block _ (ltOf z)).trans z⟩, fun e f => h.h45 (by simpa using e) (by simpa using f)⟩
theorem TwoR.setB {E W W2 : World} {G : Nat → Prop} {d : Nat} {R : Nat → Bool} {v10 v14 v4 v5 : Value} {b4 b5 : Nat} {a b : Cn} (h : TwoR E W G d R v10 v14 v4 v5 b4 b5 a b) (hb : Below W.heap.size W W2) (_hR : R 7 = true) {p : Option Addr} {n c : Nat} (hm : MaskIn W2 G d (.slice p n c) b.f) :
    TwoR E W2 G d (fun j => R j && j != 7) v10 (.agg #[.bool b.k, .int .u64 (b.v : Int), .slice p n c]) v4 v5 b4 b5 a b :=
  ⟨Go.Proofs.Ytccjekgbhablpaa.bel h.bel hb, fun e => by obtain ⟨p, n, c, x, y⟩ := h.ha (by simpa using e); exact ⟨p, n, c, x, y.below hb⟩, fun _ => ⟨p, n, c, rfl, hm⟩, fun e => by obtain ⟨x, y, z⟩ := h.h4 (by simpa using e); exact ⟨x, y, (hb.block _ (ltOf z)).trans z⟩, fun e => by obtain ⟨x, y, z⟩ := h.h5 (by simpa using e); exact ⟨x, y, (hb.block _ (ltOf z)).trans z⟩, fun e f => h.h45 (by simpa using e) (by simpa using f)⟩
theorem TwoR.set4 {E W : World} {G : Nat → Prop} {d : Nat} {R : Nat → Bool} {v10 v14 v4 v5 : Value} {b4 b5 : Nat} {a b : Cn} (h : TwoR E W G d R v10 v14 v4 v5 b4 b5 a b) (_hR : R 8 = true) :
    TwoR E (W.alloc (.cells #[.bool false, .int .u64 0, .slice none 0 0] 70)) G d (fun j => R j && j != 8) v10 v14 (.pointer (some ⟨W.heap.size, 0, none⟩)) v5 W.heap.size b5 a b :=
  ⟨Go.Proofs.Ytccjekgbhablpaa.bel h.bel (aset W _), fun e => by obtain ⟨p, n, c, x, y⟩ := h.ha (by simpa using e); exact ⟨p, n, c, x, y.below (aset W _)⟩, fun e => by obtain ⟨p, n, c, x, y⟩ := h.hb (by simpa using e); exact ⟨p, n, c, x, y.below (aset W _)⟩, fun _ => ⟨rfl, h.bel.size, heap_alloc_new _ _⟩, fun e => by obtain ⟨x, y, z⟩ := h.h5 (by simpa using e); exact ⟨x, y, ((aset W _).block _ (ltOf z)).trans z⟩, fun _ f => by obtain ⟨x, y, z⟩ := h.h5 (by simpa using f); have := ltOf z; omega⟩
theorem TwoR.set5 {E W : World} {G : Nat → Prop} {d : Nat} {R : Nat → Bool} {v10 v14 v4 v5 : Value} {b4 b5 : Nat} {a b : Cn} (h : TwoR E W G d R v10 v14 v4 v5 b4 b5 a b) (_hR : R 9 = true) :
    TwoR E (W.alloc (.cells #[.bool false, .int .u64 0, .slice none 0 0] 70)) G d (fun j => R j && j != 9) v10 v14 v4 (.pointer (some ⟨W.heap.size, 0, none⟩)) b4 W.heap.size a b :=
  ⟨Go.Proofs.Ytccjekgbhablpaa.bel h.bel (aset W _), fun e => by obtain ⟨p, n, c, x, y⟩ := h.ha (by simpa using e); exact ⟨p, n, c, x, y.below (aset W _)⟩, fun e => by obtain ⟨p, n, c, x, y⟩ := h.hb (by simpa using e); exact ⟨p, n, c, x, y.below (aset W _)⟩, fun e => by obtain ⟨x, y, z⟩ := h.h4 (by simpa using e); exact ⟨x, y, ((aset W _).block _ (ltOf z)).trans z⟩, fun _ => ⟨rfl, h.bel.size, heap_alloc_new _ _⟩, fun f _ => by obtain ⟨x, y, z⟩ := h.h4 (by simpa using f); have := ltOf z; omega⟩
theorem hset6 {w : World} {a b : Nat} {v0 v1 v2 v3 v4 v5 : Value} (h : b ≠ a) : ((((((w.setCell ⟨a, 0, none⟩ v0).setCell ⟨a, 1, none⟩ v1).setCell ⟨a, 2, none⟩ v2).setCell ⟨a, 3, none⟩ v3).setCell ⟨a, 4, none⟩ v4).setCell ⟨a, 5, none⟩ v5).heap[b]? = w.heap[b]? := by
  rw [hset h, hset h, hset h, hset h, hset h, hset h]
theorem all26 {W : World} {xb b4 b5 : Nat} {C : Array Value} {T T4 T5 : TypeId} {op rd : Int} {ak bk : Bool} {av bv : Nat} {sa sb2 : Value} (hx : W.heap[xb]? = some (.cells C T (0, 0))) (h0 : C[0]? = some (.int .i64 op)) (h1 : C[1]? = some (.int .i64 rd)) (h4 : W.heap[b4]? = some (.cells #[.bool ak, .int .u64 (av : Int), sa] T4 (0, 0))) (h5 : W.heap[b5]? = some (.cells #[.bool bk, .int .u64 (bv : Int), sb2] T5 (0, 0))) :
    W.cell? ⟨xb, 0, none⟩ = some (.int .i64 op) ∧ W.cell? ⟨xb, 1, none⟩ = some (.int .i64 rd) ∧ W.cell? ⟨b4, 0, none⟩ = some (.bool ak) ∧ W.cell? ⟨b4, 1, none⟩ = some (.int .u64 (av : Int)) ∧ W.cell? ⟨b4, 2, none⟩ = some sa ∧ W.cell? ⟨b5, 0, none⟩ = some (.bool bk) ∧ W.cell? ⟨b5, 1, none⟩ = some (.int .u64 (bv : Int)) ∧ W.cell? ⟨b5, 2, none⟩ = some sb2 :=
  ⟨(cOf hx 0).trans h0, (cOf hx 1).trans h1, cOf h4 0, cOf h4 1, cOf h4 2, cOf h5 0, cOf h5 1, cOf h5 2⟩
end Go.Proofs.Ytccjekgbhablpaa
