/- Contracts of the litmus rows: Few. -/
import Derived.Test.YteeicedhnojdaaaLitG
import Derived.Deep.RegionLaw
import Derived.StillTailTactics
import Derived.Deep.AppendSrc
import Derived.Deep.CutBlock
import Derived.Deep.DeepCutAuto
namespace Go.Proofs.Yteeicedhnojdaaa
set_option maxRecDepth 100000
open Go.RowKit

theorem cutF_any (s : ByteArray) (n : Nat) (w : World) :
    Calls Try.prog 19 #[.string s, .int .i64 (n : Nat)] w fun e w' => e = .returned (.string (s.extract 0 n)) ∧ w = w' := by
  by_cases h : s.size ≤ n
  · have e : s.extract 0 n = s := by
      rw [← st_by s, st_part]
      congr 1
      rw [List.drop_zero]
      exact List.take_of_length_le (by rw [by_size]; omega)
    rw [e]
    go_enter Try.func19, Try.ntmps19
    go_wp2
    go_ret
    exact ⟨rfl, rfl⟩
  · have h1 : n < s.size := by omega
    go_enter Try.func19, Try.ntmps19
    go_wp2
    go_ret
    exact ⟨rfl, rfl⟩

def cutL (l : List UInt8 × Int) : List UInt8 × Int := (l.1.take 20, l.2)
/-- a test with few parts -/
def fewM (t : TestM) : TestM := ⟨(t.locs.take 12).map cutL, (t.thr.take 6).map (·.take 12), t.asks.take 50⟩
theorem cut_st (l : List UInt8) (n : Nat) : (st l).extract 0 n = st (l.take n) := by
  rw [st_part, List.drop_zero, Nat.sub_zero]

theorem keepC {w w' : World} {p o : Nat} {v : Value} (hk : w'.heap[p]? = w.heap[p]?) (h : w.cell? ⟨p, o, none⟩ = some v) : w'.cell? ⟨p, o, none⟩ = some v := by
  simp only [World.cell?] at h ⊢
  rw [hk]; exact h
theorem keepF {w w' : World} {p o : Nat} (hk : w'.heap[p]? = w.heap[p]?) (h : w.frozen? ⟨p, o, none⟩ = false) : w'.frozen? ⟨p, o, none⟩ = false := by
  simp only [World.frozen?] at h ⊢
  rw [hk]; exact h
theorem grownC {w W w' : World} {row : Option Nat} (hb : Below w.heap.size w W) (hg : W.grownBy w' row) {p : Nat} (hp : p < w.heap.size) (hr : row ≠ some p) : w'.heap[p]? = w.heap[p]? :=
  (hg.block p (Nat.lt_of_lt_of_le hp hb.size) (fun e => hr e.symm)).trans (hb.block p hp)
theorem heapSet {w : World} {b : Nat} {C : Array Value} {T : TypeId} {fr : Nat × Nat} (h : w.heap[b]? = some (.cells C T fr)) (o : Nat) (v : Value) : (w.setCell ⟨b, o, none⟩ v).heap[b]? = some (.cells (C.setIfInBounds o v) T fr) := by
  simp [World.setCell, Array.getElem?_modify, h]
theorem info_init : (Try.prog.info? 83).map (fun i => (i.zero, i.size, i.bytes)) = some (some (.agg #[.string ⟨#[]⟩, .int .u64 0]), 2, 24) := by kernel_rfl

/-- the three variables of Few: what came in, what goes out, what is made -/
structure FewH (W : World) (B : Nat) (a0 a1 a2 l t s : Value) : Prop where
  b0 : W.heap[B]? = some (.cells #[a0, a1, a2] 26)
  b1 : W.heap[B + 1]? = some (.cells #[.slice none 0 0, .slice none 0 0, .slice none 0 0] 26)
  b2 : W.heap[B + 1 + 1]? = some (.cells #[l, t, s] 26)
theorem FewH.lt {W : World} {B : Nat} {a0 a1 a2 l t s : Value} (h : FewH W B a0 a1 a2 l t s) : B + 1 + 1 < W.heap.size := by
  rcases Nat.lt_or_ge (B + 1 + 1) W.heap.size with e | e
  · exact e
  · have := h.b2; rw [Array.getElem?_eq_none e] at this; cases this
theorem FewH.bel {W W2 : World} {B : Nat} {a0 a1 a2 l t s : Value} (h : FewH W B a0 a1 a2 l t s) (hb : Below W.heap.size W W2) : FewH W2 B a0 a1 a2 l t s := by
  have hl := h.lt
  exact ⟨(hb.block _ (by omega)).trans h.b0, (hb.block _ (by omega)).trans h.b1, (hb.block _ (by omega)).trans h.b2⟩
theorem FewH.grown {W W2 : World} {row : Option Nat} {B : Nat} {a0 a1 a2 l t s : Value} (h : FewH W B a0 a1 a2 l t s) (hg : W.grownBy W2 row) (hr : ∀ k, row = some k → B + 1 + 1 < k) : FewH W2 B a0 a1 a2 l t s := by
  have hl := h.lt
  have ne : ∀ k, k ≤ B + 1 + 1 → row ≠ some k := fun k hk e => by have := hr k e; omega
  exact ⟨(grownC (Below.refl _ _) hg (by omega) (ne _ (by omega))).trans h.b0, (grownC (Below.refl _ _) hg (by omega) (ne _ (by omega))).trans h.b1, (grownC (Below.refl _ _) hg (by omega) (ne _ (by omega))).trans h.b2⟩
theorem FewH.set {W : World} {B : Nat} {a0 a1 a2 l t s : Value} (h : FewH W B a0 a1 a2 l t s) (o : Nat) (v : Value) {l' t' s' : Value} (e : (#[l, t, s] : Array Value).setIfInBounds o v = #[l', t', s']) : FewH (W.setCell ⟨B + 1 + 1, o, none⟩ v) B a0 a1 a2 l' t' s' :=
  ⟨(Below.heap_setCell _ _ _ _ (by show B ≠ B + 1 + 1; omega)).trans h.b0, (Below.heap_setCell _ _ _ _ (by show B + 1 ≠ B + 1 + 1; omega)).trans h.b1, by rw [← e]; exact heapSet h.b2 o v⟩
theorem few_start (w : World) (a0 a1 a2 : Value) : FewH (((w.alloc (.cells #[a0, a1, a2] 26)).alloc (.cells #[.slice none 0 0, .slice none 0 0, .slice none 0 0] 26)).alloc (.cells #[.slice none 0 0, .slice none 0 0, .slice none 0 0] 26)) w.heap.size a0 a1 a2 (.slice none 0 0) (.slice none 0 0) (.slice none 0 0) := by
  obtain ⟨w1, e1⟩ : ∃ w1, w1 = w.alloc (.cells #[a0, a1, a2] 26) := ⟨_, rfl⟩
  have z1 : w1.heap.size = w.heap.size + 1 := by rw [e1]; simp
  have h1 : w1.heap[w.heap.size]? = some (.cells #[a0, a1, a2] 26) := by rw [e1]; exact heap_alloc_new _ _
  rw [← e1]
  obtain ⟨w2, e2⟩ : ∃ w2, w2 = w1.alloc (.cells #[.slice none 0 0, .slice none 0 0, .slice none 0 0] 26) := ⟨_, rfl⟩
  have z2 : w2.heap.size = w1.heap.size + 1 := by rw [e2]; simp
  have h2 : w2.heap[w1.heap.size]? = some (.cells #[.slice none 0 0, .slice none 0 0, .slice none 0 0] 26) := by rw [e2]; exact heap_alloc_new _ _
  have b2 : Below w1.heap.size w1 w2 := by rw [e2]; exact aset _ _
  rw [← e2]
  obtain ⟨w3, e3⟩ : ∃ w3, w3 = w2.alloc (.cells #[.slice none 0 0, .slice none 0 0, .slice none 0 0] 26) := ⟨_, rfl⟩
  have h3 : w3.heap[w2.heap.size]? = some (.cells #[.slice none 0 0, .slice none 0 0, .slice none 0 0] 26) := by rw [e3]; exact heap_alloc_new _ _
  have b3 : Below w2.heap.size w2 w3 := by rw [e3]; exact aset _ _
  rw [← e3]
  refine ⟨?_, ?_, ?_⟩
  · rw [b3.block _ (by omega), b2.block _ (by omega)]; exact h1
  · rw [b3.block _ (by omega), ← z1]; exact h2
  · rw [← z1, ← z2]; exact h3
theorem step_append_zero {P : Program} {ops : Array Oper} {o : Oper} {a : Act} {w : World} {K : Act → World → Prop} {Q : Exit → Act → World → Prop} {E : Prop}
    (hg : o.guard = none) (s x : Operand) (t : TypeId) (hop : o.op = Op.call { callee := Callee.builtin Builtin.append, args := #[s, x], argTypes := #[t, t] })
    (e : TypeId) (i : TypeInfo) (h1 : P.underlying t = some (.slice e)) (h2 : P.info? e = some i) (b off cap : Nat) (hs : a.eval s = .slice (some ⟨b, off, none⟩) 0 cap) (p : Option Addr) (c : Nat) (hx : a.eval x = .slice p 0 c)
    (hK : K (a.put o.dst (.slice (some ⟨b, off, none⟩) 0 cap)) w) : if Region.wanted o (yielded ops a.tmps) = true then Oper.wp P o a w K Q else E := by
  have hw : Region.wanted o (yielded ops a.tmps) = true := by simp [Region.wanted, hg]
  rw [if_pos hw]
  have src : Src P i.size t (.slice p 0 c) 0 [] w := by
    cases p with
    | none => exact Src.ofNil w h1 c
    | some ad => exact Src.ofSlice w h1 ad 0 c [] (by simp) (by simp) (by simp)
  have hrun := run_append_room_src (P := P) (w := w) t t o.type e i h1 h2 b off 0 cap (.slice p 0 c) 0 [] src (by omega) (by simp) (by simp)
  have e0 : w.setCells b (off + 0 * i.size) [] = w := rfl
  rw [e0] at hrun
  unfold Oper.wp
  simp [execOp, hop, resolve, invoke, builtin, hs, hx, hrun, Result.andThen]
  exact hK

theorem info_ins : (Try.prog.info? 85).map (fun i => (i.zero, i.size, i.bytes)) = some (some (.agg #[.int .i64 0, .int .i64 0, .int .i64 0, .bool false, .int .u64 0, .bool false, .int .u64 0, .bool false, .bool false, .int .i64 0, .int .i64 0, .int .i64 0, .int .i64 0]), 13, 96) := by kernel_rfl
theorem info_thr : (Try.prog.info? 86).map (fun i => (i.zero, i.size, i.bytes)) = some (some (.slice none 0 0), 1, 24) := by kernel_rfl
theorem info_atom : (Try.prog.info? 94).map (fun i => (i.zero, i.size, i.bytes)) = some (some (.agg #[.int .i64 0, .int .i64 0, .int .u64 0]), 3, 24) := by kernel_rfl

/-- a slice that has room for what it holds -/
def SlCap (v : Value) : Prop := ∃ p n c, v = .slice p n c ∧ n ≤ c
/-- a test that lies in the heap, each slice with its room -/
structure CapIn (w : World) (lv tv av : Value) (t : TestM) : Prop where
  locs : SlIn w lv 2 t.locs.length (t.locs.flatMap locC)
  lc : SlCap lv
  thr : ∃ vs : List Value, vs.length = t.thr.length ∧ SlIn w tv 1 t.thr.length vs ∧ ∀ (i : Nat) (v : Value), vs[i]? = some v → SlCap v ∧ ∃ l : List Ins, t.thr[i]? = some l ∧ SlIn w v 13 l.length (l.flatMap insC)
  tc : SlCap tv
  asks : SlIn w av 3 t.asks.length (t.asks.flatMap askC)
  ac : SlCap av
theorem CapIn.test {w : World} {lv tv av : Value} {t : TestM} (h : CapIn w lv tv av t) : TestIn w lv tv av t := by
  obtain ⟨vs, h1, h2, h3⟩ := h.thr
  exact ⟨h.locs, ⟨vs, h1, h2, fun i v hv => (h3 i v hv).2⟩, h.asks⟩
theorem rowSlIn {w : World} {B e z n : Nat} {v : Value} {xs : List Value} (h : w.ownsRow B e z v n xs) : SlIn w v z n xs ∧ SlCap v := by
  have hl := h.1
  rcases h.2 with ⟨rfl, rfl⟩ | ⟨g, cap, cur, rfl, hg, hh, hn, _, hs, ht⟩
  · exact ⟨⟨hl, .inl ⟨rfl, _, _, rfl⟩⟩, _, _, _, rfl, Nat.le_refl _⟩
  · refine ⟨⟨hl, .inr ⟨g, 0, cap, rfl, ?_, fun i u hu => ?_⟩⟩, _, _, _, rfl, hn⟩
    · rcases Nat.lt_or_ge g w.heap.size with e | e
      · exact e
      · rw [Array.getElem?_eq_none e] at hh; cases hh
    · have hi : i < n * z := by rw [← hl]; exact (List.getElem?_eq_some_iff.1 hu).1
      rw [cOf hh, Nat.zero_add]
      have h1 : (cur.toList.take (n * z))[i]? = xs[i]? := by rw [ht]
      rw [List.getElem?_take_of_lt hi, hu] at h1
      simpa using h1

/-- a row of threads, each a row of its own -/
def ThrRow (w : World) (B : Nat) (v : Value) (L : List (List Ins)) : Prop :=
  ∃ X : List (Value × List Ins), L = X.map (·.2) ∧ w.ownsRow B 86 1 v X.length (X.map (·.1)) ∧ ∀ x ∈ X, w.ownsRow B 85 13 x.1 x.2.length (x.2.flatMap insC)
theorem ThrRow.nil (w : World) (B : Nat) : ThrRow w B (.slice none 0 0) [] := ⟨[], rfl, World.ownsRow_nil _ _ _ _, fun x h => by cases h⟩
theorem ThrRow.keep {w w' : World} {B : Nat} {v : Value} {L : List (List Ins)} (h : ThrRow w B v L) (hk : ∀ k, B ≤ k → k < w.heap.size → w'.heap[k]? = w.heap[k]?) : ThrRow w' B v L := by
  obtain ⟨X, e, h1, h2⟩ := h
  exact ⟨X, e, rowKeep h1 fun k hk' => hk k (rowLt h1 k hk').1 (rowLt h1 k hk').2, fun x hx => rowKeep (h2 x hx) fun k hk' => hk k (rowLt (h2 x hx) k hk').1 (rowLt (h2 x hx) k hk').2⟩
theorem ThrRow.bel {w w' : World} {B : Nat} {v : Value} {L : List (List Ins)} (h : ThrRow w B v L) (hb : Below w.heap.size w w') : ThrRow w' B v L := h.keep fun k _ hk => hb.block k hk
theorem ins_thr : (85 : TypeId) ≠ 86 := by decide
theorem ThrRow.push {w w' : World} {B : Nat} {v : Value} {X : List (Value × List Ins)} (hown : w.ownsRow B 86 1 v X.length (X.map (·.1))) (hall : ∀ x ∈ X, w.ownsRow B 85 13 x.1 x.2.length (x.2.flatMap insC)) {u : Value} {ts : List Ins} (hu : w.ownsRow B 85 13 u ts.length (ts.flatMap insC))
    {o : Obj} (hg : (w.alloc o).grownBy w' v.ownBlock) {g cap : Nat} (hown' : w'.ownsRow B 86 1 (.slice (some ⟨g, 0, none⟩) (X.length + 1) cap) (X.length + 1) (X.map (·.1) ++ [u])) :
    ThrRow w' B (.slice (some ⟨g, 0, none⟩) (X.length + 1) cap) (X.map (·.2) ++ [ts]) := by
  have keep : ∀ {y us n}, w.ownsRow B 85 13 y n us → w'.ownsRow B 85 13 y n us := fun {y us n} h => rowKeep h fun k hk => by
    have hlt := (rowLt h k hk).2
    have e1 := hg.block k (by simp; omega) (fun e => rowApart h hown ins_thr k hk e.symm)
    rw [e1]
    exact ((Below.refl w.heap.size w).alloc (Nat.le_refl _) o).block k hlt
  refine ⟨X ++ [(u, ts)], by simp, ?_, fun x hx => ?_⟩
  · rw [List.length_append, List.map_append]
    exact hown'
  · rcases List.mem_append.1 hx with h | h
    · exact keep (hall x h)
    · simp at h; subst h; exact keep hu
theorem ThrRow.test {w : World} {B : Nat} {v : Value} {L : List (List Ins)} (h : ThrRow w B v L) : SlCap v ∧ ∃ vs : List Value, vs.length = L.length ∧ SlIn w v 1 L.length vs ∧ ∀ (i : Nat) (u : Value), vs[i]? = some u → SlCap u ∧ ∃ l : List Ins, L[i]? = some l ∧ SlIn w u 13 l.length (l.flatMap insC) := by
  obtain ⟨X, rfl, h1, h2⟩ := h
  refine ⟨(rowSlIn h1).2, X.map (·.1), by simp, by simpa using (rowSlIn h1).1, fun i u hu => ?_⟩
  rw [List.getElem?_map] at hu
  obtain ⟨x, hx, rfl⟩ := Option.map_eq_some_iff.1 hu
  have := rowSlIn (h2 x (List.mem_of_getElem? hx))
  exact ⟨this.2, x.2, by simp [hx], this.1⟩
theorem ThrRow.mono {w : World} {B C : Nat} {v : Value} {L : List (List Ins)} (h : ThrRow w B v L) (hC : C ≤ B) : ThrRow w C v L := by
  obtain ⟨X, e, h1, h2⟩ := h
  exact ⟨X, e, rowMono h1 hC, fun x hx => rowMono (h2 x hx) hC⟩
/-- a test whose rows are the call's own, from block B on -/
structure RowTest (w : World) (B : Nat) (lv tv av : Value) (u : TestM) : Prop where
  locs : w.ownsRow B 83 2 lv u.locs.length (u.locs.flatMap locC)
  thr : ThrRow w B tv u.thr
  asks : w.ownsRow B 94 3 av u.asks.length (u.asks.flatMap askC)
theorem RowTest.keep {w W : World} {B : Nat} {lv tv av : Value} {u : TestM} (h : RowTest w B lv tv av u) (hk : ∀ b, B ≤ b → b < w.heap.size → W.heap[b]? = w.heap[b]?) : RowTest W B lv tv av u :=
  ⟨rowKeep h.locs fun b hb => hk b (rowLt h.locs b hb).1 (rowLt h.locs b hb).2, h.thr.keep hk, rowKeep h.asks fun b hb => hk b (rowLt h.asks b hb).1 (rowLt h.asks b hb).2⟩
theorem RowTest.bel {w W : World} {B : Nat} {lv tv av : Value} {u : TestM} (h : RowTest w B lv tv av u) (hb : Below w.heap.size w W) : RowTest W B lv tv av u := h.keep fun b _ hl => hb.block b hl
theorem RowTest.mono {w : World} {B C : Nat} {lv tv av : Value} {u : TestM} (h : RowTest w B lv tv av u) (hC : C ≤ B) : RowTest w C lv tv av u := ⟨rowMono h.locs hC, h.thr.mono hC, rowMono h.asks hC⟩
theorem RowTest.cap {w : World} {B : Nat} {lv tv av : Value} {u : TestM} (h : RowTest w B lv tv av u) : CapIn w lv tv av u :=
  ⟨(rowSlIn h.locs).1, (rowSlIn h.locs).2, h.thr.test.2, h.thr.test.1, (rowSlIn h.asks).1, (rowSlIn h.asks).2⟩
end Go.Proofs.Yteeicedhnojdaaa
