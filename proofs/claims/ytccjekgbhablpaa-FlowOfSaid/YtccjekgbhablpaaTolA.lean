/- Told: a test in the reference's types: its rows; one instruction. -/
import Derived.Test.YtccjekgbhablpaaGb
import Derived.Deep.MidRow
namespace Go.Proofs.Ytccjekgbhablpaa
set_option maxRecDepth 100000
open Go.RowKit

theorem ld_at {P : Program} {ops : Array Oper} {Q : Exit → Act → World → Prop} {rest : List Oper} {a : Act} {w : World} (T : TypeId) (x : Operand) {dst : Option Tmp} {ty : TypeId} {pos : String} {after : Array Edge} {guard : Option (Nat × Bool)}
    (h : wpList P ops Q (⟨dst, .load T x, ty, pos, after, guard⟩ :: rest) a w) : wpList P ops Q (⟨dst, .load T x, ty, pos, after, guard⟩ :: rest) a w := h
theorem st_at {P : Program} {ops : Array Oper} {Q : Exit → Act → World → Prop} {rest : List Oper} {a : Act} {w : World} (T : TypeId) (x y : Operand) {dst : Option Tmp} {ty : TypeId} {pos : String} {after : Array Edge} {guard : Option (Nat × Bool)}
    (h : wpList P ops Q (⟨dst, .store T x y, ty, pos, after, guard⟩ :: rest) a w) : wpList P ops Q (⟨dst, .store T x y, ty, pos, after, guard⟩ :: rest) a w := h
theorem setCellsNew (w : World) (T : TypeId) : ∀ (cs : List Value) (p z : List Value), z.length = cs.length → (w.alloc (.cells (p ++ z).toArray T)).setCells w.heap.size p.length cs = w.alloc (.cells (p ++ cs).toArray T)
  | [], p, z, h => by
    have : z = [] := List.eq_nil_of_length_eq_zero h
    subst this; rfl
  | c :: cs, p, z, h => by
    cases z with
    | nil => simp at h
    | cons y z =>
      rw [World.setCells, World.setCell_alloc_new]
      have e : ((p ++ y :: z).toArray).setIfInBounds p.length c = ((p ++ [c]) ++ z).toArray := by
        simp
      rw [e]
      have ih := setCellsNew w T cs (p ++ [c]) z (by simpa using h)
      rw [List.length_append, List.length_singleton] at ih
      rw [ih]
      simp
/-- a value that fills a block that was just made -/
theorem fillNew (w : World) (T : TypeId) (Z : Array Value) (cs : List Value) (h : Z.size = cs.length) : (w.alloc (.cells Z T)).setCells w.heap.size 0 cs = w.alloc (.cells cs.toArray T) := by
  have := setCellsNew w T cs [] Z.toList (by simpa using h)
  simpa using this
theorem rngNew (w : World) (cs : List Value) (T : TypeId) : (w.alloc (.cells cs.toArray T)).rangeAt w.heap.size 0 cs := fun j v hv => by
  rw [cOf (heap_alloc_new _ _), Nat.zero_add]
  simpa using hv
theorem rngBel {w w' : World} {b o : Nat} {cs : List Value} (h : w.rangeAt b o cs) (hb : Below w.heap.size w w') : w'.rangeAt b o cs := fun j v hv => cBel (h j v hv) hb
theorem thrNew (w : World) (Z : Array Value) (T : TypeId) : (w.alloc (.cells Z T)).there w.heap.size 0 Z.size := fun j hj => by
  have hh := heap_alloc_new w (.cells Z T)
  exact ⟨by rw [cOf hh, Nat.zero_add]; simp [hj], tOf hh _⟩
/-- the cells of one element of a slice -/
theorem rngAt {α : Type} (f : α → List Value) (z : Nat) (hz : ∀ x, (f x).length = z) {w : World} {bb off : Nat} {X : List α} (hcl : ∀ i u, (X.flatMap f)[i]? = some u → w.cell? ⟨bb, off + i, none⟩ = some u) {k : Nat} {x : α} (hx : X[k]? = some x) : w.rangeAt bb (off + k * z) (f x) := fun j v hv => by
  have hj : j < z := by
    have := (List.getElem?_eq_some_iff.1 hv).1
    rwa [hz x] at this
  have := flatAt f z hz X k j x hx hj
  rw [Nat.add_assoc]
  exact hcl _ _ (this.trans hv)
theorem insOne (x : Ins) : ∀ u ∈ insC x, u.oneCell' = true := by
  intro u hu
  simp only [insC, List.mem_cons, List.not_mem_nil, or_false] at hu
  rcases hu with rfl | rfl | rfl | rfl | rfl | rfl | rfl | rfl | rfl | rfl | rfl | rfl | rfl <;> rfl
theorem info_i8 : (Try.prog.info? 84).map (·.size) = some 13 := by kernel_rfl
theorem info_r8 : (Try.prog.info? 50).map (·.size) = some 13 := by kernel_rfl
theorem info_rinit : (Try.prog.info? 86).map (fun i => (i.zero, i.size, i.bytes)) = some (some (.agg #[.string ⟨#[]⟩, .int .u64 0]), 2, 24) := by kernel_rfl
theorem info_rins : (Try.prog.info? 50).map (fun i => (i.zero, i.size, i.bytes)) = some (some (.agg #[.int .i64 0, .int .i64 0, .int .i64 0, .bool false, .int .u64 0, .bool false, .int .u64 0, .bool false, .bool false, .int .i64 0, .int .i64 0, .int .i64 0, .int .i64 0]), 13, 96) := by kernel_rfl
theorem info_rthr : (Try.prog.info? 87).map (fun i => (i.zero, i.size, i.bytes)) = some (some (.slice none 0 0), 1, 24) := by kernel_rfl
theorem info_ratom : (Try.prog.info? 91).map (fun i => (i.zero, i.size, i.bytes)) = some (some (.agg #[.int .i64 0, .int .i64 0, .int .u64 0]), 3, 24) := by kernel_rfl

/-- rows of the reference's threads -/
def TRow (w : World) (B : Nat) (v : Value) (L : List (List Ins)) : Prop :=
  ∃ X : List (Value × List Ins), L = X.map (·.2) ∧ w.ownsRow B 87 1 v X.length (X.map (·.1)) ∧ ∀ x ∈ X, w.ownsRow B 50 13 x.1 x.2.length (x.2.flatMap insC)
theorem TRow.nil (w : World) (B : Nat) : TRow w B (.slice none 0 0) [] := ⟨[], rfl, World.ownsRow_nil _ _ _ _, fun x h => by cases h⟩
theorem TRow.keep {w w' : World} {B : Nat} {v : Value} {L : List (List Ins)} (h : TRow w B v L) (hk : ∀ k, B ≤ k → k < w.heap.size → (v.ownBlock = some k ∨ ∃ xs n u, w.ownsRow B 50 13 u n xs ∧ u.ownBlock = some k) → w'.heap[k]? = w.heap[k]?) : TRow w' B v L := by
  obtain ⟨X, e, h1, h2⟩ := h
  exact ⟨X, e, rowKeep h1 fun k hk' => hk k (rowLt h1 k hk').1 (rowLt h1 k hk').2 (.inl hk'), fun x hx => rowKeep (h2 x hx) fun k hk' => hk k (rowLt (h2 x hx) k hk').1 (rowLt (h2 x hx) k hk').2 (.inr ⟨_, _, _, h2 x hx, hk'⟩)⟩
theorem nTI : (50 : TypeId) ≠ 87 := by decide
theorem nLT : (86 : TypeId) ≠ 87 := by decide
theorem nLI : (86 : TypeId) ≠ 50 := by decide
theorem nLA : (86 : TypeId) ≠ 91 := by decide
theorem nAT : (91 : TypeId) ≠ 87 := by decide
theorem nAI : (91 : TypeId) ≠ 50 := by decide
/-- what is told so far -/
structure TolR (W : World) (C : Nat) (l t s : Value) (T : TestM) : Prop where
  lo : W.ownsRow C 86 2 l T.locs.length (T.locs.flatMap locC)
  th : TRow W C t T.thr
  ak : W.ownsRow C 91 3 s T.asks.length (T.asks.flatMap askC)
theorem TolR.keep {W W' : World} {C : Nat} {l t s : Value} {T : TestM} (h : TolR W C l t s T) (hk : ∀ k, C ≤ k → k < W.heap.size → W'.heap[k]? = W.heap[k]?) : TolR W' C l t s T :=
  ⟨rowKeep h.lo fun k e => hk k (rowLt h.lo k e).1 (rowLt h.lo k e).2, h.th.keep fun k h1 h2 _ => hk k h1 h2, rowKeep h.ak fun k e => hk k (rowLt h.ak k e).1 (rowLt h.ak k e).2⟩
theorem TRow.mono {w : World} {B C : Nat} {v : Value} {L : List (List Ins)} (h : TRow w B v L) (hC : C ≤ B) : TRow w C v L := by
  obtain ⟨X, e, h1, h2⟩ := h
  exact ⟨X, e, rowMono h1 hC, fun x hx => rowMono (h2 x hx) hC⟩
theorem TolR.mono {W : World} {B C : Nat} {l t s : Value} {T : TestM} (h : TolR W B l t s T) (hC : C ≤ B) : TolR W C l t s T := ⟨rowMono h.lo hC, h.th.mono hC, rowMono h.ak hC⟩
theorem TolR.bel {W W' : World} {C : Nat} {l t s : Value} {T : TestM} (h : TolR W C l t s T) (hb : Below W.heap.size W W') : TolR W' C l t s T := h.keep fun k _ hk => hb.block k hk
theorem TolR.loc {W W' : World} {C : Nat} {l t s : Value} {T : TestM} (h : TolR W C l t s T) {o : Obj} (hg : (W.alloc o).grownBy W' l.ownBlock) {x : List UInt8 × Int} {l' : Value} (hown : W'.ownsRow C 86 2 l' (T.locs.length + 1) (T.locs.flatMap locC ++ locC x)) : TolR W' C l' t s ⟨T.locs ++ [x], T.thr, T.asks⟩ := by
  have gr : ∀ k, k < W.heap.size → l.ownBlock ≠ some k → W'.heap[k]? = W.heap[k]? := fun k hk hn => grownC (aset W o) hg hk hn
  refine ⟨?_, h.th.keep fun k _ hk hw => gr k hk ?_, rowKeep h.ak fun k e => gr k (rowLt h.ak k e).2 (fun e2 => rowApart h.lo h.ak nLA k e2 e)⟩
  · rw [List.length_append, List.flatMap_append]
    simpa using hown
  · intro e2
    rcases hw with hw | ⟨xs, n, u, hu, hw⟩
    · obtain ⟨X, _, hx, _⟩ := h.th
      exact rowApart h.lo hx nLT k e2 hw
    · exact rowApart h.lo hu nLI k e2 hw
theorem TolR.ask {W W' : World} {C : Nat} {l t s : Value} {T : TestM} (h : TolR W C l t s T) {o : Obj} (hg : (W.alloc o).grownBy W' s.ownBlock) {x : Int × Int × Int} {s' : Value} (hown : W'.ownsRow C 91 3 s' (T.asks.length + 1) (T.asks.flatMap askC ++ askC x)) : TolR W' C l t s' ⟨T.locs, T.thr, T.asks ++ [x]⟩ := by
  have gr : ∀ k, k < W.heap.size → s.ownBlock ≠ some k → W'.heap[k]? = W.heap[k]? := fun k hk hn => grownC (aset W o) hg hk hn
  refine ⟨rowKeep h.lo fun k e => gr k (rowLt h.lo k e).2 (fun e2 => rowApart h.lo h.ak nLA k e e2), h.th.keep fun k _ hk hw => gr k hk ?_, ?_⟩
  · intro e2
    rcases hw with hw | ⟨xs, n, u, hu, hw⟩
    · obtain ⟨X, _, hx, _⟩ := h.th
      exact rowApart h.ak hx nAT k e2 hw
    · exact rowApart h.ak hu nAI k e2 hw
  · rw [List.length_append, List.flatMap_append]
    simpa using hown
theorem TolR.thr {W W' : World} {C : Nat} {l t s : Value} {T : TestM} (h : TolR W C l t s T) {o : Obj} (hg : (W.alloc o).grownBy W' t.ownBlock) {u : Value} {ts : List Ins} (hu : W.ownsRow C 50 13 u ts.length (ts.flatMap insC)) {X : List (Value × List Ins)} (hX : T.thr = X.map (·.2)) (hXo : W.ownsRow C 87 1 t X.length (X.map (·.1))) (hXa : ∀ x ∈ X, W.ownsRow C 50 13 x.1 x.2.length (x.2.flatMap insC)) {t' : Value} (hown : W'.ownsRow C 87 1 t' (X.length + 1) (X.map (·.1) ++ [u])) : TolR W' C l t' s ⟨T.locs, T.thr ++ [ts], T.asks⟩ := by
  have gr : ∀ k, k < W.heap.size → t.ownBlock ≠ some k → W'.heap[k]? = W.heap[k]? := fun k hk hn => grownC (aset W o) hg hk hn
  have ki : ∀ {y us n}, W.ownsRow C 50 13 y n us → W'.ownsRow C 50 13 y n us := fun {y us n} h1 => rowKeep h1 fun k e => gr k (rowLt h1 k e).2 (fun e2 => rowApart h1 hXo nTI k e e2)
  refine ⟨rowKeep h.lo fun k e => gr k (rowLt h.lo k e).2 (fun e2 => rowApart h.lo hXo nLT k e e2), ⟨X ++ [(u, ts)], by rw [List.map_append, ← hX]; rfl, ?_, fun x hx => ?_⟩, rowKeep h.ak fun k e => gr k (rowLt h.ak k e).2 (fun e2 => rowApart h.ak hXo nAT k e e2)⟩
  · rw [List.length_append, List.map_append]; exact hown
  · rcases List.mem_append.1 hx with h1 | h1
    · exact ki (hXa x h1)
    · simp at h1; subst h1; exact ki hu
theorem TolR.test {W : World} {C : Nat} {l t s : Value} {T : TestM} (h : TolR W C l t s T) : CapIn W l t s T := by
  obtain ⟨X, e, h1, h2⟩ := h.th
  have hl : X.length = T.thr.length := by rw [e, List.length_map]
  refine ⟨(rowSlIn h.lo).1, (rowSlIn h.lo).2, ⟨X.map (·.1), by rw [List.length_map, hl], by rw [← hl]; have := (rowSlIn h1).1; simpa using this, fun i v hv => ?_⟩, (rowSlIn h1).2, (rowSlIn h.ak).1, (rowSlIn h.ak).2⟩
  rw [List.getElem?_map] at hv
  obtain ⟨x, hx, rfl⟩ := Option.map_eq_some_iff.1 hv
  have hr := rowSlIn (h2 x (List.mem_of_getElem? hx))
  exact ⟨hr.2, x.2, by rw [e, List.getElem?_map, hx]; rfl, hr.1⟩
/-- the three variables of Told: what came in, what goes out, what is made -/
structure TolH (W : World) (B : Nat) (a0 a1 a2 l t s : Value) : Prop where
  b0 : W.heap[B]? = some (.cells #[a0, a1, a2] 26)
  b1 : W.heap[B + 1]? = some (.cells #[.slice none 0 0, .slice none 0 0, .slice none 0 0] 37)
  b2 : W.heap[B + 1 + 1]? = some (.cells #[l, t, s] 37)
theorem TolH.lt {W : World} {B : Nat} {a0 a1 a2 l t s : Value} (h : TolH W B a0 a1 a2 l t s) : B + 1 + 1 < W.heap.size := by
  rcases Nat.lt_or_ge (B + 1 + 1) W.heap.size with e | e
  · exact e
  · have := h.b2; rw [Array.getElem?_eq_none e] at this; cases this
theorem TolH.bel {W W2 : World} {B : Nat} {a0 a1 a2 l t s : Value} (h : TolH W B a0 a1 a2 l t s) (hb : Below W.heap.size W W2) : TolH W2 B a0 a1 a2 l t s := by
  have hl := h.lt
  exact ⟨(hb.block _ (by omega)).trans h.b0, (hb.block _ (by omega)).trans h.b1, (hb.block _ (by omega)).trans h.b2⟩
theorem TolH.grown {W W2 : World} {row : Option Nat} {B : Nat} {a0 a1 a2 l t s : Value} (h : TolH W B a0 a1 a2 l t s) (hg : W.grownBy W2 row) (hr : ∀ k, row = some k → B + 1 + 1 < k) : TolH W2 B a0 a1 a2 l t s := by
  have hl := h.lt
  have ne : ∀ k, k ≤ B + 1 + 1 → row ≠ some k := fun k hk e => by have := hr k e; omega
  exact ⟨(grownC (Below.refl _ _) hg (by omega) (ne _ (by omega))).trans h.b0, (grownC (Below.refl _ _) hg (by omega) (ne _ (by omega))).trans h.b1, (grownC (Below.refl _ _) hg (by omega) (ne _ (by omega))).trans h.b2⟩
theorem TolH.set {W : World} {B : Nat} {a0 a1 a2 l t s : Value} (h : TolH W B a0 a1 a2 l t s) (o : Nat) (v : Value) {l' t' s' : Value} (e : (#[l, t, s] : Array Value).setIfInBounds o v = #[l', t', s']) : TolH (W.setCell ⟨B + 1 + 1, o, none⟩ v) B a0 a1 a2 l' t' s' :=
  ⟨(Below.heap_setCell _ _ _ _ (by show B ≠ B + 1 + 1; omega)).trans h.b0, (Below.heap_setCell _ _ _ _ (by show B + 1 ≠ B + 1 + 1; omega)).trans h.b1, by rw [← e]; exact heapSet h.b2 o v⟩

/-- all of it: the variables, the rows, what lay before *-/
structure TolS (w W : World) (a0 a1 a2 l t s : Value) (T : TestM) : Prop where
  h : TolH W w.heap.size a0 a1 a2 l t s
  r : TolR W (w.heap.size + 1 + 1 + 1) l t s T
  b : Below w.heap.size w W
theorem TolS.bel {w W W2 : World} {a0 a1 a2 l t s : Value} {T : TestM} (h : TolS w W a0 a1 a2 l t s T) (hb : Below W.heap.size W W2) : TolS w W2 a0 a1 a2 l t s T :=
  ⟨h.h.bel hb, h.r.bel hb, _root_.Go.Proofs.Ytccjekgbhablpaa.bel h.b hb⟩
theorem TolS.loc {w W W4 : World} {a0 a1 a2 l t s : Value} {T : TestM} (h : TolS w W a0 a1 a2 l t s T) {o : Obj} (hg : (W.alloc o).grownBy W4 l.ownBlock) {x : List UInt8 × Int} {l' : Value} (hown : W4.ownsRow (w.heap.size + 1 + 1 + 1) 86 2 l' (T.locs.length + 1) (T.locs.flatMap locC ++ locC x)) :
    TolH W4 w.heap.size a0 a1 a2 l t s ∧ TolS w (W4.setCell ⟨w.heap.size + 1 + 1, 0, none⟩ l') a0 a1 a2 l' t s ⟨T.locs ++ [x], T.thr, T.asks⟩ := by
  have F := (h.h.bel (aset W o)).grown hg (fun k e => by have := (rowLt h.r.lo k e).1; omega)
  have hs := h.b.size
  refine ⟨F, F.set 0 l' rfl, (h.r.loc hg hown).keep fun k h1 _ => Below.heap_setCell _ _ _ _ (by show k ≠ w.heap.size + 1 + 1; omega), ((h.b.alloc hs o).grown hg (by simp; omega) (fun k e => by have := (rowLt h.r.lo k e).1; omega)).setCell (p := ⟨w.heap.size + 1 + 1, 0, none⟩) (by show w.heap.size ≤ w.heap.size + 1 + 1; omega) _⟩
theorem TolS.ask {w W W4 : World} {a0 a1 a2 l t s : Value} {T : TestM} (h : TolS w W a0 a1 a2 l t s T) {o : Obj} (hg : (W.alloc o).grownBy W4 s.ownBlock) {x : Int × Int × Int} {s' : Value} (hown : W4.ownsRow (w.heap.size + 1 + 1 + 1) 91 3 s' (T.asks.length + 1) (T.asks.flatMap askC ++ askC x)) :
    TolH W4 w.heap.size a0 a1 a2 l t s ∧ TolS w (W4.setCell ⟨w.heap.size + 1 + 1, 2, none⟩ s') a0 a1 a2 l t s' ⟨T.locs, T.thr, T.asks ++ [x]⟩ := by
  have F := (h.h.bel (aset W o)).grown hg (fun k e => by have := (rowLt h.r.ak k e).1; omega)
  have hs := h.b.size
  refine ⟨F, F.set 2 s' rfl, (h.r.ask hg hown).keep fun k h1 _ => Below.heap_setCell _ _ _ _ (by show k ≠ w.heap.size + 1 + 1; omega), ((h.b.alloc hs o).grown hg (by simp; omega) (fun k e => by have := (rowLt h.r.ak k e).1; omega)).setCell (p := ⟨w.heap.size + 1 + 1, 2, none⟩) (by show w.heap.size ≤ w.heap.size + 1 + 1; omega) _⟩
theorem TolS.thr {w W W4 : World} {a0 a1 a2 l t s : Value} {T : TestM} (h : TolS w W a0 a1 a2 l t s T) {o : Obj} (hg : (W.alloc o).grownBy W4 t.ownBlock) {u : Value} {ts : List Ins} (hu : W.ownsRow (w.heap.size + 1 + 1 + 1) 50 13 u ts.length (ts.flatMap insC)) {X : List (Value × List Ins)} (hX : T.thr = X.map (·.2)) (hXo : W.ownsRow (w.heap.size + 1 + 1 + 1) 87 1 t X.length (X.map (·.1))) (hXa : ∀ x ∈ X, W.ownsRow (w.heap.size + 1 + 1 + 1) 50 13 x.1 x.2.length (x.2.flatMap insC)) {t' : Value} (hown : W4.ownsRow (w.heap.size + 1 + 1 + 1) 87 1 t' (X.length + 1) (X.map (·.1) ++ [u])) :
    TolH W4 w.heap.size a0 a1 a2 l t s ∧ TolS w (W4.setCell ⟨w.heap.size + 1 + 1, 1, none⟩ t') a0 a1 a2 l t' s ⟨T.locs, T.thr ++ [ts], T.asks⟩ := by
  have F := (h.h.bel (aset W o)).grown hg (fun k e => by have := (rowLt hXo k e).1; omega)
  have hs := h.b.size
  refine ⟨F, F.set 1 t' rfl, (h.r.thr hg hu hX hXo hXa hown).keep fun k h1 _ => Below.heap_setCell _ _ _ _ (by show k ≠ w.heap.size + 1 + 1; omega), ((h.b.alloc hs o).grown hg (by simp; omega) (fun k e => by have := (rowLt hXo k e).1; omega)).setCell (p := ⟨w.heap.size + 1 + 1, 1, none⟩) (by show w.heap.size ≤ w.heap.size + 1 + 1; omega) _⟩

theorem res_one {P : Program} {fn : Func} {p : Tmp} {ty : TypeId} {tmps : Array Value} {w : World} {a : Addr} {v : Value} (h : fn.results = #[.cell p ty]) (ht : tmps.getD p undef = .pointer (some a)) (hl : (loadVar ty a).run P w = .ok v w) :
    (results fn tmps).run P w = .ok v w := by
  have ht' : tmps[p]?.getD undef = .pointer (some a) := by rw [← Array.getD_eq_getD_getElem?]; exact ht
  simp only [results, h]
  simp [ht', hl, asAddr]
set_option maxHeartbeats 3200000 in
theorem instr_any (x : Ins) (w : World) :
    Calls Try.prog 20 #[.agg (insC x).toArray] w fun e w' => e = .returned (.agg (insC x).toArray) ∧ Below w.heap.size w w' := by
  show Calls Try.prog 20 #[insV x] w fun e w' => e = .returned (insV x) ∧ Below w.heap.size w w'
  rw [insV_eq]
  have hu := Try.underlying50
  have TH : Bx (((w.alloc (.cells (insC x).toArray 84)).alloc (.cells #[.int .i64 0, .int .i64 0, .int .i64 0, .bool false, .int .u64 0, .bool false, .int .u64 0, .bool false, .bool false, .int .i64 0, .int .i64 0, .int .i64 0, .int .i64 0] 50)).there (w.heap.size + 1) 0 (insC x).toArray.size) := ⟨by
    have := thrNew (w.alloc (.cells (insC x).toArray 84)) #[.int .i64 0, .int .i64 0, .int .i64 0, .bool false, .int .u64 0, .bool false, .int .u64 0, .bool false, .bool false, .int .i64 0, .int .i64 0, .int .i64 0, .int .i64 0] 50
    have hs : (w.alloc (.cells (insC x).toArray 84)).heap.size = w.heap.size + 1 := by simp
    rw [hs] at this
    exact this⟩
  have FN : Bx (((w.alloc (.cells (insC x).toArray 84)).alloc (.cells #[.int .i64 0, .int .i64 0, .int .i64 0, .bool false, .int .u64 0, .bool false, .int .u64 0, .bool false, .bool false, .int .i64 0, .int .i64 0, .int .i64 0, .int .i64 0] 50)).setCells (w.heap.size + 1) 0 (insC x) = (w.alloc (.cells (insC x).toArray 84)).alloc (.cells (insC x).toArray 50)) := ⟨by
    have := fillNew (w.alloc (.cells (insC x).toArray 84)) 50 #[.int .i64 0, .int .i64 0, .int .i64 0, .bool false, .int .u64 0, .bool false, .int .u64 0, .bool false, .bool false, .int .i64 0, .int .i64 0, .int .i64 0, .int .i64 0] (insC x) rfl
    have hs : (w.alloc (.cells (insC x).toArray 84)).heap.size = w.heap.size + 1 := by simp
    rw [hs] at this
    exact this⟩
  have hld := run_loadVar_mid (P := Try.prog) ((w.alloc (.cells (insC x).toArray 84)).alloc (.cells (insC x).toArray 50)) (w.heap.size + 1) 0 50 (insC x) _ (by
    have := rngNew (w.alloc (.cells (insC x).toArray 84)) (insC x) 50
    have hs : (w.alloc (.cells (insC x).toArray 84)).heap.size = w.heap.size + 1 := by simp
    rwa [hs] at this) hu rfl info_r8
  have HLD := Bx.mk hld
  clear hld
  go_enter Try.func20, Try.ntmps20
  go_wp2_with ((with_reducible refine st_at 50 (.tmp 2) (.tmp 25) ?_); refine wpList_store_mid rfl 50 (.tmp 2) (.tmp 25) (by rfl) (w.heap.size + 1) 0 (insC x).toArray (by rfl) (by rfl) TH.out info_r8 (all_oneCell_toArray (insOne x)) ?_; refine FN.out ▸ ?_)
  refine bodyPost_ret (v := .agg (insC x).toArray) (res_one rfl rfl HLD.out) rfl ⟨rfl, bel (aset _ _) (aset _ _)⟩
end Go.Proofs.Ytccjekgbhablpaa
