/- WalT, WalU, in one text. -/
import Derived.Test.YtdffpbfllekcgaaGreatDoorHz
import Derived.Test.YtdffpbfllekcgaaGreatDoorWalP
import Derived.Deep.AppendSrc
namespace Go.Proofs.YtdffpbfllekcgaaGreatDoor
set_option maxRecDepth 100000
open Go.ChangeShapes Go.WideShapes Go.RowKit M
open Go.Deep in
theorem run_append_none {P : Program} (w : World) (t tx ty e : TypeId) (i : TypeInfo) (ht : P.underlying t = some (.slice e)) (hi : P.info? e = some i) (x : Value) (hs : Src P i.size tx x 0 [] w) :
    (Builtin.append_ #[t, tx] ty #[.slice none 0 0, x]).run P w = .ok (.slice none 0 0) w := by
  rcases hs.kind with ⟨e', hk⟩ | hk <;> simp [Builtin.append_, run_underlying ht, run_underlying hk, sizeOf, typeInfo, hi, hs.len, hs.cells]
theorem grown_refl (w : World) (row : Option Nat) : w.grownBy w row := ⟨rfl, rfl, rfl, Nat.le_refl _, fun _ _ _ => rfl⟩
/-- a row goes behind one's own, be they there or not -/
theorem wpList_append_all {ops : Array Oper} {rest : List Oper} {o : Oper} {a : Act} {Q : Exit → Act → World → Prop} {w : World} (B B2 : Nat) (hB : B ≤ w.heap.size) (hg : o.guard = none) (s x : Operand) (t e : TypeId) (z by2 : Nat) (zv : Value) (i : TypeInfo)
    (hop : o.op = Op.call { callee := Callee.builtin Builtin.append, args := #[s, x], argTypes := #[t, t] }) (ht : Tryz.prog.underlying t = some (.slice e)) (hi : Tryz.prog.info? e = some i) (hz : i.zero = some zv) (hz1 : i.size = z) (hz2 : i.bytes = by2) (hzc : zv.cells.size = z) (hz0 : 0 < z) (hby : by2 ≤ 1000)
    (v : Value) (n : Nat) (xs : List Value) (hs : a.eval s = v) (hrow : w.ownsRow B e z v n xs) (v2 : Value) (m : Nat) (ys : List Value) (hx : a.eval x = v2) (hrow2 : w.ownsRow B2 e z v2 m ys) (h1 : ∀ u ∈ ys, u.oneCell' = true) (hnm : n + m ≤ 1000000)
    (h : ∀ v' w', w'.ownsRow B e z v' (n + m) (xs ++ ys) → w.grownBy w' v.ownBlock → wpList Tryz.prog ops Q rest (a.put o.dst v') w') :
    wpList Tryz.prog ops Q (o :: rest) a w := by
  have hbytes : (n + m) * by2 ≤ 1000000 * 1000 := Nat.mul_le_mul hnm hby
  rcases hrow2.2 with ⟨rfl, hm0⟩ | ⟨g, cap, cur, hv, hg2, r⟩
  · have hy : ys = [] := List.eq_nil_of_length_eq_zero (by have := hrow2.1; rw [hm0] at this; simpa using this)
    subst hy
    subst hm0
    have src : Src Tryz.prog i.size t (.slice none 0 0) 0 [] w := Src.ofNil w ht 0
    rcases hrow.2 with ⟨rfl, hn0⟩ | ⟨g, cap, cur, rfl, hb2, hh, hn, r⟩
    · subst hn0
      have hrun := run_append_none w t t o.type e i ht hi (.slice none 0 0) src
      refine wpList_plain hg fun K hK => ?_
      unfold Oper.wp
      simp [execOp, hop, resolve, invoke, builtin, hs, hx, hrun, Result.andThen]
      exact hK _ _ (h _ w (by simpa using hrow) (grown_refl _ _))
    · have hrun := run_append_room_src (P := Tryz.prog) (w := w) t t o.type e i ht hi g 0 n cap (.slice none 0 0) 0 [] src (by omega) (by simp) (by simp)
      have e0 : w.setCells g (0 + n * i.size) [] = w := rfl
      rw [e0] at hrun
      refine wpList_plain hg fun K hK => ?_
      unfold Oper.wp
      simp [execOp, hop, resolve, invoke, builtin, hs, hx, hrun, Result.andThen]
      exact hK _ _ (h _ w (by simpa using hrow) (grown_refl _ _))
  · subst hv
    have news : ∀ j u, ys[j]? = some u → w.cell? ((⟨g, 0, none⟩ : Addr).add j) = some u := fun j u hj => by
      have := hrow2.cells (g := g) rfl
      exact this j u hj
    exact wpList_append_own (P := Tryz.prog) (w := w) hg s x t hop B e i zv z by2 ht hi hz hz1 hz2 hzc hz0 v n xs hs hrow ⟨g, 0, none⟩ m cap ys hx hrow2.1 news h1 (by unfold maxLen; omega) (by omega) hB (fun v' w' r1 r2 _ => h v' w' r1 r2)

theorem KeepF.grown {F : Nat → Prop} {a b c : World} {row : Option Nat} (h : KeepF F a b) (hg : b.grownBy c row) (hr : ∀ k, row = some k → ¬ F k) : KeepF F a c :=
  ⟨hg.os.trans h.os, hg.tape.trans h.tape, hg.output.trans h.output, Nat.le_trans h.size hg.size, fun k hk hl => (hg.block k (Nat.lt_of_lt_of_le hl h.size) (fun e => hr k e.symm hk)).trans (h.block k hk hl)⟩

/-- the number behind a log's records -/
def nextL : List Seg → Nat → Nat
  | [], d => d
  | g :: l, _ => nextL l (g.q + g.rs.length)
theorem nextL_snoc (l : List Seg) (g : Seg) : ∀ d, nextL (l ++ [g]) d = g.q + g.rs.length := by
  induction l with
  | nil => intro d; rfl
  | cons x l ih => intro d; rw [List.cons_append]; exact ih _
def openL (limit : Int) (l : List Seg) : LS := ⟨max limit 1, nextL l 1, l.map fun g => nameM g.q, noName, 0, false⟩
theorem nextL_at {l : List Seg} {j : Nat} {g : Seg} (hj : l[j]? = some g) : nextL (l.take (j + 1)) 1 = g.q + g.rs.length := by
  rw [List.take_add_one, hj]
  exact nextL_snoc _ _ _
/-- each file begins where the one before it ends -/
theorem Wk.links {S : DS} {q0 n s : Nat} {base ext : List Seg} (h : Wk S q0 base ext n s) {j : Nat} {g : Seg} (hj : (base ++ ext)[j]? = some g) (h0 : 0 < j) : g.q = nextL ((base ++ ext).take j) 1 := by
  have chain : ∀ (l : List Seg) (q d : Nat), ChainQ q l → ∀ (i : Nat) (x : Seg), l[i]? = some x → 0 < i → x.q = nextL (l.take i) d := by
    intro l
    induction l with
    | nil => intro q d _ i x hx; simp at hx
    | cons y l ih =>
      intro q d hc i x hx hi
      obtain ⟨i', rfl⟩ : ∃ i', i = i' + 1 := ⟨i - 1, by omega⟩
      rw [List.getElem?_cons_succ] at hx
      rw [List.take_succ_cons]
      show x.q = nextL (l.take i') (y.q + y.rs.length)
      obtain ⟨c1, c2, c3⟩ := hc
      by_cases e : i' = 0
      · subst e
        cases l with
        | nil => simp at hx
        | cons z l =>
          simp at hx
          subst hx
          rw [c1]; exact c3.1
      · exact ih _ _ c3 i' x hx (by omega)
  have endq : ∀ (l : List Seg) (q d : Nat), ChainQ q l → l ≠ [] → nextL l d = q + (recs l).length := by
    intro l
    induction l with
    | nil => intro q d _ h; exact absurd rfl h
    | cons y l ih =>
      intro q d hc _
      obtain ⟨c1, c2, c3⟩ := hc
      show nextL l (y.q + y.rs.length) = _
      rw [recs_cons, List.length_append]
      by_cases e : l = []
      · subst e
        show y.q + y.rs.length = _
        rw [c1, recs_nil, List.length_nil]; omega
      · rw [ih _ _ c3 e]; omega
  rcases h.now.ok with e | ⟨x, e, x2, _, x4, _⟩
  · subst e
    rw [List.append_nil] at hj ⊢
    exact chain base q0 1 h.inv.chain j g hj h0
  · subst e
    rcases Nat.lt_or_ge j base.length with hl | hge
    · rw [List.getElem?_append_left hl] at hj
      rw [List.take_append_of_le_length (Nat.le_of_lt hl)]
      exact chain base q0 1 h.inv.chain j g hj h0
    · have hlt := (List.getElem?_eq_some_iff.1 hj).1
      rw [List.length_append] at hlt
      simp only [List.length_singleton] at hlt
      obtain rfl : j = base.length := by omega
      rw [List.getElem?_append_right (Nat.le_refl _), Nat.sub_self] at hj
      obtain rfl : x = g := by simpa using hj
      rw [List.take_left]
      have hne : base ≠ [] := fun e => by rw [e] at h0; exact absurd h0 (Nat.lt_irrefl _)
      rw [endq base q0 1 h.inv.chain hne]
      exact x4 (.inl hne)
end Go.Proofs.YtdffpbfllekcgaaGreatDoor
namespace Go.Proofs.YtdffpbfllekcgaaGreatDoor
set_option maxRecDepth 100000
open Go.ChangeShapes Go.WideShapes Go.RowKit M

theorem wk_seg {S : DS} {q0 n s : Nat} {base ext : List Seg} (h : Wk S q0 base ext n s) {g : Seg} (hg : g ∈ base ++ ext) : HoldsR (S.file g.f).data g.q g.rs ∧ Small g.rs ∧ g.q + g.rs.length ≤ n ∧ kget S.names (nameM g.q) = some g.f := by
  have k := h.kget hg
  rcases List.mem_append.1 hg with hg | hg
  · have c := chain_mem h.inv.chain g hg
    have b := h.inv.bound
    exact ⟨h.inv.holds g hg, h.inv.small g hg, by omega, k⟩
  · rcases h.now.ok with e | ⟨x, e, x2, x3, _, _, x6, _⟩
    · rw [e] at hg; exact nomatch hg
    · rw [e, List.mem_singleton] at hg
      subst hg
      exact ⟨by rw [x2]; exact x3, by rw [x2]; exact Small.nil, by rw [x2]; exact x6, k⟩
theorem wk_recs {S : DS} {q0 n s : Nat} {base ext : List Seg} (h : Wk S q0 base ext n s) : recs (base ++ ext) = recs base := by
  rw [recs_append]
  rcases h.now.ok with e | ⟨x, e, x2, _⟩
  · rw [e, recs_nil, List.append_nil]
  · rw [e, recs_one, x2, List.append_nil]
theorem wk_len {S : DS} {q0 n s : Nat} {base ext : List Seg} (h : Wk S q0 base ext n s) : (base ++ ext).length = S.names.length := by
  rw [h.now.names.length_eq]; exact (List.length_map _).symm

theorem recs_take_succ {l : List Seg} {j : Nat} {g : Seg} (hj : l[j]? = some g) : recs (l.take (j + 1)) = recs (l.take j) ++ g.rs := by
  rw [List.take_add_one, hj, recs_append]
  show _ ++ recs [g] = _
  rw [recs_one]
theorem recs_take_le (l : List Seg) (j : Nat) : (recs (l.take j)).length ≤ (recs l).length := by
  have e := congrArg (fun l => (recs l).length) (List.take_append_drop j l)
  have e : (recs (l.take j ++ l.drop j)).length = (recs l).length := e
  rw [recs_append, List.length_append] at e
  omega

/-- what Open leaves -/
def OpenP (b : Nat) (F : Nat → Prop) (S : DS) (limit : Int) (l : List Seg) (w : World) (e : Ending) (w' : World) : Prop :=
  ∃ lb v, e = .returned (.tuple #[.pointer (some ⟨lb, 0, none⟩), v, .int .i64 0]) ∧ HasL w' lb b (fun k => F k ∨ (w.heap.size ≤ k ∧ k < w'.heap.size)) (fun k => w.heap.size ≤ k ∧ k < w'.heap.size) S (openL limit l) ∧ w.heap.size ≤ lb ∧ (∀ k, v.ownBlock = some k → k ≠ lb) ∧
    w'.ownsRow w.heap.size 9 1 v (recs l).length (strs (recs l)) ∧ Below w.heap.size w w'

theorem log_new (w : World) (b : Nat) (m : Int) (v : Value) (n : Nat) (row : List Value) (hr : w.ownsRow 0 9 1 v n row) (L : LS) (h1 : L.limit = m) (h2 : L.next = 1) (h3 : L.found.map Value.string = row) (h4 : L.file = noName) (h5 : L.size = 0) (h6 : L.dirty = false) :
    LogAt (w.alloc (.cells #[.pointer (some ⟨b, 0, none⟩), .int .i64 m, .int .u64 1, v, .string ⟨#[]⟩, .int .i64 0, .bool false] 64)) w.heap.size b v L := by
  have hb := (MapKept.heap_alloc w (.cells #[.pointer (some ⟨b, 0, none⟩), .int .i64 m, .int .u64 1, v, .string ⟨#[]⟩, .int .i64 0, .bool false] 64)).1
  have hc : ∀ j, (w.alloc (.cells #[.pointer (some ⟨b, 0, none⟩), .int .i64 m, .int .u64 1, v, .string ⟨#[]⟩, .int .i64 0, .bool false] 64)).cell? ⟨w.heap.size, j, none⟩ = #[Value.pointer (some ⟨b, 0, none⟩), .int .i64 m, .int .u64 1, v, .string ⟨#[]⟩, .int .i64 0, .bool false][j]? := fun j => by
    unfold World.cell?; simp only [hb]; rfl
  have hn : L.found.length = n := by
    have e1 := hr.1
    rw [← h3, List.length_map] at e1
    omega
  refine ⟨hc 0, by rw [h1]; exact hc 1, by rw [h2]; exact hc 2, hc 3, by rw [h4]; exact hc 4, by rw [h5]; exact hc 5, by rw [h6]; exact hc 6, fun o => by unfold World.frozen?; simp only [hb]; simp, ?_⟩
  rw [h3, hn]
  exact hr.alloc _

theorem results_tmp3w {fn : Func} {t u v : Tmp} (h : fn.results = #[.tmp t, .tmp u, .tmp v]) (tmps : Array Value) (P : Program) (w : World) :
    (results fn tmps).run P w = .ok (.tuple #[tmps.getD t undef, tmps.getD u undef, tmps.getD v undef]) w := by
  simp [results, h]

set_option maxRecDepth 100000 in
set_option maxHeartbeats 4000000 in
theorem open_any (b : Nat) (F : Nat → Prop) (S : DS) (limit : Int) (w : World) (k c q0 n s : Nat) (base ext : List Seg) (h : HasF w b F S) (hd : S.dead = false) (hw : Wk S q0 base ext n s) (hz : Sz S k c) (hk : k ≤ 5000) (hc : c ≤ 50000000) (hn : n ≤ 100000) (hL : LibW w) (hH : Halves w) :
    Calls Tryz.prog 11 #[.pointer (some ⟨b, 0, none⟩), .int .i64 limit] w (OpenP b F S limit (base ++ ext) w) := by
  obtain ⟨i0, hi, hz0, hz1, hz2⟩ := string_parts
  obtain ⟨l, hl⟩ : ∃ l, l = base ++ ext := ⟨_, rfl⟩
  rw [← hl]
  have seg : ∀ g ∈ l, HoldsR (S.file g.f).data g.q g.rs ∧ Small g.rs ∧ g.q + g.rs.length ≤ n ∧ kget S.names (nameM g.q) = some g.f := fun g hg => wk_seg hw (by rw [← hl]; exact hg)
  have link : ∀ j g, l[j]? = some g → 0 < j → g.q = nextL (l.take j) 1 := fun j g hj h0 => by rw [hl] at hj ⊢; exact hw.links hj h0
  have hlen : l.length ≤ 5000 := by
    obtain ⟨C, z⟩ := hz
    have := z.names
    have e := wk_len hw
    rw [← hl] at e
    omega
  have rl : (recs l).length ≤ 100000 := by
    have e := wk_recs hw
    rw [← hl] at e
    rw [e]
    have := hw.inv.bound
    omega
  have perm := hw.now.names
  have rise := ext_rise hw.inv.chain hw.now.ok
  have low := ext_small hw.inv.chain hw.inv.bound hw.now.ok
  rw [← hl] at perm rise low
  have n1 := hw.inv.n1
  have cf : Calls Tryz.prog 25 #[.pointer (some ⟨b, 0, none⟩)] w (FilesP l w) := by
    obtain ⟨L, d, e, _⟩ := h
    have c := files_any L S l w d hd (by omega) perm rise (fun g hg => by have := low g hg; omega) hL
    rw [e] at c; exact c
  have cnum : ∀ (j : Nat) (g : Seg), l[j]? = some g → ∀ W, LibW W → Calls Tryz.prog 26 #[.string (nameM g.q)] W fun e w' => e = .returned (.tuple #[.int .u64 (g.q : Int), .bool true]) ∧ Below W.heap.size W w' := fun j g hg W hW =>
    wnumber_any g.q (by have := low g (List.mem_of_getElem? hg); unfold bigQ at n1; omega) W hW
  have dat : ∀ i, (S.file i).data.length ≤ 500000 := fun i => by
    obtain ⟨C, z⟩ := hz
    have := z.data i
    omega
  have nref := (hz.fine (by omega) (by omega)).nref
  have cread : ∀ g ∈ l, ∀ W, HasF W b F S → Calls Tryz.prog 10 #[.pointer (some ⟨b, 0, none⟩), .string (nameM g.q)] W fun e w' => e = .returned (.tuple #[.string (bs (S.file g.f).data), .int .i64 0]) ∧ W = w' := fun g hg W hW => by
    have c := read_f b F S (nameM g.q) W hW nref (by rw [nameM_size]; unfold maxLen; omega)
    have fc : findC S (nameM g.q) = 0 := by unfold findC; rw [hd, (seg g hg).2.2.2]; rfl
    have rd : readD S (nameM g.q) = (S.file g.f).data := by unfold readD; rw [findN_of fc, (seg g hg).2.2.2]
    rw [fc, rd] at c; exact c
  have cscan : ∀ g ∈ l, ∀ W, Halves W → Calls Tryz.prog 27 #[.string (bs (S.file g.f).data), .int .u64 (g.q : Int)] W fun e w' => ∃ v x, e = .returned (.tuple #[v, .int .i64 x]) ∧ w'.ownsRow W.heap.size 9 1 v g.rs.length (strs g.rs) ∧ Below W.heap.size W w' := fun g hg W hW => by
    obtain ⟨s1, s2, s3, _⟩ := seg g hg
    have c := scan_any (bs (S.file g.f).data) (by rw [bs_size]; have := dat g.f; omega) g.q (by unfold bigQ at n1; omega) W hW
    rw [sb_bs _ (s1.lt s2), s1.scan s2 (by omega)] at c
    exact c.mono fun e w' ⟨v, he, r, hb⟩ => ⟨v, _, he, r, hb⟩
  obtain ⟨N, hN⟩ : ∃ N, N = l.length := ⟨_, rfl⟩
  have cf2 : Calls Tryz.prog 25 #[.pointer (some ⟨b, 0, none⟩)] w fun e w' => ∃ v, e = .returned (.tuple #[v, .int .i64 0]) ∧ w'.ownsRow w.heap.size 9 1 v N (nmRow l) ∧ Below w.heap.size w w' :=
    cf.mono fun e w' ⟨v, he, r, hb⟩ => ⟨v, he, by rw [hN]; exact r, hb⟩
  have hNl : N ≤ 5000 := by omega
  have HN := Box.mk hN
  have CF := Box.mk cf2; have NU := Box.mk cnum; have RD := Box.mk cread; have SC := Box.mk cscan; have SEG := Box.mk seg; have LK := Box.mk link
  have HD := Box.mk h; have HL := Box.mk hL; have HH := Box.mk hH
  clear cf cf2 cnum cread cscan seg link h hL hH hz hd hw dat nref perm rise low hl n1 hN hlen
  go_enter Tryz.func11, Tryz.ntmps11
  go_wp2_with (go_at_call 25; ((with_reducible refine CF.out.mono ?_); rintro e w1 ⟨nv, rfl, hrow, hb⟩; obtain ⟨p, cp, rfl⟩ := own_len hrow; have RN := Box.mk hrow; have B1 := Box.mk hb; clear hrow hb CF))
  have L0 := Box.mk (log_new w1 b (max limit 1) (.slice p N cp) N (nmRow l) (ownsRow_base_a RN.out (Nat.zero_le _)) ⟨max limit 1, 1, l.map fun g => nameM g.q, noName, 0, false⟩ rfl rfl (by rw [List.map_map]; rfl) rfl rfl rfl)
  have NB := Box.mk (fun k (e : (Value.slice p N cp).ownBlock = some k) => RN.out.lt k e)
  obtain ⟨w2, hw2⟩ : ∃ w2, w2 = w1.alloc (.cells #[.pointer (some ⟨b, 0, none⟩), .int .i64 (max limit 1), .int .u64 1, .slice p N cp, .string ⟨#[]⟩, .int .i64 0, .bool false] 64) := ⟨_, rfl⟩
  have B2 : Box (Below w.heap.size w w2) := ⟨by rw [hw2]; exact B1.out.alloc B1.out.size _⟩
  have S2 : Box (w2.heap.size = w1.heap.size + 1) := ⟨by rw [hw2]; simp⟩
  have S1 := Box.mk B1.out.size
  rw [← hw2] at L0
  have RN2 : Box (w2.ownsRow w.heap.size 9 1 (.slice p N cp) N (nmRow l)) := ⟨by rw [hw2]; exact RN.out.alloc _⟩
  rw [← hw2]
  obtain ⟨lb, hlb⟩ : ∃ lb, lb = w1.heap.size := ⟨_, rfl⟩
  rw [← hlb] at L0 S2 S1 NB ⊢
  clear hw2 RN B1 hlb
  obtain ⟨mx, hmx⟩ : ∃ mx, mx = max limit 1 := ⟨_, rfl⟩
  rw [← hmx] at L0 ⊢
  have MX := Box.mk hmx
  clear hmx
  go_loopw [10, 35] (fun o i wr => ∃ j : Nat, j ≤ N ∧ i = .int .i64 (j : Int) ∧ Box (wr.ownsRow w2.heap.size 9 1 o (recs (l.take j)).length (strs (recs (l.take j)))) ∧ Box (KeepF (fun k => k < w2.heap.size ∧ k ≠ lb) w2 wr) ∧
      Box (LogAt wr lb b (.slice p N cp) ⟨mx, nextL (l.take j) 1, l.map fun g => nameM g.q, noName, 0, false⟩) ∧ ∃ p2 l2 c2, o = .slice p2 l2 c2)
    (fun _ i _ => N - (intOf i).toNat)
  case atStart => exact ⟨0, by omega, rfl, ⟨World.ownsRow_nil _ _ _ _⟩, ⟨KeepF.refl _ _⟩, L0, _, _, _, rfl⟩
  case round =>
    obtain ⟨j, hj, rfl, hO, hK, hLA, p2, l2, c2, rfl⟩ := hrel
    have hbel : Below w.heap.size w wr := ⟨hK.out.os.trans B2.out.os, hK.out.tape.trans B2.out.tape, hK.out.output.trans B2.out.output, Nat.le_trans B2.out.size hK.out.size, fun k hk => (hK.out.block k ⟨by have := B2.out.size; omega, by have := S1.out; omega⟩ (by have := B2.out.size; omega)).trans (B2.out.block k hk)⟩
    have BW := Box.mk hbel
    have hlbw : lb < wr.heap.size := by have := S2.out; have := hK.out.size; omega
    clear L0
    by_cases hlt : j < N
    · obtain ⟨g, hg⟩ : ∃ g, l[j]? = some g := ⟨_, List.getElem?_eq_getElem (by rw [← HN.out]; exact hlt)⟩
      have hmem := List.mem_of_getElem? hg
      have rn : wr.ownsRow w.heap.size 9 1 (.slice p N cp) N (nmRow l) := row_keep RN2.out (fun k e => hK.out.block k ⟨by have := (NB.out k e).2; have := S2.out; omega, by have := (NB.out k e).2; omega⟩ (by have := (NB.out k e).2; have := S2.out; omega))
      obtain ⟨gb, cap, hvv, _⟩ := rn.form (by omega)
      obtain ⟨rfl, _, rfl⟩ := Value.slice.inj hvv
      have hc1 := rn.cellAt j (by omega)
      unfold nmRow at hc1
      rw [List.getElem?_map, hg] at hc1
      have hcell : wr.cell? ⟨gb, j, none⟩ = some (.string (nameM g.q)) := by simpa using hc1
      clear hc1
      have ck := fun W hW => NU.out j g hg W hW
      have rd := RD.out g hmem
      have sc := SC.out g hmem
      obtain ⟨s1, s2, s3, _⟩ := SEG.out g hmem
      have lk := LK.out j g hg
      have nx := nextL_at hg
      have rs := recs_take_succ hg
      have rle := recs_take_le l (j + 1)
      rw [rs, List.length_append] at rle
      have q2 := hLA.out.c2
      have f2 := hLA.out.fz 2
      dsimp only at q2
      obtain ⟨q, hq⟩ : ∃ q, q = g.q := ⟨_, rfl⟩
      obtain ⟨ln, hln⟩ : ∃ ln, ln = g.rs.length := ⟨_, rfl⟩
      obtain ⟨NM, hNM⟩ : ∃ x, x = nameM g.q := ⟨_, rfl⟩
      obtain ⟨T, hT⟩ : ∃ x, x = bs (S.file g.f).data := ⟨_, rfl⟩
      rw [← hNM] at ck hcell rd
      rw [← hT] at rd sc
      rw [← hq] at ck sc lk nx s3
      rw [← hln] at sc nx s3 rle
      have wl : IntKind.u64.wrap (ln : Int) = (ln : Int) := u64small (by omega)
      obtain ⟨nx2, hnx2⟩ : ∃ nx2, nx2 = q + ln := ⟨_, rfl⟩
      have wa : IntKind.u64.wrap ((q : Int) + (ln : Int)) = (nx2 : Int) := by rw [show ((q : Int) + (ln : Int)) = (nx2 : Int) by omega]; exact u64small (by omega)
      rw [← hnx2] at nx
      have ol : (recs (l.take j)).length + ln ≤ 1000000 := by omega
      have CK := Box.mk ck; have RDX := Box.mk rd; have SCX := Box.mk sc; have NX := Box.mk nx; have RS := Box.mk rs; have LN := Box.mk hln
      obtain ⟨rl0, hrl0⟩ : ∃ x, x = (recs (l.take j)).length := ⟨_, rfl⟩
      rw [← hrl0] at ol hO
      have RL0 := Box.mk hrl0
      clear hvv rn hg hmem ck rd sc s1 s2 nx rs rle hq hNM hT hln hnx2 hrl0
      obtain ⟨nxj, hnxj⟩ : ∃ x, x = nextL (l.take j) 1 := ⟨_, rfl⟩
      rw [← hnxj] at lk q2
      by_cases h0 : 0 < j
      · have d1 : decide ((0 : Int) < (j : Int)) = true := by simpa using h0
        have d2 : decide (0 < j) = true := by simpa using h0
        have d3 : ((q : Int) != (nxj : Int)) = false := by rw [lk h0]; simp
        clear lk hnxj h0
        go_wp2_with (first
          | (go_at_call 26; ((with_reducible refine (CK.out _ (HL.out.below BW.out)).mono ?_); rintro e w3 ⟨rfl, b3⟩; have K3 := Box.mk (hK.out.trans (KeepF.of_below b3)); have BW3 := Box.mk (BW.out.trans (b3.mono BW.out.size)); have O3 := Box.mk (row_keep hO.out (fun k e => b3.block k (hO.out.lt k e).2)); have E3 := Box.mk (b3.block lb hlbw); have q23 : w3.cell? ⟨lb, 2, none⟩ = some (.int .u64 (nxj : Int)) := (b3.cell (p := ⟨lb, 2, none⟩) hlbw).trans q2; have Z3 := Box.mk b3.size; clear b3 CK))
          | (go_at_call 10; ((with_reducible refine (RDX.out _ (HD.out.below BW3.out)).mono ?_); rintro e w3' ⟨rfl, rfl⟩; clear RDX))
          | (go_at_call 27; ((with_reducible refine (SCX.out _ (halves_below HH.out BW3.out)).mono ?_); rintro e w4 ⟨v4, x4, rfl, r4, b4⟩; obtain ⟨p4, c4, rfl⟩ := own_len r4; have K4 := Box.mk (K3.out.trans (KeepF.of_below b4)); have BW4 := Box.mk (BW3.out.trans (b4.mono BW3.out.size)); have O4 := Box.mk (row_keep O3.out (fun k e => b4.block k (O3.out.lt k e).2)); have R4 := Box.mk r4; have E4 := Box.mk ((b4.block lb (Nat.lt_of_lt_of_le hlbw Z3.out)).trans E3.out); have Z4 := Box.mk (Nat.le_trans Z3.out b4.size); clear r4 b4 SCX q23))
          | (at_builtin; refine wpList_append_all w2.heap.size w3.heap.size (Nat.le_trans hK.out.size Z4.out) rfl (.tmp 70) (.tmp 71) 22 9 1 16 _ i0 rfl Tryz.underlying22 hi hz0 hz1 hz2 rfl (by omega) (by omega) _ rl0 _ rfl O4.out _ ln _ rfl R4.out (by unfold strs; intro u hu; obtain ⟨_, _, rfl⟩ := List.mem_map.1 hu; rfl) ol ?_; intro v5 w5 hown5 hgrow; obtain ⟨p5, c5, rfl⟩ := own_len hown5; have O5 := Box.mk hown5; have K5 := Box.mk (K4.out.grown hgrow (fun k e h => by have := (O4.out.lt k e).1; have := h.1; omega)); have E5 := Box.mk ((hgrow.block lb (Nat.lt_of_lt_of_le hlbw Z4.out) (fun e => by have := (O4.out.lt lb e.symm).1; have := S2.out; omega)).trans E4.out); have l5 := hLA.out.keep (w' := w5) E5.out (fun k e => (K5.out.block k ⟨by have := (NB.out k e).2; have := S2.out; omega, by have := (NB.out k e).2; omega⟩ (by have := (NB.out k e).2; have := S2.out; omega)).trans (hK.out.block k ⟨by have := (NB.out k e).2; have := S2.out; omega, by have := (NB.out k e).2; omega⟩ (by have := (NB.out k e).2; have := S2.out; omega)).symm); have q25 : w5.cell? ⟨lb, 2, none⟩ = some (.int .u64 (nxj : Int)) := (cell_keep E5.out).trans q2; have f25 := l5.fz 2; have L5 := Box.mk l5; clear l5 hown5 hgrow q2))
        go_roundw
        case rel =>
          refine ⟨j + 1, by omega, by go_num, ⟨?_⟩, ⟨K5.out.set (p := ⟨lb, 2, none⟩) (fun h => h.2 rfl) _⟩, ⟨?_⟩, _, _, _, rfl⟩
          · have e1 : (recs (l.take (j + 1))).length = rl0 + ln := by rw [RS.out, List.length_append, RL0.out, LN.out]
            have e2 : strs (recs (l.take (j + 1))) = strs (recs (l.take j)) ++ strs g.rs := by rw [RS.out]; unfold strs; rw [List.map_append]
            rw [e1, e2]
            exact row_keep O5.out (fun k e => Below.heap_setCell _ _ _ _ (fun e2 => by have := (O5.out.lt k e).1; have := S2.out; have e3 : k = lb := e2; omega))
          · have h := L5.out.s2 (fun e => by have := (NB.out lb e).2; omega) nx2
            rw [NX.out]
            exact h
        case measure => simp [intOf]; omega
      · have d1 : decide ((0 : Int) < (j : Int)) = false := by simpa using h0
        have d2 : decide (0 < j) = false := by simpa using h0
        clear lk hnxj h0
        go_wp2_with (first
          | (go_at_call 26; ((with_reducible refine (CK.out _ (HL.out.below BW.out)).mono ?_); rintro e w3 ⟨rfl, b3⟩; have K3 := Box.mk (hK.out.trans (KeepF.of_below b3)); have BW3 := Box.mk (BW.out.trans (b3.mono BW.out.size)); have O3 := Box.mk (row_keep hO.out (fun k e => b3.block k (hO.out.lt k e).2)); have E3 := Box.mk (b3.block lb hlbw); have q23 : w3.cell? ⟨lb, 2, none⟩ = some (.int .u64 (nxj : Int)) := (b3.cell (p := ⟨lb, 2, none⟩) hlbw).trans q2; have Z3 := Box.mk b3.size; clear b3 CK))
          | (go_at_call 10; ((with_reducible refine (RDX.out _ (HD.out.below BW3.out)).mono ?_); rintro e w3' ⟨rfl, rfl⟩; clear RDX))
          | (go_at_call 27; ((with_reducible refine (SCX.out _ (halves_below HH.out BW3.out)).mono ?_); rintro e w4 ⟨v4, x4, rfl, r4, b4⟩; obtain ⟨p4, c4, rfl⟩ := own_len r4; have K4 := Box.mk (K3.out.trans (KeepF.of_below b4)); have BW4 := Box.mk (BW3.out.trans (b4.mono BW3.out.size)); have O4 := Box.mk (row_keep O3.out (fun k e => b4.block k (O3.out.lt k e).2)); have R4 := Box.mk r4; have E4 := Box.mk ((b4.block lb (Nat.lt_of_lt_of_le hlbw Z3.out)).trans E3.out); have Z4 := Box.mk (Nat.le_trans Z3.out b4.size); clear r4 b4 SCX q23))
          | (at_builtin; refine wpList_append_all w2.heap.size w3.heap.size (Nat.le_trans hK.out.size Z4.out) rfl (.tmp 70) (.tmp 71) 22 9 1 16 _ i0 rfl Tryz.underlying22 hi hz0 hz1 hz2 rfl (by omega) (by omega) _ rl0 _ rfl O4.out _ ln _ rfl R4.out (by unfold strs; intro u hu; obtain ⟨_, _, rfl⟩ := List.mem_map.1 hu; rfl) ol ?_; intro v5 w5 hown5 hgrow; obtain ⟨p5, c5, rfl⟩ := own_len hown5; have O5 := Box.mk hown5; have K5 := Box.mk (K4.out.grown hgrow (fun k e h => by have := (O4.out.lt k e).1; have := h.1; omega)); have E5 := Box.mk ((hgrow.block lb (Nat.lt_of_lt_of_le hlbw Z4.out) (fun e => by have := (O4.out.lt lb e.symm).1; have := S2.out; omega)).trans E4.out); have l5 := hLA.out.keep (w' := w5) E5.out (fun k e => (K5.out.block k ⟨by have := (NB.out k e).2; have := S2.out; omega, by have := (NB.out k e).2; omega⟩ (by have := (NB.out k e).2; have := S2.out; omega)).trans (hK.out.block k ⟨by have := (NB.out k e).2; have := S2.out; omega, by have := (NB.out k e).2; omega⟩ (by have := (NB.out k e).2; have := S2.out; omega)).symm); have q25 : w5.cell? ⟨lb, 2, none⟩ = some (.int .u64 (nxj : Int)) := (cell_keep E5.out).trans q2; have f25 := l5.fz 2; have L5 := Box.mk l5; clear l5 hown5 hgrow q2))
        go_roundw
        case rel =>
          refine ⟨j + 1, by omega, by go_num, ⟨?_⟩, ⟨K5.out.set (p := ⟨lb, 2, none⟩) (fun h => h.2 rfl) _⟩, ⟨?_⟩, _, _, _, rfl⟩
          · have e1 : (recs (l.take (j + 1))).length = rl0 + ln := by rw [RS.out, List.length_append, RL0.out, LN.out]
            have e2 : strs (recs (l.take (j + 1))) = strs (recs (l.take j)) ++ strs g.rs := by rw [RS.out]; unfold strs; rw [List.map_append]
            rw [e1, e2]
            exact row_keep O5.out (fun k e => Below.heap_setCell _ _ _ _ (fun e2 => by have := (O5.out.lt k e).1; have := S2.out; have e3 : k = lb := e2; omega))
          · have h := L5.out.s2 (fun e => by have := (NB.out lb e).2; omega) nx2
            rw [NX.out]
            exact h
        case measure => simp [intOf]; omega
    · obtain rfl : j = N := by omega
      have ho := hO.out
      have hla := hLA.out
      rw [List.take_of_length_le (by rw [← HN.out]; omega)] at ho hla
      have HO := Box.mk ho; have LA2 := Box.mk hla
      clear ho hla hO hLA
      go_wp2
      refine bodyPost_ret (results_tmp3w rfl _ _ _) rfl ?_
      have sz := B2.out.size
      refine ⟨lb, .slice p2 l2 c2, rfl, ⟨HD.out.mine BW.out.size (fun k hk _ => BW.out.block k hk) (fun _ h => h), .inr ⟨by have := S1.out; omega, hlbw⟩, _, ?_, fun k e => ⟨.inr ⟨(NB.out k e).1, by have := (NB.out k e).2; omega⟩, by have := (NB.out k e).2; omega, (NB.out k e).1, by have := (NB.out k e).2; omega⟩⟩, S1.out, fun k e => ?_, ownsRow_base_a HO.out sz, BW.out⟩
      · have h := LA2.out
        rw [MX.out] at h
        exact h
      · have := (HO.out.lt k e).1; have := S2.out; omega
end Go.Proofs.YtdffpbfllekcgaaGreatDoor
