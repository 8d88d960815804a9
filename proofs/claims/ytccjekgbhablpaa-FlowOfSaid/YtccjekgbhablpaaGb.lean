/- LitC, LitF, LitG, LitY, in one text. -/
import Derived.Test.YtccjekgbhablpaaLitB
import Derived.Deep.RegionLaw
import Derived.StillTailTactics
import Derived.Deep.AppendSrc
import Derived.Deep.CutBlock
import Derived.Deep.DeepCutAuto
namespace Go.Proofs.Ytccjekgbhablpaa
set_option maxRecDepth 100000
open Go.RowKit

theorem nBlock {w w2 : World} {o : Obj} (b : Below (w.alloc o).heap.size (w.alloc o) w2) : w2.heap[w.heap.size]? = some o := (b.block w.heap.size (by simp)).trans (heap_alloc_new _ _)
theorem cOf {w : World} {b : Nat} {C : Array Value} {t : TypeId} {fr : Nat × Nat} (h : w.heap[b]? = some (.cells C t fr)) (o : Nat) : w.cell? ⟨b, o, none⟩ = C[o]? := by simp [World.cell?, h]
theorem tOf {w : World} {b : Nat} {C : Array Value} {t : TypeId} (h : w.heap[b]? = some (.cells C t (0, 0))) (o : Nat) : w.frozen? ⟨b, o, none⟩ = false := by simp [World.frozen?, h]
theorem cBel {w w' : World} {b o : Nat} {v : Value} (h : w.cell? ⟨b, o, none⟩ = some v) (hb : Below w.heap.size w w') : w'.cell? ⟨b, o, none⟩ = some v := by
  rw [hb.cell (World.block_lt_of_cell? w _ h)]; exact h

theorem insV_eq (x : Ins) : insV x = .agg #[.int .i64 x.op, .int .i64 x.rd, .int .i64 x.loc, .bool x.ar, .int .u64 x.an, .bool x.br, .int .u64 x.bn, .bool x.acq, .bool x.rel, .int .i64 x.dep, .int .i64 x.pred, .int .i64 x.succ, .int .i64 x.skip] := rfl
theorem aset (w : World) (o : Obj) : Below w.heap.size w (w.alloc o) := (Below.refl _ _).alloc (Nat.le_refl _) _

set_option maxHeartbeats 3200000 in
theorem names_any (x : Ins) (locs : Int) (w : World) :
    Calls Try.prog 57 #[insV x, .int .i64 locs] w fun e w' => e = .returned (.bool (namesM x locs)) ∧ Below w.heap.size w w' := by
  have c1 := fun W => isMemory_any x W
  have c2 := fun W => isIndex_any x.loc locs W
  have c3 := fun W => isRegister_any x.rd W
  have c4 := fun W => isThere_any x.ar x.an W
  have c5 := fun W => isThere_any x.br x.bn W
  have c6 := fun W => isIndex_any x.dep 9 W
  unfold namesM
  rw [insV_eq] at c1 ⊢
  generalize isMem x.op = b1 at *
  generalize idx x.loc locs = b2 at *
  generalize idx x.rd 8 = b3 at *
  generalize argOk x.ar x.an = b4 at *
  generalize argOk x.br x.bn = b5 at *
  generalize idx x.dep 9 = b6 at *
  have C1 := Bx.mk c1; have C2 := Bx.mk c2; have C3 := Bx.mk c3; have C4 := Bx.mk c4; have C5 := Bx.mk c5; have C6 := Bx.mk c6
  clear c1 c2 c3 c4 c5 c6
  go_enter Try.func57, Try.ntmps57
  cases b1 <;> cases b2 <;> cases b3 <;> cases b4 <;> cases b5
  all_goals
    go_wp2_with (first
      | (go_at_call 21; ((with_reducible refine (C1.out _).mono ?_); rintro e w1 ⟨rfl, b1⟩; have X := nBlock b1; have B1 := Bx.mk (bel (aset _ _) b1); clear b1; have y1 := cOf X 1; have y2 := cOf X 2; have y3 := cOf X 3; have y4 := cOf X 4; have y5 := cOf X 5; have y6 := cOf X 6; have y9 := cOf X 9; simp at y1 y2 y3 y4 y5 y6 y9; clear X))
      | (go_at_call 59; first
        | ((with_reducible refine (C2.out _).mono ?_); rintro e w' ⟨rfl, rfl⟩)
        | ((with_reducible refine (C6.out _).mono ?_); rintro e w' ⟨rfl, rfl⟩))
      | (go_at_call 60; ((with_reducible refine (C3.out _).mono ?_); rintro e w' ⟨rfl, rfl⟩))
      | (go_at_call 80; ((with_reducible refine (C4.out _).mono ?_); rintro e w2 ⟨rfl, b2⟩; have y3 := cBel y3 b2; have y4 := cBel y4 b2; have y5 := cBel y5 b2; have y6 := cBel y6 b2; have y9 := cBel y9 b2; have B1 := Bx.mk (bel B1.out b2); clear b2))
      | (go_at_call 80; ((with_reducible refine (C5.out _).mono ?_); rintro e w3 ⟨rfl, b2⟩; have y9 := cBel y9 b2; have B1 := Bx.mk (bel B1.out b2); clear b2)))
    go_ret
    exact ⟨by simp, B1.out⟩
end Go.Proofs.Ytccjekgbhablpaa
namespace Go.Proofs.Ytccjekgbhablpaa
set_option maxRecDepth 100000
open Go.RowKit

/-- a test: locations (name, value), threads, atoms (thread, at, value) -/
structure TestM where
  locs : List (List UInt8 × Int)
  thr : List (List Ins)
  asks : List (Int × Int × Int)

def locC (l : List UInt8 × Int) : List Value := [.string (st l.1), .int .u64 l.2]
def askC (a : Int × Int × Int) : List Value := [.int .i64 a.1, .int .i64 a.2.1, .int .u64 a.2.2]
/-- a slice whose cells can be read -/
def SlIn (w : World) (v : Value) (z n : Nat) (cs : List Value) : Prop :=
  cs.length = n * z ∧ ((n = 0 ∧ ∃ p c, v = .slice p 0 c) ∨ ∃ b off c, v = .slice (some ⟨b, off, none⟩) n c ∧ b < w.heap.size ∧ ∀ i u, cs[i]? = some u → w.cell? ⟨b, off + i, none⟩ = some u)
theorem SlIn.below {w w' : World} {v : Value} {z n : Nat} {cs : List Value} (h : SlIn w v z n cs) (hb : Below w.heap.size w w') : SlIn w' v z n cs := by
  refine ⟨h.1, ?_⟩
  rcases h.2 with h | ⟨b, off, c, hv, hlt, hc⟩
  · exact .inl h
  · exact .inr ⟨b, off, c, hv, Nat.lt_of_lt_of_le hlt hb.size, fun i u hu => by rw [hb.cell hlt]; exact hc i u hu⟩
theorem SlIn.slice {w : World} {v : Value} {z n : Nat} {cs : List Value} (h : SlIn w v z n cs) : ∃ p c, v = .slice p n c := by
  rcases h.2 with ⟨rfl, p, c, rfl⟩ | ⟨b, off, c, rfl, _⟩
  · exact ⟨_, _, rfl⟩
  · exact ⟨_, _, rfl⟩
theorem SlIn.at {w : World} {v : Value} {z n : Nat} {cs : List Value} (h : SlIn w v z n cs) (hn : 0 < n) : ∃ b off c, v = .slice (some ⟨b, off, none⟩) n c ∧ b < w.heap.size ∧ ∀ i u, cs[i]? = some u → w.cell? ⟨b, off + i, none⟩ = some u := by
  rcases h.2 with ⟨rfl, _⟩ | h
  · omega
  · exact h

/-- a test that lies in the heap: three slices, and the threads' own -/
structure TestIn (w : World) (lv tv av : Value) (t : TestM) : Prop where
  locs : SlIn w lv 2 t.locs.length (t.locs.flatMap locC)
  thr : ∃ vs : List Value, vs.length = t.thr.length ∧ SlIn w tv 1 t.thr.length vs ∧ ∀ (i : Nat) (v : Value), vs[i]? = some v → ∃ l : List Ins, t.thr[i]? = some l ∧ SlIn w v 13 l.length (l.flatMap insC)
  asks : SlIn w av 3 t.asks.length (t.asks.flatMap askC)
theorem TestIn.below {w w' : World} {lv tv av : Value} {t : TestM} (h : TestIn w lv tv av t) (hb : Below w.heap.size w w') : TestIn w' lv tv av t := by
  obtain ⟨vs, h1, h2, h3⟩ := h.thr
  exact ⟨h.locs.below hb, ⟨vs, h1, h2.below hb, fun i v hv => by
    obtain ⟨l, hl, hs⟩ := h3 i v hv
    exact ⟨l, hl, hs.below hb⟩⟩, h.asks.below hb⟩
/-- a test variable at a block -/
structure TestAt (w : World) (b : Nat) (t : TestM) : Prop where
  test : ∃ lv tv av, w.cell? ⟨b, 0, none⟩ = some lv ∧ w.cell? ⟨b, 1, none⟩ = some tv ∧ w.cell? ⟨b, 2, none⟩ = some av ∧ TestIn w lv tv av t
theorem TestAt.below {w w' : World} {b : Nat} {t : TestM} (h : TestAt w b t) (hb : Below w.heap.size w w') : TestAt w' b t := by
  obtain ⟨lv, tv, av, h0, h1, h2, h3⟩ := h.test
  exact ⟨lv, tv, av, cBel h0 hb, cBel h1 hb, cBel h2 hb, h3.below hb⟩

/-- sizes that an int holds -/
structure TestOk (t : TestM) : Prop where
  locs : t.locs.length ≤ 1000000
  thr : t.thr.length ≤ 1000000
  ins : ∀ l ∈ t.thr, l.length ≤ 1000000
  asks : t.asks.length ≤ 1000000

theorem flatAt {α β : Type} (f : α → List β) (z : Nat) (hf : ∀ x, (f x).length = z) : ∀ (X : List α) (i j : Nat) (x : α), X[i]? = some x → j < z → (X.flatMap f)[i * z + j]? = (f x)[j]?
  | [], i, j, x, h, _ => by simp at h
  | y :: X, 0, j, x, h, hj => by
    simp at h; subst h
    rw [List.flatMap_cons, Nat.zero_mul, Nat.zero_add, List.getElem?_append_left (by rw [hf]; exact hj)]
  | y :: X, i + 1, j, x, h, hj => by
    rw [List.flatMap_cons, List.getElem?_append_right (by rw [hf, Nat.succ_mul]; omega), hf, show (i + 1) * z + j - z = i * z + j by rw [Nat.succ_mul]; omega]
    exact flatAt f z hf X i j x (by simpa using h) hj

/-- how many loads and stores -/
def evI (x : Ins) : Nat := (if krd x.op then 1 else 0) + (if kwr x.op then 1 else 0)
def evL (l : List Ins) : Nat := (l.map evI).sum
def evM (t : List (List Ins)) : Nat := (t.map evL).sum
theorem evI_le (x : Ins) : evI x ≤ 2 := by unfold evI; split <;> split <;> omega
theorem evL_le : ∀ l : List Ins, evL l ≤ 2 * l.length
  | [] => by simp [evL]
  | x :: l => by
    have h1 := evI_le x
    have h2 := evL_le l
    unfold evL at *
    simp only [List.map_cons, List.sum_cons, List.length_cons]
    omega
theorem evL_take {l : List Ins} {k : Nat} {x : Ins} (h : l[k]? = some x) : evL (l.take (k + 1)) = evL (l.take k) + evI x := by
  have e : l.take (k + 1) = l.take k ++ [x] := by rw [List.take_add_one, h]; rfl
  rw [e]; simp [evL]
theorem evM_take {t : List (List Ins)} {k : Nat} {l : List Ins} (h : t[k]? = some l) : evM (t.take (k + 1)) = evM (t.take k) + evL l := by
  have e : t.take (k + 1) = t.take k ++ [l] := by rw [List.take_add_one, h]; rfl
  rw [e]; simp [evM]
theorem evM_le (M : Nat) : ∀ t : List (List Ins), (∀ l ∈ t, l.length ≤ M) → evM t ≤ 2 * M * t.length
  | [], _ => by simp [evM]
  | l :: t, h => by
    have h1 := evL_le l
    have h2 := evM_le M t (fun x hx => h x (by simp [hx]))
    have h3 := h l (by simp)
    unfold evM at *
    simp only [List.map_cons, List.sum_cons, List.length_cons, Nat.mul_add, Nat.mul_one]
    omega
end Go.Proofs.Ytccjekgbhablpaa
namespace Go.Proofs.Ytccjekgbhablpaa
set_option maxRecDepth 100000
open Go.RowKit

/-- an instruction that lies at a place of a block -/
structure InsAt (W : World) (b o : Nat) (x : Ins) : Prop where
  c0 : W.cell? ⟨b, o, none⟩ = some (.int .i64 x.op)
  c1 : W.cell? ⟨b, o + 1, none⟩ = some (.int .i64 x.rd)
  c2 : W.cell? ⟨b, o + 2, none⟩ = some (.int .i64 x.loc)
  c3 : W.cell? ⟨b, o + 3, none⟩ = some (.bool x.ar)
  c4 : W.cell? ⟨b, o + 4, none⟩ = some (.int .u64 x.an)
  c5 : W.cell? ⟨b, o + 5, none⟩ = some (.bool x.br)
  c6 : W.cell? ⟨b, o + 6, none⟩ = some (.int .u64 x.bn)
  c7 : W.cell? ⟨b, o + 7, none⟩ = some (.bool x.acq)
  c8 : W.cell? ⟨b, o + 8, none⟩ = some (.bool x.rel)
  c9 : W.cell? ⟨b, o + 9, none⟩ = some (.int .i64 x.dep)
  c10 : W.cell? ⟨b, o + 10, none⟩ = some (.int .i64 x.pred)
  c11 : W.cell? ⟨b, o + 11, none⟩ = some (.int .i64 x.succ)
  c12 : W.cell? ⟨b, o + 12, none⟩ = some (.int .i64 x.skip)
theorem SlIn.ins {w : World} {b off j : Nat} {l : List Ins} {x : Ins} (hc : ∀ i u, (l.flatMap insC)[i]? = some u → w.cell? ⟨b, off + i, none⟩ = some u) (hx : l[j]? = some x) : InsAt w b (off + j * 13) x := by
  have f := fun m hm => flatAt insC 13 (fun _ => rfl) l j m x hx hm
  exact ⟨hc _ _ (f 0 (by decide)), by rw [Nat.add_assoc]; exact hc _ _ (f 1 (by decide)), by rw [Nat.add_assoc]; exact hc _ _ (f 2 (by decide)), by rw [Nat.add_assoc]; exact hc _ _ (f 3 (by decide)), by rw [Nat.add_assoc]; exact hc _ _ (f 4 (by decide)), by rw [Nat.add_assoc]; exact hc _ _ (f 5 (by decide)), by rw [Nat.add_assoc]; exact hc _ _ (f 6 (by decide)), by rw [Nat.add_assoc]; exact hc _ _ (f 7 (by decide)), by rw [Nat.add_assoc]; exact hc _ _ (f 8 (by decide)), by rw [Nat.add_assoc]; exact hc _ _ (f 9 (by decide)), by rw [Nat.add_assoc]; exact hc _ _ (f 10 (by decide)), by rw [Nat.add_assoc]; exact hc _ _ (f 11 (by decide)), by rw [Nat.add_assoc]; exact hc _ _ (f 12 (by decide))⟩
theorem InsAt.below {w w' : World} {b o : Nat} {x : Ins} (h : InsAt w b o x) (hb : Below w.heap.size w w') : InsAt w' b o x :=
  ⟨cBel h.c0 hb, cBel h.c1 hb, cBel h.c2 hb, cBel h.c3 hb, cBel h.c4 hb, cBel h.c5 hb, cBel h.c6 hb, cBel h.c7 hb, cBel h.c8 hb, cBel h.c9 hb, cBel h.c10 hb, cBel h.c11 hb, cBel h.c12 hb⟩

set_option maxHeartbeats 6400000 in
theorem events_any (b : Nat) (t : TestM) (hk : TestOk t) (w : World) (h : TestAt w b t) :
    Calls Try.prog 31 #[.pointer (some ⟨b, 0, none⟩)] w fun e w' => e = .returned (.int .i64 (evM t.thr : Nat)) ∧ Below w.heap.size w w' := by
  obtain ⟨lv, tv, av, h0, h1, h2, ⟨_, ⟨vs, hvl, hth, hins⟩, _⟩⟩ := h.test
  obtain ⟨tp, tc, rfl⟩ := hth.slice
  have hn := hk.thr
  have HI := Bx.mk hins; have HT := Bx.mk hth; have HV := Bx.mk hvl; have HK := Bx.mk hk
  clear h hins h0 h2 hvl hth hk
  go_enter Try.func31, Try.ntmps31
  go_wp2_with fail
  go_loopw [3, 14] (fun s i wr => ∃ k : Nat, i = .int .i64 (k : Int) ∧ k ≤ t.thr.length ∧ s = .int .i64 ((evM (t.thr.take k) : Nat) : Int) ∧ Bx (Below w.heap.size w wr)) (fun _ i _ => t.thr.length - (intOf i).toNat)
  case atStart => exact ⟨0, rfl, by omega, rfl, ⟨Below.refl _ _⟩⟩
  case round =>
    obtain ⟨k, rfl, hkn, rfl, hb⟩ := hrel
    by_cases hlt : k < t.thr.length
    · obtain ⟨bb, off, c, hv, hbl, hcl⟩ := HT.out.at (by omega)
      obtain ⟨rfl, _, rfl⟩ := Value.slice.inj hv
      obtain ⟨v, hvk⟩ : ∃ v, vs[k]? = some v := ⟨_, List.getElem?_eq_getElem (by rw [HV.out]; exact hlt)⟩
      obtain ⟨l, hlk, hsl⟩ := HI.out k v hvk
      obtain ⟨p2, c2, rfl⟩ := hsl.slice
      have hc0 : wr.cell? ⟨bb, off + k, none⟩ = some (.slice p2 l.length c2) := by rw [hb.out.cell hbl]; exact hcl k _ hvk
      have hll := HK.out.ins l (List.mem_of_getElem? hlk)
      have hev := evM_take hlk
      have hle := evM_le 1000000 (t.thr.take k) (fun x hx => HK.out.ins x (List.mem_of_mem_take hx))
      have hl2 : (t.thr.take k).length ≤ k := by simp; omega
      have hmul : 2 * 1000000 * (t.thr.take k).length ≤ 2 * 1000000 * 1000000 := Nat.mul_le_mul_left _ (by omega)
      obtain ⟨E, hE⟩ : ∃ E, E = evM (t.thr.take k) := ⟨_, rfl⟩
      rw [← hE] at hev hle ⊢
      have hE2 : E ≤ 2000000000000 := by omega
      have HEV := Bx.mk hev; have HSL := Bx.mk hsl
      clear hv hcl hvk hlk hev hle hl2 hmul hE hsl
      go_wp2
      go_loopw [3, 20] (fun s i wr => ∃ j : Nat, i = .int .i64 (j : Int) ∧ j ≤ l.length ∧ s = .int .i64 ((E + evL (l.take j) : Nat) : Int) ∧ Bx (Below w.heap.size w wr)) (fun _ i _ => l.length - (intOf i).toNat)
      case atStart => exact ⟨0, rfl, by omega, by simp [evL], hb⟩
      case round =>
        obtain ⟨j, rfl, hjn, rfl, hq⟩ := hrel
        by_cases hjl : j < l.length
        · obtain ⟨bi, oi, ci, hvi, hbi, hci⟩ := HSL.out.at (by omega)
          obtain ⟨rfl, _, rfl⟩ := Value.slice.inj hvi
          obtain ⟨x, hx⟩ : ∃ x, l[j]? = some x := ⟨_, List.getElem?_eq_getElem hjl⟩
          have hia := SlIn.ins hci hx
          have hev := evL_take hx
          have hle := evL_le (l.take j)
          have hl2 : (l.take j).length ≤ j := by simp; omega
          obtain ⟨F, hF⟩ : ∃ F, F = E + evL (l.take j) := ⟨_, rfl⟩
          have hev2 : E + evL (l.take (j + 1)) = F + evI x := by omega
          rw [← hF]
          have hF2 : F ≤ 3000000000000 := by omega
          have co : ∀ W, Calls Try.prog 36 #[insV x] W fun e w' => e = .returned (.agg #[.bool (krd x.op), .bool (kwr x.op)]) ∧ Below W.heap.size W w' := fun W => of_any x W
          rw [insV_eq] at co
          unfold evI at hev2
          have hbw : bi < wr.heap.size := Nat.lt_of_lt_of_le hbi hq.out.size
          obtain ⟨q0, q1, q2, q3, q4, q5, q6, q7, q8, q9, q10, q11, q12⟩ : InsAt wr bi (oi + j * 13) x := ⟨(hq.out.cell hbi).trans hia.c0, (hq.out.cell hbi).trans hia.c1, (hq.out.cell hbi).trans hia.c2, (hq.out.cell hbi).trans hia.c3, (hq.out.cell hbi).trans hia.c4, (hq.out.cell hbi).trans hia.c5, (hq.out.cell hbi).trans hia.c6, (hq.out.cell hbi).trans hia.c7, (hq.out.cell hbi).trans hia.c8, (hq.out.cell hbi).trans hia.c9, (hq.out.cell hbi).trans hia.c10, (hq.out.cell hbi).trans hia.c11, (hq.out.cell hbi).trans hia.c12⟩
          generalize krd x.op = kr at *
          generalize kwr x.op = kw at *
          have CO := Bx.mk co
          clear co hvi hci hx hia hev hle hl2 hF
          cases kr <;> cases kw
          all_goals
            simp only [Bool.false_eq_true, if_false, if_true, Nat.add_zero, Nat.zero_add] at hev2
            have HEV2 := Bx.mk hev2
            clear hev2
            go_wp2_with (go_at_call 36; ((with_reducible refine (CO.out _).mono ?_); rintro e w1 ⟨rfl, b1⟩; have B1 := Bx.mk ((hq.out.alloc hq.out.size _).trans (b1.mono (by have := hq.out.size; simp; omega))); clear b1))
            go_roundw
            case rel => exact ⟨j + 1, by go_num, by omega, by first | (rw [HEV2.out]; done) | (rw [HEV2.out]; go_num), ⟨B1.out.alloc B1.out.size _⟩⟩
            case measure => simp [intOf] <;> omega
        · obtain rfl : j = l.length := by omega
          have he : evM (t.thr.take (k + 1)) = E + evL (l.take l.length) := by rw [HEV.out, List.take_length]
          have HE := Bx.mk he
          clear he
          go_wp2
          go_roundw
          case rel => exact ⟨k + 1, by go_num, by omega, by rw [HE.out], hq⟩
          case measure => simp [intOf] <;> omega
    · obtain rfl : k = t.thr.length := by omega
      have he : t.thr.take t.thr.length = t.thr := List.take_length
      rw [he]
      clear he
      go_wp2
      go_ret
      exact ⟨rfl, hb.out⟩
end Go.Proofs.Ytccjekgbhablpaa
namespace Go.Proofs.Ytccjekgbhablpaa
set_option maxRecDepth 100000
open Go.RowKit

theorem cutF_any (s : ByteArray) (n : Nat) (w : World) :
    Calls Try.prog 14 #[.string s, .int .i64 (n : Nat)] w fun e w' => e = .returned (.string (s.extract 0 n)) ∧ w = w' := by
  by_cases h : s.size ≤ n
  · have e : s.extract 0 n = s := by
      rw [← st_by s, st_part]
      congr 1
      rw [List.drop_zero]
      exact List.take_of_length_le (by rw [by_size]; omega)
    rw [e]
    go_enter Try.func14, Try.ntmps14
    go_wp2
    go_ret
    exact ⟨rfl, rfl⟩
  · have h1 : n < s.size := by omega
    go_enter Try.func14, Try.ntmps14
    go_wp2
    go_ret
    exact ⟨rfl, rfl⟩

def cutL (l : List UInt8 × Int) : List UInt8 × Int := (l.1.take 20, l.2)
/-- a test with few parts -/
def fewM (t : TestM) : TestM := ⟨(t.locs.take 12).map cutL, (t.thr.take 6).map (·.take 12), t.asks.take 50⟩
theorem cut_st (l : List UInt8) (n : Nat) : (st l).extract 0 n = st (l.take n) := by
  rw [st_part, List.drop_zero, Nat.sub_zero]

theorem keepC {w w' : World} {p o : Nat} {v : Value} (hk : w'.heap[p]? = w.heap[p]?) (h : w.cell? ⟨p, o, none⟩ = some v) : w'.cell? ⟨p, o, none⟩ = some v := by
  simp only [World.cell?] at h ⊢
  rw [hk]; exact h
theorem keepF {w w' : World} {p o : Nat} (hk : w'.heap[p]? = w.heap[p]?) (h : w.frozen? ⟨p, o, none⟩ = false) : w'.frozen? ⟨p, o, none⟩ = false := by
  simp only [World.frozen?] at h ⊢
  rw [hk]; exact h
theorem grownC {w W w' : World} {row : Option Nat} (hb : Below w.heap.size w W) (hg : W.grownBy w' row) {p : Nat} (hp : p < w.heap.size) (hr : row ≠ some p) : w'.heap[p]? = w.heap[p]? :=
  (hg.block p (Nat.lt_of_lt_of_le hp hb.size) (fun e => hr e.symm)).trans (hb.block p hp)
theorem heapSet {w : World} {b : Nat} {C : Array Value} {T : TypeId} {fr : Nat × Nat} (h : w.heap[b]? = some (.cells C T fr)) (o : Nat) (v : Value) : (w.setCell ⟨b, o, none⟩ v).heap[b]? = some (.cells (C.setIfInBounds o v) T fr) := by
  simp [World.setCell, Array.getElem?_modify, h]
theorem info_init : (Try.prog.info? 80).map (fun i => (i.zero, i.size, i.bytes)) = some (some (.agg #[.string ⟨#[]⟩, .int .u64 0]), 2, 24) := by kernel_rfl

/-- the three variables of Few: what came in, what goes out, what is made -/
structure FewH (W : World) (B : Nat) (a0 a1 a2 l t s : Value) : Prop where
  b0 : W.heap[B]? = some (.cells #[a0, a1, a2] 26)
  b1 : W.heap[B + 1]? = some (.cells #[.slice none 0 0, .slice none 0 0, .slice none 0 0] 26)
  b2 : W.heap[B + 1 + 1]? = some (.cells #[l, t, s] 26)
theorem FewH.lt {W : World} {B : Nat} {a0 a1 a2 l t s : Value} (h : FewH W B a0 a1 a2 l t s) : B + 1 + 1 < W.heap.size := by
  rcases Nat.lt_or_ge (B + 1 + 1) W.heap.size with e | e
  · exact e
  · have := h.b2; rw [Array.getElem?_eq_none e] at this; cases this
theorem FewH.bel {W W2 : World} {B : Nat} {a0 a1 a2 l t s : Value} (h : FewH W B a0 a1 a2 l t s) (hb : Below W.heap.size W W2) : FewH W2 B a0 a1 a2 l t s := by
  have hl := h.lt
  exact ⟨(hb.block _ (by omega)).trans h.b0, (hb.block _ (by omega)).trans h.b1, (hb.block _ (by omega)).trans h.b2⟩
theorem FewH.grown {W W2 : World} {row : Option Nat} {B : Nat} {a0 a1 a2 l t s : Value} (h : FewH W B a0 a1 a2 l t s) (hg : W.grownBy W2 row) (hr : ∀ k, row = some k → B + 1 + 1 < k) : FewH W2 B a0 a1 a2 l t s := by
  have hl := h.lt
  have ne : ∀ k, k ≤ B + 1 + 1 → row ≠ some k := fun k hk e => by have := hr k e; omega
  exact ⟨(grownC (Below.refl _ _) hg (by omega) (ne _ (by omega))).trans h.b0, (grownC (Below.refl _ _) hg (by omega) (ne _ (by omega))).trans h.b1, (grownC (Below.refl _ _) hg (by omega) (ne _ (by omega))).trans h.b2⟩
theorem FewH.set {W : World} {B : Nat} {a0 a1 a2 l t s : Value} (h : FewH W B a0 a1 a2 l t s) (o : Nat) (v : Value) {l' t' s' : Value} (e : (#[l, t, s] : Array Value).setIfInBounds o v = #[l', t', s']) : FewH (W.setCell ⟨B + 1 + 1, o, none⟩ v) B a0 a1 a2 l' t' s' :=
  ⟨(Below.heap_setCell _ _ _ _ (by show B ≠ B + 1 + 1; omega)).trans h.b0, (Below.heap_setCell _ _ _ _ (by show B + 1 ≠ B + 1 + 1; omega)).trans h.b1, by rw [← e]; exact heapSet h.b2 o v⟩
theorem few_start (w : World) (a0 a1 a2 : Value) : FewH (((w.alloc (.cells #[a0, a1, a2] 26)).alloc (.cells #[.slice none 0 0, .slice none 0 0, .slice none 0 0] 26)).alloc (.cells #[.slice none 0 0, .slice none 0 0, .slice none 0 0] 26)) w.heap.size a0 a1 a2 (.slice none 0 0) (.slice none 0 0) (.slice none 0 0) := by
  obtain ⟨w1, e1⟩ : ∃ w1, w1 = w.alloc (.cells #[a0, a1, a2] 26) := ⟨_, rfl⟩
  have z1 : w1.heap.size = w.heap.size + 1 := by rw [e1]; simp
  have h1 : w1.heap[w.heap.size]? = some (.cells #[a0, a1, a2] 26) := by rw [e1]; exact heap_alloc_new _ _
  rw [← e1]
  obtain ⟨w2, e2⟩ : ∃ w2, w2 = w1.alloc (.cells #[.slice none 0 0, .slice none 0 0, .slice none 0 0] 26) := ⟨_, rfl⟩
  have z2 : w2.heap.size = w1.heap.size + 1 := by rw [e2]; simp
  have h2 : w2.heap[w1.heap.size]? = some (.cells #[.slice none 0 0, .slice none 0 0, .slice none 0 0] 26) := by rw [e2]; exact heap_alloc_new _ _
  have b2 : Below w1.heap.size w1 w2 := by rw [e2]; exact aset _ _
  rw [← e2]
  obtain ⟨w3, e3⟩ : ∃ w3, w3 = w2.alloc (.cells #[.slice none 0 0, .slice none 0 0, .slice none 0 0] 26) := ⟨_, rfl⟩
  have h3 : w3.heap[w2.heap.size]? = some (.cells #[.slice none 0 0, .slice none 0 0, .slice none 0 0] 26) := by rw [e3]; exact heap_alloc_new _ _
  have b3 : Below w2.heap.size w2 w3 := by rw [e3]; exact aset _ _
  rw [← e3]
  refine ⟨?_, ?_, ?_⟩
  · rw [b3.block _ (by omega), b2.block _ (by omega)]; exact h1
  · rw [b3.block _ (by omega), ← z1]; exact h2
  · rw [← z1, ← z2]; exact h3
theorem step_append_zero {P : Program} {ops : Array Oper} {o : Oper} {a : Act} {w : World} {K : Act → World → Prop} {Q : Exit → Act → World → Prop} {E : Prop}
    (hg : o.guard = none) (s x : Operand) (t : TypeId) (hop : o.op = Op.call { callee := Callee.builtin Builtin.append, args := #[s, x], argTypes := #[t, t] })
    (e : TypeId) (i : TypeInfo) (h1 : P.underlying t = some (.slice e)) (h2 : P.info? e = some i) (b off cap : Nat) (hs : a.eval s = .slice (some ⟨b, off, none⟩) 0 cap) (p : Option Addr) (c : Nat) (hx : a.eval x = .slice p 0 c)
    (hK : K (a.put o.dst (.slice (some ⟨b, off, none⟩) 0 cap)) w) : if Region.wanted o (yielded ops a.tmps) = true then Oper.wp P o a w K Q else E := by
  have hw : Region.wanted o (yielded ops a.tmps) = true := by simp [Region.wanted, hg]
  rw [if_pos hw]
  have src : Src P i.size t (.slice p 0 c) 0 [] w := by
    cases p with
    | none => exact Src.ofNil w h1 c
    | some ad => exact Src.ofSlice w h1 ad 0 c [] (by simp) (by simp) (by simp)
  have hrun := run_append_room_src (P := P) (w := w) t t o.type e i h1 h2 b off 0 cap (.slice p 0 c) 0 [] src (by omega) (by simp) (by simp)
  have e0 : w.setCells b (off + 0 * i.size) [] = w := rfl
  rw [e0] at hrun
  unfold Oper.wp
  simp [execOp, hop, resolve, invoke, builtin, hs, hx, hrun, Result.andThen]
  exact hK

theorem info_ins : (Try.prog.info? 84).map (fun i => (i.zero, i.size, i.bytes)) = some (some (.agg #[.int .i64 0, .int .i64 0, .int .i64 0, .bool false, .int .u64 0, .bool false, .int .u64 0, .bool false, .bool false, .int .i64 0, .int .i64 0, .int .i64 0, .int .i64 0]), 13, 96) := by kernel_rfl
theorem info_thr : (Try.prog.info? 81).map (fun i => (i.zero, i.size, i.bytes)) = some (some (.slice none 0 0), 1, 24) := by kernel_rfl
theorem info_atom : (Try.prog.info? 90).map (fun i => (i.zero, i.size, i.bytes)) = some (some (.agg #[.int .i64 0, .int .i64 0, .int .u64 0]), 3, 24) := by kernel_rfl

/-- a slice that has room for what it holds -/
def SlCap (v : Value) : Prop := ∃ p n c, v = .slice p n c ∧ n ≤ c
/-- a test that lies in the heap, each slice with its room -/
structure CapIn (w : World) (lv tv av : Value) (t : TestM) : Prop where
  locs : SlIn w lv 2 t.locs.length (t.locs.flatMap locC)
  lc : SlCap lv
  thr : ∃ vs : List Value, vs.length = t.thr.length ∧ SlIn w tv 1 t.thr.length vs ∧ ∀ (i : Nat) (v : Value), vs[i]? = some v → SlCap v ∧ ∃ l : List Ins, t.thr[i]? = some l ∧ SlIn w v 13 l.length (l.flatMap insC)
  tc : SlCap tv
  asks : SlIn w av 3 t.asks.length (t.asks.flatMap askC)
  ac : SlCap av
theorem CapIn.test {w : World} {lv tv av : Value} {t : TestM} (h : CapIn w lv tv av t) : TestIn w lv tv av t := by
  obtain ⟨vs, h1, h2, h3⟩ := h.thr
  exact ⟨h.locs, ⟨vs, h1, h2, fun i v hv => (h3 i v hv).2⟩, h.asks⟩
theorem rowSlIn {w : World} {B e z n : Nat} {v : Value} {xs : List Value} (h : w.ownsRow B e z v n xs) : SlIn w v z n xs ∧ SlCap v := by
  have hl := h.1
  rcases h.2 with ⟨rfl, rfl⟩ | ⟨g, cap, cur, rfl, hg, hh, hn, _, hs, ht⟩
  · exact ⟨⟨hl, .inl ⟨rfl, _, _, rfl⟩⟩, _, _, _, rfl, Nat.le_refl _⟩
  · refine ⟨⟨hl, .inr ⟨g, 0, cap, rfl, ?_, fun i u hu => ?_⟩⟩, _, _, _, rfl, hn⟩
    · rcases Nat.lt_or_ge g w.heap.size with e | e
      · exact e
      · rw [Array.getElem?_eq_none e] at hh; cases hh
    · have hi : i < n * z := by rw [← hl]; exact (List.getElem?_eq_some_iff.1 hu).1
      rw [cOf hh, Nat.zero_add]
      have h1 : (cur.toList.take (n * z))[i]? = xs[i]? := by rw [ht]
      rw [List.getElem?_take_of_lt hi, hu] at h1
      simpa using h1

/-- a row of threads, each a row of its own -/
def ThrRow (w : World) (B : Nat) (v : Value) (L : List (List Ins)) : Prop :=
  ∃ X : List (Value × List Ins), L = X.map (·.2) ∧ w.ownsRow B 81 1 v X.length (X.map (·.1)) ∧ ∀ x ∈ X, w.ownsRow B 84 13 x.1 x.2.length (x.2.flatMap insC)
theorem ThrRow.nil (w : World) (B : Nat) : ThrRow w B (.slice none 0 0) [] := ⟨[], rfl, World.ownsRow_nil _ _ _ _, fun x h => by cases h⟩
theorem ThrRow.keep {w w' : World} {B : Nat} {v : Value} {L : List (List Ins)} (h : ThrRow w B v L) (hk : ∀ k, B ≤ k → k < w.heap.size → w'.heap[k]? = w.heap[k]?) : ThrRow w' B v L := by
  obtain ⟨X, e, h1, h2⟩ := h
  exact ⟨X, e, rowKeep h1 fun k hk' => hk k (rowLt h1 k hk').1 (rowLt h1 k hk').2, fun x hx => rowKeep (h2 x hx) fun k hk' => hk k (rowLt (h2 x hx) k hk').1 (rowLt (h2 x hx) k hk').2⟩
theorem ThrRow.bel {w w' : World} {B : Nat} {v : Value} {L : List (List Ins)} (h : ThrRow w B v L) (hb : Below w.heap.size w w') : ThrRow w' B v L := h.keep fun k _ hk => hb.block k hk
theorem ins_thr : (84 : TypeId) ≠ 81 := by decide
theorem ThrRow.push {w w' : World} {B : Nat} {v : Value} {X : List (Value × List Ins)} (hown : w.ownsRow B 81 1 v X.length (X.map (·.1))) (hall : ∀ x ∈ X, w.ownsRow B 84 13 x.1 x.2.length (x.2.flatMap insC)) {u : Value} {ts : List Ins} (hu : w.ownsRow B 84 13 u ts.length (ts.flatMap insC))
    {o : Obj} (hg : (w.alloc o).grownBy w' v.ownBlock) {g cap : Nat} (hown' : w'.ownsRow B 81 1 (.slice (some ⟨g, 0, none⟩) (X.length + 1) cap) (X.length + 1) (X.map (·.1) ++ [u])) :
    ThrRow w' B (.slice (some ⟨g, 0, none⟩) (X.length + 1) cap) (X.map (·.2) ++ [ts]) := by
  have keep : ∀ {y us n}, w.ownsRow B 84 13 y n us → w'.ownsRow B 84 13 y n us := fun {y us n} h => rowKeep h fun k hk => by
    have hlt := (rowLt h k hk).2
    have e1 := hg.block k (by simp; omega) (fun e => rowApart h hown ins_thr k hk e.symm)
    rw [e1]
    exact ((Below.refl w.heap.size w).alloc (Nat.le_refl _) o).block k hlt
  refine ⟨X ++ [(u, ts)], by simp, ?_, fun x hx => ?_⟩
  · rw [List.length_append, List.map_append]
    exact hown'
  · rcases List.mem_append.1 hx with h | h
    · exact keep (hall x h)
    · simp at h; subst h; exact keep hu
theorem ThrRow.test {w : World} {B : Nat} {v : Value} {L : List (List Ins)} (h : ThrRow w B v L) : SlCap v ∧ ∃ vs : List Value, vs.length = L.length ∧ SlIn w v 1 L.length vs ∧ ∀ (i : Nat) (u : Value), vs[i]? = some u → SlCap u ∧ ∃ l : List Ins, L[i]? = some l ∧ SlIn w u 13 l.length (l.flatMap insC) := by
  obtain ⟨X, rfl, h1, h2⟩ := h
  refine ⟨(rowSlIn h1).2, X.map (·.1), by simp, by simpa using (rowSlIn h1).1, fun i u hu => ?_⟩
  rw [List.getElem?_map] at hu
  obtain ⟨x, hx, rfl⟩ := Option.map_eq_some_iff.1 hu
  have := rowSlIn (h2 x (List.mem_of_getElem? hx))
  exact ⟨this.2, x.2, by simp [hx], this.1⟩
theorem ThrRow.mono {w : World} {B C : Nat} {v : Value} {L : List (List Ins)} (h : ThrRow w B v L) (hC : C ≤ B) : ThrRow w C v L := by
  obtain ⟨X, e, h1, h2⟩ := h
  exact ⟨X, e, rowMono h1 hC, fun x hx => rowMono (h2 x hx) hC⟩
/-- a test whose rows are the call's own, from block B on -/
structure RowTest (w : World) (B : Nat) (lv tv av : Value) (u : TestM) : Prop where
  locs : w.ownsRow B 80 2 lv u.locs.length (u.locs.flatMap locC)
  thr : ThrRow w B tv u.thr
  asks : w.ownsRow B 90 3 av u.asks.length (u.asks.flatMap askC)
theorem RowTest.keep {w W : World} {B : Nat} {lv tv av : Value} {u : TestM} (h : RowTest w B lv tv av u) (hk : ∀ b, B ≤ b → b < w.heap.size → W.heap[b]? = w.heap[b]?) : RowTest W B lv tv av u :=
  ⟨rowKeep h.locs fun b hb => hk b (rowLt h.locs b hb).1 (rowLt h.locs b hb).2, h.thr.keep hk, rowKeep h.asks fun b hb => hk b (rowLt h.asks b hb).1 (rowLt h.asks b hb).2⟩
theorem RowTest.bel {w W : World} {B : Nat} {lv tv av : Value} {u : TestM} (h : RowTest w B lv tv av u) (hb : Below w.heap.size w W) : RowTest W B lv tv av u := h.keep fun b _ hl => hb.block b hl
theorem RowTest.mono {w : World} {B C : Nat} {lv tv av : Value} {u : TestM} (h : RowTest w B lv tv av u) (hC : C ≤ B) : RowTest w C lv tv av u := ⟨rowMono h.locs hC, h.thr.mono hC, rowMono h.asks hC⟩
theorem RowTest.cap {w : World} {B : Nat} {lv tv av : Value} {u : TestM} (h : RowTest w B lv tv av u) : CapIn w lv tv av u :=
  ⟨(rowSlIn h.locs).1, (rowSlIn h.locs).2, h.thr.test.2, h.thr.test.1, (rowSlIn h.asks).1, (rowSlIn h.asks).2⟩
end Go.Proofs.Ytccjekgbhablpaa
