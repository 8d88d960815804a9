/- Contracts of sha: the rounds. -/
import Derived.Test.YtdhbeeeofaheeaaDoorShaA
import Derived.Test.YtdhbeeeofaheeaaDoorCrcA
namespace Go.Proofs.YtdhbeeeofaheeaaDoor
set_option maxRecDepth 100000
open Go.RowKit M

/-- the cells of a list of words -/
def w32 (l : List Nat) : List Value := l.map fun n => .int .u32 ((n : Nat) : Int)
theorem w32_length (l : List Nat) : (w32 l).length = l.length := by simp [w32]
theorem w32_get {l : List Nat} {k : Nat} (h : k < l.length) : (w32 l)[k]? = some (.int .u32 ((l.getD k 0 : Nat) : Int)) := by
  simp [w32, h, List.getD]
theorem w32_one (l : List Nat) : ∀ u ∈ w32 l, u.oneCell' = true := by
  intro u hu; simp [w32] at hu; obtain ⟨n, _, rfl⟩ := hu; rfl
/-- the constants of the rounds lie in their cells -/
def KTab (w : World) : Prop := ∀ t, t < 64 → w.cell? ⟨1, t, none⟩ = some (.int .u32 ((kN.getD t 0 : Nat) : Int))
theorem ktab_below {w w' : World} (h : KTab w) (hb : Below w.heap.size w w') : KTab w' := fun t ht => by
  have hc := h t ht
  rw [hb.cell (World.block_lt_of_cell? w _ hc)]; exact hc

theorem turn_rr {x : Nat} (hx : x < 4294967296) (n : Nat) (m : Int) (hm : m = -(n : Int)) (h1 : 1 ≤ n) (h2 : n ≤ 31) (w : World) :
    Calls Tryd.prog 85 #[.int .u32 x, .int .i64 m] w fun e w' => e = .returned (.int .u32 (rr n x : Nat)) ∧ w = w' := by
  subst hm
  have h := wordTurn32_any x (-(n : Int)) hx w
  have e : ((-(n : Int)) % 32).toNat = 32 - n := by omega
  rw [e] at h
  have e2 : rotN32 x (32 - n) = rr n x := by
    unfold rotN32
    rw [show 32 - (32 - n) = n by omega]
    exact rr_or (by omega) hx
  rw [e2] at h
  exact h

theorem and32 {a b : Nat} (ha : a < 4294967296) (hb : b < 4294967296) : bits BinOp.and IntKind.u32 (a : Int) (b : Int) = ((a &&& b : Nat) : Int) := u32_and_nat a b ha hb

theorem below_setCells {B b : Nat} (hb : B ≤ b) : ∀ (vs : List Value) (o : Nat) (w0 w : World), Below B w0 w → Below B w0 (w.setCells b o vs)
  | [], _, _, _, h => h
  | v :: r, o, w0, w, h => by
    rw [World.setCells]
    exact below_setCells hb r (o + 1) w0 _ (h.setCell (p := ⟨b, o, none⟩) hb v)
theorem below_drewN {B : Nat} {w0 w : World} (h : Below B w0 w) (n : Nat) : Below B w0 (w.drewN n) := ⟨h.os, h.tape, h.output, h.size, h.block⟩

/-- a row of cells is stored: it reads back, and nothing else has changed -/
theorem store_arr {w : World} {b o : Nat} {T : TypeId} {cs : List Value} {d : TypeDesc} (ht : w.there b o cs.length) (hi : (Tryd.prog.info? T).map (·.size) = some cs.length) (h1 : ∀ v ∈ cs, v.oneCell' = true) (hu : Tryd.prog.underlying T = some d) (hd : d.isRow = true) :
    (Instr.storeAt T (.pointer (some ⟨b, o, none⟩)) (.agg cs.toArray)).run Tryd.prog w = .ok () (w.setCells b o cs) ∧ (loadVar T ⟨b, o, none⟩).run Tryd.prog (w.setCells b o cs) = .ok (.agg cs.toArray) (w.setCells b o cs) :=
  ⟨run_storeAt_mid w b o T cs.toArray (by simpa using ht) (by simpa using hi) (all_oneCell_toArray h1),
   run_loadVar_mid _ b o T cs d (World.rangeAt_setCells_same w b o cs ht) hu hd hi⟩

theorem at_store {P : Program} {ops : Array Oper} {Q : Exit → Act → World → Prop} {rest : List Oper} {a : Act} {w : World} (T : TypeId) (x y : Operand) {dst : Option Tmp} {ty : TypeId} {pos : String} {after : Array Edge} {guard : Option (Nat × Bool)}
    (h : wpList P ops Q (⟨dst, .store T x y, ty, pos, after, guard⟩ :: rest) a w) : wpList P ops Q (⟨dst, .store T x y, ty, pos, after, guard⟩ :: rest) a w := h
theorem results_one {P : Program} {fn : Func} {p : Tmp} {ty : TypeId} {tmps : Array Value} {w : World} {a : Addr} {v : Value} (h : fn.results = #[.cell p ty]) (ht : tmps.getD p undef = .pointer (some a)) (hl : (loadVar ty a).run P w = .ok v w) :
    (results fn tmps).run P w = .ok v w := by
  have ht' : tmps[p]?.getD undef = .pointer (some a) := by rw [← Array.getD_eq_getD_getElem?]; exact ht
  simp only [results, h]
  simp [ht', hl, asAddr]
theorem at_load {P : Program} {ops : Array Oper} {Q : Exit → Act → World → Prop} {rest : List Oper} {a : Act} {w : World} (T : TypeId) (x : Operand) {dst : Option Tmp} {ty : TypeId} {pos : String} {after : Array Edge} {guard : Option (Nat × Bool)}
    (h : wpList P ops Q (⟨dst, .load T x, ty, pos, after, guard⟩ :: rest) a w) : wpList P ops Q (⟨dst, .load T x, ty, pos, after, guard⟩ :: rest) a w := h
theorem there_new (w : World) (T : TypeId) (cs : List Value) (b o : Nat) (n : Nat) (hb : b = w.heap.size) (h : o + n ≤ cs.length) : (w.alloc (.cells cs.toArray T)).there b o n := fun j hj => by
  subst hb
  have e : (w.alloc (.cells cs.toArray T)).heap[w.heap.size]? = some (.cells cs.toArray T (0, 0)) := heap_alloc_new w _
  refine ⟨?_, by simp⟩
  rw [cell_of_row _ _ _ _ _ _ e]
  simp; omega
theorem range_new (w : World) (T : TypeId) (cs : List Value) (b : Nat) (hb : b = w.heap.size) : (w.alloc (.cells cs.toArray T)).rangeAt b 0 cs := fun j v hv => by
  subst hb
  have e : (w.alloc (.cells cs.toArray T)).heap[w.heap.size]? = some (.cells cs.toArray T (0, 0)) := heap_alloc_new w _
  rw [cell_of_row _ _ _ _ _ _ e, Nat.zero_add]
  simpa using hv

theorem fin1 {a b c d e f g h K X T0 T1 ch ma : Nat} (r3 : bits BinOp.xor IntKind.u32 (bits BinOp.and IntKind.u32 (e : Int) (f : Int)) (bits BinOp.and IntKind.u32 (bits BinOp.xor IntKind.u32 IntKind.u32.max (e : Int)) (g : Int)) = (ch : Int))
    (hT1 : T1 = t1 e) (hT0 : T0 = t0 a) (hch : ch = chN e f g) (hma : ma = maN a b c) :
    ((((h : Int) + T1 + bits BinOp.xor IntKind.u32 (bits BinOp.and IntKind.u32 (e : Int) (f : Int)) (bits BinOp.and IntKind.u32 (bits BinOp.xor IntKind.u32 (if IntKind.u32.signed = true then -1 else IntKind.u32.max) (e : Int)) (g : Int)) + K + X) % 4294967296 + ((T0 : Int) + ma) % 4294967296) % 4294967296) = (((rnd K X ⟨a, b, c, d, e, f, g, h⟩).a : Nat) : Int) := by
  have r3' : bits BinOp.xor IntKind.u32 (bits BinOp.and IntKind.u32 (e : Int) (f : Int)) (bits BinOp.and IntKind.u32 (bits BinOp.xor IntKind.u32 (if IntKind.u32.signed = true then -1 else IntKind.u32.max) (e : Int)) (g : Int)) = (ch : Int) := r3
  rw [r3']
  simp only [rnd, rT, rU, ← hT1, ← hT0, ← hch, ← hma]
  omega
theorem fin2 {a b c d e f g h K X T1 ch : Nat} (r3 : bits BinOp.xor IntKind.u32 (bits BinOp.and IntKind.u32 (e : Int) (f : Int)) (bits BinOp.and IntKind.u32 (bits BinOp.xor IntKind.u32 IntKind.u32.max (e : Int)) (g : Int)) = (ch : Int))
    (hT1 : T1 = t1 e) (hch : ch = chN e f g) :
    (((d : Int) + ((h : Int) + T1 + bits BinOp.xor IntKind.u32 (bits BinOp.and IntKind.u32 (e : Int) (f : Int)) (bits BinOp.and IntKind.u32 (bits BinOp.xor IntKind.u32 (if IntKind.u32.signed = true then -1 else IntKind.u32.max) (e : Int)) (g : Int)) + K + X) % 4294967296) % 4294967296) = (((rnd K X ⟨a, b, c, d, e, f, g, h⟩).e : Nat) : Int) := by
  have r3' : bits BinOp.xor IntKind.u32 (bits BinOp.and IntKind.u32 (e : Int) (f : Int)) (bits BinOp.and IntKind.u32 (bits BinOp.xor IntKind.u32 (if IntKind.u32.signed = true then -1 else IntKind.u32.max) (e : Int)) (g : Int)) = (ch : Int) := r3
  rw [r3']
  simp only [rnd, rT, ← hT1, ← hch]
  omega
set_option maxRecDepth 100000 in
set_option maxHeartbeats 600000 in
theorem rounds_any (v : V8) (hv : v.ok) (W : List Nat) (hW : W.length = 64) (hWl : ∀ k, W.getD k 0 < 4294967296) (w : World) (hK : KTab w) :
    Calls Tryd.prog 74 #[.agg #[.int .u32 v.a, .int .u32 v.b, .int .u32 v.c, .int .u32 v.d, .int .u32 v.e, .int .u32 v.f, .int .u32 v.g, .int .u32 v.h], .agg (w32 W).toArray] w fun e w' => e = .returned (.agg #[.int .u32 (rds kN W v 64).a, .int .u32 (rds kN W v 64).b, .int .u32 (rds kN W v 64).c, .int .u32 (rds kN W v 64).d, .int .u32 (rds kN W v 64).e, .int .u32 (rds kN W v 64).f, .int .u32 (rds kN W v 64).g, .int .u32 (rds kN W v 64).h]) ∧ Below w.heap.size w w' := by
  have HK := Box.mk hK; clear hK
  have HW := Box.mk hW; clear hW
  have HWL := Box.mk hWl; clear hWl
  have HV := Box.mk hv; clear hv
  obtain ⟨a0, b0, c0, d0, e0, f0, g0, h0⟩ := v
  go_enter Tryd.func74, Tryd.ntmps74
  go_wp2_with fail
  go_quiet (fail)
  go_wp2_with fail
  go_loopw [5, 6, 7, 8, 9, 10, 11, 12, 13, 14, 15, 16, 17, 34] (fun xa xb xc xd xe xf xg xh _ _ _ _ _ i wr => ∃ (k : Nat) (u : V8), k ≤ 64 ∧ i = .int .i64 k ∧ Box (u = rds kN W ⟨a0, b0, c0, d0, e0, f0, g0, h0⟩ k) ∧ Box u.ok ∧ xa = .int .u32 u.a ∧ xb = .int .u32 u.b ∧ xc = .int .u32 u.c ∧ xd = .int .u32 u.d ∧ xe = .int .u32 u.e ∧ xf = .int .u32 u.f ∧ xg = .int .u32 u.g ∧ xh = .int .u32 u.h ∧ Box (wr.rangeAt (w.heap.size + 1) 0 (w32 W)) ∧ Box (KTab wr) ∧ Box (wr.there (w.heap.size + 1 + 1) 0 8) ∧ Box (Below w.heap.size w wr))
    (fun _ _ _ _ _ _ _ _ _ _ _ _ _ i _ => 64 - (intOf i).toNat)
  case atStart =>
    refine ⟨0, ⟨a0, b0, c0, d0, e0, f0, g0, h0⟩, by omega, rfl, ⟨rfl⟩, HV, rfl, rfl, rfl, rfl, rfl, rfl, rfl, rfl, ⟨?_⟩, ⟨?_⟩, ⟨?_⟩, ⟨?_⟩⟩
    · exact World.rangeAt_alloc (range_new _ _ _ _ (by simp)) _
    · exact ktab_below HK.out (below_drewN ((((Below.refl _ _).alloc (Nat.le_refl _) _).alloc (by simp) _).alloc (by simp; omega) _) _)
    · exact there_new _ 28 [.int .u32 0, .int .u32 0, .int .u32 0, .int .u32 0, .int .u32 0, .int .u32 0, .int .u32 0, .int .u32 0] _ _ _ (by simp) (by simp)
    · exact below_drewN ((((Below.refl _ _).alloc (Nat.le_refl _) _).alloc (by simp) _).alloc (by simp; omega) _) _
  case round =>
    obtain ⟨k, ⟨a, b, c, d, e, f, g, h⟩, hk, rfl, hu, hok, rfl, rfl, rfl, rfl, rfl, rfl, rfl, rfl, hR, hKT, hT, hb⟩ := hrel
    by_cases hlt : k < 64
    · have oa := hok.out.a; have ob := hok.out.b; have oc := hok.out.c; have od := hok.out.d
      have oe := hok.out.e; have of := hok.out.f; have og := hok.out.g; have oh := hok.out.h
      simp only at oa ob oc od oe of og oh
      have c1 := fun w => turn_rr oe 6 (-6) (by decide) (by omega) (by omega) w
      have c2 := fun w => turn_rr oe 11 (-11) (by decide) (by omega) (by omega) w
      have c3 := fun w => turn_rr oe 25 (-25) (by decide) (by omega) (by omega) w
      have c4 := fun w => turn_rr oa 2 (-2) (by decide) (by omega) (by omega) w
      have c5 := fun w => turn_rr oa 13 (-13) (by decide) (by omega) (by omega) w
      have c6 := fun w => turn_rr oa 22 (-22) (by decide) (by omega) (by omega) w
      obtain ⟨p1, hp1⟩ : ∃ p, p = rr 6 e := ⟨_, rfl⟩
      obtain ⟨p2, hp2⟩ : ∃ p, p = rr 11 e := ⟨_, rfl⟩
      obtain ⟨p3, hp3⟩ : ∃ p, p = rr 25 e := ⟨_, rfl⟩
      obtain ⟨p4, hp4⟩ : ∃ p, p = rr 2 a := ⟨_, rfl⟩
      obtain ⟨p5, hp5⟩ : ∃ p, p = rr 13 a := ⟨_, rfl⟩
      obtain ⟨p6, hp6⟩ : ∃ p, p = rr 22 a := ⟨_, rfl⟩
      have l1 : p1 < 4294967296 := by rw [hp1]; exact rr_lt (by omega) oe
      have l2 : p2 < 4294967296 := by rw [hp2]; exact rr_lt (by omega) oe
      have l3 : p3 < 4294967296 := by rw [hp3]; exact rr_lt (by omega) oe
      have l4 : p4 < 4294967296 := by rw [hp4]; exact rr_lt (by omega) oa
      have l5 : p5 < 4294967296 := by rw [hp5]; exact rr_lt (by omega) oa
      have l6 : p6 < 4294967296 := by rw [hp6]; exact rr_lt (by omega) oa
      rw [← hp1] at c1; rw [← hp2] at c2; rw [← hp3] at c3
      rw [← hp4] at c4; rw [← hp5] at c5; rw [← hp6] at c6
      have C1 := Box.mk c1; have C2 := Box.mk c2; have C3 := Box.mk c3
      have C4 := Box.mk c4; have C5 := Box.mk c5; have C6 := Box.mk c6
      clear c1 c2 c3 c4 c5 c6
      obtain ⟨T1, hT1⟩ : ∃ p, p = t1 e := ⟨_, rfl⟩
      obtain ⟨T0, hT0⟩ : ∃ p, p = t0 a := ⟨_, rfl⟩
      obtain ⟨ch, hch⟩ : ∃ p, p = chN e f g := ⟨_, rfl⟩
      obtain ⟨ma, hma⟩ : ∃ p, p = maN a b c := ⟨_, rfl⟩
      have r1 : bits BinOp.xor IntKind.u32 (bits BinOp.xor IntKind.u32 (p1 : Int) (p2 : Int)) (p3 : Int) = (T1 : Int) := by
        rw [xor32 l1 l2, xor32 (xor_lt32 l1 l2) l3, hT1, hp1, hp2, hp3]; rfl
      have r2 : bits BinOp.xor IntKind.u32 (bits BinOp.xor IntKind.u32 (p4 : Int) (p5 : Int)) (p6 : Int) = (T0 : Int) := by
        rw [xor32 l4 l5, xor32 (xor_lt32 l4 l5) l6, hT0, hp4, hp5, hp6]; rfl
      have r3 : bits BinOp.xor IntKind.u32 (bits BinOp.and IntKind.u32 (e : Int) (f : Int)) (bits BinOp.and IntKind.u32 (bits BinOp.xor IntKind.u32 IntKind.u32.max (e : Int)) (g : Int)) = (ch : Int) := by
        rw [not32 oe, and32 oe of, and32 (by omega) og, xor32 (and_lt32 oe) (and_lt32 (by omega)), hch]; rfl
      have r4 : bits BinOp.xor IntKind.u32 (bits BinOp.xor IntKind.u32 (bits BinOp.and IntKind.u32 (a : Int) (b : Int)) (bits BinOp.and IntKind.u32 (a : Int) (c : Int))) (bits BinOp.and IntKind.u32 (b : Int) (c : Int)) = (ma : Int) := by
        rw [and32 oa ob, and32 oa oc, and32 ob oc, xor32 (and_lt32 oa) (and_lt32 oa), xor32 (xor_lt32 (and_lt32 oa) (and_lt32 oa)) (and_lt32 ob), hma]; rfl
      have LT1 : T1 < 4294967296 := by rw [hT1]; exact t1_lt oe
      have LT0 : T0 < 4294967296 := by rw [hT0]; exact t0_lt oa
      have Lch : ch < 4294967296 := by rw [hch]; exact chN_lt oe
      have Lma : ma < 4294967296 := by rw [hma]; exact maN_lt oa ob
      have P1 := Box.mk hp1; have P2 := Box.mk hp2; have P3 := Box.mk hp3; have P4 := Box.mk hp4; have P5 := Box.mk hp5; have P6 := Box.mk hp6
      have HT1 := Box.mk hT1; have HT0 := Box.mk hT0; have HCH := Box.mk hch; have HMA := Box.mk hma
      clear hp1 hp2 hp3 hp4 hp5 hp6 hT1 hT0 hch hma
      have g1 : wr.cell? ⟨1, k, none⟩ = some (.int .u32 ((kN.getD k 0 : Nat) : Int)) := hKT.out k hlt
      have g2 : wr.cell? ⟨w.heap.size + 1, k, none⟩ = some (.int .u32 ((W.getD k 0 : Nat) : Int)) := by
        have h := hR.out k _ (w32_get (l := W) (k := k) (by rw [HW.out]; exact hlt))
        rw [Nat.zero_add] at h; exact h
      have lk := kN_lt k hlt
      have lw := HWL.out k
      obtain ⟨K, hKk⟩ : ∃ p, p = kN.getD k 0 := ⟨_, rfl⟩
      obtain ⟨X, hX⟩ : ∃ p, p = W.getD k 0 := ⟨_, rfl⟩
      rw [← hKk] at g1 lk; rw [← hX] at g2 lw
      have HKk := Box.mk hKk; have HX := Box.mk hX
      clear hKk hX
      go_wp2_with (first
        | (go_at_call 85; ((with_reducible refine (C1.out _).mono ?_); rintro e w' ⟨rfl, rfl⟩))
        | (go_at_call 85; ((with_reducible refine (C2.out _).mono ?_); rintro e w' ⟨rfl, rfl⟩))
        | (go_at_call 85; ((with_reducible refine (C3.out _).mono ?_); rintro e w' ⟨rfl, rfl⟩)))
      go_quiet (fail)
      go_wp2_with (first
        | (go_at_call 85; ((with_reducible refine (C4.out _).mono ?_); rintro e w' ⟨rfl, rfl⟩))
        | (go_at_call 85; ((with_reducible refine (C5.out _).mono ?_); rintro e w' ⟨rfl, rfl⟩))
        | (go_at_call 85; ((with_reducible refine (C6.out _).mono ?_); rintro e w' ⟨rfl, rfl⟩)))
      go_roundw
      case rel =>
        refine ⟨k + 1, rnd K X ⟨a, b, c, d, e, f, g, h⟩, by omega, by go_num, ?_, ?_, ?_, ?_, ?_, ?_, ?_, ?_, ?_, ?_, ?_, ?_, ?_, ?_⟩
        any_goals exact rfl
        · exact ⟨by rw [HKk.out, HX.out, hu.out]; rfl⟩
        · exact ⟨rnd_ok hok.out⟩
        · exact congrArg (Value.int .u32) (fin1 r3 HT1.out HT0.out HCH.out HMA.out)
        · exact congrArg (Value.int .u32) (fin2 r3 HT1.out HCH.out)
        · exact ⟨hR.out⟩
        · exact ⟨hKT.out⟩
        · exact ⟨hT.out⟩
        · exact ⟨below_drewN hb.out _⟩
      case measure => simp [intOf]; omega
    · obtain rfl : 64 = k := by omega
      obtain ⟨s1, s2⟩ := store_arr (T := 28) (cs := [.int .u32 a, .int .u32 b, .int .u32 c, .int .u32 d, .int .u32 e, .int .u32 f, .int .u32 g, .int .u32 h]) hT.out (by kernel_rfl) (by simp [Value.oneCell']) Tryd.underlying28 rfl
      have hb2 := below_setCells (b := w.heap.size + 1 + 1) (by omega) [.int .u32 a, .int .u32 b, .int .u32 c, .int .u32 d, .int .u32 e, .int .u32 f, .int .u32 g, .int .u32 h] 0 w wr hb.out
      have hfin := hu.out
      have HF := Box.mk hfin; clear hfin
      clear s1
      go_wp2_with ((with_reducible refine at_store 28 (.tmp 4) (.tmp 107) ?_); refine wpList_store_mid rfl 28 (.tmp 4) (.tmp 107) rfl (w.heap.size + 1 + 1) 0 #[.int .u32 a, .int .u32 b, .int .u32 c, .int .u32 d, .int .u32 e, .int .u32 f, .int .u32 g, .int .u32 h] rfl rfl hT.out (by kernel_rfl) (by simp [Value.oneCell']) ?_)
      refine bodyPost_ret (v := .agg #[.int .u32 a, .int .u32 b, .int .u32 c, .int .u32 d, .int .u32 e, .int .u32 f, .int .u32 g, .int .u32 h]) (results_one rfl rfl s2) rfl ⟨?_, hb2⟩
      rw [← HF.out]
end Go.Proofs.YtdhbeeeofaheeaaDoor
