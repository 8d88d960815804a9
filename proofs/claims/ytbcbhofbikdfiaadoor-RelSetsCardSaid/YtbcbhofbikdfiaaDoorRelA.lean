/- Contracts of rel: where a relation lies; one thing and one pair. -/
import Derived.Test.YtbcbhofbikdfiaaDoorRelM
import Derived.Test.YtbcbhofbikdfiaaDoorWordY
import Derived.Test.YtbcbhofbikdfiaaDoorBase
import Derived.Deep.MidRow
import Derived.Deep.QuietTactic
import Derived.BigQuiet
import Derived.StillTailTactics
import Derived.Deep.DeepCutAuto
namespace Go.Proofs.YtbcbhofbikdfiaaDoor
set_option maxRecDepth 100000
open Go.RowKit M

/-- the cells of a relation -/
def w16 (l : List Nat) : List Value := l.map fun n : Nat => .int .u16 (n : Int)
theorem w16_length (l : List Nat) : (w16 l).length = l.length := by simp [w16]
theorem w16_get {r : List Nat} (h : R.Wf r) {k : Nat} (hk : k < 16) : (w16 r)[k]? = some (.int .u16 ((R.g r k : Nat) : Int)) := by
  have : k < r.length := by rw [h.len]; exact hk
  simp [w16, this, R.g, List.getD]
theorem w16_one (l : List Nat) : ∀ u ∈ w16 l, u.oneCell' = true := by
  intro u hu; simp [w16] at hu; obtain ⟨n, _, rfl⟩ := hu; rfl
theorem w16_set (l : List Nat) (k v : Nat) : (w16 l).toArray.setIfInBounds k (.int .u16 (v : Int)) = (w16 (l.set k v)).toArray := by simp [w16, List.map_set]
theorem w16_inj {a b : List Nat} (h : w16 a = w16 b) : a = b := by
  have : ∀ (a b : List Nat), w16 a = w16 b → a = b := fun a => by
    induction a with
    | nil => intro b h; cases b with
      | nil => rfl
      | cons y b => simp [w16] at h
    | cons x a ih => intro b h; cases b with
      | nil => simp [w16] at h
      | cons y b =>
        simp only [w16, List.map_cons, List.cons.injEq, Value.int.injEq, true_and] at h
        obtain ⟨h1, h2⟩ := h
        rw [ih b h2]
        congr 1
        omega
  exact this a b h

/-- block b holds relation r -/
def RB (w : World) (b : Nat) (r : List Nat) : Prop := w.heap[b]? = some (.cells (w16 r).toArray 25 (0, 0))
theorem RB.new (w : World) (r : List Nat) : RB (w.alloc (.cells (w16 r).toArray 25)) w.heap.size r := heap_alloc_new w _
theorem RB.lt {w : World} {b : Nat} {r : List Nat} (h : RB w b r) : b < w.heap.size := (Array.getElem?_eq_some_iff.1 h).1
theorem RB.alloc {w : World} {b : Nat} {r : List Nat} (h : RB w b r) (o : Obj) : RB (w.alloc o) b r := (Below.heap_alloc w o b h.lt).trans h
theorem RB.below {w w' : World} {b : Nat} {r : List Nat} (h : RB w b r) (k : Below w.heap.size w w') : RB w' b r := (k.block b h.lt).trans h
theorem RB.drewN {w : World} {b : Nat} {r : List Nat} (h : RB w b r) (n : Nat) : RB (w.drewN n) b r := h
theorem RB.drew {w : World} {b : Nat} {r : List Nat} (h : RB w b r) : RB w.drew b r := h
theorem RB.cell {w : World} {b : Nat} {r : List Nat} (h : RB w b r) (hr : R.Wf r) {k : Nat} (hk : k < 16) : w.cell? ⟨b, k, none⟩ = some (.int .u16 ((R.g r k : Nat) : Int)) := by
  have e : w.cell? ⟨b, k, none⟩ = (w16 r).toArray[k]? := by unfold RB at h; simp [World.cell?, h]
  rw [e, ← w16_get hr hk]; simp
theorem RB.fz {w : World} {b : Nat} {r : List Nat} (h : RB w b r) (k : Nat) : w.frozen? ⟨b, k, none⟩ = false := by unfold RB at h; simp [World.frozen?, h]
theorem RB.range {w : World} {b : Nat} {r : List Nat} (h : RB w b r) : w.rangeAt b 0 (w16 r) := fun j v hv => by
  rw [cell_of_row w b (0 + j) _ _ _ h]; simpa using hv
theorem RB.there {w : World} {b : Nat} {r : List Nat} (h : RB w b r) (hr : R.Wf r) : w.there b 0 16 := fun j hj => by
  refine ⟨?_, ?_⟩
  · rw [Nat.zero_add, h.cell hr hj]; rfl
  · exact h.fz _
theorem setHeap {w : World} {b : Nat} {C : Array Value} {T : TypeId} {fr : Nat × Nat} (h : w.heap[b]? = some (.cells C T fr)) (o : Nat) (v : Value) : (w.setCell ⟨b, o, none⟩ v).heap[b]? = some (.cells (C.setIfInBounds o v) T fr) := by
  simp [World.setCell, Array.getElem?_modify, h]
theorem RB.set {w : World} {b : Nat} {r : List Nat} (h : RB w b r) (k v : Nat) : RB (w.setCell ⟨b, k, none⟩ (.int .u16 (v : Int))) b (r.set k v) := by
  unfold RB; rw [setHeap h, w16_set]
theorem RB.other {w : World} {b c : Nat} {r : List Nat} (h : RB w b r) (hne : b ≠ c) (o : Nat) (v : Value) : RB (w.setCell ⟨c, o, none⟩ v) b r := (Below.heap_setCell w ⟨c, o, none⟩ v b hne).trans h
theorem RB.others {b c : Nat} {r : List Nat} (hne : b ≠ c) : ∀ (vs : List Value) (o : Nat) (w : World), RB w b r → RB (w.setCells c o vs) b r
  | [], _, _, h => h
  | v :: vs, o, w, h => by rw [World.setCells]; exact RB.others hne vs (o + 1) _ (h.other hne o v)
theorem sum_zero : (w16 R.zeroM).toArray = #[.int .u16 0, .int .u16 0, .int .u16 0, .int .u16 0, .int .u16 0, .int .u16 0, .int .u16 0, .int .u16 0, .int .u16 0, .int .u16 0, .int .u16 0, .int .u16 0, .int .u16 0, .int .u16 0, .int .u16 0, .int .u16 0] := by rfl
theorem infoR : (Tryd.prog.info? 25).map (·.size) = some 16 := by kernel_rfl
theorem undR : Tryd.prog.underlying 25 = some (.array 16 23) := Tryd.underlying25

/-! ### the numbers' operations -/
theorem or16 {a b : Nat} (ha : a < 65536) (hb : b < 65536) : bits BinOp.or IntKind.u16 (a : Int) (b : Int) = ((a ||| b : Nat) : Int) := u16_or_nat a b ha hb
theorem and16 {a b : Nat} (ha : a < 65536) (hb : b < 65536) : bits BinOp.and IntKind.u16 (a : Int) (b : Int) = ((a &&& b : Nat) : Int) := u16_and_nat a b ha hb
theorem andN16 {a b : Nat} (ha : a < 65536) (hb : b < 65536) : bits BinOp.andNot IntKind.u16 (a : Int) (b : Int) = ((R.andN a b : Nat) : Int) := by
  rw [u16_andNot_nat a b ha hb]
  congr 1
  apply Nat.eq_of_testBit_eq
  intro i
  rw [Nat.testBit_and, R.andN_bit, show 65535 - b = 2 ^ 16 - (b + 1) by omega, Nat.testBit_two_pow_sub_succ hb]
  cases hb' : a.testBit i with
  | false => rfl
  | true =>
    have : i < 16 := by
      rcases Nat.lt_or_ge i 16 with h | h
      · exact h
      · have h1 := Nat.ge_two_pow_of_testBit hb'
        have h2 : 2 ^ 16 ≤ 2 ^ i := Nat.pow_le_pow_right (by decide) h
        omega
    simp [this]
theorem pow16 {k : Nat} (hk : k < 16) : IntKind.u16.wrap ((2 : Int) ^ k) = ((2 ^ k : Nat) : Int) := by
  have h := R.one_lt hk
  rw [show ((2 : Int) ^ k) = ((2 ^ k : Nat) : Int) by simp]
  generalize 2 ^ k = n at *
  simp only [IntKind.wrap, IntKind.signed, IntKind.bits]
  simp
  omega

theorem single_any (k : Nat) (hk : k < 16) (w : World) :
    Calls Tryd.prog 38 #[.int .i64 (k : Int)] w fun e w' => e = .returned (.int .u16 ((2 ^ k : Nat) : Int)) ∧ w = w' := by
  have hp := pow16 hk
  have HP := Box.mk hp; clear hp
  go_enter Tryd.func38, Tryd.ntmps38
  go_wp2
  go_ret
  exact ⟨by rw [← HP.out]; rfl, rfl⟩
theorem isElement_any (a : Int) (w : World) :
    Calls Tryd.prog 36 #[.int .i64 a] w fun e w' => e = .returned (.bool (decide (0 ≤ a ∧ a < 16))) ∧ w = w' := by
  rcases (by omega : a < 0 ∨ 0 ≤ a) with h | h
  · go_enter Tryd.func36, Tryd.ntmps36
    go_wp2
    go_ret
    exact ⟨by simp; omega, rfl⟩
  · go_enter Tryd.func36, Tryd.ntmps36
    go_wp2
    go_ret
    refine ⟨?_, rfl⟩
    simp [h]
theorem bitB_has {n : Nat} (hn : n < 65536) (b : Int) : bitB n b = (decide (0 ≤ b) && n.testBit b.toNat) := by
  unfold bitB
  rw [Nat.testBit_eq_decide_div_mod_eq]
  by_cases h1 : 0 ≤ b
  · by_cases h2 : b < 64
    · simp [h1, h2]
    · have : n / 2 ^ b.toNat = 0 := by
        apply Nat.div_eq_of_lt
        have h4 : 2 ^ 16 ≤ 2 ^ b.toNat := Nat.pow_le_pow_right (by decide) (by omega)
        omega
      simp [h2, this]
  · simp [h1]
/-- does a go with b? whatever the numbers -/
def hasI (r : List Nat) (a b : Int) : Bool := decide (0 ≤ a ∧ 0 ≤ b) && R.has r a.toNat b.toNat
theorem hasI_nat (r : List Nat) (a b : Nat) : hasI r (a : Int) (b : Int) = R.has r a b := by simp [hasI]
theorem has_any (r : List Nat) (hr : R.Wf r) (a b : Int) (w : World) :
    Calls Tryd.prog 12 #[.agg (w16 r).toArray, .int .i64 a, .int .i64 b] w fun e w' => e = .returned (.bool (hasI r a b)) ∧ Below w.heap.size w w' := by
  by_cases h : 0 ≤ a ∧ a < 16
  · obtain ⟨h1, h2⟩ := h
    obtain ⟨k, rfl⟩ := Int.eq_ofNat_of_zero_le h1
    have hk : k < 16 := by omega
    have hc := (RB.new w r).cell hr hk
    have hlt := hr.lt k
    have hh : hasI r (k : Int) b = bitB (R.g r k) b := by
      rw [bitB_has hlt]
      simp [hasI, R.has]
    rw [hh]
    generalize R.g r k = n at *
    go_enter Tryd.func12, Tryd.ntmps12
    go_wp2_with (first
      | (go_at_call 36; refine (isElement_any _ _).mono ?_; rintro e w' ⟨rfl, rfl⟩)
      | (go_at_call 37; refine (wordBit_any n b (by omega) _).mono ?_; rintro e w' ⟨rfl, rfl⟩))
    go_ret
    exact ⟨rfl, ((Below.refl _ _).alloc (Nat.le_refl _) _)⟩
  · have hh : hasI r a b = false := by
      unfold hasI
      by_cases h1 : 0 ≤ a
      · by_cases h3 : 0 ≤ b
        · cases hx : R.has r a.toNat b.toNat with
          | false => simp
          | true => exact absurd (R.has_lt hr hx).1 (by omega)
        · simp [h3]
      · simp [h1]
    rw [hh]
    go_enter Tryd.func12, Tryd.ntmps12
    go_wp2_with (first
      | (go_at_call 36; refine (isElement_any _ _).mono ?_; rintro e w' ⟨rfl, rfl⟩))
    go_ret
    exact ⟨rfl, ((Below.refl _ _).alloc (Nat.le_refl _) _)⟩

theorem aset (w : World) (o : Obj) : Below w.heap.size w (w.alloc o) := (Below.refl _ _).alloc (Nat.le_refl _) _
/-- a whole relation is stored over what lies there -/
theorem setAll {C D : List Value} (h : C.length = D.length) {T : TypeId} {b : Nat} : ∀ {w : World}, w.heap[b]? = some (.cells C.toArray T (0, 0)) → (w.setCells b 0 D).heap[b]? = some (.cells D.toArray T (0, 0)) := by
  have : ∀ (D : List Value) (P C : List Value) (w : World), C.length = D.length → w.heap[b]? = some (.cells (P ++ C).toArray T (0, 0)) → (w.setCells b P.length D).heap[b]? = some (.cells (P ++ D).toArray T (0, 0)) := by
    intro D
    induction D with
    | nil => intro P C w hl hh; obtain rfl : C = [] := List.length_eq_zero_iff.1 hl; exact hh
    | cons d D ih =>
      intro P C w hl hh
      cases C with
      | nil => cases hl
      | cons c C =>
        rw [World.setCells]
        have := ih (P ++ [d]) C (w.setCell ⟨b, P.length, none⟩ d) (by simpa using hl) (by
          rw [setHeap hh]
          congr 2
          simp)
        simpa using this
  intro w hh
  exact this D [] C w h hh
theorem RB.all {w : World} {b : Nat} {r s : List Nat} (h : RB w b r) (hr : R.Wf r) (hs : R.Wf s) : RB (w.setCells b 0 (w16 s)) b s := setAll (by rw [w16_length, w16_length, hr.len, hs.len]) h
theorem infoL {s : List Nat} (hs : R.Wf s) : (Tryd.prog.info? 25).map (·.size) = some (w16 s).length := by rw [w16_length, hs.len]; exact infoR
theorem infoA {s : List Nat} (hs : R.Wf s) : (Tryd.prog.info? 25).map (·.size) = some (w16 s).toArray.size := by rw [List.size_toArray]; exact infoL hs
theorem thereL {w : World} {b : Nat} {u : List Nat} (h : RB w b R.zeroM) (hu : R.Wf u) : w.there b 0 (w16 u).toArray.size := by rw [List.size_toArray, w16_length, hu.len]; exact h.there R.zero_wf
theorem loadR {w : World} {b : Nat} {s : List Nat} (h : RB w b s) (hs : R.Wf s) : (loadVar 25 ⟨b, 0, none⟩).run Tryd.prog w = .ok (.agg (w16 s).toArray) w := run_loadVar_mid w b 0 _ (w16 s) _ h.range undR rfl (infoL hs)
theorem at_store {P : Program} {ops : Array Oper} {Q : Exit → Act → World → Prop} {rest : List Oper} {a : Act} {w : World} (T : TypeId) (x y : Operand) {dst : Option Tmp} {ty : TypeId} {pos : String} {after : Array Edge} {guard : Option (Nat × Bool)}
    (h : wpList P ops Q (⟨dst, .store T x y, ty, pos, after, guard⟩ :: rest) a w) : wpList P ops Q (⟨dst, .store T x y, ty, pos, after, guard⟩ :: rest) a w := h
theorem at_load {P : Program} {ops : Array Oper} {Q : Exit → Act → World → Prop} {rest : List Oper} {a : Act} {w : World} (T : TypeId) (x : Operand) {dst : Option Tmp} {ty : TypeId} {pos : String} {after : Array Edge} {guard : Option (Nat × Bool)}
    (h : wpList P ops Q (⟨dst, .load T x, ty, pos, after, guard⟩ :: rest) a w) : wpList P ops Q (⟨dst, .load T x, ty, pos, after, guard⟩ :: rest) a w := h
theorem results_one {P : Program} {fn : Func} {p : Tmp} {ty : TypeId} {tmps : Array Value} {w : World} {a : Addr} {v : Value} (h : fn.results = #[.cell p ty]) (ht : tmps.getD p undef = .pointer (some a)) (hl : (loadVar ty a).run P w = .ok v w) :
    (results fn tmps).run P w = .ok v w := by
  have ht' : tmps[p]?.getD undef = .pointer (some a) := by rw [← Array.getD_eq_getD_getElem?]; exact ht
  simp only [results, h]
  simp [ht', hl, asAddr]
theorem bset {B : Nat} {W W' : World} (h : Below B W W') (a o : Nat) (v : Value) (ha : B ≤ a) : Below B W (W'.setCell ⟨a, o, none⟩ v) := h.setCell (p := ⟨a, o, none⟩) ha _
theorem bsets {B : Nat} {W : World} {a : Nat} (ha : B ≤ a) : ∀ (cs : List Value) (W' : World) (o : Nat), Below B W W' → Below B W (W'.setCells a o cs)
  | [], _, _, h => h
  | c :: cs, W', o, h => by rw [World.setCells]; exact bsets ha cs _ (o + 1) (bset h a o c ha)

set_option maxRecDepth 100000 in
set_option maxHeartbeats 1000000 in
theorem with_any (r : List Nat) (hr : R.Wf r) (a b : Nat) (ha : a < 16) (hb : b < 16) (w : World) :
    Calls Tryd.prog 14 #[.agg (w16 r).toArray, .int .i64 (a : Int), .int .i64 (b : Int)] w fun e w' => e = .returned (.agg (w16 (R.withM r a b)).toArray) ∧ Below w.heap.size w w' := by
  have I := Box.mk infoR
  have hwf := R.with_wf hr ha hb
  go_enter Tryd.func14, Tryd.ntmps14
  have e1 : decide (0 ≤ (a : Int) ∧ (a : Int) < 16) = true := by simp; omega
  have e2 : decide (0 ≤ (b : Int) ∧ (b : Int) < 16) = true := by simp; omega
  have C1 := Box.mk (fun w => isElement_any (a : Int) w)
  have C2 := Box.mk (fun w => isElement_any (b : Int) w)
  rw [e1] at C1; rw [e2] at C2
  go_wp2_with (first
      | (go_at_call 36; ((with_reducible refine (C1.out _).mono ?_); rintro e w' ⟨rfl, rfl⟩))
      | (go_at_call 36; ((with_reducible refine (C2.out _).mono ?_); rintro e w' ⟨rfl, rfl⟩)))
  have b1 : Below w.heap.size w ((w.alloc (.cells (w16 r).toArray 25)).alloc (.cells (w16 R.zeroM).toArray 25)) := (aset w _).trans ((aset _ _).mono (by simp))
  have rb0 := (RB.new w r).alloc (.cells (w16 R.zeroM).toArray 25)
  have rb1 := RB.new (w.alloc (.cells (w16 r).toArray 25)) R.zeroM
  rw [sum_zero] at b1 rb0 rb1
  rw [World.size_alloc] at rb1
  generalize ((w.alloc (.cells (w16 r).toArray 25)).alloc (.cells #[.int .u16 0, .int .u16 0, .int .u16 0, .int .u16 0, .int .u16 0, .int .u16 0, .int .u16 0, .int .u16 0, .int .u16 0, .int .u16 0, .int .u16 0, .int .u16 0, .int .u16 0, .int .u16 0, .int .u16 0, .int .u16 0] 25)) = W at *
  have k0 := rb0.cell hr ha
  have z0 := rb0.fz a
  have n0 := or16 (hr.lt a) (R.one_lt hb)
  have RB0 := Box.mk rb0; have RB1 := Box.mk rb1; have B1 := Box.mk b1; have HW := Box.mk hwf
  have RS := Box.mk (rb0.set a (R.g r a ||| 2 ^ b))
  clear rb0 rb1 b1 hwf
  have SG := Box.mk (fun w => (single_any b hb w).mono fun e w' h => (⟨h.1, h.2.symm⟩ : e = Ending.returned (.int .u16 ((2 ^ b : Nat) : Int)) ∧ w' = w))
  have i1 : (0 : Int) ≤ (a : Int) := by omega
  have i2 : (a : Int) < 16 := by omega
  have A := ha
  generalize hx : R.g r a = x at *
  generalize hy : (2 ^ b : Nat) = y at *
  generalize hz : x ||| y = z at *
  clear e1 e2 C1 C2
  go_still_tail 7, (by kernel_rfl)
  still_call (SG.out W.drew)
  repeat still_step
  refine wpStill_nil ?_
  change wpList _ _ _ _ _ W.drew
  go_upto_region 3 with fail
  have RX : Box (RB (W.setCell ⟨w.heap.size, a, none⟩ (.int .u16 (z : Int))).drew w.heap.size (R.withM r a b)) := ⟨by
    unfold R.withM; rw [hx, hy, hz]; exact RS.out⟩
  have BX : Box (Below w.heap.size w (W.setCell ⟨w.heap.size, a, none⟩ (.int .u16 (z : Int))).drew) := ⟨(bset B1.out _ _ _ (Nat.le_refl _)).drew⟩
  have RY : Box (RB (W.setCell ⟨w.heap.size, a, none⟩ (.int .u16 (z : Int))).drew (w.heap.size + 1) R.zeroM) := ⟨(RB1.out.other (by omega) _ _).drew⟩
  generalize (W.setCell ⟨w.heap.size, a, none⟩ (.int .u16 (z : Int))).drew = V at *
  clear k0 z0 n0 RB0 RB1 B1 SG RS hx hy hz
  obtain ⟨S, hS⟩ : ∃ S, S = R.withM r a b := ⟨_, rfl⟩
  rw [← hS] at RX HW
  have HS := Box.mk hS
  clear hS
  go_wp2_with (first
    | ((with_reducible refine at_load 25 (.tmp 3) ?_); refine wpList_load_mid rfl 25 (.tmp 3) (by rfl) w.heap.size 0 (by rfl) (w16 S) _ RX.out.range undR rfl (infoL HW.out) ?_)
    | ((with_reducible refine at_store 25 (.tmp 6) (.tmp 20) ?_); refine wpList_store_mid rfl 25 (.tmp 6) (.tmp 20) (by rfl) (w.heap.size + 1) 0 (w16 S).toArray (by rfl) (by rfl) (thereL RY.out HW.out) (infoA HW.out) (all_oneCell_toArray (w16_one S)) ?_))
  have RZ := RY.out.all R.zero_wf HW.out
  refine bodyPost_ret (v := .agg (w16 S).toArray) (results_one rfl (by rfl) (loadR RZ HW.out)) rfl ⟨by rw [HS.out], ?_⟩
  exact bsets (by omega) _ _ _ BX.out
end Go.Proofs.YtbcbhofbikdfiaaDoor
