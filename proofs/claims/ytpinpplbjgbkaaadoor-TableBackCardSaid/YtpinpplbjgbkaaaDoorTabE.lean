/- The values of a table's map: an iterator over them. -/
import Derived.Test.YtpinpplbjgbkaaaDoorTabD
import Derived.RangeFuncNested
import Derived.RangeFuncBound
import Derived.RangeFuncCalls
import Derived.RangeFuncLeaves
import Derived.Sort.MapsRangeIn
import Derived.Sort.KeysCollected
import Derived.OwnWalkIn
import Derived.TacticsInMore
import Derived.RegionIn
import Derived.LoopNIn
import Derived.LoopIn
import Derived.Maps.AppendAt
import Derived.Maps.OwnIn
namespace Go.Proofs.YtpinpplbjgbkaaaDoor
set_option maxRecDepth 100000
open Go.RowKit Go.Maps Go.Sort M
attribute [local go_sem] Oper.semAt_some

section
variable {F : Fence} {n : Nat} {P : Program} {ops : Array Oper} {Q : Exit → Act → World → Prop} {rest : List Oper} {a : Act} {w : World}
theorem ati_store (T : TypeId) (x y : Operand) {dst : Option Tmp} {ty : TypeId} {pos : String} {after : Array Edge} {guard : Option (Nat × Bool)}
    (h : wpListIn F n P ops Q (⟨dst, .store T x y, ty, pos, after, guard⟩ :: rest) a w) : wpListIn F n P ops Q (⟨dst, .store T x y, ty, pos, after, guard⟩ :: rest) a w := h
theorem ati_load (T : TypeId) (x : Operand) {dst : Option Tmp} {ty : TypeId} {pos : String} {after : Array Edge} {guard : Option (Nat × Bool)}
    (h : wpListIn F n P ops Q (⟨dst, .load T x, ty, pos, after, guard⟩ :: rest) a w) : wpListIn F n P ops Q (⟨dst, .load T x, ty, pos, after, guard⟩ :: rest) a w := h
theorem wpListIn_store_mid {op : Oper} (hgd : op.guard = none) (ty : TypeId) (x y : Operand) (ho : op.op = .store ty x y) (b o : Nat) (cells : Array Value) (hx : a.eval x = .pointer (some ⟨b, o, none⟩)) (hy : a.eval y = .agg cells)
    (ht : w.there b o cells.size) (hi : (P.info? ty).map (·.size) = some cells.size) (h1 : cells.all (·.oneCell') = true)
    (h : wpListIn F n P ops Q rest (a.put op.dst undef) (w.setCells b o cells.toList)) : wpListIn F n P ops Q (op :: rest) a w := by
  refine wpListIn_plain hgd fun K' hK' => ?_
  unfold Oper.wpIn
  refine ⟨by simp [Oper.about, ho], ?_⟩
  rw [Oper.semAt_plain F _ _ (by rw [ho]; intro c hc'; cases hc')]
  unfold execOp
  simp only [ho, hx, hy, Instr.storeAt, Instr.sureAddr, Sem.run_bind, Sem.run_pure, Result.andThen_ok, run_storeVar_mid w b o ty cells ht hi h1]
  exact hK' _ _ h
theorem wpListIn_load_mid {op : Oper} (hgd : op.guard = none) (ty : TypeId) (x : Operand) (ho : op.op = .load ty x) (b o : Nat) (hx : a.eval x = .pointer (some ⟨b, o, none⟩)) (cs : List Value) (d : TypeDesc) (hc : w.rangeAt b o cs)
    (hu : P.underlying ty = some d) (hd : d.isRow = true) (hi : (P.info? ty).map (·.size) = some cs.length)
    (h : wpListIn F n P ops Q rest (a.put op.dst (.agg cs.toArray)) w) : wpListIn F n P ops Q (op :: rest) a w := by
  refine wpListIn_plain hgd fun K' hK' => ?_
  unfold Oper.wpIn
  refine ⟨by simp [Oper.about, ho], ?_⟩
  rw [Oper.semAt_plain F _ _ (by rw [ho]; intro c hc'; cases hc')]
  unfold execOp
  simp only [ho, hx, Instr.loadAt, Instr.sureAddr, Sem.run_bind, Sem.run_pure, Result.andThen_ok, run_loadVar_mid w b o ty cs d hc hu hd hi]
  exact hK' _ _ h
end
theorem und_entry : ∃ d, Tryd.prog.underlying 69 = some d ∧ d.isRow = true := ⟨_, Tryd.underlying69, rfl⟩

theorem fillE (w : World) (T : TypeId) (Z : Array Value) (cs : List Value) (h : Z.size = cs.length) : (w.alloc (.cells Z T)).setCells w.heap.size 0 cs = w.alloc (.cells cs.toArray T) := by
  have go : ∀ (cs : List Value) (p z : List Value), z.length = cs.length → (w.alloc (.cells (p ++ z).toArray T)).setCells w.heap.size p.length cs = w.alloc (.cells (p ++ cs).toArray T) := by
    intro cs
    induction cs with
    | nil => intro p z hz; rw [List.eq_nil_of_length_eq_zero hz]; rfl
    | cons c cs ih =>
      intro p z hz
      cases z with
      | nil => simp at hz
      | cons y z =>
        rw [World.setCells, World.setCell_alloc_new]
        have e : (p ++ y :: z).toArray.set! p.length c = ((p ++ [c]) ++ z).toArray := by simp
        have e2 := ih (p ++ [c]) z (by simpa using hz)
        rw [List.length_append] at e2
        simp only [List.append_assoc, List.singleton_append, List.length_singleton] at e2
        simp_all
  have := go cs [] Z.toList (by simpa using h)
  simpa using this

set_option maxRecDepth 100000 in
set_option maxHeartbeats 1000000 in
/-- the iterator over the values of a map, whatever is done with them -/
theorem tvals_in (F : Fence) (n : Nat) (hf : F.fn 56) (hro : F.round = none) (hn : 1 ≤ n) (ly Bm b : Nat) (l : List Ent) (J Jx : List Ent → World → Prop)
    (hY : ∀ pre x W, J pre W → pre.length < l.length → YieldAt F (n - 1) Tryd.prog ly #[evE x] W fun e W' =>
      (e = .returned (.bool true) ∧ J (pre ++ [x]) W' ∧ KeepsWalks W W') ∨ (e = .returned (.bool false) ∧ Jx (pre ++ [x]) W'))
    (W : World) (hJ : AbidesFrom W.heap.size J) (hm : W.cell? ⟨Bm, 0, none⟩ = some (.map (some b))) (hmap : MapE W b l) (h0 : J [] W) :
    CallsIn F n Tryd.prog 56 #[.func (.yield ly) #[] #[], .pointer (some ⟨Bm, 0, none⟩)] W fun e W' => (∃ v, e = .returned v) ∧
      ((∃ xs, xs.Perm l ∧ J xs W') ∨ (∃ pre, True ∧ Jx pre W')) := by
  obtain ⟨D0, hown⟩ := hmap.owns (H := Unit) codedE
  have hsz : Maps.size D0 ≤ l.length := hown.size_le
  refine callsIn_of_wp Tryd.func56 rfl hf ?_ hro
  simp only [Tryd.ntmps56, List.size_toArray, List.length_cons, List.length_nil, Nat.reduceAdd, Nat.reduceSub, Array.replicate_succ, Array.replicate_zero, List.push_toArray, List.append_toArray, List.nil_append, List.cons_append]
  gi_wp2_with (first
    | (gi_at_range; refine wpListIn_range_own _ rfl _ 38 rfl 24 69 codedE.keyed Tryd.underlying38 _ b l.length _ rfl hown ?_; intro w0 hrg0 hg0 hs0)
    | gi_in)
  go_frame
  gi_loopw [4] (fun _ wr => ∃ (left : Lit → Bool) (cnt : Nat) (ps : List Ent), wr.ranges Tryd.prog 24 (rdG (H := Unit) evE ccE) b W.heap.size l.length D0 left cnt ∧ ps.length + cnt ≤ Maps.size D0 ∧ Collected D0 left (ps.map kkE) ∧ (∀ p ∈ ps, p ∈ l) ∧ J ps wr)
    (fun _ wr => wr.rangeLeft b W.heap.size)
  case atStart =>
    exact ⟨_, _, [], hrg0, by simp, Collected.start D0, by simp, hJ [] W w0 none h0 hg0 (fun r e => by cases e)⟩
  case round =>
    obtain ⟨left, cnt, ps, hrg, hcs, hC, hV, hJs⟩ := hrel
    gi_wp2_with (first
      | (gi_at_next; refine wpListIn_next_ranges _ rfl _ rfl 24 codedE.keyed (rdG (H := Unit) evE ccE) id id (fun key kl hk => ⟨key, rfl⟩) (fun v y hv => ⟨v, rfl⟩) b W.heap.size l.length _ _ _ rfl hrg ?_ ?_)
      | gi_in)
    · intro _ hl0
      gi_wp2
      go_end0
      exact ⟨⟨_, rfl⟩, .inl ⟨_, hmap.all_come codedE hown Tryd.underlying38 (zero_entry W) hC hl0 hV, hJs⟩⟩
    · intro x c kl yd yp w2 cnt2 hkey hlk hv hat hrg2 hlt hg2 hs2 hen
      obtain ⟨p, hp, ex, ec, rfl⟩ := hmap.entry codedE hown Tryd.underlying38 (zero_entry W) hkey hv hat
      have ex : x = ekE p := ex
      have ec : c = evE p := ec
      subst ex; subst ec
      have hJ2 : J ps w2 := hJ _ wr w2 (some W.heap.size) hJs hg2 (fun r e => by cases e; exact ⟨Nat.le_refl _, hrg.iter_walk⟩)
      obtain ⟨W3, hW3⟩ : ∃ W3, W3 = w2.alloc (.cells (encE p).toArray 69) := ⟨_, rfl⟩
      have hJ3 : J ps W3 := by rw [hW3]; exact hJ _ w2 _ none hJ2 (World.grownBy_alloc w2 _ none) (fun r e => by cases e)
      have hrg3 := hrg2.alloc (.cells (encE p).toArray 69)
      rw [← hW3] at hrg3
      have hr3 : W3.rangeAt w2.heap.size 0 (encE p) := by rw [hW3]; exact range_new _ _ _ _ rfl
      obtain ⟨fn, tmps, assign, body, hy, hR⟩ := hY ps p W3 hJ3 (by omega)
      have ht : ∀ Z : Array Value, Z.size = 33 → (w2.alloc (.cells Z 69)).there w2.heap.size 0 33 := fun Z hZ => by
        have := there_new w2 69 Z.toList w2.heap.size 0 33 rfl (by simp [hZ])
        simpa using this
      obtain ⟨du, hu, hdu⟩ := und_entry
      clear hs2
      have hen2 : (Instr.entry (.pointer (some ⟨W.heap.size, 0, none⟩))).run Tryd.prog w2 = .ok (.tuple #[ekE p, .agg (encE p).toArray]) w2 := hen
      unfold evE at hy
      have HW3 := Box.mk hW3
      clear hen hW3
      gi_wp2_with (first
        | ((with_reducible refine ati_store 69 (.tmp 4) (.tmp 10) ?_); refine wpListIn_store_mid rfl 69 (.tmp 4) (.tmp 10) rfl w2.heap.size 0 (encE p).toArray rfl rfl (by have e : (encE p).toArray.size = 33 := (by simp [encE_len]); rw [e]; exact ht _ rfl) (by have e : (encE p).toArray.size = 33 := (by simp [encE_len]); rw [e]; exact info_entry) (all_oneCell_toArray (encE_one p)) ?_; rw [show (w2.alloc _).setCells w2.heap.size 0 (encE p).toArray.toList = W3 from (by rw [HW3.out]; exact fillE w2 _ _ _ (by simp [encE_len]))])
        | ((with_reducible refine ati_load 69 (.tmp 4) ?_); refine wpListIn_load_mid rfl 69 (.tmp 4) rfl w2.heap.size 0 rfl (encE p) du hr3 hu hdu (by rw [encE_len]; exact info_entry) ?_)
        | gi_in)
      refine hR.mono ?_
      have hC2 : Collected D0 (fun z => left z && !z.sameKey (.string (kkE p))) ((ps ++ [p]).map kkE) := by simpa using hC.step hlk hat
      have hV2 : ∀ q ∈ ps ++ [p], q ∈ l := fun q hq => (List.mem_append.1 hq).elim (hV q) (fun e => by simp at e; subst e; exact hp)
      rintro e W4 (⟨rfl, hJ4, hk4⟩ | ⟨rfl, hJx4⟩)
      · gi_wp2
        have hrg4 := hrg3.of_walks hk4
        go_roundw
        case rel => exact ⟨_, cnt2, ps ++ [p], hrg4, by simp; omega, hC2, hV2, hJ4⟩
        case measure => rw [hrg4.left_eq, hrg.left_eq]; exact hlt
      · gi_wp2
        refine bodyPost_ret (results_none rfl _ _ _) rfl ?_
        exact ⟨⟨_, rfl⟩, .inr ⟨_, trivial, hJx4⟩⟩
end Go.Proofs.YtpinpplbjgbkaaaDoor
