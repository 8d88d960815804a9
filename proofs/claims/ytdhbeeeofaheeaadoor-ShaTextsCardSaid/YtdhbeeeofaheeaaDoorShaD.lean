/- Contracts of sha: a block into the state. -/
import Derived.Test.YtdhbeeeofaheeaaDoorShaC
import Derived.Deep.RegionHeld3
import Derived.Deep.DeepCutAuto
namespace Go.Proofs.YtdhbeeeofaheeaaDoor
set_option maxRecDepth 100000
open Go.RowKit M

/-- block b alone of the old blocks may have changed -/
structure Chg (b : Nat) (w w' : World) : Prop where
  os : w'.os = w.os
  tape : w'.tape = w.tape
  output : w'.output = w.output
  size : w.heap.size ≤ w'.heap.size
  block : ∀ k, k < w.heap.size → k ≠ b → w'.heap[k]? = w.heap[k]?
theorem Chg.refl (b : Nat) (w : World) : Chg b w w := ⟨rfl, rfl, rfl, Nat.le_refl _, fun _ _ _ => rfl⟩
theorem Chg.trans {b : Nat} {w x y : World} (h : Chg b w x) (k : Chg b x y) : Chg b w y :=
  ⟨k.os.trans h.os, k.tape.trans h.tape, k.output.trans h.output, Nat.le_trans h.size k.size, fun i hi hb => (k.block i (Nat.lt_of_lt_of_le hi h.size) hb).trans (h.block i hi hb)⟩
theorem Chg.of_below {b : Nat} {w x : World} (h : Below w.heap.size w x) : Chg b w x := ⟨h.os, h.tape, h.output, h.size, fun i hi _ => h.block i hi⟩
theorem Chg.below {b B : Nat} {w x : World} (h : Chg b w x) (hb : B ≤ b) (hB : B ≤ w.heap.size) : Below B w x := ⟨h.os, h.tape, h.output, h.size, fun i hi => h.block i (by omega) (by omega)⟩
theorem Chg.at_least {B b : Nat} {w x : World} (h : Below B w x) (hB : ∀ k, k < w.heap.size → k ≠ b → k < B) : Chg b w x := ⟨h.os, h.tape, h.output, h.size, fun i hi hb => h.block i (hB i hi hb)⟩
theorem Chg.cell {b : Nat} {w x : World} (h : Chg b w x) {p : Addr} {v : Value} (hc : w.cell? p = some v) (hp : p.block ≠ b) : x.cell? p = some v := by
  rw [World.cell?_of_block (w := w) (h.block _ (World.block_lt_of_cell? w _ hc) hp)]; exact hc
theorem Chg.range {b b' o : Nat} {cs : List Value} {w x : World} (h : Chg b w x) (hr : w.rangeAt b' o cs) (hp : b' ≠ b) : x.rangeAt b' o cs := fun j v hv => h.cell (hr j v hv) hp
theorem Chg.there {b b' o n : Nat} {w x : World} (h : Chg b w x) (hr : w.there b' o n) (hp : b' ≠ b) : x.there b' o n := fun j hj => by
  obtain ⟨h1, h2⟩ := hr j hj
  obtain ⟨u, hu⟩ := Option.isSome_iff_exists.1 h1
  have hlt := World.block_lt_of_cell? w _ hu
  refine ⟨by rw [h.cell hu hp]; rfl, ?_⟩
  rw [World.frozen?_of_block (w := w) (h.block _ hlt hp)]; exact h2
theorem Chg.setCell {b : Nat} {w x : World} (h : Chg b w x) (o : Nat) (u : Value) : Chg b w (x.setCell ⟨b, o, none⟩ u) :=
  h.trans ⟨rfl, rfl, rfl, by simp [World.setCell], fun k _ hk => Below.heap_setCell _ _ _ _ (by simpa using hk)⟩
theorem Chg.drew {b : Nat} {w x : World} (h : Chg b w x) : Chg b w x.drew := ⟨h.os, h.tape, h.output, h.size, h.block⟩
theorem Chg.drewN {b : Nat} {w x : World} (h : Chg b w x) (n : Nat) : Chg b w (x.drewN n) := ⟨h.os, h.tape, h.output, h.size, h.block⟩
theorem Chg.alloc {b : Nat} {w x : World} (h : Chg b w x) (o : Obj) : Chg b w (x.alloc o) :=
  h.trans (Chg.of_below ((Below.refl _ _).alloc (Nat.le_refl _) o))
theorem Chg.setCells {b : Nat} : ∀ (vs : List Value) (o : Nat) (w x : World), Chg b w x → Chg b w (x.setCells b o vs)
  | [], _, _, _, h => h
  | v :: r, o, w, x, h => by
    rw [World.setCells]
    exact Chg.setCells r (o + 1) w _ (h.setCell o v)
theorem range_below {w x : World} {b o : Nat} {cs : List Value} (hb : Below w.heap.size w x) (h : w.rangeAt b o cs) : x.rangeAt b o cs := fun j v hv => by
  have hc := h j v hv
  rw [hb.cell (World.block_lt_of_cell? w _ hc)]; exact hc
theorem cell_below {w x : World} {p : Addr} {v : Value} (hb : Below w.heap.size w x) (h : w.cell? p = some v) : x.cell? p = some v := by
  rw [hb.cell (World.block_lt_of_cell? w _ h)]; exact h
theorem byts_one (l : List Nat) : ∀ u ∈ byts l, u.oneCell' = true := by
  intro u hu; simp [byts] at hu; obtain ⟨n, _, rfl⟩ := hu; rfl
theorem there_below {w x : World} {b o n : Nat} (hb : Below w.heap.size w x) (h : w.there b o n) : x.there b o n := fun j hj => by
  obtain ⟨h1, h2⟩ := h j hj
  obtain ⟨u, hu⟩ := Option.isSome_iff_exists.1 h1
  have hlt := World.block_lt_of_cell? w _ hu
  exact ⟨by rw [hb.cell hlt, hu]; rfl, by rw [hb.frozen hlt]; exact h2⟩
theorem there_mono {w : World} {b o n o' n' : Nat} (h : w.there b o n) (h1 : o ≤ o') (h2 : o' + n' ≤ o + n) : w.there b o' n' := fun j hj => by
  have := h (o' - o + j) (by omega)
  rwa [show o + (o' - o + j) = o' + j by omega] at this

theorem initial_any (w : World) : Calls Tryd.prog 73 #[] w fun e w' => e = .returned (.agg #[.int .u32 iV.a, .int .u32 iV.b, .int .u32 iV.c, .int .u32 iV.d, .int .u32 iV.e, .int .u32 iV.f, .int .u32 iV.g, .int .u32 iV.h]) ∧ Below w.heap.size w w' := by
  go_enter Tryd.func73, Tryd.ntmps73
  go_wp2
  refine bodyPost_ret (v := .agg #[.int .u32 iV.a, .int .u32 iV.b, .int .u32 iV.c, .int .u32 iV.d, .int .u32 iV.e, .int .u32 iV.f, .int .u32 iV.g, .int .u32 iV.h]) (by simp [results, Tryd.results73, go_sem, iV]) rfl ⟨rfl, (Below.refl _ _).alloc (Nat.le_refl _) _⟩

/-- the cells of eight words -/
def v8c (v : V8) : List Value := [.int .u32 v.a, .int .u32 v.b, .int .u32 v.c, .int .u32 v.d, .int .u32 v.e, .int .u32 v.f, .int .u32 v.g, .int .u32 v.h]
theorem v8c_eq (v : V8) : v8c v = w32 v.l := rfl
theorem V8.l_lt {v : V8} (h : v.ok) (k : Nat) : v.l.getD k 0 < 4294967296 := by
  have h1 := h.a; have h2 := h.b; have h3 := h.c; have h4 := h.d
  have h5 := h.e; have h6 := h.f; have h7 := h.g; have h8 := h.h
  rcases (by omega : k = 0 ∨ k = 1 ∨ k = 2 ∨ k = 3 ∨ k = 4 ∨ k = 5 ∨ k = 6 ∨ k = 7 ∨ 8 ≤ k) with rfl | rfl | rfl | rfl | rfl | rfl | rfl | rfl | h9
  all_goals first
    | assumption
    | (rw [List.getD, List.getElem?_eq_none (by simpa [V8.l] using h9)]; decide)
/-- half added -/
def adl (v r : V8) (k : Nat) : List Nat := (List.range 8).map fun j => if j < k then (r.l.getD j 0 + v.l.getD j 0) % 4294967296 else v.l.getD j 0
theorem adl_length (v r : V8) (k : Nat) : (adl v r k).length = 8 := by simp [adl]
theorem adl_zero (v r : V8) : adl v r 0 = v.l := by simp [adl, V8.l, List.range_succ]
theorem adl_full (v r : V8) : adl v r 8 = (add8 r v).l := by simp [adl, V8.l, List.range_succ, add8]
theorem adl_get (v r : V8) {k : Nat} (h : k < 8) : (adl v r k).getD k 0 = v.l.getD k 0 := by simp [adl, List.getD, h]
theorem adl_set (v r : V8) {k : Nat} (h : k < 8) : (adl v r k).set k ((r.l.getD k 0 + v.l.getD k 0) % 4294967296) = adl v r (k + 1) := by
  apply List.ext_getElem
  · simp [adl]
  · intro i h1 h2
    simp only [List.length_set, adl_length] at h1
    rw [List.getElem_set]
    by_cases e : k = i
    · subst e; simp [adl]
    · rw [if_neg e]
      simp only [adl, List.getElem_map, List.getElem_range]
      by_cases h3 : i < k
      · rw [if_pos h3, if_pos (by omega)]
      · rw [if_neg h3, if_neg (by omega)]

/-- an element of an array by value -/
theorem index_arr {T E : TypeId} {n : Nat} {cs : List Value} {v : Value} {d : TypeDesc} (w : World) (hu : Tryd.prog.underlying T = some (.array n E)) (hE : (Tryd.prog.info? E).map (fun i => i.size) = some 1) (hd : Tryd.prog.underlying E = some d) (hr : d.isRow = false) (k : Nat) (hk : k < n) (hv : cs[k]? = some v) :
    (Instr.index T (.agg cs.toArray) (.int .i64 (k : Int))).run Tryd.prog w = .ok v w := by
  have hz : ∀ w, (sizeOf E).run Tryd.prog w = .ok 1 w := fun w => by
    cases hq : Tryd.prog.info? E with
    | none => simp [hq] at hE
    | some i =>
      have hs : i.size = 1 := by simpa [hq] using hE
      simp [sizeOf, typeInfo, hq, hs]
  have ha : ∀ w, (isAgg E).run Tryd.prog w = .ok false w := fun w => by
    unfold isAgg
    rw [Sem.run_bind, run_underlying hd w]
    cases d <;> simp_all [TypeDesc.isRow]
  simp [Instr.index, run_underlying hu, asIntOf, go_sem, hk, hz, ha, hv]

/-- what absorb leaves -/
def AbsPost (b n : Nat) (st : V8) (R : List Nat) (w : World) (e : Ending) (w' : World) : Prop :=
  e = .returned (.tuple #[]) ∧ w'.rangeAt b 0 (v8c (mixV (if n = 64 then iV else st) R)) ∧ w'.rangeAt b 8 (byts R) ∧ w'.cell? ⟨b, 72, none⟩ = some (.int .u64 n) ∧ w'.there b 0 73 ∧ Chg b w w'

set_option maxRecDepth 100000 in
set_option maxHeartbeats 1000000 in
theorem absorb_any (b n : Nat) (st : V8) (R : List Nat) (hR : R.length = 64) (hRl : ∀ d ∈ R, d < 256) (hst : st.ok) (hn : n < 18446744073709551616) (w : World)
    (c1 : w.rangeAt b 0 (v8c st)) (c2 : w.rangeAt b 8 (byts R)) (c3 : w.cell? ⟨b, 72, none⟩ = some (.int .u64 n)) (ht : w.there b 0 73) (hK : KTab w) (hG : b ≠ 1) :
    Calls Tryd.prog 50 #[.pointer (some ⟨b, 0, none⟩)] w (AbsPost b n st R w) := by
  have HR := Box.mk hR; clear hR
  have HRL := Box.mk hRl; clear hRl
  have C1 := Box.mk c1; have C2 := Box.mk c2; have HT := Box.mk ht
  have HK := Box.mk hK; clear c1 c2 ht hK
  obtain ⟨v0, hv0⟩ : ∃ v, v = if n = 64 then iV else st := ⟨_, rfl⟩
  have hok : v0.ok := by rw [hv0]; split; exact iV_ok; exact hst
  have HV0 := Box.mk hv0; clear hv0
  have HOK := Box.mk hok; clear hok hst
  go_enter Tryd.func50, Tryd.ntmps50
  go_upto_if 8 with fail
  go_cut [] (fun wx => Box (wx.rangeAt b 0 (v8c v0)) ∧ Box (wx.rangeAt b 8 (byts R)) ∧ Box (wx.cell? ⟨b, 72, none⟩ = some (.int .u64 n)) ∧ Box (wx.there b 0 73) ∧ Box (Chg b w wx))
  case first =>
    by_cases e : n = 64
    · have hv := HV0.out
      rw [if_pos e] at hv
      have HVE := Box.mk hv; clear hv
      have c3' := c3
      rw [e] at c3'
      have t8 := there_mono HT.out (o' := 0) (n' := 8) (by omega) (by omega)
      have T8 := Box.mk t8; clear t8
      have C3 := Box.mk c3
      have e1 : ((n : Int) == 64) = true := by rw [beq_iff_eq]; omega
      have HE := Box.mk e; clear c3 e
      have hltb := World.block_lt_of_cell? w _ c3'
      go_wp2_with (first
        | (go_at_call 73; refine (initial_any _).mono ?_; rintro e w1 ⟨rfl, b1⟩; have T1 := Box.mk (there_below b1 T8.out))
        | ((with_reducible refine at_store 28 (.tmp 12) (.tmp 10) ?_); refine wpList_store_mid rfl 28 (.tmp 12) (.tmp 10) rfl b 0 (v8c iV).toArray rfl rfl T1.out (by kernel_rfl) (all_oneCell_toArray (w32_one iV.l)) ?_))
      go_meet
      have l8 : (v8c iV).length = 8 := rfl
      refine ⟨⟨?_⟩, ⟨?_⟩, ⟨?_⟩, ⟨?_⟩, ⟨?_⟩⟩
      · rw [HVE.out]; exact World.rangeAt_setCells_same w1 b 0 (v8c iV) T1.out
      · exact World.rangeAt_setCells_apart (range_below b1 C2.out) b 0 (v8c iV) (.inr (.inr (by rw [l8]; omega)))
      · have h := C3.out
        rw [World.cell?_setCells_out b (v8c iV) 0 w1 ⟨b, 72, none⟩ (fun _ _ => .inr (by rw [l8]; show 0 + 8 ≤ 72; omega)), b1.cell hltb]
        exact h
      · exact World.there_setCells (there_below b1 HT.out) _ _ _
      · exact Chg.setCells _ _ _ _ (Chg.of_below b1)
    · have hv := HV0.out
      rw [if_neg e] at hv
      have HVE := Box.mk hv; clear hv
      have C3 := Box.mk c3
      have e1 : ((n : Int) == 64) = false := by rw [beq_eq_false_iff_ne]; omega
      have e2 : (n == 64) = false := by rw [beq_eq_false_iff_ne]; exact e
      have e3 : decide (n = 64) = false := by simpa using e
      go_wp2
      go_meet
      exact ⟨⟨by rw [HVE.out]; exact C1.out⟩, C2, C3, HT, ⟨Chg.refl _ _⟩⟩
  case rest =>
    obtain ⟨D1, D2, D3, D4, D5⟩ := hcut
    have kt : KTab wc := fun t ht => D5.out.cell (HK.out t ht) (Ne.symm hG)
    have d1 := D1.out
    have d2 := D2.out
    have hu2 := Tryd.underlying29
    have hi2 : (Tryd.prog.info? 29).map (·.size) = some (byts R).length := by rw [byts_length, HR.out]; kernel_rfl
    have q0 : wc.cell? ⟨b, 0, none⟩ = some (.int .u32 v0.a) := d1 0 _ rfl
    have q1 : wc.cell? ⟨b, 1, none⟩ = some (.int .u32 v0.b) := d1 1 _ rfl
    have q2 : wc.cell? ⟨b, 2, none⟩ = some (.int .u32 v0.c) := d1 2 _ rfl
    have q3 : wc.cell? ⟨b, 3, none⟩ = some (.int .u32 v0.d) := d1 3 _ rfl
    have q4 : wc.cell? ⟨b, 4, none⟩ = some (.int .u32 v0.e) := d1 4 _ rfl
    have q5 : wc.cell? ⟨b, 5, none⟩ = some (.int .u32 v0.f) := d1 5 _ rfl
    have q6 : wc.cell? ⟨b, 6, none⟩ = some (.int .u32 v0.g) := d1 6 _ rfl
    have q7 : wc.cell? ⟨b, 7, none⟩ = some (.int .u32 v0.h) := d1 7 _ rfl
    have hlen : (byts R).length = 64 := by rw [byts_length, HR.out]
    have hone : ∀ v ∈ byts R, v.oneCell' = true := byts_one R
    have KT := Box.mk kt; clear kt d1
    go_wp2_with fail
    go_region_held3 (fun w' => w'.cell? ⟨b, 0, none⟩ = some (.int .u32 v0.a) ∧ w'.cell? ⟨b, 1, none⟩ = some (.int .u32 v0.b) ∧ w'.cell? ⟨b, 2, none⟩ = some (.int .u32 v0.c) ∧ w'.cell? ⟨b, 3, none⟩ = some (.int .u32 v0.d) ∧ w'.cell? ⟨b, 4, none⟩ = some (.int .u32 v0.e) ∧ w'.cell? ⟨b, 5, none⟩ = some (.int .u32 v0.f) ∧ w'.cell? ⟨b, 6, none⟩ = some (.int .u32 v0.g) ∧ w'.cell? ⟨b, 7, none⟩ = some (.int .u32 v0.h) ∧ w'.rangeAt b 8 (byts R) ∧ Below wc.heap.size wc w')
      (first
        | (refine ⟨q0, q1, q2, q3, q4, q5, q6, q7, d2, (Below.refl _ _).drew⟩)
        | (go_split_ands; refine ⟨cell_below (by assumption) (by assumption), cell_below (by assumption) (by assumption), cell_below (by assumption) (by assumption), cell_below (by assumption) (by assumption), cell_below (by assumption) (by assumption), cell_below (by assumption) (by assumption), cell_below (by assumption) (by assumption), cell_below (by assumption) (by assumption), range_below (by assumption) (by assumption), bch (by assumption) (by assumption)⟩)
        | go_keep_ranges)
      (first
        | (go_at_call 75; refine (schedule_any R HR.out HRL.out _).mono ?_; rintro e w1 ⟨rfl, b1⟩)
        | (go_at_call 74; refine (rounds_any v0 HOK.out (sched R) (sched_length R) (fun k => sched_lt HRL.out k) _ (ktab_below KT.out (by go_split_ands; assumption))).mono ?_; rintro e w2 ⟨rfl, b2⟩))
    have BB := Box.mk (bch ((Below.refl wc.heap.size wc).drew) (bch b1 b2))
    clear b1 b2
    clear q0 q1 q2 q3 q4 q5 q6 q7 hu2 hi2 hlen hone
    have e2 : Box (w2.rangeAt b 8 (byts R)) := ⟨range_below BB.out d2⟩
    have e1 : Box (w2.rangeAt b 0 (v8c v0)) := ⟨range_below BB.out D1.out⟩
    have e4 : Box (w2.there b 0 73) := ⟨there_below BB.out D4.out⟩
    have e3 : Box (w2.cell? ⟨b, 72, none⟩ = some (.int .u64 n)) := ⟨cell_below BB.out D3.out⟩
    have e5 : Box (Chg b w w2) := ⟨D5.out.trans (Chg.of_below BB.out)⟩
    clear D1 D2 D3 D4 D5 d2 BB KT
    have hrok := rds_ok (K := kN) (W := sched R) HOK.out 64
    obtain ⟨r, hr⟩ : ∃ r, r = rds kN (sched R) v0 64 := ⟨_, rfl⟩
    rw [← hr] at hrok ⊢
    have HRr := Box.mk hr; clear hr
    have HRO := Box.mk hrok; clear hrok
    go_wp2_with fail
    go_loopw [2, 3, 23] (fun _ _ i wr => ∃ k : Nat, k ≤ 8 ∧ i = .int .i64 k ∧ Box (wr.rangeAt b 0 (w32 (adl v0 r k))) ∧ Box (wr.rangeAt b 8 (byts R)) ∧ Box (wr.cell? ⟨b, 72, none⟩ = some (.int .u64 n)) ∧ Box (wr.there b 0 73) ∧ Box (Chg b w wr))
      (fun _ _ i _ => 8 - (intOf i).toNat)
    case atStart => exact ⟨0, by omega, rfl, ⟨by rw [adl_zero]; exact e1.out⟩, e2, e3, e4, e5⟩
    case round =>
      clear e1 e2 e3 e4 e5
      obtain ⟨k, hk, rfl, f1, f2, f3, f4, f5⟩ := hrel
      by_cases hlt : k < 8
      · have ix := fun w => index_arr (T := 28) (E := 27) (cs := v8c r) (v := .int .u32 ((r.l.getD k 0 : Nat) : Int)) w Tryd.underlying28 (by kernel_rfl) Tryd.underlying27 rfl k hlt (w32_get (l := r.l) (by simpa [V8.l] using hlt))
        have g1 : wr.cell? ⟨b, k, none⟩ = some (.int .u32 ((v0.l.getD k 0 : Nat) : Int)) := by
          have h := f1.out k _ (w32_get (by rw [adl_length]; exact hlt))
          rw [Nat.zero_add, adl_get v0 r hlt] at h; exact h
        have g2 : wr.frozen? ⟨b, k, none⟩ = false := by
          have h := (f4.out k (by omega)).2
          rwa [Nat.zero_add] at h
        have hset := adl_set v0 r hlt
        have HS := Box.mk hset; clear hset
        have L1 : v0.l.getD k 0 < 4294967296 := V8.l_lt HOK.out k
        have L2 : r.l.getD k 0 < 4294967296 := V8.l_lt HRO.out k
        generalize v0.l.getD k 0 = x at *
        generalize r.l.getD k 0 = y at *
        unfold v8c at ix
        go_wp2_with fail
        go_still_tail 11, (by kernel_rfl)
        change wpList _ _ _ _ _ wr.drew
        go_wp2
        go_roundw
        case rel =>
          refine ⟨k + 1, by omega, by go_num, ⟨?_⟩, ⟨?_⟩, ⟨?_⟩, ⟨?_⟩, ⟨?_⟩⟩
          · rw [show (((x : Int) + y) % 4294967296) = (((y + x) % 4294967296 : Nat) : Int) by omega, ← HS.out]
            exact (World.rangeAt_drew _ _ _ _).2 (range_set f1.out k _ (by rw [adl_length]; exact hlt))
          · intro j v hv
            have h := f2.out j v hv
            show (wr.setCell _ _).cell? _ = _
            rw [World.cell?_setCell_other _ _ _ _ (by intro e2; simp at e2 <;> omega)]
            exact h
          · show (wr.setCell _ _).cell? _ = _
            rw [World.cell?_setCell_other _ _ _ _ (by intro e2; simp at e2 <;> omega)]
            exact f3.out
          · exact (World.there_drew _ _ _ _).2 (there_set f4.out _ _)
          · exact (f5.out.setCell _ _).drew
        case measure => simp [intOf]; omega
      · obtain rfl : k = 8 := by omega
        have h := f1.out
        rw [adl_full, HRr.out] at h
        have HF := Box.mk h; clear h
        go_wp2
        go_end0
        exact ⟨rfl, by rw [← HV0.out]; exact HF.out, f2.out, f3.out, f4.out, f5.out⟩
end Go.Proofs.YtdhbeeeofaheeaaDoor
