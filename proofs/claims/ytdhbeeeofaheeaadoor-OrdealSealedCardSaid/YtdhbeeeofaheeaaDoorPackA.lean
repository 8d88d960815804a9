/- Contracts of pack: the writer. -/
import Derived.Test.YtdhbeeeofaheeaaDoorPackM
import Derived.Test.YtdhbeeeofaheeaaDoorStr
import Derived.Test.YtdhbeeeofaheeaaDoorShelf
import Derived.Lib.AppendStr
namespace Go.Proofs.YtdhbeeeofaheeaaDoor
set_option maxRecDepth 100000
open Go.RowKit M

theorem own_slice {w : World} {B e z : Nat} {v : Value} {n : Nat} {xs : List Value} (h : w.ownsRow B e z v n xs) : ∃ p l c, v = .slice p l c := by
  rcases h.2 with ⟨h2, _⟩ | ⟨g, cap, cur, hv, _⟩
  · exact ⟨_, _, _, h2⟩
  · exact ⟨_, _, _, hv⟩
/-- a writer that holds L lies in block b -/
structure Wr (w : World) (b : Nat) (L : List Nat) (v : Value) : Prop where
  cell : w.cell? ⟨b, 0, none⟩ = some v
  own : w.ownsRow (b + 1) 5 1 v L.length (byts L)
  fr : w.frozen? ⟨b, 0, none⟩ = false

/-- a writer's block and its own row alone of the old blocks may have changed; its row is the old one or a new one -/
structure Ext (b : Nat) (v v' : Value) (w w' : World) : Prop where
  os : w'.os = w.os
  tape : w'.tape = w.tape
  output : w'.output = w.output
  size : w.heap.size ≤ w'.heap.size
  block : ∀ k, k < w.heap.size → k ≠ b → v.ownBlock ≠ some k → w'.heap[k]? = w.heap[k]?
  lies : v'.ownBlock = v.ownBlock ∨ ∀ k, v'.ownBlock = some k → w.heap.size ≤ k
theorem Ext.trans {b : Nat} {v v1 v2 : Value} {w w1 w2 : World} (h : Ext b v v1 w w1) (k : Ext b v1 v2 w1 w2) : Ext b v v2 w w2 := by
  refine ⟨k.os.trans h.os, k.tape.trans h.tape, k.output.trans h.output, Nat.le_trans h.size k.size, fun i hi hb hv => ?_, ?_⟩
  · refine (k.block i (Nat.lt_of_lt_of_le hi h.size) hb ?_).trans (h.block i hi hb hv)
    rcases h.lies with e | e
    · rw [e]; exact hv
    · intro e2; have := e i e2; omega
  · rcases k.lies with e | e
    · rcases h.lies with e2 | e2
      · exact .inl (e.trans e2)
      · exact .inr (fun i hi => e2 i (by rw [← e]; exact hi))
    · exact .inr (fun i hi => Nat.le_trans h.size (e i hi))
theorem Ext.of_below {b : Nat} {v : Value} {w w' : World} (h : Below w.heap.size w w') : Ext b v v w w' :=
  ⟨h.os, h.tape, h.output, h.size, fun k hk _ _ => h.block k hk, .inl rfl⟩
/-- what a call on a writer leaves -/
def WrP (b : Nat) (L : List Nat) (v : Value) (w : World) (e : Ending) (w' : World) : Prop :=
  e = .returned (.tuple #[]) ∧ ∃ v', Wr w' b L v' ∧ Ext b v v' w w'

/-- where the row lies behind an append -/
theorem append_block {P : Program} (w : World) (base : Nat) (t u ty e : TypeId) (i : TypeInfo) (ht : P.underlying t = some (.slice e)) (hu : P.underlying u = some .string) (hi : P.info? e = some i) (hz : i.zero = some (.int .u8 0))
    (hsize : i.size = 1) (hby : i.bytes = 1) (v : Value) (n : Nat) (xs : List Value) (hown : w.ownsRow base e 1 v n xs) (s : ByteArray)
    (h63 : n + s.size ≤ maxLen) (hbytes : n + s.size ≤ 140737488355328) :
    ∃ v' w', (Builtin.append_ #[t, u] ty #[v, .string s]).run P w = .ok v' w' ∧ (v'.ownBlock = v.ownBlock ∨ v'.ownBlock = some w.heap.size) := by
  have hsmall : n + s.size ≤ 9223372036854775807 := by simp only [maxLen] at h63; omega
  have hxl : xs.length = n := by simpa using hown.1
  rcases hown.2 with ⟨rfl, rfl⟩ | ⟨g, cap, cur, rfl, hbg, hg, hnc, hcm, hcs, htake⟩
  · by_cases hm : s.size = 0
    · refine ⟨.slice none 0 0, w, ?_, .inl rfl⟩
      have hf := Lib.run_firstCells_string (P := P) w 1 s
      rw [hm] at hf
      simp [Builtin.append_, run_underlying ht, run_underlying hu, sizeOf, typeInfo, hi, hsize, Builtin.lenOf, hm, hf]
    · exact ⟨_, _, run_append_nil_string (P := P) w t u ty e i (.int .u8 0) ht hu hi hz s (by omega) (by omega) (by rw [hby]; omega), .inr rfl⟩
  · by_cases hroom : n + s.size ≤ cap
    · have hcs' : cur.size = cap := by simpa using hcs
      exact ⟨_, _, Lib.run_append_room_string (P := P) w t u ty e i ht hu hi hsize g n cap cur hg s hroom (by omega), .inl rfl⟩
    · have holds : ∀ j u, xs[j]? = some u → w.cell? ((⟨g, 0, none⟩ : Addr).add j) = some u := hown.cells (g := g) rfl
      exact ⟨_, _, Lib.run_append_grow_string (P := P) w t u ty e i (.int .u8 0) ht hu hi hz ⟨g, 0, none⟩ n cap xs (by rw [hsize]; simpa using hxl) holds s (by omega) (by omega) (by rw [hby]; exact growslice_fits (by omega) (by omega)), .inr rfl⟩
theorem wpList_append_lies_string {P : Program} {w : World} {ops : Array Oper} {rest : List Oper} {o : Oper} {a : Act} {Q : Exit → Act → World → Prop} (hgd : o.guard = none) (sl x : Operand) (t u : TypeId)
    (ho : o.op = .call { callee := .builtin .append, args := #[sl, x], argTypes := #[t, u] })
    (base : Nat) (e : TypeId) (i : TypeInfo) (ht : P.underlying t = some (.slice e)) (hu : P.underlying u = some .string) (hi : P.info? e = some i) (hz : i.zero = some (.int .u8 0))
    (hsize : i.size = 1) (hby : i.bytes = 1)
    (v : Value) (n : Nat) (xs : List Value) (hs : a.eval sl = v) (hown : w.ownsRow base e 1 v n xs) (s : ByteArray) (hx : a.eval x = .string s)
    (h63 : n + s.size ≤ maxLen) (hbytes : n + s.size ≤ 140737488355328) (hbase : base ≤ w.heap.size)
    (h : ∀ v' w', w'.ownsRow base e 1 v' (n + s.size) (xs ++ Lib.strCells s) → w.grownBy w' v.ownBlock → (v'.ownBlock = v.ownBlock ∨ v'.ownBlock = some w.heap.size) → wpList P ops Q rest (a.put o.dst v') w') : wpList P ops Q (o :: rest) a w := by
  refine wpList_plain hgd fun K hK => ?_
  obtain ⟨v', w', hr, h2, h3, _⟩ := Lib.run_append_own_string (P := P) w base t u o.type e i ht hu hi hz hsize hby v n xs hown s h63 hbytes hbase
  obtain ⟨v2, w2, hr2, h4⟩ := append_block (P := P) w base t u o.type e i ht hu hi hz hsize hby v n xs hown s h63 hbytes
  rw [hr] at hr2
  injection hr2 with e1 e2
  subst e1
  unfold Oper.wp execOp
  simp only [ho, resolve, invoke, builtin, Sem.run_bind, Sem.run_pure, Result.andThen_ok, List.map_toArray, List.map_cons, List.map_nil, hs, hx, hr]
  exact hK _ _ (h v' w' h2 h3 h4)

theorem own_keep {w w' : World} {B e z : Nat} {v : Value} {n : Nat} {xs : List Value} (h : w.ownsRow B e z v n xs) (hb : Below w.heap.size w w') : w'.ownsRow B e z v n xs := by
  obtain ⟨h1, h2⟩ := h
  refine ⟨h1, ?_⟩
  rcases h2 with h2 | ⟨g, cap, cur, hv, hg, hh, r⟩
  · exact .inl h2
  · refine .inr ⟨g, cap, cur, hv, hg, ?_, r⟩
    have hgl : g < w.heap.size := by
      rcases Nat.lt_or_ge g w.heap.size with hl | hl
      · exact hl
      · rw [Array.getElem?_eq_none hl] at hh; cases hh
    rw [hb.block g hgl]; exact hh
theorem Wr.below {w w' : World} {b : Nat} {L : List Nat} {v : Value} (h : Wr w b L v) (hb : Below w.heap.size w w') : Wr w' b L v := by
  have hlt := World.block_lt_of_cell? w _ h.cell
  exact ⟨by rw [hb.cell hlt]; exact h.cell, own_keep h.own hb, by rw [hb.frozen hlt]; exact h.fr⟩

theorem Ext.below {b B : Nat} {v v' : Value} {w w' : World} (h : Ext b v v' w w') (hb : B ≤ b) (hB : B ≤ w.heap.size) (hv : ∀ k, v.ownBlock = some k → b + 1 ≤ k) : Below B w w' :=
  ⟨h.os, h.tape, h.output, h.size, fun i hi => h.block i (by omega) (by omega) (fun e => by have := hv i e; omega)⟩
theorem fixedSize_any (n : Int) (w : World) : Calls Tryd.prog 58 #[.int .i64 n] w fun e w' => e = .returned (.int .i64 ((if n < 1 then 1 else if 8 < n then 8 else n.toNat : Nat) : Int)) ∧ w = w' := by
  have main : ∀ k : Nat, ((n < 1 ∧ k = 1) ∨ (8 < n ∧ k = 8) ∨ (n = k ∧ 1 ≤ k ∧ k ≤ 8)) → Calls Tryd.prog 58 #[.int .i64 n] w fun e w' => e = .returned (.int .i64 (k : Int)) ∧ w = w' := by
    intro k hc
    rcases hc with ⟨h, rfl⟩ | ⟨h, rfl⟩ | ⟨rfl, h1, h2⟩
    all_goals
      go_enter Tryd.func58, Tryd.ntmps58
      go_wp2
      go_ret
      first
        | exact ⟨rfl, rfl⟩
        | (refine ⟨congrArg Ending.returned (congrArg (Value.int .i64) ?_), rfl⟩; omega)
  refine main _ ?_
  by_cases h : n < 1
  · exact .inl ⟨h, if_pos h⟩
  · by_cases h2 : 8 < n
    · exact .inr (.inl ⟨h2, by rw [if_neg h, if_pos h2]⟩)
    · exact .inr (.inr ⟨by rw [if_neg h, if_neg h2]; omega, by rw [if_neg h, if_neg h2]; omega, by rw [if_neg h, if_neg h2]; omega⟩)

set_option maxHeartbeats 400000 in
theorem raw_any (b : Nat) (L : List Nat) (v : Value) (s : ByteArray) (w : World) (h : Wr w b L v) (hl : L.length + s.size ≤ 10000000) :
    Calls Tryd.prog 31 #[.pointer (some ⟨b, 0, none⟩), .string s] w (WrP b (L ++ sb s) v w) := by
  obtain ⟨i0, hi, hz0, hz1, hz2⟩ := info_parts info_byte
  have hc := h.cell
  have hf := h.fr
  have hlt := World.block_lt_of_cell? w _ hc
  have hlt : b < w.heap.size := hlt
  have hne : v.ownBlock ≠ some b := fun e => by have := (h.own.lt b e).1; omega
  have HW := Box.mk h; have HNE := Box.mk hne
  clear h hne
  go_enter Tryd.func31, Tryd.ntmps31
  go_wp2_with (at_builtin; (refine wpList_append_lies_string rfl (.tmp 8) (.tmp 9) 38 9 rfl (b + 1) 5 i0 Tryd.underlying38 Tryd.underlying9 hi hz0 hz1 hz2 v L.length (byts L) rfl HW.out.own s rfl (by unfold maxLen; omega) (by omega) (by omega) ?_; intro v' w1 hown hg hn; obtain ⟨p', l', c', rfl⟩ := own_slice hown; have HO := Box.mk hown; have HG := Box.mk hg; have HNL := Box.mk hn; clear hn; have hc1 : w1.cell? ⟨b, 0, none⟩ = some v := hg.cell hc (fun e => HNE.out e.symm); have hf1 : w1.frozen? ⟨b, 0, none⟩ = false := (by rw [World.frozen?_of_block (w := w) (a := ⟨b, 0, none⟩) (hg.block b hlt (fun e => HNE.out e.symm))]; exact hf); clear hown hg))
  go_end0
  have hob : ∀ k, v.ownBlock = some k → b + 1 ≤ k ∧ k < w.heap.size := fun k hk => HW.out.own.lt k hk
  refine ⟨rfl, .slice p' l' c', ⟨World.cell?_setCell_same _ _ _ hc1, ?_, by simpa using hf1⟩, ⟨HG.out.os, HG.out.tape, HG.out.output, by simpa [World.setCell] using HG.out.size, fun k hk hkb hkv => ?_, ?_⟩⟩
  rotate_left
  · rw [Below.heap_setCell _ _ _ _ (by simpa using hkb)]
    exact HG.out.block k hk (fun e => hkv e.symm)
  · rcases HNL.out with e | e
    · exact .inl e
    · exact .inr (fun k hk => by rw [e] at hk; cases hk; exact Nat.le_refl _)
  have ho := HO.out
  rw [strCells_sb, byts_append, ← sb_length s, ← List.length_append] at ho
  exact ownsRow_setCell_below ho (by show b < b + 1; omega) _

end Go.Proofs.YtdhbeeeofaheeaaDoor
