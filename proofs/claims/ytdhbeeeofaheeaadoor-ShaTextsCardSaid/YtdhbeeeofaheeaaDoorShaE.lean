/- Contracts of sha: Write. -/
import Derived.Test.YtdhbeeeofaheeaaDoorShaD
import Derived.Test.YtdhbeeeofaheeaaDoorStr
import Derived.Lib.LazyBuf
namespace Go.Proofs.YtdhbeeeofaheeaaDoor
set_option maxRecDepth 100000
open Go.RowKit M

/-- the state that a message of no whole block has -/
def zV : V8 := ⟨0, 0, 0, 0, 0, 0, 0, 0⟩
def stOf (m : List Nat) : V8 := if m.length / 64 = 0 then zV else stt m (m.length / 64)
theorem zV_ok : zV.ok := by constructor <;> decide
theorem stOf_ok (m : List Nat) : (stOf m).ok := by unfold stOf; split; exact zV_ok; exact stt_ok _ _

/-- the rest's bytes behind a message -/
structure HasR (m : List Nat) (R : List Nat) : Prop where
  len : R.length = 64
  lt : ∀ d ∈ R, d < 256
  rest : R.take (m.length % 64) = m.drop (64 * (m.length / 64))

/-- the rest behind bytes that were copied into it -/
def fillR (R t : List Nat) (p : Nat) : List Nat := R.take p ++ (t ++ R.drop (p + t.length))
theorem fillR_length {R t : List Nat} {p : Nat} (h : p + t.length ≤ R.length) : (fillR R t p).length = R.length := by
  simp [fillR]; omega
theorem fillR_lt {R t : List Nat} {p : Nat} (hR : ∀ d ∈ R, d < 256) (ht : ∀ d ∈ t, d < 256) : ∀ d ∈ fillR R t p, d < 256 := by
  intro d hd
  simp only [fillR, List.mem_append] at hd
  rcases hd with h | h | h
  · exact hR d (List.mem_of_mem_take h)
  · exact ht d h
  · exact hR d (List.mem_of_mem_drop h)
theorem fill_drop {m t : List Nat} {R : List Nat} (h : HasR m R) : (m ++ t).drop (64 * (m.length / 64)) = R.take (m.length % 64) ++ t := by
  rw [h.rest, List.drop_append_of_le_length (by omega)]
theorem fill_some {m t R : List Nat} (h : HasR m R) (ht : ∀ d ∈ t, d < 256) (hc : m.length % 64 + t.length < 64) : HasR (m ++ t) (fillR R t (m.length % 64)) ∧ stOf (m ++ t) = stOf m := by
  have hl : (m ++ t).length = m.length + t.length := by simp
  have hq : (m.length + t.length) / 64 = m.length / 64 := by omega
  refine ⟨⟨by rw [fillR_length (by rw [h.len]; omega), h.len], fillR_lt h.lt ht, ?_⟩, ?_⟩
  · rw [hl, hq, fill_drop h, show (m.length + t.length) % 64 = m.length % 64 + t.length by omega]
    unfold fillR
    have e1 : (R.take (m.length % 64)).length = m.length % 64 := by rw [List.length_take, h.len]; omega
    rw [← List.append_assoc, List.take_append_of_le_length (by simp [h.len]; omega)]
    rw [List.take_of_length_le (by simp [h.len]; omega)]
  · unfold stOf
    rw [hl, hq]
    split
    · rfl
    · rw [stt_append m t _ (by omega)]
theorem fill_all {m t R : List Nat} (h : HasR m R) (ht : ∀ d ∈ t, d < 256) (hc : m.length % 64 + t.length = 64) : HasR (m ++ t) (fillR R t (m.length % 64)) ∧ stOf (m ++ t) = mixV (if m.length + t.length = 64 then iV else stOf m) (fillR R t (m.length % 64)) := by
  have hl : (m ++ t).length = m.length + t.length := by simp
  have hq : (m.length + t.length) / 64 = m.length / 64 + 1 := by omega
  have hf : fillR R t (m.length % 64) = R.take (m.length % 64) ++ t := by
    unfold fillR
    rw [hc, List.drop_of_length_le (by rw [h.len]; omega), List.append_nil]
  refine ⟨⟨by rw [fillR_length (by rw [h.len]; omega), h.len], fillR_lt h.lt ht, ?_⟩, ?_⟩
  · rw [hl, show (m.length + t.length) % 64 = 0 by omega, List.take_zero, List.drop_of_length_le (by rw [hl]; omega)]
  · unfold stOf
    rw [hl, hq, if_neg (by omega)]
    show mixV (stt (m ++ t) (m.length / 64)) (((m ++ t).drop (64 * (m.length / 64))).take 64) = _
    rw [fill_drop h, ← hf, List.take_of_length_le (by rw [fillR_length (by rw [h.len]; omega), h.len]; omega), stt_append m t _ (by omega)]
    congr 1
    by_cases h0 : m.length / 64 = 0
    · rw [if_pos (by omega), h0]; rfl
    · rw [if_neg (by omega), if_neg h0]

theorem ne_empty {x : ByteArray} (h : 0 < x.size) : x.toList.isEmpty = false := by
  rw [ByteArray.toList_eq, List.isEmpty_eq_false_iff]
  intro e
  have : x.data.toList.length = x.size := by simp
  rw [e] at this; simp at this; omega

/-- a hasher that has read m lies in block b -/
structure HasW (w : World) (b : Nat) (m : List Nat) (R : List Nat) : Prop where
  has : HasR m R
  st : w.rangeAt b 0 (v8c (stOf m))
  rs : w.rangeAt b 8 (byts R)
  ln : w.cell? ⟨b, 72, none⟩ = some (.int .u64 (m.length : Nat))
  th : w.there b 0 73

theorem HasW.chg {w x : World} {b c : Nat} {m R : List Nat} (h : HasW w b m R) (hc : Chg c w x) (hb : b ≠ c) : HasW x b m R :=
  ⟨h.has, hc.range h.st hb, hc.range h.rs hb, hc.cell h.ln hb, hc.there h.th hb⟩
theorem HasW.below {w x : World} {b : Nat} {m R : List Nat} (h : HasW w b m R) (hb : Below w.heap.size w x) : HasW x b m R :=
  ⟨h.has, range_below hb h.st, range_below hb h.rs, cell_below hb h.ln, there_below hb h.th⟩

/-- what Write leaves -/
def WrPost (b : Nat) (m : List Nat) (w : World) (e : Ending) (w' : World) : Prop :=
  e = .returned (.tuple #[]) ∧ (∃ R, HasW w' b m R) ∧ Chg b w w'

/-- cells are copied into the midst of a range -/
theorem range_fill {w : World} {b o p : Nat} {l t : List Nat} (h : w.rangeAt b o (byts l)) (hp : p + t.length ≤ l.length) :
    (w.setCells b (o + p) (byts t)).rangeAt b o (byts (fillR l t p)) := fun j v hv => by
  have hl : (byts t).length = t.length := byts_length t
  have hex : ∀ i, i < (byts t).length → (w.cell? ⟨b, o + p + i, none⟩).isSome = true := fun i hi => by
    have hi2 : p + i < (byts l).length := by rw [byts_length]; omega
    have := h (p + i) _ (List.getElem?_eq_getElem hi2)
    rw [← Nat.add_assoc] at this
    rw [this]; rfl
  have he : byts (fillR l t p) = (byts l).take p ++ (byts t ++ (byts l).drop (p + t.length)) := by simp [byts, fillR]
  rw [he] at hv
  have hlt : ((byts l).take p).length = p := by rw [List.length_take, byts_length]; omega
  by_cases h1 : j < p
  · rw [World.cell?_setCells_out b (byts t) (o + p) w ⟨b, o + j, none⟩ (fun _ _ => .inl (by show o + j < o + p; omega))]
    refine h j v ?_
    rw [List.getElem?_append_left (by omega), List.getElem?_take_of_lt h1] at hv
    exact hv
  · by_cases h2 : j < p + t.length
    · have := World.cell?_setCells_in b (byts t) (o + p) w hex (j - p) (by omega)
      rw [show o + p + (j - p) = o + j by omega] at this
      rw [this, ← hv, List.getElem?_append_right (by omega), hlt, List.getElem?_append_left (by omega), List.getElem?_eq_getElem (by omega)]
    · rw [World.cell?_setCells_out b (byts t) (o + p) w ⟨b, o + j, none⟩ (fun _ _ => .inr (by rw [hl]; show o + p + t.length ≤ o + j; omega))]
      refine h j v ?_
      rw [List.getElem?_append_right (by omega), hlt, List.getElem?_append_right (by omega), hl, List.getElem?_drop] at hv
      rw [show p + t.length + (j - p - t.length) = j by omega] at hv
      exact hv

theorem cells_part (s : ByteArray) (i n : Nat) : byts (((sb s).drop i).take (min (s.size - i) n)) = (((s.extract i s.size).data.toList.take n).map fun y => Value.int .u8 (y.toNat : Int)) := by
  have e : (s.extract i s.size).data.toList = s.data.toList.drop i := by
    rw [ByteArray.data_extract, Array.toList_extract, List.extract_eq_take_drop]
    exact List.take_of_length_le (by simp)
  have hl : (s.data.toList.drop i).length = s.size - i := by simp
  rw [e, sb_data]
  simp only [byts, ← List.map_drop, ← List.map_take, List.map_map]
  have e2 : (s.data.toList.drop i).take (min (s.size - i) n) = (s.data.toList.drop i).take n := by
    rcases Nat.le_total (s.size - i) n with h | h
    · rw [Nat.min_eq_left h, List.take_of_length_le (Nat.le_of_eq hl), List.take_of_length_le (by omega)]
    · rw [Nat.min_eq_right h]
  rw [e2]
  rfl
/-- a cell beside a range is stored -/
theorem range_cell {w : World} {b o : Nat} {cs : List Value} (h : w.rangeAt b o cs) (q : Nat) (v : Value) (hq : o + cs.length ≤ q ∨ q < o) : (w.setCell ⟨b, q, none⟩ v).rangeAt b o cs := fun j u hu => by
  have hj : j < cs.length := (List.getElem?_eq_some_iff.1 hu).1
  rw [World.cell?_setCell_other _ _ _ _ (by intro e2; simp at e2 <;> omega)]
  exact h j u hu

/-- copy(dst, s): as many bytes as the shorter has -/
theorem run_copy_str (w : World) (dT sT ty elem : TypeId) (b o dLen dCap : Nat) (s : ByteArray) (cs : List Value) (hcs : cs = ((s.data.toList.take dLen).map fun x => Value.int .u8 (x.toNat : Int)))
    (hu : Tryd.prog.underlying dT = some (.slice elem)) (hs : (Tryd.prog.info? elem).map (fun i => i.size) = some 1) (hc : w.there b o cs.length) :
    (Builtin.copy_ #[dT, sT] ty #[.slice (some ⟨b, o, none⟩) dLen dCap, .string s]).run Tryd.prog w = .ok (goInt cs.length) (w.setCells b o cs) := by
  have h1 : ∀ v ∈ cs, v.oneCell' = true := by
    intro v hv
    rw [hcs, List.mem_map] at hv
    obtain ⟨x, _, rfl⟩ := hv
    rfl
  have hst := run_storeCells_cells (P := Tryd.prog) b o cs 0 w (fun j hj => by simpa using (hc j hj).1) (fun j hj => by simpa using (hc j hj).2) h1
  have hlen : cs.length = Nat.min s.size dLen := by
    rw [hcs]; simp [Nat.min_comm]
  cases hq : Tryd.prog.info? elem with
  | none => simp [hq] at hs
  | some i =>
    have hi : i.size = 1 := by simpa [hq] using hs
    simp only [Nat.add_zero] at hst
    have hcs2 : List.take cs.length (List.map (fun b : UInt8 => Value.int IntKind.u8 (b.toNat : Int)) s.data.toList) = cs := by
      have hL : (List.map (fun b : UInt8 => Value.int IntKind.u8 (b.toNat : Int)) s.data.toList).length = s.size := by simp
      rw [hlen, hcs, List.map_take]
      rcases Nat.le_total s.size dLen with hle | hle
      · rw [show s.size.min dLen = s.size from Nat.min_eq_left hle, List.take_of_length_le (Nat.le_of_eq hL), List.take_of_length_le (by rw [hL]; exact hle)]
      · rw [show s.size.min dLen = dLen from Nat.min_eq_right hle]
    simp [Builtin.copy_, run_underlying hu, Builtin.lenOf, Builtin.firstCells, sizeOf, typeInfo, hq, ← hlen]
    rw [hcs2, hst]
    rfl

/-- the operation copy(dst, s) -/
theorem wpList_copy_str {w : World} {ops : Array Oper} {rest : List Oper} {o : Oper} {a : Act} {Q : Exit → Act → World → Prop} (hgd : o.guard = none) (d s : Operand) (dT sT : TypeId)
    (ho : o.op = .call { callee := .builtin .copy, args := #[d, s], argTypes := #[dT, sT] }) (elem : TypeId) (hu : Tryd.prog.underlying dT = some (.slice elem)) (hsz : (Tryd.prog.info? elem).map (fun i => i.size) = some 1)
    (b off dLen dCap : Nat) (x : ByteArray) (hd : a.eval d = .slice (some ⟨b, off, none⟩) dLen dCap) (hs : a.eval s = .string x)
    (cs : List Value) (hcs : cs = ((x.data.toList.take dLen).map fun y => Value.int .u8 (y.toNat : Int))) (hc : w.there b off cs.length)
    (h : wpList Tryd.prog ops Q rest (a.put o.dst (goInt cs.length)) (w.setCells b off cs)) : wpList Tryd.prog ops Q (o :: rest) a w := by
  refine wpList_plain hgd fun K hK => ?_
  have hrun := run_copy_str w dT sT o.type elem b off dLen dCap x cs hcs hu hsz hc
  unfold Oper.wp
  simp [execOp, ho, resolve, invoke, builtin, hd, hs, hrun, Result.andThen]
  exact hK _ _ h

/-- the operation at hand copies from a string -/
theorem at_copy {P : Program} {ops : Array Oper} {Q : Exit → Act → World → Prop} {rest : List Oper} {a : Act} {w : World} (d s : Operand) (dT sT : TypeId) {dst : Option Tmp} {ty : TypeId} {pos : String} {after : Array Edge} {guard : Option (Nat × Bool)}
    (h : wpList P ops Q (⟨dst, .call { callee := .builtin .copy, args := #[d, s], argTypes := #[dT, sT] }, ty, pos, after, guard⟩ :: rest) a w) : wpList P ops Q (⟨dst, .call { callee := .builtin .copy, args := #[d, s], argTypes := #[dT, sT] }, ty, pos, after, guard⟩ :: rest) a w := h

/-- a[p:] of an array variable -/
theorem slice_from {T E : TypeId} {n : Nat} (b o p : Nat) (kl : IntKind) (hu : Tryd.prog.underlying T = some (.array n E)) (hE : (Tryd.prog.info? E).map (fun i => i.size) = some 1) (hp : p < n) (w : World) :
    (Instr.sliceAt T (.pointer (some ⟨b, o, none⟩)) (some (.int kl (p : Int))) none none).run Tryd.prog w = .ok (.slice (some ⟨b, o + p, none⟩) (n - p) (n - p)) w := by
  have hz : ∀ w, (sizeOf E).run Tryd.prog w = .ok 1 w := fun w => by
    cases hq : Tryd.prog.info? E with
    | none => simp [hq] at hE
    | some i =>
      have hs : i.size = 1 := by simpa [hq] using hE
      simp [sizeOf, typeInfo, hq, hs]
  have hn : ¬ n = p := by omega
  have hpn : p ≤ n := by omega
  simp [Instr.sliceAt, run_underlying hu, Instr.sliceBounds, Instr.sliceBound, asIntOf, hz, hn, hpn, go_sem]

set_option maxRecDepth 100000 in
set_option maxHeartbeats 1000000 in
theorem write_any (b : Nat) (m R0 : List Nat) (s : ByteArray) (w : World) (hW : HasW w b m R0) (hl : m.length + s.size < 4294967296) (hK : KTab w) (hG : b ≠ 1) :
    Calls Tryd.prog 15 #[.pointer (some ⟨b, 0, none⟩), .string s] w (WrPost b (m ++ sb s) w) := by
  have HW := Box.mk hW; clear hW
  have HK := Box.mk hK; clear hK
  go_enter Tryd.func15, Tryd.ntmps15
  go_wp2_with fail
  go_loopw [1, 4] (fun x _ wr => ∃ i : Nat, i ≤ s.size ∧ x = .string (s.extract i s.size) ∧ Box (∃ R, HasW wr b (m ++ (sb s).take i) R) ∧ Box (Chg b w wr)) (fun x _ _ => match x with | .string y => y.size | _ => 0)
  case atStart =>
    refine ⟨0, by omega, ?_, ⟨R0, by simpa using HW.out⟩, ⟨Chg.refl _ _⟩⟩
    rw [show s.extract 0 s.size = s by simp]
  case round =>
    obtain ⟨i, hi, rfl, hH, hC⟩ := hrel
    by_cases hlt : i < s.size
    · obtain ⟨R, hHW⟩ := hH.out
      clear hH
      have hH := hHW
      clear hHW
      obtain ⟨L, hL⟩ : ∃ L, L = (m ++ (sb s).take i).length := ⟨_, rfl⟩
      have hL2 : L = m.length + i := by
        rw [hL, List.length_append, List.length_take, sb_length]; omega
      obtain ⟨p, hp⟩ : ∃ p, p = L % 64 := ⟨_, rfl⟩
      obtain ⟨x, hx⟩ : ∃ x, x = s.extract i s.size := ⟨_, rfl⟩
      have hxs : x.size = s.size - i := by rw [hx]; simp
      have hxe : x.toList.isEmpty = false := ne_empty (by omega)
      obtain ⟨c, hc⟩ : ∃ c, c = min x.size (64 - p) := ⟨_, rfl⟩
      obtain ⟨t, ht⟩ : ∃ t, t = ((sb s).drop i).take c := ⟨_, rfl⟩
      have htl : t.length = c := by rw [ht, List.length_take, List.length_drop, sb_length]; omega
      have htt : ∀ d ∈ t, d < 256 := fun d hd => sb_lt s d (by rw [ht] at hd; exact List.mem_of_mem_drop (List.mem_of_mem_take hd))
      have hcs : byts t = ((x.data.toList.take (64 - p)).map fun y => Value.int .u8 (y.toNat : Int))  := by
        rw [ht, hc, hxs, hx]
        exact cells_part s i (64 - p)
      have hln := hH.ln
      rw [← hL] at hln
      have e1 : (L : Int) % 64 = (p : Int) := by omega
      have e2 : (L : Int).tmod 64 = (p : Int) := by rw [Int.tmod_eq_emod_of_nonneg (by omega)]; exact e1
      have p0 : (0 : Int) ≤ (p : Int) := by omega
      have p64 : ¬ 64 = p := by omega
      have p2 : p < 64 := by omega
      have p1 : (p : Int) < 64 := by omega
      have hsl := fun w => slice_from (T := 29) (E := 5) (n := 64) b 8 p .u64 Tryd.underlying29 (by kernel_rfl) p2 w
      have hcx : c ≤ x.size := by omega
      have hc64 : c ≤ 64 := by omega
      have hc1 : 1 ≤ c := by omega
      have hpc : p + c ≤ 64 := by omega
      have hL33 : L < 4294967296 := by omega
      have thc : wr.drew.there b (8 + p) (byts t).length := by
        rw [byts_length, htl]; exact (World.there_drew _ _ _ _).2 (there_mono hH.th (by omega) (by omega))
      obtain ⟨W2, hW2⟩ : ∃ W2, W2 = wr.drew.setCells b (8 + p) (byts t) := ⟨_, rfl⟩
      have w1 : W2.rangeAt b 8 (byts (fillR R t p)) := by
        rw [hW2]; exact range_fill (w := wr.drew) ((World.rangeAt_drew _ _ _ _).2 hH.rs) (by rw [htl, hH.has.len]; exact hpc)
      have w2 : W2.rangeAt b 0 (v8c (stOf (m ++ (sb s).take i))) := by
        rw [hW2]; exact World.rangeAt_setCells_apart (w := wr.drew) ((World.rangeAt_drew _ _ _ _).2 hH.st) b (8 + p) (byts t) (.inr (.inl (by show 0 + 8 ≤ 8 + p; omega)))
      have w3 : W2.cell? ⟨b, 72, none⟩ = some (.int .u64 (L : Int)) := by
        rw [hW2, World.cell?_setCells_out b (byts t) (8 + p) wr.drew ⟨b, 72, none⟩ (fun _ _ => .inr (by rw [byts_length, htl]; show 8 + p + c ≤ 72; omega))]
        exact hln
      have w4 : W2.there b 0 73 := by rw [hW2]; exact World.there_setCells ((World.there_drew _ _ _ _).2 hH.th) _ _ _
      have w5 : Chg b w W2 := by rw [hW2]; exact Chg.setCells _ _ _ _ hC.out.drew
      have w6 : W2.frozen? ⟨b, 72, none⟩ = false := (w4 72 (by omega)).2
      have HH := Box.mk hH; clear hH
      have HL := Box.mk hL; have HL2 := Box.mk hL2; have HP := Box.mk hp; have HX := Box.mk hx; have HXS := Box.mk hxs; have HCE := Box.mk hc; have HTE := Box.mk ht; have HTL := Box.mk htl; have HTT := Box.mk htt; have HCS := Box.mk hcs
      have THC := Box.mk thc; have HW2 := Box.mk hW2; have Y1 := Box.mk w1; have Y2 := Box.mk w2; have Y4 := Box.mk w4; have Y5 := Box.mk w5
      rw [← hx]
      clear hL hL2 hp hx hxs hc ht htl htt hcs thc hW2 w1 w2 w4 w5
      obtain ⟨L', hL'⟩ : ∃ L', L' = L + c := ⟨_, rfl⟩
      have eL : ((L : Int) + (c : Int)) = (L' : Int) := by omega
      have hL33' : L' < 8589934592 := by omega
      have HL' := Box.mk hL'; clear hL'
      obtain ⟨W3, hW3⟩ : ∃ W3, W3 = W2.setCell ⟨b, 72, none⟩ (.int .u64 (L' : Int)) := ⟨_, rfl⟩
      have z1 : W3.rangeAt b 8 (byts (fillR R t p)) := by
        rw [hW3]; exact range_cell Y1.out 72 _ (.inl (by rw [byts_length, fillR_length (by rw [HTL.out, HH.out.has.len]; exact hpc), HH.out.has.len]; omega))
      have z2 : W3.rangeAt b 0 (v8c (stOf (m ++ (sb s).take i))) := by
        rw [hW3]; exact range_cell Y2.out 72 _ (.inl (by show 0 + 8 ≤ 72; omega))
      have z3 : W3.cell? ⟨b, 72, none⟩ = some (.int .u64 (L' : Int)) := by rw [hW3]; exact World.cell?_setCell_same _ _ _ w3
      have z4 : W3.there b 0 73 := by rw [hW3]; exact there_set Y4.out _ _
      have z5 : Chg b w W3 := by rw [hW3]; exact Y5.out.setCell _ _
      have HW3 := Box.mk hW3
      clear hW3 Y1 Y2 Y4 Y5
      have Z1 := Box.mk z1; have Z2 := Box.mk z2; have Z3 := Box.mk z3; have Z4 := Box.mk z4; have Z5 := Box.mk z5
      clear z1 z2 z3 z4 z5
      have nx : x.extract c x.size = s.extract (i + c) s.size := by
        rw [HXS.out, HX.out]
        apply ByteArray.ext
        simp only [ByteArray.data_extract, Array.extract_extract]
        congr 1
        omega
      have nm : m ++ (sb s).take (i + c) = (m ++ (sb s).take i) ++ t := by
        rw [List.append_assoc, HTE.out, ← List.take_add]
      have nl : (m ++ (sb s).take i).length + t.length = L' := by rw [← HL.out, HTL.out, HL'.out]
      have np : (m ++ (sb s).take i).length % 64 = p := by rw [← HL.out, HP.out]
      have NX := Box.mk nx; have NM := Box.mk nm; have NL := Box.mk nl; have NP := Box.mk np
      clear nx nm nl np
      by_cases hz : L' % 64 = 0
      · have hz2 : ((L' : Int) % 64 == 0) = true := by rw [beq_iff_eq]; omega
        have hfa := fill_all HH.out.has HTT.out (by rw [NP.out, HTL.out]; have := HP.out; have := HL'.out; omega)
        rw [NP.out] at hfa
        have ca := absorb_any b L' (stOf (m ++ (sb s).take i)) (fillR R t p) hfa.1.len hfa.1.lt (stOf_ok _) (by omega) W3 Z2.out Z1.out Z3.out Z4.out (fun q hq => Z5.out.cell (HK.out q hq) (Ne.symm hG)) hG
        have CA := Box.mk ca
        have HFA := Box.mk hfa
        clear ca hfa
        go_wp2_with fail
        go_still_tail 10, (by kernel_rfl)
        change wpList _ _ _ _ _ wr.drew
        go_wp2_with (first
          | ((with_reducible refine at_copy (.tmp 15) (.tmp 16) 38 9 ?_); refine wpList_copy_str rfl (.tmp 15) (.tmp 16) 38 9 rfl 5 Tryd.underlying38 (by kernel_rfl) b (8 + p) (64 - p) (64 - p) x rfl rfl (byts t) HCS.out THC.out ?_; rw [← HW2.out, byts_length, HTL.out])
          | (go_at_call 50; rw [← HW3.out]; refine CA.out.mono ?_; rintro e w9 ⟨rfl, a1, a2, a3, a4, a5⟩; have A1 := Box.mk a1; have A2 := Box.mk a2; have A3 := Box.mk a3; have A4 := Box.mk a4; have A5 := Box.mk a5; clear a1 a2 a3 a4 a5))
        go_roundw
        case rel =>
          refine ⟨i + c, by have := HXS.out; omega, by rw [NX.out], ⟨fillR R t p, ?_⟩, ⟨Z5.out.trans A5.out⟩⟩
          have h1 := HFA.out
          rw [← NM.out] at h1
          refine ⟨h1.1, ?_, A2.out, ?_, A4.out⟩
          · have h2 := A1.out
            rw [h1.2, NL.out]; exact h2
          · rw [show (m ++ (sb s).take (i + c)).length = L' by rw [NM.out, List.length_append, NL.out]]; exact A3.out
        case measure => simp; omega
      · have hz2 : ((L' : Int) % 64 == 0) = false := by rw [beq_eq_false_iff_ne]; omega
        have hfa := fill_some HH.out.has HTT.out (by rw [NP.out, HTL.out]; have := HP.out; have := HL'.out; omega)
        rw [NP.out] at hfa
        have HFA := Box.mk hfa
        clear hfa
        go_wp2_with fail
        go_still_tail 10, (by kernel_rfl)
        change wpList _ _ _ _ _ wr.drew
        go_wp2_with (first
          | ((with_reducible refine at_copy (.tmp 15) (.tmp 16) 38 9 ?_); refine wpList_copy_str rfl (.tmp 15) (.tmp 16) 38 9 rfl 5 Tryd.underlying38 (by kernel_rfl) b (8 + p) (64 - p) (64 - p) x rfl rfl (byts t) HCS.out THC.out ?_; rw [← HW2.out, byts_length, HTL.out]))
        rw [← HW3.out]
        go_roundw
        case rel =>
          refine ⟨i + c, by have := HXS.out; omega, by rw [NX.out], ⟨fillR R t p, ?_⟩, Z5⟩
          have h1 := HFA.out
          rw [← NM.out] at h1
          refine ⟨h1.1, ?_, Z1.out, ?_, Z4.out⟩
          · rw [h1.2]; exact Z2.out
          · rw [show (m ++ (sb s).take (i + c)).length = L' by rw [NM.out, List.length_append, NL.out]]; exact Z3.out
        case measure => simp; omega
    · obtain rfl : s.size = i := by omega
      have hxe : (s.extract s.size s.size).toList.isEmpty = true := by
        have : s.extract s.size s.size = ⟨#[]⟩ := by apply ByteArray.ext; simp
        rw [this, ByteArray.toList_eq]; rfl
      go_wp2
      go_end0
      refine ⟨rfl, ?_, hC.out⟩
      have h := hH.out
      rw [List.take_of_length_le (by rw [sb_length]; exact Nat.le_refl _)] at h
      exact h
end Go.Proofs.YtdhbeeeofaheeaaDoor
