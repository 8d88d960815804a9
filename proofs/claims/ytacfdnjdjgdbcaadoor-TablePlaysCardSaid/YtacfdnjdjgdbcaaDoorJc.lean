/- ShaE, ShaF, in one text. -/
import Derived.Test.YtacfdnjdjgdbcaaDoorJb
import Derived.Test.YtacfdnjdjgdbcaaDoorHd
import Derived.Lib.LazyBuf
import Derived.Test.YtacfdnjdjgdbcaaDoorShelf
import Derived.Test.YtacfdnjdjgdbcaaDoorRShelf
namespace Go.Proofs.YtacfdnjdjgdbcaaDoor
set_option maxRecDepth 100000
open Go.RowKit M

/-- the state that a message of no whole block has -/
def zV : V8 := ⟨0, 0, 0, 0, 0, 0, 0, 0⟩
def stOf (m : List Nat) : V8 := if m.length / 64 = 0 then zV else stt m (m.length / 64)
theorem zV_ok : zV.ok := by constructor <;> decide
theorem stOf_ok (m : List Nat) : (stOf m).ok := by unfold stOf; split; exact zV_ok; exact stt_ok _ _

/-- the rest's bytes behind a message -/
structure HasR (m : List Nat) (R : List Nat) : Prop where
  len : R.length = 64
  lt : ∀ d ∈ R, d < 256
  rest : R.take (m.length % 64) = m.drop (64 * (m.length / 64))

/-- the rest behind bytes that were copied into it -/
def fillR (R t : List Nat) (p : Nat) : List Nat := R.take p ++ (t ++ R.drop (p + t.length))
theorem fillR_length {R t : List Nat} {p : Nat} (h : p + t.length ≤ R.length) : (fillR R t p).length = R.length := by
  simp [fillR]; omega
theorem fillR_lt {R t : List Nat} {p : Nat} (hR : ∀ d ∈ R, d < 256) (ht : ∀ d ∈ t, d < 256) : ∀ d ∈ fillR R t p, d < 256 := by
  intro d hd
  simp only [fillR, List.mem_append] at hd
  rcases hd with h | h | h
  · exact hR d (List.mem_of_mem_take h)
  · exact ht d h
  · exact hR d (List.mem_of_mem_drop h)
theorem fill_drop {m t : List Nat} {R : List Nat} (h : HasR m R) : (m ++ t).drop (64 * (m.length / 64)) = R.take (m.length % 64) ++ t := by
  rw [h.rest, List.drop_append_of_le_length (by omega)]
theorem fill_some {m t R : List Nat} (h : HasR m R) (ht : ∀ d ∈ t, d < 256) (hc : m.length % 64 + t.length < 64) : HasR (m ++ t) (fillR R t (m.length % 64)) ∧ stOf (m ++ t) = stOf m := by
  have hl : (m ++ t).length = m.length + t.length := by simp
  have hq : (m.length + t.length) / 64 = m.length / 64 := by omega
  refine ⟨⟨by rw [fillR_length (by rw [h.len]; omega), h.len], fillR_lt h.lt ht, ?_⟩, ?_⟩
  · rw [hl, hq, fill_drop h, show (m.length + t.length) % 64 = m.length % 64 + t.length by omega]
    unfold fillR
    have e1 : (R.take (m.length % 64)).length = m.length % 64 := by rw [List.length_take, h.len]; omega
    rw [← List.append_assoc, List.take_append_of_le_length (by simp [h.len]; omega)]
    rw [List.take_of_length_le (by simp [h.len]; omega)]
  · unfold stOf
    rw [hl, hq]
    split
    · rfl
    · rw [stt_append m t _ (by omega)]
theorem fill_all {m t R : List Nat} (h : HasR m R) (ht : ∀ d ∈ t, d < 256) (hc : m.length % 64 + t.length = 64) : HasR (m ++ t) (fillR R t (m.length % 64)) ∧ stOf (m ++ t) = mixV (if m.length + t.length = 64 then iV else stOf m) (fillR R t (m.length % 64)) := by
  have hl : (m ++ t).length = m.length + t.length := by simp
  have hq : (m.length + t.length) / 64 = m.length / 64 + 1 := by omega
  have hf : fillR R t (m.length % 64) = R.take (m.length % 64) ++ t := by
    unfold fillR
    rw [hc, List.drop_of_length_le (by rw [h.len]; omega), List.append_nil]
  refine ⟨⟨by rw [fillR_length (by rw [h.len]; omega), h.len], fillR_lt h.lt ht, ?_⟩, ?_⟩
  · rw [hl, show (m.length + t.length) % 64 = 0 by omega, List.take_zero, List.drop_of_length_le (by rw [hl]; omega)]
  · unfold stOf
    rw [hl, hq, if_neg (by omega)]
    show mixV (stt (m ++ t) (m.length / 64)) (((m ++ t).drop (64 * (m.length / 64))).take 64) = _
    rw [fill_drop h, ← hf, List.take_of_length_le (by rw [fillR_length (by rw [h.len]; omega), h.len]; omega), stt_append m t _ (by omega)]
    congr 1
    by_cases h0 : m.length / 64 = 0
    · rw [if_pos (by omega), h0]; rfl
    · rw [if_neg (by omega), if_neg h0]

theorem ne_empty {x : ByteArray} (h : 0 < x.size) : x.toList.isEmpty = false := by
  rw [ByteArray.toList_eq, List.isEmpty_eq_false_iff]
  intro e
  have : x.data.toList.length = x.size := by simp
  rw [e] at this; simp at this; omega

/-- a hasher that has read m lies in block b -/
structure HasW (w : World) (b : Nat) (m : List Nat) (R : List Nat) : Prop where
  has : HasR m R
  st : w.rangeAt b 0 (v8c (stOf m))
  rs : w.rangeAt b 8 (byts R)
  ln : w.cell? ⟨b, 72, none⟩ = some (.int .u64 (m.length : Nat))
  th : w.there b 0 73

theorem HasW.chg {w x : World} {b c : Nat} {m R : List Nat} (h : HasW w b m R) (hc : ShaChg c w x) (hb : b ≠ c) : HasW x b m R :=
  ⟨h.has, hc.range h.st hb, hc.range h.rs hb, hc.cell h.ln hb, hc.there h.th hb⟩
theorem HasW.below {w x : World} {b : Nat} {m R : List Nat} (h : HasW w b m R) (hb : Below w.heap.size w x) : HasW x b m R :=
  ⟨h.has, range_below hb h.st, range_below hb h.rs, cell_below hb h.ln, there_below hb h.th⟩

/-- what Write leaves -/
def WrPost (b : Nat) (m : List Nat) (w : World) (e : Ending) (w' : World) : Prop :=
  e = .returned (.tuple #[]) ∧ (∃ R, HasW w' b m R) ∧ ShaChg b w w'

/-- cells are copied into the midst of a range -/
theorem range_fill {w : World} {b o p : Nat} {l t : List Nat} (h : w.rangeAt b o (byts l)) (hp : p + t.length ≤ l.length) :
    (w.setCells b (o + p) (byts t)).rangeAt b o (byts (fillR l t p)) := fun j v hv => by
  have hl : (byts t).length = t.length := byts_length t
  have hex : ∀ i, i < (byts t).length → (w.cell? ⟨b, o + p + i, none⟩).isSome = true := fun i hi => by
    have hi2 : p + i < (byts l).length := by rw [byts_length]; omega
    have := h (p + i) _ (List.getElem?_eq_getElem hi2)
    rw [← Nat.add_assoc] at this
    rw [this]; rfl
  have he : byts (fillR l t p) = (byts l).take p ++ (byts t ++ (byts l).drop (p + t.length)) := by simp [byts, fillR]
  rw [he] at hv
  have hlt : ((byts l).take p).length = p := by rw [List.length_take, byts_length]; omega
  by_cases h1 : j < p
  · rw [World.cell?_setCells_out b (byts t) (o + p) w ⟨b, o + j, none⟩ (fun _ _ => .inl (by show o + j < o + p; omega))]
    refine h j v ?_
    rw [List.getElem?_append_left (by omega), List.getElem?_take_of_lt h1] at hv
    exact hv
  · by_cases h2 : j < p + t.length
    · have := World.cell?_setCells_in b (byts t) (o + p) w hex (j - p) (by omega)
      rw [show o + p + (j - p) = o + j by omega] at this
      rw [this, ← hv, List.getElem?_append_right (by omega), hlt, List.getElem?_append_left (by omega), List.getElem?_eq_getElem (by omega)]
    · rw [World.cell?_setCells_out b (byts t) (o + p) w ⟨b, o + j, none⟩ (fun _ _ => .inr (by rw [hl]; show o + p + t.length ≤ o + j; omega))]
      refine h j v ?_
      rw [List.getElem?_append_right (by omega), hlt, List.getElem?_append_right (by omega), hl, List.getElem?_drop] at hv
      rw [show p + t.length + (j - p - t.length) = j by omega] at hv
      exact hv

theorem cells_part (s : ByteArray) (i n : Nat) : byts (((sb s).drop i).take (min (s.size - i) n)) = (((s.extract i s.size).data.toList.take n).map fun y => Value.int .u8 (y.toNat : Int)) := by
  have e : (s.extract i s.size).data.toList = s.data.toList.drop i := by
    rw [ByteArray.data_extract, Array.toList_extract, List.extract_eq_take_drop]
    exact List.take_of_length_le (by simp)
  have hl : (s.data.toList.drop i).length = s.size - i := by simp
  rw [e, sb_data]
  simp only [byts, ← List.map_drop, ← List.map_take, List.map_map]
  have e2 : (s.data.toList.drop i).take (min (s.size - i) n) = (s.data.toList.drop i).take n := by
    rcases Nat.le_total (s.size - i) n with h | h
    · rw [Nat.min_eq_left h, List.take_of_length_le (Nat.le_of_eq hl), List.take_of_length_le (by omega)]
    · rw [Nat.min_eq_right h]
  rw [e2]
  rfl
/-- a cell beside a range is stored -/
theorem range_cell {w : World} {b o : Nat} {cs : List Value} (h : w.rangeAt b o cs) (q : Nat) (v : Value) (hq : o + cs.length ≤ q ∨ q < o) : (w.setCell ⟨b, q, none⟩ v).rangeAt b o cs := fun j u hu => by
  have hj : j < cs.length := (List.getElem?_eq_some_iff.1 hu).1
  rw [World.cell?_setCell_other _ _ _ _ (by intro e2; simp at e2 <;> omega)]
  exact h j u hu

/-- copy(dst, s): as many bytes as the shorter has -/
theorem run_copy_str (w : World) (dT sT ty elem : TypeId) (b o dLen dCap : Nat) (s : ByteArray) (cs : List Value) (hcs : cs = ((s.data.toList.take dLen).map fun x => Value.int .u8 (x.toNat : Int)))
    (hu : Tryd.prog.underlying dT = some (.slice elem)) (hs : (Tryd.prog.info? elem).map (fun i => i.size) = some 1) (hc : w.there b o cs.length) :
    (Builtin.copy_ #[dT, sT] ty #[.slice (some ⟨b, o, none⟩) dLen dCap, .string s]).run Tryd.prog w = .ok (goInt cs.length) (w.setCells b o cs) := by
  have h1 : ∀ v ∈ cs, v.oneCell' = true := by
    intro v hv
    rw [hcs, List.mem_map] at hv
    obtain ⟨x, _, rfl⟩ := hv
    rfl
  have hst := run_storeCells_cells (P := Tryd.prog) b o cs 0 w (fun j hj => by simpa using (hc j hj).1) (fun j hj => by simpa using (hc j hj).2) h1
  have hlen : cs.length = Nat.min s.size dLen := by
    rw [hcs]; simp [Nat.min_comm]
  cases hq : Tryd.prog.info? elem with
  | none => simp [hq] at hs
  | some i =>
    have hi : i.size = 1 := by simpa [hq] using hs
    simp only [Nat.add_zero] at hst
    have hcs2 : List.take cs.length (List.map (fun b : UInt8 => Value.int IntKind.u8 (b.toNat : Int)) s.data.toList) = cs := by
      have hL : (List.map (fun b : UInt8 => Value.int IntKind.u8 (b.toNat : Int)) s.data.toList).length = s.size := by simp
      rw [hlen, hcs, List.map_take]
      rcases Nat.le_total s.size dLen with hle | hle
      · rw [show s.size.min dLen = s.size from Nat.min_eq_left hle, List.take_of_length_le (Nat.le_of_eq hL), List.take_of_length_le (by rw [hL]; exact hle)]
      · rw [show s.size.min dLen = dLen from Nat.min_eq_right hle]
    simp [Builtin.copy_, run_underlying hu, Builtin.lenOf, Builtin.firstCells, sizeOf, typeInfo, hq, ← hlen]
    rw [hcs2, hst]
    rfl

/-- the operation copy(dst, s) -/
theorem wpList_copy_str {w : World} {ops : Array Oper} {rest : List Oper} {o : Oper} {a : Act} {Q : Exit → Act → World → Prop} (hgd : o.guard = none) (d s : Operand) (dT sT : TypeId)
    (ho : o.op = .call { callee := .builtin .copy, args := #[d, s], argTypes := #[dT, sT] }) (elem : TypeId) (hu : Tryd.prog.underlying dT = some (.slice elem)) (hsz : (Tryd.prog.info? elem).map (fun i => i.size) = some 1)
    (b off dLen dCap : Nat) (x : ByteArray) (hd : a.eval d = .slice (some ⟨b, off, none⟩) dLen dCap) (hs : a.eval s = .string x)
    (cs : List Value) (hcs : cs = ((x.data.toList.take dLen).map fun y => Value.int .u8 (y.toNat : Int))) (hc : w.there b off cs.length)
    (h : wpList Tryd.prog ops Q rest (a.put o.dst (goInt cs.length)) (w.setCells b off cs)) : wpList Tryd.prog ops Q (o :: rest) a w := by
  refine wpList_plain hgd fun K hK => ?_
  have hrun := run_copy_str w dT sT o.type elem b off dLen dCap x cs hcs hu hsz hc
  unfold Oper.wp
  simp [execOp, ho, resolve, invoke, builtin, hd, hs, hrun, Result.andThen]
  exact hK _ _ h

/-- the operation at hand copies from a string -/
theorem at_copy {P : Program} {ops : Array Oper} {Q : Exit → Act → World → Prop} {rest : List Oper} {a : Act} {w : World} (d s : Operand) (dT sT : TypeId) {dst : Option Tmp} {ty : TypeId} {pos : String} {after : Array Edge} {guard : Option (Nat × Bool)}
    (h : wpList P ops Q (⟨dst, .call { callee := .builtin .copy, args := #[d, s], argTypes := #[dT, sT] }, ty, pos, after, guard⟩ :: rest) a w) : wpList P ops Q (⟨dst, .call { callee := .builtin .copy, args := #[d, s], argTypes := #[dT, sT] }, ty, pos, after, guard⟩ :: rest) a w := h

/-- a[p:] of an array variable -/
theorem slice_from {T E : TypeId} {n : Nat} (b o p : Nat) (kl : IntKind) (hu : Tryd.prog.underlying T = some (.array n E)) (hE : (Tryd.prog.info? E).map (fun i => i.size) = some 1) (hp : p < n) (w : World) :
    (Instr.sliceAt T (.pointer (some ⟨b, o, none⟩)) (some (.int kl (p : Int))) none none).run Tryd.prog w = .ok (.slice (some ⟨b, o + p, none⟩) (n - p) (n - p)) w := by
  have hz : ∀ w, (sizeOf E).run Tryd.prog w = .ok 1 w := fun w => by
    cases hq : Tryd.prog.info? E with
    | none => simp [hq] at hE
    | some i =>
      have hs : i.size = 1 := by simpa [hq] using hE
      simp [sizeOf, typeInfo, hq, hs]
  have hn : ¬ n = p := by omega
  have hpn : p ≤ n := by omega
  simp [Instr.sliceAt, run_underlying hu, Instr.sliceBounds, Instr.sliceBound, asIntOf, hz, hn, hpn, go_sem]

set_option maxRecDepth 100000 in
set_option maxHeartbeats 1000000 in
theorem shaWrite_any (b : Nat) (m R0 : List Nat) (s : ByteArray) (w : World) (hW : HasW w b m R0) (hl : m.length + s.size < 4294967296) (hK : KTab w) (hG : b ≠ 0) :
    Calls Tryd.prog 22 #[.pointer (some ⟨b, 0, none⟩), .string s] w (WrPost b (m ++ sb s) w) := by
  have HW := Box.mk hW; clear hW
  have HK := Box.mk hK; clear hK
  go_enter Tryd.func22, Tryd.ntmps22
  go_wp2_with fail
  go_loopw [1, 4] (fun x _ wr => ∃ i : Nat, i ≤ s.size ∧ x = .string (s.extract i s.size) ∧ Box (∃ R, HasW wr b (m ++ (sb s).take i) R) ∧ Box (ShaChg b w wr)) (fun x _ _ => match x with | .string y => y.size | _ => 0)
  case atStart =>
    refine ⟨0, by omega, ?_, ⟨R0, by simpa using HW.out⟩, ⟨ShaChg.refl _ _⟩⟩
    rw [show s.extract 0 s.size = s by simp]
  case round =>
    obtain ⟨i, hi, rfl, hH, hC⟩ := hrel
    by_cases hlt : i < s.size
    · obtain ⟨R, hHW⟩ := hH.out
      clear hH
      have hH := hHW
      clear hHW
      obtain ⟨L, hL⟩ : ∃ L, L = (m ++ (sb s).take i).length := ⟨_, rfl⟩
      have hL2 : L = m.length + i := by
        rw [hL, List.length_append, List.length_take, sb_length]; omega
      obtain ⟨p, hp⟩ : ∃ p, p = L % 64 := ⟨_, rfl⟩
      obtain ⟨x, hx⟩ : ∃ x, x = s.extract i s.size := ⟨_, rfl⟩
      have hxs : x.size = s.size - i := by rw [hx]; simp
      have hxe : x.toList.isEmpty = false := ne_empty (by omega)
      obtain ⟨c, hc⟩ : ∃ c, c = min x.size (64 - p) := ⟨_, rfl⟩
      obtain ⟨t, ht⟩ : ∃ t, t = ((sb s).drop i).take c := ⟨_, rfl⟩
      have htl : t.length = c := by rw [ht, List.length_take, List.length_drop, sb_length]; omega
      have htt : ∀ d ∈ t, d < 256 := fun d hd => sb_lt s d (by rw [ht] at hd; exact List.mem_of_mem_drop (List.mem_of_mem_take hd))
      have hcs : byts t = ((x.data.toList.take (64 - p)).map fun y => Value.int .u8 (y.toNat : Int))  := by
        rw [ht, hc, hxs, hx]
        exact cells_part s i (64 - p)
      have hln := hH.ln
      rw [← hL] at hln
      have e1 : (L : Int) % 64 = (p : Int) := by omega
      have e2 : (L : Int).tmod 64 = (p : Int) := by rw [Int.tmod_eq_emod_of_nonneg (by omega)]; exact e1
      have p0 : (0 : Int) ≤ (p : Int) := by omega
      have p64 : ¬ 64 = p := by omega
      have p2 : p < 64 := by omega
      have p1 : (p : Int) < 64 := by omega
      have hsl := fun w => slice_from (T := 66) (E := 5) (n := 64) b 8 p .u64 Tryd.underlying66 (by kernel_rfl) p2 w
      have hcx : c ≤ x.size := by omega
      have hc64 : c ≤ 64 := by omega
      have hc1 : 1 ≤ c := by omega
      have hpc : p + c ≤ 64 := by omega
      have hL33 : L < 4294967296 := by omega
      have thc : wr.drew.there b (8 + p) (byts t).length := by
        rw [byts_length, htl]; exact (World.there_drew _ _ _ _).2 (there_mono hH.th (by omega) (by omega))
      obtain ⟨W2, hW2⟩ : ∃ W2, W2 = wr.drew.setCells b (8 + p) (byts t) := ⟨_, rfl⟩
      have w1 : W2.rangeAt b 8 (byts (fillR R t p)) := by
        rw [hW2]; exact range_fill (w := wr.drew) ((World.rangeAt_drew _ _ _ _).2 hH.rs) (by rw [htl, hH.has.len]; exact hpc)
      have w2 : W2.rangeAt b 0 (v8c (stOf (m ++ (sb s).take i))) := by
        rw [hW2]; exact World.rangeAt_setCells_apart (w := wr.drew) ((World.rangeAt_drew _ _ _ _).2 hH.st) b (8 + p) (byts t) (.inr (.inl (by show 0 + 8 ≤ 8 + p; omega)))
      have w3 : W2.cell? ⟨b, 72, none⟩ = some (.int .u64 (L : Int)) := by
        rw [hW2, World.cell?_setCells_out b (byts t) (8 + p) wr.drew ⟨b, 72, none⟩ (fun _ _ => .inr (by rw [byts_length, htl]; show 8 + p + c ≤ 72; omega))]
        exact hln
      have w4 : W2.there b 0 73 := by rw [hW2]; exact World.there_setCells ((World.there_drew _ _ _ _).2 hH.th) _ _ _
      have w5 : ShaChg b w W2 := by rw [hW2]; exact ShaChg.setCells _ _ _ _ hC.out.drew
      have w6 : W2.frozen? ⟨b, 72, none⟩ = false := (w4 72 (by omega)).2
      have HH := Box.mk hH; clear hH
      have HL := Box.mk hL; have HL2 := Box.mk hL2; have HP := Box.mk hp; have HX := Box.mk hx; have HXS := Box.mk hxs; have HCE := Box.mk hc; have HTE := Box.mk ht; have HTL := Box.mk htl; have HTT := Box.mk htt; have HCS := Box.mk hcs
      have THC := Box.mk thc; have HW2 := Box.mk hW2; have Y1 := Box.mk w1; have Y2 := Box.mk w2; have Y4 := Box.mk w4; have Y5 := Box.mk w5
      rw [← hx]
      clear hL hL2 hp hx hxs hc ht htl htt hcs thc hW2 w1 w2 w4 w5
      obtain ⟨L', hL'⟩ : ∃ L', L' = L + c := ⟨_, rfl⟩
      have eL : ((L : Int) + (c : Int)) = (L' : Int) := by omega
      have hL33' : L' < 8589934592 := by omega
      have HL' := Box.mk hL'; clear hL'
      obtain ⟨W3, hW3⟩ : ∃ W3, W3 = W2.setCell ⟨b, 72, none⟩ (.int .u64 (L' : Int)) := ⟨_, rfl⟩
      have z1 : W3.rangeAt b 8 (byts (fillR R t p)) := by
        rw [hW3]; exact range_cell Y1.out 72 _ (.inl (by rw [byts_length, fillR_length (by rw [HTL.out, HH.out.has.len]; exact hpc), HH.out.has.len]; omega))
      have z2 : W3.rangeAt b 0 (v8c (stOf (m ++ (sb s).take i))) := by
        rw [hW3]; exact range_cell Y2.out 72 _ (.inl (by show 0 + 8 ≤ 72; omega))
      have z3 : W3.cell? ⟨b, 72, none⟩ = some (.int .u64 (L' : Int)) := by rw [hW3]; exact World.cell?_setCell_same _ _ _ w3
      have z4 : W3.there b 0 73 := by rw [hW3]; exact there_set Y4.out _ _
      have z5 : ShaChg b w W3 := by rw [hW3]; exact Y5.out.setCell _ _
      have HW3 := Box.mk hW3
      clear hW3 Y1 Y2 Y4 Y5
      have Z1 := Box.mk z1; have Z2 := Box.mk z2; have Z3 := Box.mk z3; have Z4 := Box.mk z4; have Z5 := Box.mk z5
      clear z1 z2 z3 z4 z5
      have nx : x.extract c x.size = s.extract (i + c) s.size := by
        rw [HXS.out, HX.out]
        apply ByteArray.ext
        simp only [ByteArray.data_extract, Array.extract_extract]
        congr 1
        omega
      have nm : m ++ (sb s).take (i + c) = (m ++ (sb s).take i) ++ t := by
        rw [List.append_assoc, HTE.out, ← List.take_add]
      have nl : (m ++ (sb s).take i).length + t.length = L' := by rw [← HL.out, HTL.out, HL'.out]
      have np : (m ++ (sb s).take i).length % 64 = p := by rw [← HL.out, HP.out]
      have NX := Box.mk nx; have NM := Box.mk nm; have NL := Box.mk nl; have NP := Box.mk np
      clear nx nm nl np
      by_cases hz : L' % 64 = 0
      · have hz2 : ((L' : Int) % 64 == 0) = true := by rw [beq_iff_eq]; omega
        have hfa := fill_all HH.out.has HTT.out (by rw [NP.out, HTL.out]; have := HP.out; have := HL'.out; omega)
        rw [NP.out] at hfa
        have ca := absorb_any b L' (stOf (m ++ (sb s).take i)) (fillR R t p) hfa.1.len hfa.1.lt (stOf_ok _) (by omega) W3 Z2.out Z1.out Z3.out Z4.out (fun q hq => Z5.out.cell (HK.out q hq) (Ne.symm hG)) hG
        have CA := Box.mk ca
        have HFA := Box.mk hfa
        clear ca hfa
        go_wp2_with fail
        go_still_tail 10, (by kernel_rfl)
        change wpList _ _ _ _ _ wr.drew
        go_wp2_with (first
          | ((with_reducible refine at_copy (.tmp 15) (.tmp 16) 40 9 ?_); refine wpList_copy_str rfl (.tmp 15) (.tmp 16) 40 9 rfl 5 Tryd.underlying40 (by kernel_rfl) b (8 + p) (64 - p) (64 - p) x rfl rfl (byts t) HCS.out THC.out ?_; rw [← HW2.out, byts_length, HTL.out])
          | (go_at_call 37; rw [← HW3.out]; refine CA.out.mono ?_; rintro e w9 ⟨rfl, a1, a2, a3, a4, a5⟩; have A1 := Box.mk a1; have A2 := Box.mk a2; have A3 := Box.mk a3; have A4 := Box.mk a4; have A5 := Box.mk a5; clear a1 a2 a3 a4 a5))
        go_roundw
        case rel =>
          refine ⟨i + c, by have := HXS.out; omega, by rw [NX.out], ⟨fillR R t p, ?_⟩, ⟨Z5.out.trans A5.out⟩⟩
          have h1 := HFA.out
          rw [← NM.out] at h1
          refine ⟨h1.1, ?_, A2.out, ?_, A4.out⟩
          · have h2 := A1.out
            rw [h1.2, NL.out]; exact h2
          · rw [show (m ++ (sb s).take (i + c)).length = L' by rw [NM.out, List.length_append, NL.out]]; exact A3.out
        case measure => simp; omega
      · have hz2 : ((L' : Int) % 64 == 0) = false := by rw [beq_eq_false_iff_ne]; omega
        have hfa := fill_some HH.out.has HTT.out (by rw [NP.out, HTL.out]; have := HP.out; have := HL'.out; omega)
        rw [NP.out] at hfa
        have HFA := Box.mk hfa
        clear hfa
        go_wp2_with fail
        go_still_tail 10, (by kernel_rfl)
        change wpList _ _ _ _ _ wr.drew
        go_wp2_with (first
          | ((with_reducible refine at_copy (.tmp 15) (.tmp 16) 40 9 ?_); refine wpList_copy_str rfl (.tmp 15) (.tmp 16) 40 9 rfl 5 Tryd.underlying40 (by kernel_rfl) b (8 + p) (64 - p) (64 - p) x rfl rfl (byts t) HCS.out THC.out ?_; rw [← HW2.out, byts_length, HTL.out]))
        rw [← HW3.out]
        go_roundw
        case rel =>
          refine ⟨i + c, by have := HXS.out; omega, by rw [NX.out], ⟨fillR R t p, ?_⟩, Z5⟩
          have h1 := HFA.out
          rw [← NM.out] at h1
          refine ⟨h1.1, ?_, Z1.out, ?_, Z4.out⟩
          · rw [h1.2]; exact Z2.out
          · rw [show (m ++ (sb s).take (i + c)).length = L' by rw [NM.out, List.length_append, NL.out]]; exact Z3.out
        case measure => simp; omega
    · obtain rfl : s.size = i := by omega
      have hxe : (s.extract s.size s.size).toList.isEmpty = true := by
        have : s.extract s.size s.size = ⟨#[]⟩ := by apply ByteArray.ext; simp
        rw [this, ByteArray.toList_eq]; rfl
      go_wp2
      go_end0
      refine ⟨rfl, ?_, hC.out⟩
      have h := hH.out
      rw [List.take_of_length_le (by rw [sb_length]; exact Nat.le_refl _)] at h
      exact h
end Go.Proofs.YtacfdnjdjgdbcaaDoor
namespace Go.Proofs.YtacfdnjdjgdbcaaDoor
set_option maxRecDepth 100000
open Go.RowKit M

theorem fx8 (v : Nat) : fx 8 v = be8 v := by simp [fx, bytesN, List.range_succ, byt, be8]
theorem fx4 {v : Nat} (h : v < 4294967296) : fx 4 v = be4 v := by
  simp [fx, bytesN, List.range_succ, byt, be4]; omega
theorem bs_rep (z : Nat) : (⟨(Lib.repeatL (⟨#[0]⟩ : ByteArray).data.toList z).toArray⟩ : ByteArray) = bs (List.replicate z 0) := by
  have h : ∀ z, Lib.repeatL [(0 : UInt8)] z = List.replicate z 0 := fun z => by
    induction z with
    | zero => rfl
    | succ z ih => simp [Lib.repeatL, ih, List.replicate_succ]
  show (⟨(Lib.repeatL [(0 : UInt8)] z).toArray⟩ : ByteArray) = _
  rw [h]
  apply ByteArray.ext
  apply Array.ext'
  simp [bs, strOfNums]

theorem padding_any (n : Nat) (hn : n < 4294967296) (w : World) : Calls Tryd.prog 38 #[.int .u64 n] w fun e w' => e = .returned (.string (bs (padN n))) ∧ Below w.heap.size w w' := by
  obtain ⟨z, hz⟩ : ∃ z, z = (64 - (n + 9) % 64) % 64 := ⟨_, rfl⟩
  have hz64 : z < 64 := by omega
  have e0 : (n : Int) + 1 + 8 = ((n + 9 : Nat) : Int) := by omega
  have c1 := fun w => Tryd.strings_Repeat ⟨#[0]⟩ z w (by omega) (by show 1 * z ≤ _; omega)
  rw [bs_rep z] at c1
  have c2 : ∀ w, Calls Tryd.prog 39 #[.int .u64 (8 * (n : Int)), .int .i64 8] w fun e w' => e = .returned (.string (bs (fx 8 (8 * n)))) ∧ Below w.heap.size w w' := fun w => by
    have h := hf8_any (8 * n) (by omega) w
    rwa [show ((8 * n : Nat) : Int) = 8 * (n : Int) by omega] at h
  have hfin : (⟨#[128]⟩ : ByteArray) ++ bs (List.replicate z 0) ++ bs (fx 8 (8 * n)) = bs (padN n) := by
    rw [show (⟨#[128]⟩ : ByteArray) = bs [128] by decide, bs_append, bs_append, fx8, hz]
    simp [padN]
  have e1 : (64 - ((n : Int) + 1 + 8) % 64) % 64 = (z : Int) := by omega
  have s1 : (bs (List.replicate z 0)).size ≤ 64 := by rw [bs_size]; simp; omega
  have s2 : (bs (fx 8 (8 * n))).size ≤ 8 := by rw [bs_size, fx_length]; omega
  have C1 := Box.mk c1; have C2 := Box.mk c2; have HF := Box.mk hfin; have HZ := Box.mk hz
  clear c1 c2 hfin hz e0
  go_enter Tryd.func38, Tryd.ntmps38
  go_wp2_with (first
    | (go_at_call 54; ((with_reducible refine (C1.out _).mono ?_); rintro e w1 ⟨rfl, b1⟩))
    | (go_at_call 39; ((with_reducible refine (C2.out _).mono ?_); rintro e w2 ⟨rfl, b2⟩)))
  go_ret
  refine ⟨?_, bch b1 b2⟩
  rw [← HF.out]
  rfl

/-- the cells of a hasher -/
def hcl (m R : List Nat) : List Value := v8c (stOf m) ++ (byts R ++ [.int .u64 (m.length : Nat)])
theorem hcl_length {m R : List Nat} (h : R.length = 64) : (hcl m R).length = 73 := by simp [hcl, v8c, byts_length, h]
theorem hcl_one (m R : List Nat) : ∀ v ∈ hcl m R, v.oneCell' = true := by
  intro v hv
  simp only [hcl, List.mem_append] at hv
  rcases hv with h | h | h
  · exact w32_one (stOf m).l v h
  · exact byts_one _ v h
  · simp at h; subst h; rfl
theorem has_to {w : World} {b : Nat} {m R : List Nat} (h : HasW w b m R) : w.rangeAt b 0 (hcl m R) := fun j v hv => by
  have h8 : (v8c (stOf m)).length = 8 := rfl
  have h64 : (byts R).length = 64 := by rw [byts_length, h.has.len]
  unfold hcl at hv
  by_cases h1 : j < 8
  · rw [List.getElem?_append_left (by omega)] at hv
    exact h.st j v hv
  · rw [List.getElem?_append_right (by omega), h8] at hv
    by_cases h2 : j < 72
    · rw [List.getElem?_append_left (by omega)] at hv
      have := h.rs (j - 8) v hv
      rwa [show 8 + (j - 8) = 0 + j by omega] at this
    · rw [List.getElem?_append_right (by omega), h64] at hv
      have hj : j - 8 - 64 < 1 := by
        have := (List.getElem?_eq_some_iff.1 hv).1
        simpa using this
      obtain rfl : j = 72 := by omega
      simp at hv
      rw [← hv]
      exact h.ln
theorem has_of {w : World} {b : Nat} {m R : List Nat} (h : HasR m R) (hr : w.rangeAt b 0 (hcl m R)) (ht : w.there b 0 73) : HasW w b m R := by
  have h8 : (v8c (stOf m)).length = 8 := rfl
  have h64 : (byts R).length = 64 := by rw [byts_length, h.len]
  refine ⟨h, fun j v hv => ?_, fun j v hv => ?_, ?_, ht⟩
  · refine hr j v ?_
    have := (List.getElem?_eq_some_iff.1 hv).1
    rw [hcl, List.getElem?_append_left this]; exact hv
  · have hj := (List.getElem?_eq_some_iff.1 hv).1
    have := hr (8 + j) v (by rw [hcl, List.getElem?_append_right (by omega), h8, show 8 + j - 8 = j by omega, List.getElem?_append_left hj]; exact hv)
    rwa [Nat.zero_add] at this
  · have := hr 72 (.int .u64 (m.length : Nat)) (by rw [hcl, List.getElem?_append_right (by omega), h8, List.getElem?_append_right (by omega), h64]; rfl)
    exact this
theorem hasR_nil : HasR [] (List.replicate 64 0) := ⟨by simp, by intro d hd; simp at hd; omega, by simp⟩
theorem global_lt {w : World} (hK : KTab w) : 0 < w.heap.size := World.block_lt_of_cell? w _ (hK 0 (by decide))

theorem there_arr (w : World) (T : TypeId) (C : Array Value) (b : Nat) (n : Nat) (hb : b = w.heap.size) (h : C.size = n) : (w.alloc (.cells C T)).there b 0 n := by
  have := there_new w T C.toList b 0 n hb (by simp [h])
  simpa using this
theorem bs_cells (l : List Nat) (h : ∀ d ∈ l, d < 2 ^ 8) : ((bs l).data.toList.map fun q => Value.int .u8 (q.toNat : Int)) = byts l := by
  have e := sb_data (bs l)
  rw [sb_bs l h] at e
  have e2 : byts l = byts ((bs l).data.toList.map UInt8.toNat) := congrArg byts e
  rw [e2]
  simp only [byts, List.map_map]
  rfl
theorem has_new (w : World) (b : Nat) (hb : b = w.heap.size) : HasW (w.alloc (.cells Tryd.zeroCells69 69)) b [] (List.replicate 64 0) := by
  have e : Tryd.zeroCells69 = (hcl [] (List.replicate 64 0)).toArray := by kernel_rfl
  refine has_of hasR_nil ?_ ?_
  · rw [e]; exact range_new w _ _ b hb
  · exact there_arr w _ _ b 73 hb (by kernel_rfl)
/-- the digest, as far as it is written -/
def dgl (v : V8) (k : Nat) : List Nat := (digV v).take (4 * k) ++ List.replicate (32 - 4 * k) 0
theorem dgl_zero (v : V8) : dgl v 0 = List.replicate 32 0 := by simp [dgl]
theorem dgl_full (v : V8) : dgl v 8 = digV v := by
  unfold dgl; rw [List.take_of_length_le (by rw [digV_length]; omega)]; simp
theorem dgl_length (v : V8) {k : Nat} (h : k ≤ 8) : (dgl v k).length = 32 := by simp [dgl, digV_length]; omega
theorem be4_length (x : Nat) : (be4 x).length = 4 := rfl
theorem dgl_fill (v : V8) {k : Nat} (h : k < 8) : fillR (dgl v k) (be4 (v.l.getD k 0)) (4 * k) = dgl v (k + 1) := by
  rcases (by omega : k = 0 ∨ k = 1 ∨ k = 2 ∨ k = 3 ∨ k = 4 ∨ k = 5 ∨ k = 6 ∨ k = 7) with rfl | rfl | rfl | rfl | rfl | rfl | rfl | rfl
  all_goals rfl

theorem step_copy_str {w : World} {ops : Array Oper} {o : Oper} {a : Act} {K : Act → World → Prop} {Q : Exit → Act → World → Prop} {E : Prop} (hgd : o.guard = none) (d s : Operand) (dT sT : TypeId)
    (ho : o.op = .call { callee := .builtin .copy, args := #[d, s], argTypes := #[dT, sT] }) (elem : TypeId) (hu : Tryd.prog.underlying dT = some (.slice elem)) (hsz : (Tryd.prog.info? elem).map (fun i => i.size) = some 1)
    (b off dLen dCap : Nat) (x : ByteArray) (hd : a.eval d = .slice (some ⟨b, off, none⟩) dLen dCap) (hs : a.eval s = .string x)
    (cs : List Value) (hcs : cs = ((x.data.toList.take dLen).map fun y => Value.int .u8 (y.toNat : Int))) (hc : w.there b off cs.length)
    (h : K (a.put o.dst (goInt cs.length)) (w.setCells b off cs)) :
    if Region.wanted o (yielded ops a.tmps) = true then Oper.wp Tryd.prog o a w K Q else E := by
  have hw : Region.wanted o (yielded ops a.tmps) = true := by simp [Region.wanted, hgd]
  rw [if_pos hw]
  have hrun := run_copy_str w dT sT o.type elem b off dLen dCap x cs hcs hu hsz hc
  unfold Oper.wp
  simp [execOp, ho, resolve, invoke, builtin, hd, hs, hrun, Result.andThen]
  exact h

set_option maxRecDepth 100000 in
set_option maxHeartbeats 400000 in
theorem sum_any (b : Nat) (m R : List Nat) (w : World) (hW : HasW w b m R) (hl : m.length < 4294967000) (hK : KTab w) :
    Calls Tryd.prog 23 #[.pointer (some ⟨b, 0, none⟩)] w fun e w' => e = .returned (.agg (byts (shaN m)).toArray) ∧ Below w.heap.size w w' := by
  have hGl := global_lt hK
  have hbl : b < w.heap.size := World.block_lt_of_cell? w _ hW.ln
  have HW := Box.mk hW; clear hW
  have HK := Box.mk hK; clear hK
  go_enter Tryd.func23, Tryd.ntmps23
  have hcl1 : (hcl m R).length = 73 := hcl_length HW.out.has.len
  have f1 := has_to HW.out
  have i1 : (Tryd.prog.info? 69).map (fun i => i.size) = some (hcl m R).length := by rw [hcl1]; kernel_rfl
  have i2 : (Tryd.prog.info? 69).map (fun i => i.size) = some (hcl m R).toArray.size := by rw [List.size_toArray, hcl1]; kernel_rfl
  have F1 := Box.mk f1; have I1 := Box.mk i1; have I2 := Box.mk i2; have HC := Box.mk hcl1
  clear f1 i1 i2 hcl1
  obtain ⟨W1, hW1⟩ : ∃ W1, W1 = ((w.alloc (.cells (byts (List.replicate 32 0)).toArray 24)).alloc (.cells Tryd.zeroCells69 69)).setCells (w.heap.size + 1) 0 (hcl m R) := ⟨_, rfl⟩
  have hA : Below w.heap.size w ((w.alloc (.cells (byts (List.replicate 32 0)).toArray 24)).alloc (.cells Tryd.zeroCells69 69)) := ((Below.refl _ _).alloc (Nat.le_refl _) _).alloc (by simp) _
  have tA : ((w.alloc (.cells (byts (List.replicate 32 0)).toArray 24)).alloc (.cells Tryd.zeroCells69 69)).there (w.heap.size + 1) 0 73 :=
    there_arr _ 69 Tryd.zeroCells69 _ 73 (by simp) (by kernel_rfl)
  have tR : ((w.alloc (.cells (byts (List.replicate 32 0)).toArray 24)).alloc (.cells Tryd.zeroCells69 69)).there w.heap.size 0 32 :=
    World.there_alloc (there_new w 24 (byts (List.replicate 32 0)) _ 0 32 rfl (by decide)) _
  have tA2 : ((w.alloc (.cells (byts (List.replicate 32 0)).toArray 24)).alloc (.cells Tryd.zeroCells69 69)).there (w.heap.size + 1) 0 (hcl m R).toArray.size := by
    have e : (hcl m R).toArray.size = 73 := by simp [HC.out]
    rw [e]; exact tA
  have k1 : Below w.heap.size w W1 := by rw [hW1]; exact below_setCells (by omega) _ _ _ _ hA
  have k2 : W1.there w.heap.size 0 32 := by rw [hW1]; exact World.there_setCells tR _ _ _
  have k3 : W1.there (w.heap.size + 1) 0 73 := by rw [hW1]; exact World.there_setCells tA _ _ _
  have k4 : W1.rangeAt (w.heap.size + 1) 0 (hcl m R) := by
    rw [hW1]; exact World.rangeAt_setCells_same _ _ _ _ (by rw [HC.out]; exact tA)
  have k5 : HasW W1 (w.heap.size + 1) m R := has_of HW.out.has k4 k3
  have k6 := HW.out.below k1
  have c72 : W1.cell? ⟨b, 72, none⟩ = some (.int .u64 (m.length : Nat)) := k6.ln
  have T1 := Box.mk tA2; have HW1 := Box.mk hW1; have K1 := Box.mk k1; have K2 := Box.mk k2; have K5 := Box.mk k5
  clear hW1 hA tA tR tA2 k1 k2 k3 k4 k5 k6
  go_upto_region 2 with (first
    | ((with_reducible refine at_load 69 (.tmp 8) ?_); refine wpList_load_mid rfl 69 (.tmp 8) rfl b 0 rfl (hcl m R) _ (World.rangeAt_alloc F1.out _) Tryd.underlying69 rfl I1.out ?_)
    | ((with_reducible refine at_store 69 (.tmp 3) (.tmp 9) ?_); refine wpList_store_mid rfl 69 (.tmp 3) (.tmp 9) rfl (w.heap.size + 1) 0 (hcl m R).toArray rfl rfl T1.out I2.out (all_oneCell_toArray (hcl_one m R)) ?_; change wpList _ _ _ _ _ (((w.alloc (.cells (byts (List.replicate 32 0)).toArray 24)).alloc (.cells Tryd.zeroCells69 69)).setCells (w.heap.size + 1) 0 (hcl m R)); rw [← HW1.out]))
  obtain ⟨P, hP⟩ : ∃ P, P = padN m.length := ⟨_, rfl⟩
  have hPl := padN_length m.length
  have hPf := padN_full m.length
  rw [← hP] at hPl hPf
  have cp : ∀ w, Calls Tryd.prog 38 #[.int .u64 (m.length : Nat)] w fun e w' => e = .returned (.string (bs P)) ∧ Below w.heap.size w w' := fun w => by rw [hP]; exact padding_any m.length (by omega) w
  have hsb : sb (bs P) = P := sb_bs P (by rw [hP]; exact padN_lt _)
  have hbsz : (bs P).size ≤ 80 := by rw [bs_size]; omega
  have CP := Box.mk cp; have HP := Box.mk hP; have HSB := Box.mk hsb; have HPF := Box.mk hPf; have HBS := Box.mk hbsz
  clear cp hP hsb hPl hPf hbsz
  go_upto_region 3 with (first
    | (go_at_call 38; ((with_reducible refine (CP.out _).mono ?_); rintro e w3 ⟨rfl, b3⟩; have k7 := K5.out.below b3; have KT := ktab_below HK.out (bch K1.out b3); have Y1 := Box.mk (bch K1.out b3); have Y2 := Box.mk (there_below b3 K2.out); have K7 := Box.mk k7; have KT3 := Box.mk KT; clear k7 KT b3))
    | (go_at_call 22; refine (shaWrite_any (w.heap.size + 1) m R (bs P) _ K7.out (by have := HBS.out; omega) KT3.out (by omega)).mono ?_; rintro e w4 ⟨rfl, ⟨R4, h4⟩, d4⟩; have Y3 := Box.mk (bch' Y1.out (d4.below (B := w.heap.size) (by omega) Y1.out.size)); have Y4 := Box.mk (d4.there Y2.out (by omega)); have Y5 := Box.mk h4; clear h4 d4))
  obtain ⟨D, hD⟩ : ∃ D, D = stOf (m ++ sb (bs P)) := ⟨_, rfl⟩
  have hdig : digV D = shaN m := by
    rw [hD, HSB.out]
    unfold shaN stOf
    have hl2 : (m ++ P).length = m.length + P.length := by simp
    have hpl : 9 ≤ P.length := by rw [HP.out, padN_length]; omega
    have := HPF.out
    rw [hl2, if_neg (by omega), HP.out]
  have hDok : D.ok := by rw [hD]; exact stOf_ok _
  obtain ⟨g, hg⟩ : ∃ g, g = w4.heap.size := ⟨_, rfl⟩
  have z1 : (w4.alloc (.cells (byts (List.replicate 32 0)).toArray 24)).there g 0 32 := there_new w4 24 (byts (List.replicate 32 0)) g 0 32 hg (by decide)
  have z2 : (w4.alloc (.cells (byts (List.replicate 32 0)).toArray 24)).rangeAt g 0 (byts (List.replicate 32 0)) := range_new w4 _ _ g hg
  have z3 : (w4.alloc (.cells (byts (List.replicate 32 0)).toArray 24)).there w.heap.size 0 32 := World.there_alloc Y4.out _
  have z4 : Below w.heap.size w (w4.alloc (.cells (byts (List.replicate 32 0)).toArray 24)) := Y3.out.alloc Y3.out.size _
  have z5 : (w4.alloc (.cells (byts (List.replicate 32 0)).toArray 24)).rangeAt (w.heap.size + 1) 0 (v8c D) := World.rangeAt_alloc (by rw [hD]; exact Y5.out.st) _
  have hgw : w.heap.size ≤ g := by rw [hg]; exact Y3.out.size
  have hgn : w.heap.size < g := by
    rw [hg]
    exact World.block_lt_of_cell? w4 _ (Option.isSome_iff_exists.1 (Y4.out 0 (by omega)).1).choose_spec
  have Z1 := Box.mk z1; have Z2 := Box.mk z2; have Z3 := Box.mk z3; have Z4 := Box.mk z4; have Z5 := Box.mk z5; have HG := Box.mk hg; have HD := Box.mk hD; have HDG := Box.mk hdig; have HDK := Box.mk hDok
  clear z1 z2 z3 z4 z5 hg hD hdig hDok
  go_wp2_with (first
    | ((with_reducible refine at_load 65 (.tmp 16) ?_); refine wpList_load_mid rfl 65 (.tmp 16) rfl (w.heap.size + 1) 0 rfl (v8c D) _ Z5.out Tryd.underlying65 rfl (by kernel_rfl) ?_))
  rw [← HG.out]
  go_loopw [5, 6, 18] (fun _ _ i wr => ∃ k : Nat, k ≤ 8 ∧ i = .int .i64 k ∧ Box (wr.rangeAt g 0 (byts (dgl D k))) ∧ Box (wr.there g 0 32) ∧ Box (wr.there w.heap.size 0 32) ∧ Box (Below w.heap.size w wr))
    (fun _ _ i _ => 8 - (intOf i).toNat)
  case atStart => exact ⟨0, by omega, rfl, ⟨by rw [dgl_zero]; exact Z2.out⟩, Z1, Z3, Z4⟩
  case round =>
    clear Z1 Z2 Z3 Z4 Z5 Y1 Y2 Y3 Y4 Y5 K7 KT3
    obtain ⟨k, hk, rfl, f1, f2, f3, f4⟩ := hrel
    by_cases hlt : k < 8
    · have ix := fun w => index_arr (T := 65) (E := 64) (cs := v8c D) (v := .int .u32 ((D.l.getD k 0 : Nat) : Int)) w Tryd.underlying65 (by kernel_rfl) Tryd.underlying64 rfl k hlt (w32_get (l := D.l) (by simpa [V8.l] using hlt))
      have hfill := dgl_fill D hlt
      have hlen := dgl_length D hk
      have L2 : D.l.getD k 0 < 4294967296 := V8.l_lt HDK.out k
      obtain ⟨y, hy⟩ : ∃ y, y = D.l.getD k 0 := ⟨_, rfl⟩
      rw [← hy] at ix hfill L2
      obtain ⟨x0, hx0⟩ : ∃ x, x = 4 * k := ⟨_, rfl⟩
      have n0 : IntKind.i64.wrap (4 * (k : Int)) = x0 := by rw [i64_in (by omega) (by omega)]; omega
      have i00 : (0 : Int) ≤ (x0 : Int) := by omega
      have i01 : (x0 : Int) < 32 := by omega
      have i02 : x0 < 32 := by omega
      have hsl := fun w => slice_from (T := 24) (E := 5) (n := 32) g 0 x0 .i64 Tryd.underlying24 (by kernel_rfl) i02 w
      simp only [Nat.zero_add] at hsl
      have hcs : byts (be4 y) = (((bs (fx 4 y)).data.toList.take (32 - x0)).map fun q => Value.int .u8 (q.toNat : Int)) := by
        rw [List.take_of_length_le (by have : (bs (fx 4 y)).data.toList.length = (bs (fx 4 y)).size := by simp
                                       rw [this, bs_size, fx_length]; omega), ← fx4 L2, bs_cells (fx 4 y) (fx_lt 4 y)]
      have ny : IntKind.u64.wrap (y : Int) = (y : Int) := u64small (by omega)
      have tf : ∀ W : World, W.there g 0 32 → W.there g x0 (byts (be4 y)).length := fun W h => there_mono h (by omega) (by rw [byts_length, be4_length]; omega)
      have TF := Box.mk tf; have HCS := Box.mk hcs; have HX0 := Box.mk hx0; have HY := Box.mk hy; have HFI := Box.mk hfill; have HLE := Box.mk hlen
      clear tf hcs hx0 hy hfill hlen
      have t1 := f2.out
      have t2 := f3.out
      have t3 := f4.out
      go_wp2_with fail
      have HGW := Box.mk hgw; have HGN := Box.mk hgn
      clear hgn hgw hl hGl hbl t2 t3 c72
      go_region_held3 (fun w' => w'.there g 0 32)
        (first
          | (exact t1)
          | (exact there_below (by assumption) (by assumption))
          | (exact World.there_setCells (by assumption) _ _ _))
        (first
          | (go_at_call 39; ((with_reducible refine (hf4_any y _).mono ?_); rintro e w1 ⟨rfl, b1⟩))
          | (refine step_copy_str rfl (.tmp 24) (.tmp 27) 40 9 rfl 5 Tryd.underlying40 (by kernel_rfl) g x0 (32 - x0) (32 - x0) (bs (fx 4 y)) rfl rfl (byts (be4 y)) HCS.out (TF.out _ (by assumption)) ?_))
      go_wp2_with fail
      go_roundw
      case rel =>
        refine ⟨k + 1, by omega, by go_num, ⟨?_⟩, ⟨?_⟩, ⟨?_⟩, ⟨?_⟩⟩
        · have h := range_fill (w := w1) (o := 0) (p := x0) (l := dgl D k) (t := be4 y) (range_below (w := wr.drew) b1 ((World.rangeAt_drew _ _ _ _).2 f1.out)) (by rw [HLE.out, be4_length]; have := HX0.out; omega)
          rw [Nat.zero_add, HX0.out, HFI.out] at h
          rw [HX0.out]
          exact h
        · exact World.there_setCells (there_below (w := wr.drew) b1 ((World.there_drew _ _ _ _).2 f2.out)) _ _ _
        · exact World.there_setCells (there_below (w := wr.drew) b1 ((World.there_drew _ _ _ _).2 f3.out)) _ _ _
        · exact below_setCells HGW.out _ _ _ _ (bch f4.out.drew b1)
      case measure => simp [intOf]; omega
    · obtain rfl : 8 = k := by omega
      have h1 := f1.out
      rw [dgl_full, HDG.out] at h1
      have hlen : (byts (shaN m)).length = 32 := by rw [byts_length, shaN_length]
      have u1 : (Tryd.prog.info? 24).map (fun i => i.size) = some (byts (shaN m)).length := by rw [hlen]; kernel_rfl
      have u2 : (Tryd.prog.info? 24).map (fun i => i.size) = some (byts (shaN m)).toArray.size := by
        have e : (byts (shaN m)).toArray.size = 32 := by simp [hlen]
        have k0 : (Tryd.prog.info? 24).map (fun i => i.size) = some 32 := by kernel_rfl
        rw [e]; exact k0
      have u3 : wr.there w.heap.size 0 (byts (shaN m)).toArray.size := by
        have e : (byts (shaN m)).toArray.size = 32 := by simp [hlen]
        rw [e]; exact f3.out
      obtain ⟨s1, s2⟩ := store_arr (T := 24) (cs := byts (shaN m)) (by rw [hlen]; exact f3.out) u1 (byts_one _) Tryd.underlying24 rfl
      have b9 := below_setCells (b := w.heap.size) (Nat.le_refl _) (byts (shaN m)) 0 w wr f4.out
      have H1 := Box.mk h1; have U1 := Box.mk u1; have U2 := Box.mk u2; have U3 := Box.mk u3; have S2 := Box.mk s2; have B9 := Box.mk b9
      clear h1 u1 u2 u3 s1 s2 b9 hlen
      go_wp2_with (first
        | ((with_reducible refine at_load 24 (.tmp 4) ?_); refine wpList_load_mid rfl 24 (.tmp 4) rfl g 0 rfl (byts (shaN m)) _ H1.out Tryd.underlying24 rfl U1.out ?_)
        | ((with_reducible refine at_store 24 (.tmp 2) (.tmp 30) ?_); refine wpList_store_mid rfl 24 (.tmp 2) (.tmp 30) rfl w.heap.size 0 (byts (shaN m)).toArray rfl rfl U3.out U2.out (all_oneCell_toArray (byts_one _)) ?_))
      refine bodyPost_ret (v := .agg (byts (shaN m)).toArray) (results_one rfl rfl S2.out) rfl ⟨rfl, B9.out⟩
end Go.Proofs.YtacfdnjdjgdbcaaDoor
