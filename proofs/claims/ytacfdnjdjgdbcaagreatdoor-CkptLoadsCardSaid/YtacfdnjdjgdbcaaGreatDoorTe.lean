/- TabK, TabL, in one text. -/
import Derived.Test.YtacfdnjdjgdbcaaGreatDoorTd
import Derived.BigQuiet
namespace Go.Proofs.YtacfdnjdjgdbcaaGreatDoor
set_option maxRecDepth 100000
open Go.RowKit Go.Maps Go.Sort M

theorem rd_keep {w W : World} {b : Nat} {T : ByteArray} {a x : Nat} (h : Rd w b T a x) (e : W.heap[b]? = w.heap[b]?) : Rd W b T a x :=
  ⟨(tcell_keep (a := ⟨b, 0, none⟩) e).trans h.c0, (tcell_keep (a := ⟨b, 1, none⟩) e).trans h.c1, (tcell_keep (a := ⟨b, 2, none⟩) e).trans h.c2, (World.frozen?_of_block (a := ⟨b, 1, none⟩) e).trans h.f1, (World.frozen?_of_block (a := ⟨b, 2, none⟩) e).trans h.f2, h.le, h.sz⟩
theorem rd_lt {w : World} {b : Nat} {T : ByteArray} {a x : Nat} (h : Rd w b T a x) : b < w.heap.size := World.block_lt_of_cell? w _ h.c0
theorem there_keep {w W : World} {b o n : Nat} (h : w.there b o n) (e : W.heap[b]? = w.heap[b]?) : W.there b o n := fun j hj => ⟨by rw [tcell_keep (a := ⟨b, o + j, none⟩) e]; exact (h j hj).1, by rw [World.frozen?_of_block (a := ⟨b, o + j, none⟩) e]; exact (h j hj).2⟩
theorem range_keep {w W : World} {b o : Nat} {cs : List Value} (h : w.rangeAt b o cs) (e : W.heap[b]? = w.heap[b]?) : W.rangeAt b o cs := fun j v hv => (tcell_keep (a := ⟨b, o + j, none⟩) e).trans (h j v hv)
theorem onl_below {b : Nat} {w x y : World} (h : Onl b w x) (k : Below x.heap.size x y) : Onl b w y :=
  ⟨k.os.trans h.os, k.tape.trans h.tape, k.output.trans h.output, Nat.le_trans h.size k.size, fun i hi hb => (k.block i (Nat.lt_of_lt_of_le hi h.size)).trans (h.block i hi hb)⟩
/-- a store into a block that is new since w -/
theorem onl_cells {b c o : Nat} {w x : World} (h : Onl b w x) (hc : w.heap.size ≤ c) (vs : List Value) : Onl b w (x.setCells c o vs) := by
  have k := below_setCells (B := w.heap.size) (b := c) hc vs o x x ⟨rfl, rfl, rfl, Nat.le_refl _, fun _ _ => rfl⟩
  exact ⟨k.os.trans h.os, k.tape.trans h.tape, k.output.trans h.output, Nat.le_trans h.size k.size, fun i hi hb => (k.block i hi).trans (h.block i hi hb)⟩
theorem cells_other (w : World) (c o : Nat) (vs : List Value) {k : Nat} (hk : k < w.heap.size) (h : k ≠ c) : (w.setCells c o vs).heap[k]? = w.heap[k]? := by
  induction vs generalizing o w with
  | nil => rfl
  | cons v vs ih =>
    rw [World.setCells]
    have o1 : Onl c w (w.setCell ⟨c, o, none⟩ v) := (Onl.refl c w).setCell o v
    exact (ih _ _ (Nat.lt_of_lt_of_le hk o1.size)).trans (o1.block k hk h)
theorem cells_size (w : World) (c o : Nat) (vs : List Value) : (w.setCells c o vs).heap.size = w.heap.size := by
  induction vs generalizing o w with
  | nil => rfl
  | cons v vs ih => rw [World.setCells, ih]; simp
theorem onl_put {b t : Nat} {mo mo' : Option Nat} {w x y : World} (h : Onl b w x) (k : TExt t mo mo' x y) (ht : w.heap.size ≤ t) (hm : ∀ m, mo = some m → w.heap.size ≤ m) : Onl b w y :=
  ⟨k.os.trans h.os, k.tape.trans h.tape, k.output.trans h.output, Nat.le_trans h.size k.size, fun i hi hb => (k.block i (Nat.lt_of_lt_of_le hi h.size) (by omega) (fun e => by have := hm i e; omega)).trans (h.block i hi hb)⟩
theorem mapE_ne {w : World} {m k o : Nat} {l : List Ent} {v : Value} (h : MapE w m l) (hc : w.cell? ⟨k, o, none⟩ = some v) : m ≠ k := by
  rintro rfl
  obtain ⟨es, clock, hb, _⟩ := h.ex
  unfold World.cell? at hc
  simp only [hb] at hc
  cases hc
theorem rising_snoc {ys : List Ent} {x : Ent} (h : Rising ys) (hx : ∀ y ∈ ys, cfE y x < 0) : Rising (ys ++ [x]) := by
  unfold Rising
  rw [List.pairwise_append]
  exact ⟨h, List.pairwise_singleton _ _, fun y hy z hz => by simp at hz; subst hz; exact hx y hy⟩
theorem rising_all {ys : List Ent} {e x : Ent} (h : Rising (ys ++ [e])) (hx : cfE e x < 0) : ∀ y ∈ ys ++ [e], cfE y x < 0 := by
  intro y hy
  rcases List.mem_append.1 hy with hy | hy
  · have := (List.pairwise_append.1 h).2.2 y hy e (by simp)
    exact cb_trans _ _ _ this hx
  · simp at hy; subst hy; exact hx
theorem cf_ne {x y : Ent} (h : cfE y x < 0) : kkE y ≠ kkE x := fun e => by
  unfold cfE at h
  rw [e, cb_self] at h
  exact absurd h (by decide)
/-- the last of the entries has the name lk -/
def LastK (ents : List Ent) (lk : List Nat) : Prop := lk.length = 32 ∧ (∀ d ∈ lk, d < 256) ∧ (ents = [] ∨ ∃ p e, ents = p ++ [e] ∧ e.key = lk)
theorem s8 : sb ⟨#[79, 82, 68, 69, 65, 76, 84, 49]⟩ = magL := mag_sb
theorem zeroE_keys : ∀ (j : Nat) (v : Value), (byts (List.replicate 32 0))[j]? = some v → zeroE[j]? = some v := fun j v hv => by
  have e : zeroE = byts (List.replicate 32 0) ++ [Value.string ⟨#[]⟩] := by unfold zeroE byts; rw [List.map_replicate]; rfl
  rw [e, List.getElem?_append_left (List.getElem?_eq_some_iff.1 hv).1]; exact hv

/-- what lies there while bytes are read -/
structure DecS (w : World) (rb tb lb : Nat) (T : ByteArray) (mo : Option Nat) (l : List Ent) (lk : List Nat) (a x : Nat) (W : World) : Prop where
  rd : Rd W rb T a x
  onl : Onl rb w W
  tab : Tab W tb mo l
  own : ∀ m, mo = some m → w.heap.size ≤ m
  th : W.there lb 0 32
  rg : W.rangeAt lb 0 (byts lk)
theorem DecS.on {w W W' : World} {rb tb lb : Nat} {T : ByteArray} {mo : Option Nat} {l : List Ent} {lk : List Nat} {a x a' x' : Nat} (h : DecS w rb tb lb T mo l lk a x W) (k : Onl rb W W') (r : Rd W' rb T a' x') (hrb : rb < w.heap.size) (ht : w.heap.size ≤ tb) (hl : w.heap.size ≤ lb) : DecS w rb tb lb T mo l lk a' x' W' := by
  have hlb : lb < W.heap.size := by
    obtain ⟨v, hv⟩ := Option.isSome_iff_exists.1 (h.th 0 (by omega)).1
    exact World.block_lt_of_cell? W _ hv
  have el := k.block lb hlb (by omega)
  exact ⟨r, h.onl.trans k, h.tab.keep (k.block tb h.tab.lt (by omega)) (fun m e => k.block m (h.tab.mapd m e).2.lt (by have := h.own m e; omega)), h.own, there_keep h.th el, range_keep h.rg el⟩
/-- what copy lays of a text of 32 bytes or none -/
theorem copyK (s : ByteArray) (h : s.size = 32 ∨ s = ⟨#[]⟩) : ∃ K cs, K.length = 32 ∧ (∀ d ∈ K, d < 256) ∧ cs = ((s.data.toList.take 32).map fun y => Value.int .u8 (y.toNat : Int)) ∧ cs.length ≤ 33 ∧ (∀ (W : World) (c : Nat), W.rangeAt c 0 zeroE → W.there c 0 33 → (W.setCells c 0 cs).rangeAt c 0 (byts K)) ∧ (s.size = 32 → K = sb s) := by
  rcases h with h | h
  · have e : (byts (sb s)) = ((s.data.toList.take 32).map fun y => Value.int .u8 (y.toNat : Int)) := by
      have hl : s.data.toList.length = 32 := by rw [Array.length_toList]; exact h
      rw [List.take_of_length_le (by omega), sb_data]
      unfold byts
      rw [List.map_map]
      rfl
    have hkl : (sb s).length = 32 := by rw [sb_length]; exact h
    refine ⟨sb s, byts (sb s), hkl, sb_lt s, e, by rw [byts_length]; omega, fun W c _ ht => World.rangeAt_setCells_same W c 0 (byts (sb s)) (fun j hj => ht j (by rw [byts_length, hkl] at hj; omega)), fun _ => rfl⟩
  · subst h
    refine ⟨List.replicate 32 0, [], by simp, fun d hd => by rw [List.eq_of_mem_replicate hd]; omega, rfl, by simp, fun W c hr _ j v hv => hr j v (zeroE_keys j v hv), fun h => by cases h⟩
theorem onl_cell {b c o : Nat} {w x : World} (h : Onl b w x) (hc : w.heap.size ≤ c) (v : Value) : Onl b w (x.setCell ⟨c, o, none⟩ v) := onl_cells (o := o) h hc [v]
theorem wpList_load_wanted' {P : Program} {ops : Array Oper} {rest : List Oper} {op : Oper} {a : Act} {w : World} {Q : Exit → Act → World → Prop} (hwt : Region.wanted op (yielded ops a.tmps) = true) (ty : TypeId) (x : Operand) (ho : op.op = .load ty x)
    (b o : Nat) (hx : a.eval x = .pointer (some ⟨b, o, none⟩)) (cs : List Value) (d : TypeDesc) (hc : w.rangeAt b o cs)
    (hu : P.underlying ty = some d) (hd : d.isRow = true) (hi : (P.info? ty).map (·.size) = some cs.length)
    (h : wpList P ops Q rest (a.put op.dst (.agg cs.toArray)) w) : wpList P ops Q (op :: rest) a w := by
  unfold wpList
  rw [if_pos hwt]
  exact Or.inl (wp_load_mid ty x ho b o hx cs d hc hu hd hi h)
theorem rawS_sz {T : ByteArray} {a x : Nat} : (rawS T a x 32).size = 32 ∨ rawS T a x 32 = ⟨#[]⟩ := by
  by_cases h : x = 0 ∧ 0 ≤ (32 : Int) ∧ (32 : Int) ≤ ((T.size - a : Nat) : Int)
  · left
    unfold rawS
    rw [if_pos h]
    rw [← sb_length, sb_part _ _ _ (by obtain ⟨_, _, h⟩ := h; show a + 32 ≤ _; omega), List.length_take, List.length_drop, sb_length]
    obtain ⟨_, _, h⟩ := h
    have : (32 : Int).toNat = 32 := rfl
    omega
  · right; unfold rawS; rw [if_neg h]

theorem err0_any (b : Nat) (T : ByteArray) (a x : Nat) (w : World) (h : Rd w b T a x) : Calls Tryz.prog 51 #[.pointer (some ⟨b, 0, none⟩)] w fun e w' => e = .returned (.int .i64 (x : Int)) ∧ w = w' := by
  have c2 := h.c2
  clear h
  go_enter Tryz.func51, Tryz.ntmps51
  go_wp2
  go_ret
  exact ⟨rfl, rfl⟩
theorem flat_ge (ys : List Ent) : ys.length * 32 ≤ (ys.flatMap entL).length := by
  induction ys with
  | nil => simp
  | cons y ys ih =>
    rw [List.flatMap_cons, List.length_append, List.length_cons]
    have : 32 ≤ (entL y).length := by unfold entL; rw [List.length_append, y.kl]; omega
    omega
/-- an entry is put, and its name kept -/
theorem DecS.put {w W W' : World} {rb tb lb : Nat} {T : ByteArray} {mo mo' : Option Nat} {l l' : List Ent} {lk K : List Nat} {a x : Nat} (h : DecS w rb tb lb T mo l lk a x W) (k : TExt tb mo mo' W W') (ht : Tab W' tb mo' l') (hK : K.length = 32) (hrb : rb < w.heap.size) (htb : w.heap.size ≤ tb) (hlb : w.heap.size ≤ lb) (hne : tb ≠ lb) :
    W'.there lb 0 32 ∧ DecS w rb tb lb T mo' l' K a x (W'.setCells lb 0 (byts K)) := by
  obtain ⟨v, hv⟩ := Option.isSome_iff_exists.1 (h.th 0 (by omega)).1
  have hl : lb < W.heap.size := World.block_lt_of_cell? W _ hv
  have el : W'.heap[lb]? = W.heap[lb]? := k.block lb hl (Ne.symm hne) (fun e => mapE_ne (h.tab.mapd lb e).2 hv rfl)
  have tl := there_keep h.th el
  have er : W'.heap[rb]? = W.heap[rb]? := k.block rb (rd_lt h.rd) (by omega) (fun e => by have := h.own rb e; omega)
  have r1 := rd_keep h.rd er
  have hs := h.onl.size
  have hs2 := k.size
  obtain ⟨v', hv'⟩ := Option.isSome_iff_exists.1 (tl 0 (by omega)).1
  refine ⟨tl, ⟨rd_keep r1 (cells_other W' lb 0 _ (rd_lt r1) (by omega)), onl_cells (onl_put h.onl k htb h.own) hlb _, ht.keep (cells_other W' lb 0 _ ht.lt hne) (fun m e => cells_other W' lb 0 _ (ht.mapd m e).2.lt (mapE_ne (ht.mapd m e).2 hv')), fun m e => ?_, World.there_setCells tl lb 0 _, World.rangeAt_setCells_same W' lb 0 (byts K) (by rw [byts_length, hK]; exact tl)⟩⟩
  rcases k.lies with e2 | e2
  · exact h.own m (by rw [← e2]; exact e)
  · have := e2 m e; omega

end Go.Proofs.YtacfdnjdjgdbcaaGreatDoor
namespace Go.Proofs.YtacfdnjdjgdbcaaGreatDoor
set_option maxRecDepth 100000
open Go.RowKit Go.Maps Go.Sort M

end Go.Proofs.YtacfdnjdjgdbcaaGreatDoor
