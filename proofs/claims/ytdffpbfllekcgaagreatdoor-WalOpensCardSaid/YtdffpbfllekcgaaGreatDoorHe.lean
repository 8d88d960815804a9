/- MapL, DiskM, in one text. -/
import Derived.Maps.Keyed
import Derived.Maps.OwnSet
import Derived.OwnWalk
import Derived.Below
namespace Go.Proofs.YtdffpbfllekcgaaGreatDoor
set_option maxRecDepth 100000
open Go.RowKit Go.ChangeMaps Go.MapKept
open Go.Maps (Keyed)

/-- lists of keys and numbers: what a map has -/
abbrev KL := List (ByteArray × Nat)
def kget (l : KL) (k : ByteArray) : Option Nat := (l.find? fun p => p.1 == k).map (·.2)
def kdel (l : KL) (k : ByteArray) : KL := l.filter fun p => !(p.1 == k)
def kput (l : KL) (k : ByteArray) (n : Nat) : KL := (k, n) :: kdel l k

theorem ba_beq (a b : ByteArray) : (a == b) = true ↔ a = b := bytes_beq a b
theorem ba_bne (a b : ByteArray) : (a == b) = false ↔ a ≠ b := by
  rw [← Bool.not_eq_true, ba_beq]
theorem ba_self (a : ByteArray) : (a == a) = true := (ba_beq a a).2 rfl

theorem kget_some {l : KL} {k : ByteArray} {n : Nat} (h : kget l k = some n) : (k, n) ∈ l := by
  unfold kget at h
  obtain ⟨p, hp, rfl⟩ := Option.map_eq_some_iff.1 h
  have h1 := List.find?_some hp
  have h2 := List.mem_of_find?_eq_some hp
  have e := (ba_beq _ _).1 h1
  subst e
  exact h2
theorem kget_none {l : KL} {k : ByteArray} : kget l k = none ↔ ∀ n, (k, n) ∉ l := by
  unfold kget
  rw [Option.map_eq_none_iff, List.find?_eq_none]
  constructor
  · intro h n hm
    exact h _ hm (ba_self k)
  · intro h p hp e
    have e' := (ba_beq _ _).1 e
    subst e'
    exact h p.2 hp
theorem kget_mem {l : KL} (hd : (l.map (·.1)).Nodup) {k : ByteArray} {n : Nat} (h : (k, n) ∈ l) : kget l k = some n := by
  induction l with
  | nil => cases h
  | cons p r ih =>
    simp only [List.map_cons, List.nodup_cons] at hd
    unfold kget
    rw [List.find?_cons]
    rcases List.mem_cons.1 h with rfl | h'
    · simp [ba_self]
    · have hne : p.1 ≠ k := fun e => hd.1 (by rw [e]; exact List.mem_map.2 ⟨_, h', rfl⟩)
      rw [(ba_bne _ _).2 hne]
      exact ih hd.2 h'
theorem kdel_nodup {l : KL} (hd : (l.map (·.1)).Nodup) (k : ByteArray) : ((kdel l k).map (·.1)).Nodup :=
  List.Sublist.nodup (List.Sublist.map _ List.filter_sublist) hd
theorem mem_kdel {l : KL} {k : ByteArray} {p : ByteArray × Nat} : p ∈ kdel l k ↔ p ∈ l ∧ p.1 ≠ k := by
  unfold kdel
  rw [List.mem_filter]
  constructor
  · rintro ⟨h1, h2⟩
    exact ⟨h1, (ba_bne _ _).1 (by simpa using h2)⟩
  · rintro ⟨h1, h2⟩
    exact ⟨h1, by simpa using (ba_bne _ _).2 h2⟩
theorem kput_nodup {l : KL} (hd : (l.map (·.1)).Nodup) (k : ByteArray) (n : Nat) : ((kput l k n).map (·.1)).Nodup := by
  unfold kput
  simp only [List.map_cons, List.nodup_cons]
  refine ⟨fun h => ?_, kdel_nodup hd k⟩
  obtain ⟨p, hp, e⟩ := List.mem_map.1 h
  exact (mem_kdel.1 hp).2 e
theorem kdel_length (l : KL) (k : ByteArray) : (kdel l k).length ≤ l.length := List.length_filter_le _ _
theorem kput_length (l : KL) (k : ByteArray) (n : Nat) : (kput l k n).length ≤ l.length + 1 := by
  unfold kput; simp [kdel_length]
theorem kdel_absent {l : KL} {k : ByteArray} (h : kget l k = none) : kdel l k = l := by
  unfold kdel
  rw [List.filter_eq_self]
  intro p hp
  have : p.1 ≠ k := fun e => (kget_none.1 h) p.2 (by rw [← e]; exact hp)
  simpa using (ba_bne _ _).2 this

theorem kget_put_same (l : KL) (k : ByteArray) (n : Nat) : kget (kput l k n) k = some n := by
  unfold kget kput; simp [ba_self]
theorem kget_del_same (l : KL) (k : ByteArray) : kget (kdel l k) k = none := by
  rw [kget_none]
  intro n h
  exact (mem_kdel.1 h).2 rfl
theorem kget_del_other {l : KL} {k k' : ByteArray} (h : k' ≠ k) : kget (kdel l k) k' = kget l k' := by
  unfold kget kdel
  congr 1
  induction l with
  | nil => rfl
  | cons p r ih =>
    rw [List.filter_cons]
    by_cases e : p.1 = k
    · have h1 : (p.1 == k) = true := (ba_beq _ _).2 e
      have h2 : (p.1 == k') = false := (ba_bne _ _).2 (fun e' => h (e'.symm.trans e))
      simp only [h1, Bool.not_true, Bool.false_eq_true, ↓reduceIte]
      rw [List.find?_cons, h2]
      exact ih
    · have h1 : (p.1 == k) = false := (ba_bne _ _).2 e
      simp only [h1, Bool.not_false, ↓reduceIte]
      rw [List.find?_cons, List.find?_cons]
      split
      · rfl
      · exact ih
theorem kget_put_other {l : KL} {k k' : ByteArray} {n : Nat} (h : k' ≠ k) : kget (kput l k n) k' = kget l k' := by
  have h2 : (k == k') = false := (ba_bne _ _).2 (fun e => h e.symm)
  have : kget (kput l k n) k' = kget (kdel l k) k' := by
    unfold kget kput
    rw [List.find?_cons, h2]
  rw [this]
  exact kget_del_other h

/-! ### in the heap -/
def kent (loc : Nat → Nat) (p : ByteArray × Nat) : Value × Value := (.string p.1, .pointer (some ⟨loc p.2, 0, none⟩))

/-- block b is a map that has l -/
structure MapL (w : World) (b : Nat) (loc : Nat → Nat) (l : KL) : Prop where
  ex : ∃ es clock, w.heap[b]? = some (.map es clock) ∧ Stamped es clock ∧ (es.toList.map fun e => (e.key, e.val)).Perm (l.map (kent loc))
  keys : ∀ p ∈ l, p.1.size ≤ maxLen
  nd : (l.map (·.1)).Nodup
  size : l.length < maxLen

theorem MapL.lt {w : World} {b : Nat} {loc : Nat → Nat} {l : KL} (h : MapL w b loc l) : b < w.heap.size := by
  obtain ⟨es, clock, hb, _⟩ := h.ex
  exact (Array.getElem?_eq_some_iff.1 hb).1
theorem MapL.keep {w w' : World} {b : Nat} {loc : Nat → Nat} {l : KL} (h : MapL w b loc l) (e : w'.heap[b]? = w.heap[b]?) : MapL w' b loc l := by
  obtain ⟨es, clock, hb, h2, h3⟩ := h.ex
  exact ⟨⟨es, clock, e.trans hb, h2, h3⟩, h.keys, h.nd, h.size⟩
theorem MapL.reloc {w : World} {b : Nat} {loc loc' : Nat → Nat} {l : KL} (h : MapL w b loc l) (e : ∀ p ∈ l, loc' p.2 = loc p.2) : MapL w b loc' l := by
  obtain ⟨es, clock, hb, h2, h3⟩ := h.ex
  refine ⟨⟨es, clock, hb, h2, ?_⟩, h.keys, h.nd, h.size⟩
  have : l.map (kent loc') = l.map (kent loc) := List.map_congr_left fun p hp => by unfold kent; rw [e p hp]
  rw [this]; exact h3
theorem mapL_new (w : World) (loc : Nat → Nat) : MapL (w.alloc (.map #[] 0)) w.heap.size loc [] :=
  ⟨⟨#[], 0, (MapKept.heap_alloc w _).1, stamped_empty 0, by simp⟩, by simp, by simp, by simp [maxLen]⟩

theorem keyOf_str {P : Program} {k : TypeId} (hk : P.underlying k = some .string) {s : ByteArray} (hs : s.size ≤ maxLen) : ∃ kl, keyOf P k (.string s) = some kl := by
  simp [keyOf, hk, mapKey, hs]

section
variable {P : Program} {k t e : TypeId} {w : World} {b : Nat} {loc : Nat → Nat} {l : KL}

theorem MapL.keysOf (h : MapL w b loc l) (hk : P.underlying k = some .string) {es : Array MapEntry} (h3 : (es.toList.map fun e => (e.key, e.val)).Perm (l.map (kent loc))) :
    ∀ x ∈ es.toList, ∃ kl, keyOf P k x.key = some kl := by
  intro x hx
  have hm : (x.key, x.val) ∈ l.map (kent loc) := h3.mem_iff.1 (List.mem_map.2 ⟨x, hx, rfl⟩)
  obtain ⟨p, hp, e⟩ := List.mem_map.1 hm
  have e1 : x.key = .string p.1 := (congrArg Prod.fst e).symm
  rw [e1]
  exact keyOf_str hk (h.keys p hp)

/-- 'm[k]' -/
theorem MapL.look (h : MapL w b loc l) (hk : P.underlying k = some .string) (ht : P.underlying t = some (.map k e)) (hz : (zeroValue e).run P w = .ok (.pointer none) w) (s : ByteArray) (hs : s.size ≤ maxLen) :
    (Instr.lookup t (.map (some b)) (.string s) false).run P w = .ok (.pointer ((kget l s).map fun n => ⟨loc n, 0, none⟩)) w := by
  obtain ⟨es, clock, hb, h2, h3⟩ := h.ex
  have K := Go.Maps.string_keyed hk
  obtain ⟨kl, hkey⟩ := keyOf_str hk hs
  rcases K.find w hkey es.toList (h.keysOf hk h3) with ⟨r1, r2⟩ | ⟨j, e0, r1, r2, r3⟩
  · have hn : kget l s = none := by
      rw [kget_none]
      intro n hm
      have : (kent loc (s, n)) ∈ es.toList.map fun e => (e.key, e.val) := h3.mem_iff.2 (List.mem_map.2 ⟨_, hm, rfl⟩)
      obtain ⟨x, hx, ex⟩ := List.mem_map.1 this
      exact r2 x hx (congrArg Prod.fst ex)
    rw [hn]
    simp [Instr.lookup, run_underlying ht, MapKept.run_getObj_map hb, K.check w _ hkey, r1, hz, Result.andThen]
  · have hm : (e0.key, e0.val) ∈ l.map (kent loc) := h3.mem_iff.1 (List.mem_map.2 ⟨e0, List.mem_of_getElem? r2, rfl⟩)
    obtain ⟨p, hp, ep⟩ := List.mem_map.1 hm
    have e1 : Value.string p.1 = .string s := (congrArg Prod.fst ep).trans r3
    injection e1 with e1
    have e2 : e0.val = .pointer (some ⟨loc p.2, 0, none⟩) := (congrArg Prod.snd ep).symm
    have hg : kget l s = some p.2 := kget_mem h.nd (by rw [← e1]; exact hp)
    rw [hg]
    simp [Instr.lookup, run_underlying ht, MapKept.run_getObj_map hb, K.check w _ hkey, r1, e2, Result.andThen]

theorem nodup_key {es : Array MapEntry} {clock : Nat} (h : Stamped es clock) {i j : Nat} {x y : MapEntry} (hi : es.toList[i]? = some x) (hj : es.toList[j]? = some y) (he : x.key = y.key) : i = j := by
  have hn := h.2.2
  have a : (es.toList.map (·.key))[i]? = some x.key := by rw [List.getElem?_map, hi]; rfl
  have b : (es.toList.map (·.key))[j]? = some y.key := by rw [List.getElem?_map, hj]; rfl
  have hil := (List.getElem?_eq_some_iff.1 a).1
  have hjl := (List.getElem?_eq_some_iff.1 b).1
  exact (List.getElem?_inj hil hn).1 (by rw [a, b, he])

theorem kdel_perm {loc : Nat → Nat} {l : KL} {es : Array MapEntry} {clock : Nat} (h2 : Stamped es clock)
    (h3 : (es.toList.map fun e => (e.key, e.val)).Perm (l.map (kent loc))) {s : ByteArray} {j : Nat} {e0 : MapEntry} (r2 : es.toList[j]? = some e0) (r3 : e0.key = .string s) :
    ((es.toList.eraseIdx j).map fun e => (e.key, e.val)).Perm ((kdel l s).map (kent loc)) := by
  let f : Value × Value → Bool := fun p => match p.1 with | .string k => !(k == s) | _ => true
  have A : ((es.toList.eraseIdx j).map fun e => (e.key, e.val)) = (es.toList.map fun e => (e.key, e.val)).filter f := by
    have hjl : j < es.toList.length := (List.getElem?_eq_some_iff.1 r2).1
    have hsplit : es.toList = es.toList.take j ++ e0 :: es.toList.drop (j + 1) := by
      have e1 : es.toList[j] = e0 := (List.getElem?_eq_some_iff.1 r2).2
      rw [← e1, ← List.drop_eq_getElem_cons hjl, List.take_append_drop]
    have other : ∀ i x, es.toList[i]? = some x → i ≠ j → f (x.key, x.val) = true := by
      intro i x hx hij
      have hm : (x.key, x.val) ∈ l.map (kent loc) := h3.mem_iff.1 (List.mem_map.2 ⟨x, List.mem_of_getElem? hx, rfl⟩)
      obtain ⟨p, hp, ep⟩ := List.mem_map.1 hm
      have e1 : x.key = .string p.1 := (congrArg Prod.fst ep).symm
      show (match x.key with | .string k => !(k == s) | _ => true) = true
      rw [e1]
      have : p.1 ≠ s := fun e2 => hij (nodup_key h2 hx r2 (by rw [e1, r3, e2]))
      simpa using (ba_bne _ _).2 this
    rw [List.eraseIdx_eq_take_drop_succ]
    conv => rhs; rw [hsplit]
    rw [List.map_append, List.map_append, List.filter_append, List.map_cons, List.filter_cons]
    have hf0 : f (e0.key, e0.val) = false := by
      show (match e0.key with | .string k => !(k == s) | _ => true) = false
      rw [r3]; simp [ba_self]
    rw [hf0]
    simp only [Bool.false_eq_true, ↓reduceIte]
    congr 1
    · refine (List.filter_eq_self.2 fun p hp => ?_).symm
      obtain ⟨x, hx, rfl⟩ := List.mem_map.1 hp
      obtain ⟨i, hi, rfl⟩ := List.getElem_of_mem hx
      have hij : i < j := by have := hi; simp at this; omega
      have hix : es.toList[i]? = some (es.toList.take j)[i] := by
        rw [List.getElem_take, List.getElem?_eq_getElem]
      exact other i _ hix (by omega)
    · refine (List.filter_eq_self.2 fun p hp => ?_).symm
      obtain ⟨x, hx, rfl⟩ := List.mem_map.1 hp
      obtain ⟨i, hi, rfl⟩ := List.getElem_of_mem hx
      have hix : es.toList[j + 1 + i]? = some (es.toList.drop (j + 1))[i] := by
        rw [List.getElem_drop, List.getElem?_eq_getElem]
      exact other _ _ hix (by omega)
  have B : (kdel l s).map (kent loc) = (l.map (kent loc)).filter f := by
    unfold kdel
    rw [List.filter_map]
    rfl
  rw [A, B]
  exact h3.filter f

/-- 'delete(m, k)' -/
theorem MapL.drop (h : MapL w b loc l) (hk : P.underlying k = some .string) (ht : P.underlying t = some (.map k e)) (s : ByteArray) (hs : s.size ≤ maxLen) (tk ty : TypeId) :
    ∃ o, (Builtin.delete_ #[t, tk] ty #[.map (some b), .string s]).run P w = .ok (.tuple #[]) (setBlock w b o) ∧ MapL (setBlock w b o) b loc (kdel l s) := by
  obtain ⟨es, clock, hb, h2, h3⟩ := h.ex
  have K := Go.Maps.string_keyed hk
  obtain ⟨kl, hkey⟩ := keyOf_str hk hs
  have hkeys : ∀ p ∈ kdel l s, p.1.size ≤ maxLen := fun p hp => h.keys p (mem_kdel.1 hp).1
  have hsz : (kdel l s).length < maxLen := Nat.lt_of_le_of_lt (kdel_length l s) h.size
  rcases K.find w hkey es.toList (h.keysOf hk h3) with ⟨r1, r2⟩ | ⟨j, e0, r1, r2, r3⟩
  · have hn : kget l s = none := by
      rw [kget_none]
      intro n hm
      have : (kent loc (s, n)) ∈ es.toList.map fun e => (e.key, e.val) := h3.mem_iff.2 (List.mem_map.2 ⟨_, hm, rfl⟩)
      obtain ⟨x, hx, ex⟩ := List.mem_map.1 this
      exact r2 x hx (congrArg Prod.fst ex)
    refine ⟨.map es clock, ?_, ⟨⟨es, clock, heap_setBlock_same hb _, h2, by rw [kdel_absent hn]; exact h3⟩, hkeys, kdel_nodup h.nd s, hsz⟩⟩
    simp [Builtin.delete_, run_underlying ht, MapKept.run_getObj_map hb, K.check w _ hkey, r1, MapKept.run_setObj_map _ hb, Result.andThen, setBlock]
  · have hjs : j < es.size := by have := (List.getElem?_eq_some_iff.1 r2).1; simpa using this
    have hsub : (es.eraseIdxIfInBounds j).toList = es.toList.eraseIdx j := by
      unfold Array.eraseIdxIfInBounds
      rw [dif_pos hjs]
      simp
    refine ⟨.map (es.eraseIdxIfInBounds j) clock, ?_, ⟨⟨_, clock, heap_setBlock_same hb _, stamped_erase h2 j, ?_⟩, hkeys, kdel_nodup h.nd s, hsz⟩⟩
    · simp [Builtin.delete_, run_underlying ht, MapKept.run_getObj_map hb, K.check w _ hkey, r1, MapKept.run_setObj_map _ hb, Result.andThen, setBlock]
    · rw [hsub]
      exact kdel_perm h2 h3 r2 r3

/-- 'm[k] = v' -/
theorem MapL.store (h : MapL w b loc l) (hk : P.underlying k = some .string) (ht : P.underlying t = some (.map k e)) (s : ByteArray) (hs : s.size ≤ maxLen) (n : Nat) (hroom : l.length + 1 < maxLen) :
    ∃ o, (Instr.mapUpdate t (.map (some b)) (.string s) (.pointer (some ⟨loc n, 0, none⟩))).run P w = .ok () (setBlock w b o) ∧ MapL (setBlock w b o) b loc (kput l s n) := by
  obtain ⟨es, clock, hb, h2, h3⟩ := h.ex
  have K := Go.Maps.string_keyed hk
  obtain ⟨kl, hkey⟩ := keyOf_str hk hs
  have hkeys : ∀ p ∈ kput l s n, p.1.size ≤ maxLen := fun p hp => by
    rcases List.mem_cons.1 hp with rfl | hp
    · exact hs
    · exact h.keys p (mem_kdel.1 hp).1
  have hsz : (kput l s n).length < maxLen := Nat.lt_of_le_of_lt (kput_length l s n) hroom
  rcases K.find w hkey es.toList (h.keysOf hk h3) with ⟨r1, r2⟩ | ⟨j, e0, r1, r2, r3⟩
  · have hn : kget l s = none := by
      rw [kget_none]
      intro n hm
      have : (kent loc (s, n)) ∈ es.toList.map fun e => (e.key, e.val) := h3.mem_iff.2 (List.mem_map.2 ⟨_, hm, rfl⟩)
      obtain ⟨x, hx, ex⟩ := List.mem_map.1 this
      exact r2 x hx (congrArg Prod.fst ex)
    refine ⟨.map (es.push ⟨.string s, .pointer (some ⟨loc n, 0, none⟩), clock⟩) (clock + 1), ?_, ⟨⟨_, _, heap_setBlock_same hb _, stamped_push h2 r2, ?_⟩, hkeys, kput_nodup h.nd s n, hsz⟩⟩
    · simp [Instr.mapUpdate, run_underlying ht, MapKept.run_getObj_map hb, K.check w false hkey, r1, MapKept.run_setObj_map _ hb, Result.andThen, setBlock]
    · unfold kput
      rw [kdel_absent hn, Array.toList_push, List.map_append, List.map_singleton, List.map_cons]
      refine (List.perm_append_singleton _ _).trans ?_
      exact List.Perm.cons _ h3
  · have hj : es[j]? = some e0 := by simpa using r2
    have hjl : j < es.toList.length := (List.getElem?_eq_some_iff.1 r2).1
    have hkeyf : ∀ e', es[j]? = some e' → ({ e' with key := .string s, val := .pointer (some ⟨loc n, 0, none⟩) } : MapEntry).key = e'.key := fun e' he' => by rw [hj] at he'; cases he'; exact r3.symm
    have hlist : (es.modify j (fun e' => { e' with key := .string s, val := .pointer (some ⟨loc n, 0, none⟩) })).toList = es.toList.set j { e0 with key := .string s, val := .pointer (some ⟨loc n, 0, none⟩) } := by rw [Array.toList_modify, modify_eq_set _ _ _ _ r2]
    refine ⟨.map (es.modify j (fun e' => { e' with key := .string s, val := .pointer (some ⟨loc n, 0, none⟩) })) clock, ?_, ⟨⟨_, _, heap_setBlock_same hb _, stamped_modify h2 _ _ (fun _ _ => rfl) (fun e' _ he' => hkeyf e' he'), ?_⟩, hkeys, kput_nodup h.nd s n, hsz⟩⟩
    · simp [Instr.mapUpdate, run_underlying ht, MapKept.run_getObj_map hb, K.check w false hkey, r1, hj, r3, K.stays w hkey, MapKept.run_setObj_map _ hb, Result.andThen, setBlock]
    · rw [hlist, List.map_set]
      unfold kput
      rw [List.map_cons]
      refine (set_perm _ _ (by simpa using hjl) _).trans ?_
      refine List.Perm.cons _ ?_
      rw [← map_eraseIdx]
      exact kdel_perm h2 h3 r2 r3
end

/-! ### at the operation -/
section
variable {P : Program} {ops : Array Oper} {rest : List Oper} {o : Oper} {a : Act} {Q : Exit → Act → World → Prop} {w : World} {b : Nat} {loc : Nat → Nat} {l : KL}

theorem setBlock_size (w : World) (b : Nat) (o : Obj) : (setBlock w b o).heap.size = w.heap.size := by simp [setBlock]

theorem wpList_delete_mapL (hg : o.guard = none) (m x : Operand) (t k : TypeId) (hop : o.op = Op.call { callee := Callee.builtin Builtin.delete, args := #[m, x], argTypes := #[t, k] })
    (e : TypeId) (hk : P.underlying k = some .string) (ht : P.underlying t = some (.map k e)) (hm : a.eval m = .map (some b)) (h : MapL w b loc l) (s : ByteArray) (hx : a.eval x = .string s) (hs : s.size ≤ maxLen)
    (hK : ∀ o', MapL (setBlock w b o') b loc (kdel l s) → wpList P ops Q rest (a.put o.dst (.tuple #[])) (setBlock w b o')) : wpList P ops Q (o :: rest) a w := by
  refine wpList_plain hg fun K' hK' => ?_
  obtain ⟨o', hrun, r1⟩ := h.drop hk ht s hs k o.type
  unfold Oper.wp
  simp [execOp, hop, resolve, invoke, builtin, hm, hx, hrun, Result.andThen]
  exact hK' _ _ (hK o' r1)

theorem wpList_store_mapL (hg : o.guard = none) (m x v : Operand) (t : TypeId) (hop : o.op = Op.mapUpdate t m x v)
    (k e : TypeId) (hk : P.underlying k = some .string) (ht : P.underlying t = some (.map k e)) (hm : a.eval m = .map (some b)) (h : MapL w b loc l) (s : ByteArray) (n : Nat) (hx : a.eval x = .string s) (hs : s.size ≤ maxLen)
    (hv : a.eval v = .pointer (some ⟨loc n, 0, none⟩)) (hroom : l.length + 1 < maxLen)
    (hK : ∀ o', MapL (setBlock w b o') b loc (kput l s n) → wpList P ops Q rest (a.put o.dst undef) (setBlock w b o')) : wpList P ops Q (o :: rest) a w := by
  refine wpList_plain hg fun K' hK' => ?_
  obtain ⟨o', hrun, r1⟩ := h.store hk ht s hs n hroom
  unfold Oper.wp
  simp [execOp, hop, hm, hx, hv, hrun, Result.andThen]
  exact hK' _ _ (hK o' r1)
end

end Go.Proofs.YtdffpbfllekcgaaGreatDoor
namespace Go.Proofs.YtdffpbfllekcgaaGreatDoor
set_option maxRecDepth 100000

structure FileS where
  data : List Nat
  safe : Nat
  named : Bool
structure Chg where
  src : ByteArray
  dst : ByteArray
  file : Nat
  over : Option Nat
structure DS where
  names : KL
  safe : KL
  chg : List Chg
  made : Nat
  file : Nat → FileS
  room : Int
  used : Int
  crash : Int
  fail : Int
  dead : Bool
  calls : Nat

def DS.setF (S : DS) (n : Nat) (f : FileS) : DS := { S with file := fun i => if i = n then f else S.file i }
def Chg.app (c : Chg) (l : KL) : KL := if c.dst.size = 0 then kdel l c.src else kput (kdel l c.src) c.dst c.file

/-- how many bytes there is room for -/
def DS.free (S : DS) : Int := max (S.room - S.used) 0

/-- a changing call: the error's number, and what becomes of the disk -/
def beginC (S : DS) : Int := if S.fail = 0 then 8 else if S.crash = 0 then 9 else 0
def beginS (S : DS) : DS :=
  if S.fail = 0 then { S with fail := -1 }
  else if S.crash = 0 then { S with dead := true }
  else { S with fail := max (S.fail - 1) (-1), crash := max (S.crash - 1) (-1), calls := S.calls + 1 }

def DS.unname (S : DS) : Option Nat → DS
  | some g => S.setF g { S.file g with named := false }
  | none => S
def mkC (S : DS) (src dst : ByteArray) (f : Nat) : Chg := ⟨src, dst, f, kget S.names dst⟩
def renS (S : DS) (src dst : ByteArray) (f : Nat) : DS :=
  let S1 := S.unname (kget S.names dst)
  let S2 := S1.setF f { S1.file f with named := decide (dst.size ≠ 0) }
  { S2 with names := (mkC S src dst f).app S.names, chg := S.chg ++ [mkC S src dst f] }

def settleS (S : DS) (n : Nat) : DS := { S with safe := (S.chg.take n).foldl (fun l c => c.app l) S.safe, chg := [] }

def relF (S : DS) (n : Nat) : DS := if (S.file n).named then S else { S.setF n { S.file n with data := [] } with used := S.used - (S.file n).data.length }
def relO (S : DS) : Option Nat → DS
  | some n => relF S n
  | none => S
def relC (S : DS) (c : Chg) : DS := relO (relF S c.file) c.over
def relAll (S : DS) : List Chg → DS
  | [] => S
  | c :: l => relAll (relC S c) l

def pickN (choice : List Int) (i most : Nat) : Nat :=
  match choice[i]? with
  | some c => (c % ((most : Int) + 1)).toNat
  | none => 0
theorem pickN_le (choice : List Int) (i most : Nat) : pickN choice i most ≤ most := by
  unfold pickN
  split
  · rename_i c _
    have h1 := Int.emod_nonneg c (b := (most : Int) + 1) (by omega)
    have h2 := Int.emod_lt_of_pos c (b := (most : Int) + 1) (by omega)
    omega
  · omega

/-! ### the calls -/
def createC (S : DS) (name : ByteArray) : Int :=
  if S.dead then 9 else if name.size = 0 then 1 else if (kget S.names name).isSome then 6 else beginC S
def newF (S : DS) (name : ByteArray) : DS :=
  renS ({ S with made := S.made + 1 }.setF (S.made + 1) ⟨[], 0, false⟩) ⟨#[]⟩ name (S.made + 1)
def createS (S : DS) (name : ByteArray) : DS :=
  if S.dead then S else if name.size = 0 then S else if (kget S.names name).isSome then S
  else if beginC S = 8 then beginS S else newF (beginS S) name

def findC (S : DS) (name : ByteArray) : Int := if S.dead then 9 else if (kget S.names name).isSome then 0 else 5
def findN (S : DS) (name : ByteArray) : Option Nat := if S.dead then none else kget S.names name

def appF (S : DS) (n : Nat) (s : List Nat) : DS := { S.setF n { S.file n with data := (S.file n).data ++ s } with used := S.used + s.length }
def appendC (S : DS) (name : ByteArray) (s : List Nat) : Int :=
  if findC S name ≠ 0 then findC S name else if S.free < s.length then 7 else beginC S
def appendS (S : DS) (name : ByteArray) (s : List Nat) : DS :=
  match findN S name with
  | none => S
  | some n => if S.free < s.length then S else if beginC S = 8 then beginS S else appF (beginS S) n s

def readD (S : DS) (name : ByteArray) : List Nat :=
  match findN S name with
  | none => []
  | some n => (S.file n).data

def syncF (S : DS) (n : Nat) : DS := S.setF n { S.file n with safe := (S.file n).data.length }
def syncC (S : DS) (name : ByteArray) : Int := if findC S name ≠ 0 then findC S name else beginC S
def syncS (S : DS) (name : ByteArray) : DS :=
  match findN S name with
  | none => S
  | some n => if beginC S = 0 then syncF (beginS S) n else beginS S

def syncNamesC (S : DS) : Int := if S.dead then 9 else beginC S
def syncNamesS (S : DS) : DS :=
  if S.dead then S else if beginC S = 0 then settleS (relAll (beginS S) S.chg) S.chg.length else beginS S

def renameC (S : DS) (a b : ByteArray) : Int :=
  if findC S a ≠ 0 then findC S a else if b.size = 0 ∨ b = a then 1 else beginC S
def renameS (S : DS) (a b : ByteArray) : DS :=
  match findN S a with
  | none => S
  | some n => if b.size = 0 ∨ b = a then S else if beginC S = 8 then beginS S else renS (beginS S) a b n

def removeC (S : DS) (a : ByteArray) : Int := if findC S a ≠ 0 then findC S a else beginC S
def removeS (S : DS) (a : ByteArray) : DS :=
  match findN S a with
  | none => S
  | some n => if beginC S = 8 then beginS S else renS (beginS S) a ⟨#[]⟩ n

/-- the files of a map, the oldest first -/
def oldest (l : KL) : List Nat := (l.map (·.2)).mergeSort (fun a b => decide (a ≤ b))
/-- one file behind a crash: k is the number of the choice -/
def cutF (choice : List Int) (k : Nat) (f : FileS) : FileS :=
  let d := if f.safe < f.data.length then f.data.take (f.safe + pickN choice k (f.data.length - f.safe)) else f.data
  ⟨d, d.length, true⟩
def cutAll (choice : List Int) : List Nat → Nat → DS → DS
  | [], _, S => S
  | n :: l, k, S =>
    cutAll choice l (if (S.file n).safe < (S.file n).data.length then k + 1 else k)
      { S.setF n (cutF choice k (S.file n)) with used := S.used + (cutF choice k (S.file n)).data.length }
def restartS (S : DS) (choice : List Int) : DS :=
  let S1 := settleS S (pickN choice 0 S.chg.length)
  let S2 := cutAll choice (oldest S1.safe) 1 { S1 with names := S1.safe, used := 0 }
  { S2 with crash := -1, fail := -1, dead := false }

def newS (room : Int) : DS := ⟨[], [], [], 0, fun _ => ⟨[], 0, false⟩, max room 0, 0, -1, -1, false, 0⟩

end Go.Proofs.YtdffpbfllekcgaaGreatDoor
