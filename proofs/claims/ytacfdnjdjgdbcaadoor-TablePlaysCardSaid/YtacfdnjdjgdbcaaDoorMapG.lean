/- Maps in the heap whose keys are of any kind: a block that is a map whose entries are a list. -/
import Derived.Maps.Keyed
import Derived.Maps.OwnSet
import Derived.OwnWalk
import Derived.Below
import Derived.Sort.MapsRangeIn
import Derived.Sort.KeysCollected
namespace Go.Proofs.YtacfdnjdjgdbcaaDoor
set_option maxRecDepth 100000
open Go.RowKit Go.ChangeMaps Go.MapKept Go.Maps Go.Sort

/-- how an entry's key and element are read off what stands for it; kk: the key's bytes, cc: a text that tells the element -/
structure Coded (P : Program) (k : TypeId) {α : Type} (ek ev : α → Value) (kk cc : α → List UInt8) : Prop where
  keyed : Keyed P k
  key : ∀ x, keyOf P k (ek x) = some (.string (kk x))
  ekk : ∀ x y, ek x = ek y → kk x = kk y
  code : ∀ x y, ev x = ev y ↔ cc x = cc y

/-- block b is a map that has l -/
structure MapG {α : Type} (ek ev : α → Value) (kk : α → List UInt8) (w : World) (b : Nat) (l : List α) : Prop where
  ex : ∃ es clock, w.heap[b]? = some (.map es clock) ∧ Stamped es clock ∧ (es.toList.map fun e => (e.key, e.val)).Perm (l.map fun x => (ek x, ev x))
  nd : (l.map kk).Nodup
  size : l.length < maxLen

section
variable {α : Type} {ek ev : α → Value} {kk cc : α → List UInt8} {P : Program} {k t e : TypeId} {w : World} {b : Nat} {l : List α}

theorem MapG.lt (h : MapG ek ev kk w b l) : b < w.heap.size := by
  obtain ⟨es, clock, hb, _⟩ := h.ex
  exact (Array.getElem?_eq_some_iff.1 hb).1
theorem MapG.keep {w' : World} (h : MapG ek ev kk w b l) (e : w'.heap[b]? = w.heap[b]?) : MapG ek ev kk w' b l := by
  obtain ⟨es, clock, hb, h2, h3⟩ := h.ex
  exact ⟨⟨es, clock, e.trans hb, h2, h3⟩, h.nd, h.size⟩
theorem mapG_new (w : World) : MapG ek ev kk (w.alloc (.map #[] 0)) w.heap.size [] :=
  ⟨⟨#[], 0, (MapKept.heap_alloc w _).1, stamped_empty 0, by simp⟩, by simp, by simp [maxLen]⟩

theorem MapG.keysOf (C : Coded P k ek ev kk cc) {es : Array MapEntry} (h3 : (es.toList.map fun e => (e.key, e.val)).Perm (l.map fun x => (ek x, ev x))) :
    ∀ x ∈ es.toList, ∃ kl, keyOf P k x.key = some kl := by
  intro x hx
  have hm : (x.key, x.val) ∈ l.map fun x => (ek x, ev x) := h3.mem_iff.1 (List.mem_map.2 ⟨x, hx, rfl⟩)
  obtain ⟨p, hp, e⟩ := List.mem_map.1 hm
  have e1 : x.key = ek p := (congrArg Prod.fst e).symm
  rw [e1]
  exact ⟨_, C.key p⟩
theorem kk_of_ek (C : Coded P k ek ev kk cc) {x y : α} (h : ek x = ek y) : kk x = kk y := C.ekk x y h
theorem ek_of_kk (C : Coded P k ek ev kk cc) {x y : α} (h : kk x = kk y) : ek x = ek y := C.keyed.inj (C.key x) (by rw [h]; exact C.key y)

/-- 'v, ok := m[k]' -/
theorem MapG.look (C : Coded P k ek ev kk cc) (h : MapG ek ev kk w b l) (ht : P.underlying t = some (.map k e)) {z : Value} (hz : (zeroValue e).run P w = .ok z w) (x : α) :
    ((∀ y ∈ l, kk y ≠ kk x) ∧ (Instr.lookup t (.map (some b)) (ek x) true).run P w = .ok (.tuple #[z, .bool false]) w) ∨
    ∃ y ∈ l, kk y = kk x ∧ (Instr.lookup t (.map (some b)) (ek x) true).run P w = .ok (.tuple #[ev y, .bool true]) w := by
  obtain ⟨es, clock, hb, h2, h3⟩ := h.ex
  have K := C.keyed
  rcases K.find w (C.key x) es.toList (MapG.keysOf C h3) with ⟨r1, r2⟩ | ⟨j, e0, r1, r2, r3⟩
  · refine .inl ⟨fun y hy e => ?_, by simp [Instr.lookup, run_underlying ht, MapKept.run_getObj_map hb, K.check w _ (C.key x), r1, hz, Result.andThen]⟩
    have : (ek y, ev y) ∈ es.toList.map fun e => (e.key, e.val) := h3.mem_iff.2 (List.mem_map.2 ⟨y, hy, rfl⟩)
    obtain ⟨x', hx', ex⟩ := List.mem_map.1 this
    exact r2 x' hx' ((congrArg Prod.fst ex).trans (ek_of_kk C e))
  · have hm : (e0.key, e0.val) ∈ l.map fun x => (ek x, ev x) := h3.mem_iff.1 (List.mem_map.2 ⟨e0, List.mem_of_getElem? r2, rfl⟩)
    obtain ⟨p, hp, ep⟩ := List.mem_map.1 hm
    have e1 : ek p = ek x := (congrArg Prod.fst ep).trans r3
    have e2 : e0.val = ev p := (congrArg Prod.snd ep).symm
    exact .inr ⟨p, hp, C.ekk _ _ e1, by simp [Instr.lookup, run_underlying ht, MapKept.run_getObj_map hb, K.check w _ (C.key x), r1, e2, Result.andThen]⟩

/-- 'm[k] = v', of a key that is not there -/
theorem MapG.push (C : Coded P k ek ev kk cc) (h : MapG ek ev kk w b l) (ht : P.underlying t = some (.map k e)) (x : α) (ha : ∀ y ∈ l, kk y ≠ kk x) (hroom : l.length + 1 < maxLen) :
    ∃ o, (Instr.mapUpdate t (.map (some b)) (ek x) (ev x)).run P w = .ok () (setBlock w b o) ∧ MapG ek ev kk (setBlock w b o) b (x :: l) := by
  obtain ⟨es, clock, hb, h2, h3⟩ := h.ex
  have K := C.keyed
  rcases K.find w (C.key x) es.toList (MapG.keysOf C h3) with ⟨r1, r2⟩ | ⟨j, e0, r1, r2, r3⟩
  · refine ⟨.map (es.push ⟨ek x, ev x, clock⟩) (clock + 1), ?_, ⟨⟨_, _, heap_setBlock_same hb _, stamped_push h2 r2, ?_⟩, ?_, by simpa using hroom⟩⟩
    · simp [Instr.mapUpdate, run_underlying ht, MapKept.run_getObj_map hb, K.check w false (C.key x), r1, MapKept.run_setObj_map _ hb, Result.andThen, setBlock]
    · rw [Array.toList_push, List.map_append, List.map_singleton, List.map_cons]
      exact (List.perm_append_singleton _ _).trans (List.Perm.cons _ h3)
    · rw [List.map_cons, List.nodup_cons]
      refine ⟨fun hm => ?_, h.nd⟩
      obtain ⟨y, hy, e⟩ := List.mem_map.1 hm
      exact ha y hy e
  · exfalso
    have hm : (e0.key, e0.val) ∈ l.map fun x => (ek x, ev x) := h3.mem_iff.1 (List.mem_map.2 ⟨e0, List.mem_of_getElem? r2, rfl⟩)
    obtain ⟨p, hp, ep⟩ := List.mem_map.1 hm
    exact ha p hp (C.ekk _ _ ((congrArg Prod.fst ep).trans r3))

/-! ### the entries, one after the other -/
/-- how an element reads: by the text that tells it -/
noncomputable def rdG {H : Type} (ev : α → Value) (cc : α → List UInt8) (v : Value) : Option (DataW H × List MemPlace) :=
  open Classical in if h : ∃ x, v = ev x then some (.lit (.string (cc h.choose)), []) else none
theorem rdG_mk {H : Type} (hc : ∀ x y, ev x = ev y ↔ cc x = cc y) (x : α) : rdG (H := H) ev cc (ev x) = some (.lit (.string (cc x)), []) := by
  unfold rdG
  have h : ∃ y, ev x = ev y := ⟨x, rfl⟩
  rw [dif_pos h, (hc _ _).1 h.choose_spec.symm]
theorem rdG_inv {H : Type} (hc : ∀ x y, ev x = ev y ↔ cc x = cc y) {v : Value} {y : DataW H × List MemPlace} (h : rdG ev cc v = some y) : ∃ x, v = ev x ∧ y = (.lit (.string (cc x)), []) := by
  have h0 := h
  unfold rdG at h
  split at h
  · rename_i hx
    obtain ⟨x, rfl⟩ := hx
    rw [rdG_mk hc] at h0
    exact ⟨x, rfl, (Option.some.inj h0).symm⟩
  · cases h

theorem MapG.owns {H : Type} (C : Coded P k ek ev kk cc) (h : MapG ek ev kk w b l) : ∃ D0 : DataW H, w.ownsMap P k (rdG ev cc) b l.length D0 := by
  obtain ⟨es, clock, hb, h2, h3⟩ := h.ex
  have hl : es.size = l.length := by have := h3.length_eq; simpa using this
  refine ⟨_, es, clock, hb, ⟨by rw [hl]; exact Nat.le_of_lt h.size, h2, fun x hx => ?_⟩, Nat.le_of_eq hl, rfl⟩
  obtain ⟨kl, hkey⟩ := MapG.keysOf C h3 x hx
  have hm : (x.key, x.val) ∈ l.map fun x => (ek x, ev x) := h3.mem_iff.1 (List.mem_map.2 ⟨x, hx, rfl⟩)
  obtain ⟨p, hp, ep⟩ := List.mem_map.1 hm
  have e2 : x.val = ev p := (congrArg Prod.snd ep).symm
  exact ⟨_, WideElems.rd_mk hkey (by rw [e2]; exact rdG_mk C.code _)⟩

/-- the entry that a key and what is told of it belong to -/
theorem MapG.entry {H : Type} {n : Nat} {D0 : DataW H} (C : Coded P k ek ev kk cc) (h : MapG ek ev kk w b l) (ho : w.ownsMap P k (rdG ev cc) b n D0) (ht : P.underlying t = some (.map k e)) {z : Value} (hz : (zeroValue e).run P w = .ok z w)
    {x v : Value} {kl : Lit} {y : DataW H × List MemPlace} (hkey : keyOf P k x = some kl) (hR : rdG ev cc v = some y) (hat : ∀ zd, D0.atKey kl zd = y.1) : ∃ p ∈ l, x = ek p ∧ v = ev p ∧ kl = .string (kk p) := by
  obtain ⟨es, clock, hb, F, _, rfl⟩ := ho
  obtain ⟨es', clock', hb', _, h3⟩ := h.ex
  obtain ⟨rfl, rfl⟩ : es = es' ∧ clock = clock' := by
    rw [hb] at hb'
    injection hb' with hb'
    injection hb' with h1 h2
    exact ⟨h1, h2⟩
  rcases Maps.fit_look false C.keyed ht hz hb F hkey with ⟨_, _, hat'⟩ | ⟨e0, y', hm0, hk0, _, hRv, hat', _⟩
  · exfalso
    have a := hat (.lit (.bool true))
    have b := hat (.lit (.bool false))
    rw [hat'] at a b
    rw [← b] at a
    cases a
  · have hm : (e0.key, e0.val) ∈ l.map fun x => (ek x, ev x) := h3.mem_iff.1 (List.mem_map.2 ⟨e0, hm0, rfl⟩)
    obtain ⟨p, hp, ep⟩ := List.mem_map.1 hm
    have e1 : ek p = x := (congrArg Prod.fst ep).trans hk0
    have e2 : ev p = e0.val := congrArg Prod.snd ep
    rw [← e2, rdG_mk C.code] at hRv
    obtain ⟨q, rfl, rfl⟩ := rdG_inv C.code hR
    have a := (hat' (.lit (.bool true))).symm.trans (hat (.lit (.bool true)))
    rw [← Option.some.inj hRv] at a
    injection a with a
    injection a with a
    refine ⟨p, hp, e1.symm, ((C.code _ _).2 a).symm, ?_⟩
    rw [← e1, C.key] at hkey
    exact (Option.some.inj hkey).symm
theorem MapG.has_key {H : Type} {n : Nat} {D0 : DataW H} (C : Coded P k ek ev kk cc) (h : MapG ek ev kk w b l) (ho : w.ownsMap P k (rdG ev cc) b n D0) (ht : P.underlying t = some (.map k e)) {z : Value} (hz : (zeroValue e).run P w = .ok z w) {p : α} (hp : p ∈ l) : has D0 (.string (kk p)) = true := by
  obtain ⟨es, clock, hb, F, _, rfl⟩ := ho
  obtain ⟨es', clock', hb', _, h3⟩ := h.ex
  obtain ⟨rfl, rfl⟩ : es = es' ∧ clock = clock' := by
    rw [hb] at hb'
    injection hb' with hb'
    injection hb' with h1 h2
    exact ⟨h1, h2⟩
  rcases Maps.fit_look false C.keyed ht hz hb F (C.key p) with ⟨_, hno, _⟩ | ⟨e0, z, _, _, _, _, hat', _⟩
  · exfalso
    have : (ek p, ev p) ∈ es.toList.map fun e => (e.key, e.val) := h3.mem_iff.2 (List.mem_map.2 ⟨p, hp, rfl⟩)
    obtain ⟨x', hx', ex⟩ := List.mem_map.1 this
    exact hno x' hx' (congrArg Prod.fst ex)
  · exact has_true_of_atKey hat'
/-- one entry a key -/
theorem MapG.uniq (h : MapG ek ev kk w b l) : ∀ a ∈ l, ∀ b ∈ l, kk a = kk b → a = b := by
  intro a ha b hb e
  obtain ⟨i, hi, rfl⟩ := List.getElem_of_mem ha
  obtain ⟨j, hj, rfl⟩ := List.getElem_of_mem hb
  have hil : i < (l.map kk).length := by simpa using hi
  have : i = j := (List.getElem?_inj hil h.nd).1 (by rw [List.getElem?_map, List.getElem?_map, List.getElem?_eq_getElem hi, List.getElem?_eq_getElem hj]; exact congrArg some e)
  subst this; rfl
/-- when none is left all have come -/
theorem MapG.all_come {H : Type} {n : Nat} {D0 : DataW H} (C : Coded P k ek ev kk cc) (h : MapG ek ev kk w b l) (ho : w.ownsMap P k (rdG ev cc) b n D0) (ht : P.underlying t = some (.map k e)) {z : Value} (hz : (zeroValue e).run P w = .ok z w)
    {left : Lit → Bool} {ps : List α} (hC : Collected D0 left (ps.map kk)) (hl : ∀ kl, left kl = false) (hV : ∀ p ∈ ps, p ∈ l) : ps.Perm l := by
  have inj := h.uniq
  have n1 : ps.Nodup := List.Pairwise.imp (fun h e => h (by rw [e])) (List.pairwise_map.1 hC.1)
  have n2 : l.Nodup := List.Pairwise.imp (fun h e => h (by rw [e])) (List.pairwise_map.1 h.nd)
  rw [List.perm_ext_iff_of_nodup n1 n2]
  refine fun x => ⟨hV x, fun hx => ?_⟩
  have hm : kk x ∈ ps.map kk := (hC.2 _).2 ⟨h.has_key C ho ht hz hx, hl _⟩
  obtain ⟨p, hp, e⟩ := List.mem_map.1 hm
  rw [← inj p (hV p hp) x hx e]
  exact hp
end
end Go.Proofs.YtacfdnjdjgdbcaaDoor
