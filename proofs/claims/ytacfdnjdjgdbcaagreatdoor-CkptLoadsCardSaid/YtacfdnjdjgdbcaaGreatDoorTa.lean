/- MapG, TabA, TabB, in one text. -/
import Derived.Maps.Keyed
import Derived.Maps.OwnSet
import Derived.OwnWalk
import Derived.Below
import Derived.Sort.MapsRangeIn
import Derived.Sort.KeysCollected
import Derived.Test.YtacfdnjdjgdbcaaGreatDoorKl
import Derived.WideKeyArr
import Derived.DeepKeys3
import Derived.Test.YtacfdnjdjgdbcaaGreatDoorHm
import Derived.Deep.RegionHeld3
import Derived.Deep.RegionWith
namespace Go.Proofs.YtacfdnjdjgdbcaaGreatDoor
set_option maxRecDepth 100000
open Go.RowKit Go.ChangeMaps Go.MapKept Go.Maps Go.Sort

/-- how an entry's key and element are read off what stands for it; kk: the key's bytes, cc: a text that tells the element -/
structure Coded (P : Program) (k : TypeId) {α : Type} (ek ev : α → Value) (kk cc : α → List UInt8) : Prop where
  keyed : Keyed P k
  key : ∀ x, keyOf P k (ek x) = some (.string (kk x))
  ekk : ∀ x y, ek x = ek y → kk x = kk y
  code : ∀ x y, ev x = ev y ↔ cc x = cc y

/-- block b is a map that has l -/
structure MapG {α : Type} (ek ev : α → Value) (kk : α → List UInt8) (w : World) (b : Nat) (l : List α) : Prop where
  ex : ∃ es clock, w.heap[b]? = some (.map es clock) ∧ Stamped es clock ∧ (es.toList.map fun e => (e.key, e.val)).Perm (l.map fun x => (ek x, ev x))
  nd : (l.map kk).Nodup
  size : l.length < maxLen

section
variable {α : Type} {ek ev : α → Value} {kk cc : α → List UInt8} {P : Program} {k t e : TypeId} {w : World} {b : Nat} {l : List α}

theorem MapG.lt (h : MapG ek ev kk w b l) : b < w.heap.size := by
  obtain ⟨es, clock, hb, _⟩ := h.ex
  exact (Array.getElem?_eq_some_iff.1 hb).1
theorem MapG.keep {w' : World} (h : MapG ek ev kk w b l) (e : w'.heap[b]? = w.heap[b]?) : MapG ek ev kk w' b l := by
  obtain ⟨es, clock, hb, h2, h3⟩ := h.ex
  exact ⟨⟨es, clock, e.trans hb, h2, h3⟩, h.nd, h.size⟩
theorem mapG_new (w : World) : MapG ek ev kk (w.alloc (.map #[] 0)) w.heap.size [] :=
  ⟨⟨#[], 0, (MapKept.heap_alloc w _).1, stamped_empty 0, by simp⟩, by simp, by simp [maxLen]⟩

theorem MapG.keysOf (C : Coded P k ek ev kk cc) {es : Array MapEntry} (h3 : (es.toList.map fun e => (e.key, e.val)).Perm (l.map fun x => (ek x, ev x))) :
    ∀ x ∈ es.toList, ∃ kl, keyOf P k x.key = some kl := by
  intro x hx
  have hm : (x.key, x.val) ∈ l.map fun x => (ek x, ev x) := h3.mem_iff.1 (List.mem_map.2 ⟨x, hx, rfl⟩)
  obtain ⟨p, hp, e⟩ := List.mem_map.1 hm
  have e1 : x.key = ek p := (congrArg Prod.fst e).symm
  rw [e1]
  exact ⟨_, C.key p⟩
theorem kk_of_ek (C : Coded P k ek ev kk cc) {x y : α} (h : ek x = ek y) : kk x = kk y := C.ekk x y h
theorem ek_of_kk (C : Coded P k ek ev kk cc) {x y : α} (h : kk x = kk y) : ek x = ek y := C.keyed.inj (C.key x) (by rw [h]; exact C.key y)

/-- 'v, ok := m[k]' -/
theorem MapG.look (C : Coded P k ek ev kk cc) (h : MapG ek ev kk w b l) (ht : P.underlying t = some (.map k e)) {z : Value} (hz : (zeroValue e).run P w = .ok z w) (x : α) :
    ((∀ y ∈ l, kk y ≠ kk x) ∧ (Instr.lookup t (.map (some b)) (ek x) true).run P w = .ok (.tuple #[z, .bool false]) w) ∨
    ∃ y ∈ l, kk y = kk x ∧ (Instr.lookup t (.map (some b)) (ek x) true).run P w = .ok (.tuple #[ev y, .bool true]) w := by
  obtain ⟨es, clock, hb, h2, h3⟩ := h.ex
  have K := C.keyed
  rcases K.find w (C.key x) es.toList (MapG.keysOf C h3) with ⟨r1, r2⟩ | ⟨j, e0, r1, r2, r3⟩
  · refine .inl ⟨fun y hy e => ?_, by simp [Instr.lookup, run_underlying ht, MapKept.run_getObj_map hb, K.check w _ (C.key x), r1, hz, Result.andThen]⟩
    have : (ek y, ev y) ∈ es.toList.map fun e => (e.key, e.val) := h3.mem_iff.2 (List.mem_map.2 ⟨y, hy, rfl⟩)
    obtain ⟨x', hx', ex⟩ := List.mem_map.1 this
    exact r2 x' hx' ((congrArg Prod.fst ex).trans (ek_of_kk C e))
  · have hm : (e0.key, e0.val) ∈ l.map fun x => (ek x, ev x) := h3.mem_iff.1 (List.mem_map.2 ⟨e0, List.mem_of_getElem? r2, rfl⟩)
    obtain ⟨p, hp, ep⟩ := List.mem_map.1 hm
    have e1 : ek p = ek x := (congrArg Prod.fst ep).trans r3
    have e2 : e0.val = ev p := (congrArg Prod.snd ep).symm
    exact .inr ⟨p, hp, C.ekk _ _ e1, by simp [Instr.lookup, run_underlying ht, MapKept.run_getObj_map hb, K.check w _ (C.key x), r1, e2, Result.andThen]⟩

/-- 'm[k] = v', of a key that is not there -/
theorem MapG.push (C : Coded P k ek ev kk cc) (h : MapG ek ev kk w b l) (ht : P.underlying t = some (.map k e)) (x : α) (ha : ∀ y ∈ l, kk y ≠ kk x) (hroom : l.length + 1 < maxLen) :
    ∃ o, (Instr.mapUpdate t (.map (some b)) (ek x) (ev x)).run P w = .ok () (setBlock w b o) ∧ MapG ek ev kk (setBlock w b o) b (x :: l) := by
  obtain ⟨es, clock, hb, h2, h3⟩ := h.ex
  have K := C.keyed
  rcases K.find w (C.key x) es.toList (MapG.keysOf C h3) with ⟨r1, r2⟩ | ⟨j, e0, r1, r2, r3⟩
  · refine ⟨.map (es.push ⟨ek x, ev x, clock⟩) (clock + 1), ?_, ⟨⟨_, _, heap_setBlock_same hb _, stamped_push h2 r2, ?_⟩, ?_, by simpa using hroom⟩⟩
    · simp [Instr.mapUpdate, run_underlying ht, MapKept.run_getObj_map hb, K.check w false (C.key x), r1, MapKept.run_setObj_map _ hb, Result.andThen, setBlock]
    · rw [Array.toList_push, List.map_append, List.map_singleton, List.map_cons]
      exact (List.perm_append_singleton _ _).trans (List.Perm.cons _ h3)
    · rw [List.map_cons, List.nodup_cons]
      refine ⟨fun hm => ?_, h.nd⟩
      obtain ⟨y, hy, e⟩ := List.mem_map.1 hm
      exact ha y hy e
  · exfalso
    have hm : (e0.key, e0.val) ∈ l.map fun x => (ek x, ev x) := h3.mem_iff.1 (List.mem_map.2 ⟨e0, List.mem_of_getElem? r2, rfl⟩)
    obtain ⟨p, hp, ep⟩ := List.mem_map.1 hm
    exact ha p hp (C.ekk _ _ ((congrArg Prod.fst ep).trans r3))

/-! ### the entries, one after the other -/
/-- how an element reads: by the text that tells it -/
noncomputable def rdG {H : Type} (ev : α → Value) (cc : α → List UInt8) (v : Value) : Option (DataW H × List MemPlace) :=
  open Classical in if h : ∃ x, v = ev x then some (.lit (.string (cc h.choose)), []) else none
theorem rdG_mk {H : Type} (hc : ∀ x y, ev x = ev y ↔ cc x = cc y) (x : α) : rdG (H := H) ev cc (ev x) = some (.lit (.string (cc x)), []) := by
  unfold rdG
  have h : ∃ y, ev x = ev y := ⟨x, rfl⟩
  rw [dif_pos h, (hc _ _).1 h.choose_spec.symm]
theorem rdG_inv {H : Type} (hc : ∀ x y, ev x = ev y ↔ cc x = cc y) {v : Value} {y : DataW H × List MemPlace} (h : rdG ev cc v = some y) : ∃ x, v = ev x ∧ y = (.lit (.string (cc x)), []) := by
  have h0 := h
  unfold rdG at h
  split at h
  · rename_i hx
    obtain ⟨x, rfl⟩ := hx
    rw [rdG_mk hc] at h0
    exact ⟨x, rfl, (Option.some.inj h0).symm⟩
  · cases h

theorem MapG.owns {H : Type} (C : Coded P k ek ev kk cc) (h : MapG ek ev kk w b l) : ∃ D0 : DataW H, w.ownsMap P k (rdG ev cc) b l.length D0 := by
  obtain ⟨es, clock, hb, h2, h3⟩ := h.ex
  have hl : es.size = l.length := by have := h3.length_eq; simpa using this
  refine ⟨_, es, clock, hb, ⟨by rw [hl]; exact Nat.le_of_lt h.size, h2, fun x hx => ?_⟩, Nat.le_of_eq hl, rfl⟩
  obtain ⟨kl, hkey⟩ := MapG.keysOf C h3 x hx
  have hm : (x.key, x.val) ∈ l.map fun x => (ek x, ev x) := h3.mem_iff.1 (List.mem_map.2 ⟨x, hx, rfl⟩)
  obtain ⟨p, hp, ep⟩ := List.mem_map.1 hm
  have e2 : x.val = ev p := (congrArg Prod.snd ep).symm
  exact ⟨_, WideElems.rd_mk hkey (by rw [e2]; exact rdG_mk C.code _)⟩

/-- the entry that a key and what is told of it belong to -/
theorem MapG.entry {H : Type} {n : Nat} {D0 : DataW H} (C : Coded P k ek ev kk cc) (h : MapG ek ev kk w b l) (ho : w.ownsMap P k (rdG ev cc) b n D0) (ht : P.underlying t = some (.map k e)) {z : Value} (hz : (zeroValue e).run P w = .ok z w)
    {x v : Value} {kl : Lit} {y : DataW H × List MemPlace} (hkey : keyOf P k x = some kl) (hR : rdG ev cc v = some y) (hat : ∀ zd, D0.atKey kl zd = y.1) : ∃ p ∈ l, x = ek p ∧ v = ev p ∧ kl = .string (kk p) := by
  obtain ⟨es, clock, hb, F, _, rfl⟩ := ho
  obtain ⟨es', clock', hb', _, h3⟩ := h.ex
  obtain ⟨rfl, rfl⟩ : es = es' ∧ clock = clock' := by
    rw [hb] at hb'
    injection hb' with hb'
    injection hb' with h1 h2
    exact ⟨h1, h2⟩
  rcases Maps.fit_look false C.keyed ht hz hb F hkey with ⟨_, _, hat'⟩ | ⟨e0, y', hm0, hk0, _, hRv, hat', _⟩
  · exfalso
    have a := hat (.lit (.bool true))
    have b := hat (.lit (.bool false))
    rw [hat'] at a b
    rw [← b] at a
    cases a
  · have hm : (e0.key, e0.val) ∈ l.map fun x => (ek x, ev x) := h3.mem_iff.1 (List.mem_map.2 ⟨e0, hm0, rfl⟩)
    obtain ⟨p, hp, ep⟩ := List.mem_map.1 hm
    have e1 : ek p = x := (congrArg Prod.fst ep).trans hk0
    have e2 : ev p = e0.val := congrArg Prod.snd ep
    rw [← e2, rdG_mk C.code] at hRv
    obtain ⟨q, rfl, rfl⟩ := rdG_inv C.code hR
    have a := (hat' (.lit (.bool true))).symm.trans (hat (.lit (.bool true)))
    rw [← Option.some.inj hRv] at a
    injection a with a
    injection a with a
    refine ⟨p, hp, e1.symm, ((C.code _ _).2 a).symm, ?_⟩
    rw [← e1, C.key] at hkey
    exact (Option.some.inj hkey).symm
theorem MapG.has_key {H : Type} {n : Nat} {D0 : DataW H} (C : Coded P k ek ev kk cc) (h : MapG ek ev kk w b l) (ho : w.ownsMap P k (rdG ev cc) b n D0) (ht : P.underlying t = some (.map k e)) {z : Value} (hz : (zeroValue e).run P w = .ok z w) {p : α} (hp : p ∈ l) : has D0 (.string (kk p)) = true := by
  obtain ⟨es, clock, hb, F, _, rfl⟩ := ho
  obtain ⟨es', clock', hb', _, h3⟩ := h.ex
  obtain ⟨rfl, rfl⟩ : es = es' ∧ clock = clock' := by
    rw [hb] at hb'
    injection hb' with hb'
    injection hb' with h1 h2
    exact ⟨h1, h2⟩
  rcases Maps.fit_look false C.keyed ht hz hb F (C.key p) with ⟨_, hno, _⟩ | ⟨e0, z, _, _, _, _, hat', _⟩
  · exfalso
    have : (ek p, ev p) ∈ es.toList.map fun e => (e.key, e.val) := h3.mem_iff.2 (List.mem_map.2 ⟨p, hp, rfl⟩)
    obtain ⟨x', hx', ex⟩ := List.mem_map.1 this
    exact hno x' hx' (congrArg Prod.fst ex)
  · exact has_true_of_atKey hat'
/-- one entry a key -/
theorem MapG.uniq (h : MapG ek ev kk w b l) : ∀ a ∈ l, ∀ b ∈ l, kk a = kk b → a = b := by
  intro a ha b hb e
  obtain ⟨i, hi, rfl⟩ := List.getElem_of_mem ha
  obtain ⟨j, hj, rfl⟩ := List.getElem_of_mem hb
  have hil : i < (l.map kk).length := by simpa using hi
  have : i = j := (List.getElem?_inj hil h.nd).1 (by rw [List.getElem?_map, List.getElem?_map, List.getElem?_eq_getElem hi, List.getElem?_eq_getElem hj]; exact congrArg some e)
  subst this; rfl
/-- when none is left all have come -/
theorem MapG.all_come {H : Type} {n : Nat} {D0 : DataW H} (C : Coded P k ek ev kk cc) (h : MapG ek ev kk w b l) (ho : w.ownsMap P k (rdG ev cc) b n D0) (ht : P.underlying t = some (.map k e)) {z : Value} (hz : (zeroValue e).run P w = .ok z w)
    {left : Lit → Bool} {ps : List α} (hC : Collected D0 left (ps.map kk)) (hl : ∀ kl, left kl = false) (hV : ∀ p ∈ ps, p ∈ l) : ps.Perm l := by
  have inj := h.uniq
  have n1 : ps.Nodup := List.Pairwise.imp (fun h e => h (by rw [e])) (List.pairwise_map.1 hC.1)
  have n2 : l.Nodup := List.Pairwise.imp (fun h e => h (by rw [e])) (List.pairwise_map.1 h.nd)
  rw [List.perm_ext_iff_of_nodup n1 n2]
  refine fun x => ⟨hV x, fun hx => ?_⟩
  have hm : kk x ∈ ps.map kk := (hC.2 _).2 ⟨h.has_key C ho ht hz hx, hl _⟩
  obtain ⟨p, hp, e⟩ := List.mem_map.1 hm
  rw [← inj p (hV p hp) x hx e]
  exact hp
end
end Go.Proofs.YtacfdnjdjgdbcaaGreatDoor
namespace Go.Proofs.YtacfdnjdjgdbcaaGreatDoor
set_option maxRecDepth 100000
open Go.RowKit Go.Maps Go.Sort M

/-- an entry: a name of 32 bytes, and a text -/
structure Ent where
  key : List Nat
  text : ByteArray
  kl : key.length = 32
  kb : ∀ d ∈ key, d < 256
theorem Ent.eq {x y : Ent} (h1 : x.key = y.key) (h2 : x.text = y.text) : x = y := by
  cases x; cases y; simp at h1 h2; subst h1; subst h2; rfl
def encE (x : Ent) : List Value := byts x.key ++ [.string x.text]
theorem encE_len (x : Ent) : (encE x).length = 33 := by simp [encE, byts_length, x.kl]
def ekE (x : Ent) : Value := .agg (byts x.key).toArray
def evE (x : Ent) : Value := .agg (encE x).toArray
def kkE (x : Ent) : List UInt8 := u8l x.key
def ccE (x : Ent) : List UInt8 := u8l x.key ++ x.text.data.toList

theorem byts_inj : ∀ {l m : List Nat}, byts l = byts m → l = m
  | [], [], _ => rfl
  | [], _ :: _, h => by simp [byts] at h
  | _ :: _, [], h => by simp [byts] at h
  | a :: l, b :: m, h => by
    have h : Value.int .u8 ((a : Nat) : Int) :: byts l = Value.int .u8 ((b : Nat) : Int) :: byts m := h
    injection h with h1 h2
    injection h1 with _ h1
    rw [Int.ofNat.inj h1, byts_inj h2]
theorem u8l_inj : ∀ {l m : List Nat}, (∀ d ∈ l, d < 256) → (∀ d ∈ m, d < 256) → u8l l = u8l m → l = m
  | [], [], _, _, _ => rfl
  | [], _ :: _, _, _, h => by simp [u8l] at h
  | _ :: _, [], _, _, h => by simp [u8l] at h
  | a :: l, b :: m, hl, hm, h => by
    have h : UInt8.ofNat a :: u8l l = UInt8.ofNat b :: u8l m := h
    injection h with h1 h2
    have ha := hl a (by simp)
    have hb := hm b (by simp)
    have e : a = b := by
      have := congrArg UInt8.toNat h1
      simpa [UInt8.toNat_ofNat', Nat.mod_eq_of_lt ha, Nat.mod_eq_of_lt hb] using this
    rw [e, u8l_inj (fun d hd => hl d (by simp [hd])) (fun d hd => hm d (by simp [hd])) h2]
theorem kkE_eq {x y : Ent} (h : kkE x = kkE y) : x.key = y.key := u8l_inj x.kb y.kb h
theorem ccE_eq {x y : Ent} (h : ccE x = ccE y) : x = y := by
  have h1 := List.append_inj h (by simp [u8l, x.kl, y.kl])
  exact Ent.eq (kkE_eq h1.1) (ByteArray.ext (Array.toList_inj.1 h1.2))
theorem ekE_eq {x y : Ent} (h : ekE x = ekE y) : x.key = y.key := by
  unfold ekE at h
  injection h with h
  exact byts_inj (by simpa using congrArg Array.toList h)
theorem encE_eq {x y : Ent} (h : encE x = encE y) : x = y := by
  have h1 := List.append_inj h (by simp [byts_length, x.kl, y.kl])
  have h2 : Value.string x.text = Value.string y.text := by simpa using h1.2
  injection h2 with h2
  exact Ent.eq (byts_inj h1.1) h2
theorem evE_eq {x y : Ent} (h : evE x = evE y) : x = y := by
  unfold evE at h
  injection h with h
  exact encE_eq (by simpa using congrArg Array.toList h)

theorem mapM_some {β γ : Type} {f : β → Option γ} {g : β → γ} : ∀ (xs : List β), (∀ x ∈ xs, f x = some (g x)) → xs.mapM f = some (xs.map g)
  | [], _ => rfl
  | x :: xs, h => by
    rw [List.mapM_cons, h x (by simp), mapM_some xs (fun y hy => h y (by simp [hy]))]
    rfl
theorem flat_sing {β γ : Type} (f : β → γ) : ∀ xs : List β, (xs.map fun i => [f i]).flatten = xs.map f
  | [] => rfl
  | x :: xs => by rw [List.map_cons, List.flatten_cons, flat_sing f xs]; rfl
theorem cells_hash : Tryz.prog.cellsOf 24 = 32 := by kernel_rfl
theorem cells_u8 : Tryz.prog.cellsOf 5 = 1 := by kernel_rfl
theorem keyLits_hash (d : Nat) (l : List Nat) (h : l.length = 32) (hb : ∀ x ∈ l, x < 256) : Tryz.prog.keyLits (d + 2) 24 (byts l) = some (l.map fun n => Lit.int .u8 ((n : Nat) : Int)) := by
  unfold Program.keyLits
  rw [Tryz.underlying24]
  simp only [cells_hash, cells_u8]
  rw [if_pos (by rw [byts_length, h])]
  rw [mapM_some (g := fun i => [Lit.int .u8 ((l.getD i 0 : Nat) : Int)]) _ (fun i hi => by
    have hi : i < 32 := by simpa using hi
    have hil : i < l.length := by omega
    have e : ((byts l).drop (i * 1)).take 1 = [Value.int .u8 ((l.getD i 0 : Nat) : Int)] := by
      rw [Nat.mul_one, List.drop_eq_getElem_cons (by rw [byts_length]; exact hil)]
      simp [byts, hil]
    rw [e]
    unfold Program.keyLits
    rw [Tryz.underlying5]
    have hx : l.getD i 0 < 256 := by
      rw [List.getD, List.getElem?_eq_getElem hil]
      exact hb _ (List.getElem_mem _)
    obtain ⟨v, hv⟩ : ∃ v, v = l.getD i 0 := ⟨_, rfl⟩
    rw [← hv] at hx ⊢
    have w : (Lit.int .u8 ((v : Nat) : Int)).wf = true := by
      simp only [Lit.wf, IntKind.min, IntKind.max, IntKind.signed, IntKind.bits]
      simp
      omega
    simp only []
    rw [if_pos ⟨trivial, w⟩])]
  rw [Option.map_some]
  congr 1
  rw [flat_sing]
  apply List.ext_getElem
  · simp [h]
  · intro i h1 h2
    have hil : i < l.length := by simpa using h2
    simp [hil]
theorem hashKey : WideMaps.ArrKey Tryz.prog 24 5 32 := ⟨Tryz.underlying24, by kernel_rfl, cells_u8, cells_hash⟩
theorem types_some : ∃ m, Tryz.prog.types.size = m + 1 := ⟨Tryz.prog.types.size - 1, by have : 0 < Tryz.prog.types.size := of_decide_eq_true (by kernel_rfl); omega⟩
theorem keyOf_hash (x : Ent) : keyOf Tryz.prog 24 (ekE x) = some (.string (kkE x)) := by
  unfold keyOf
  rw [Tryz.underlying24]
  obtain ⟨m, hm⟩ := types_some
  have hf : (Value.agg (byts x.key).toArray).formed Tryz.prog 24 = true := by
    simp only [Value.formed, Tryz.underlying24, cells_hash]
    simp [byts_length, x.kl]
  show (if (Tryz.prog.keyType 24 && (Value.agg (byts x.key).toArray).formed Tryz.prog 24) = true then _ else none) = _
  rw [hf, hashKey.keyType ⟨m, hm⟩, hm]
  have hc : (Value.agg (byts x.key).toArray).cells.toList = byts x.key := by simp [Value.cells]
  simp only [Bool.and_self, if_true]
  show Option.map _ (Tryz.prog.keyLits (m + 2) _ (Value.agg (byts x.key).toArray).cells.toList) = _
  rw [hc, keyLits_hash _ _ x.kl x.kb, Option.map_some]
  congr 2
  unfold keyBytes kkE u8l
  rw [List.flatMap_map]
  have : ∀ l : List Nat, (∀ d ∈ l, d < 256) → l.flatMap (fun n => (Lit.int .u8 ((n : Nat) : Int)).keyBytes) = l.map UInt8.ofNat := by
    intro l
    induction l with
    | nil => intro _; rfl
    | cons a l ih =>
      intro h
      have ha := h a (by simp)
      rw [List.flatMap_cons, List.map_cons, ih (fun d hd => h d (by simp [hd]))]
      have e : ((a : Int) % 2 ^ IntKind.u8.bits).toNat = a := by
        show ((a : Int) % 2 ^ 8).toNat = a
        omega
      simp only [Lit.keyBytes, e]
      have e2 : IntKind.u8.bits / 8 = 1 := rfl
      rw [e2]
      simp [bytesBE, bytesLE, Nat.mod_eq_of_lt ha]
  exact this _ x.kb
theorem codedE : Coded Tryz.prog 24 ekE evE kkE ccE :=
  ⟨Keyed.of_law hashKey.law, keyOf_hash, fun x y h => by unfold kkE; rw [ekE_eq h], fun x y => ⟨fun h => by rw [evE_eq h], fun h => by rw [ccE_eq h]⟩⟩
abbrev MapE := MapG ekE evE kkE
end Go.Proofs.YtacfdnjdjgdbcaaGreatDoor
namespace Go.Proofs.YtacfdnjdjgdbcaaGreatDoor
set_option maxRecDepth 100000
open Go.RowKit Go.Maps Go.Sort M

/-- the table at block b has the entries l, in map mo -/
structure Tab (w : World) (b : Nat) (mo : Option Nat) (l : List Ent) : Prop where
  cell : w.cell? ⟨b, 0, none⟩ = some (.map mo)
  fr : w.frozen? ⟨b, 0, none⟩ = false
  empt : mo = none → l = []
  mapd : ∀ m, mo = some m → m ≠ b ∧ MapE w m l
theorem Tab.lt {w : World} {b : Nat} {mo : Option Nat} {l : List Ent} (h : Tab w b mo l) : b < w.heap.size := World.block_lt_of_cell? w _ h.cell
theorem zero_entry (w : World) : (zeroValue 86).run Tryz.prog w = .ok (.agg (List.replicate 32 (Value.int .u8 0) ++ [Value.string ⟨#[]⟩]).toArray) w := by kernel_rfl
/-- what a look-up tells -/
theorem Tab.look {w : World} {b : Nat} {mo : Option Nat} {l : List Ent} (h : Tab w b mo l) (x : Ent) :
    ((∀ y ∈ l, kkE y ≠ kkE x) ∧ (Instr.lookup 76 (.map mo) (ekE x) true).run Tryz.prog w = .ok (.tuple #[.agg (List.replicate 32 (Value.int .u8 0) ++ [Value.string ⟨#[]⟩]).toArray, .bool false]) w) ∨
    ∃ y ∈ l, kkE y = kkE x ∧ (Instr.lookup 76 (.map mo) (ekE x) true).run Tryz.prog w = .ok (.tuple #[evE y, .bool true]) w := by
  cases mo with
  | none =>
    have e := h.empt rfl
    subst e
    refine .inl ⟨fun y hy => by simp at hy, ?_⟩
    have K := (codedE).keyed
    rcases K.find w (keyOf_hash x) [] (by simp) with ⟨r1, _⟩ | ⟨j, e0, _, r2, _⟩
    · have ez := zero_entry w
      simp [Instr.lookup, run_underlying Tryz.underlying76, K.check w _ (keyOf_hash x), r1, ez, Result.andThen]
    · simp at r2
  | some m => exact (h.mapd m rfl).2.look codedE Tryz.underlying76 (zero_entry w) x

theorem Tab.len {w : World} {b : Nat} {mo : Option Nat} {l : List Ent} (h : Tab w b mo l) (ty : TypeId) : (Builtin.len_ #[76] ty #[.map mo]).run Tryz.prog w = .ok (.int .i64 (l.length : Int)) w := by
  cases mo with
  | none =>
    have e := h.empt rfl
    subst e
    simp [Builtin.len_, run_underlying Tryz.underlying76, Result.andThen]
    rfl
  | some m =>
    obtain ⟨es, clock, hb, _, h3⟩ := (h.mapd m rfl).2.ex
    have hl : es.size = l.length := by have := h3.length_eq; simpa using this
    simp [Builtin.len_, run_underlying Tryz.underlying76, MapKept.run_getObj_map hb, Result.andThen, hl]
    rfl

theorem len_any (b : Nat) (mo : Option Nat) (l : List Ent) (w : World) (h : Tab w b mo l) : Calls Tryz.prog 32 #[.pointer (some ⟨b, 0, none⟩)] w fun e w' => e = .returned (.int .i64 (l.length : Int)) ∧ w = w' := by
  have c := h.cell
  have hl := h.len 3
  clear h
  go_enter Tryz.func32, Tryz.ntmps32
  go_wp2
  go_ret
  exact ⟨rfl, rfl⟩

theorem und_hash : Tryz.prog.underlying 24 = some (.array 32 5) := Tryz.underlying24
theorem info_hash : (Tryz.prog.info? 24).map (·.size) = some 32 := by kernel_rfl
theorem info_entry : (Tryz.prog.info? 86).map (·.size) = some 33 := by kernel_rfl
/-- what a table's look-up region needs of a world -/
structure LookS (w0 : World) (b : Nat) (mo : Option Nat) (c : Nat) (A : List Value) (W : World) : Prop where
  cell : W.cell? ⟨b, 0, none⟩ = some (.map mo)
  key : W.rangeAt c 0 A
  bel : Below w0.heap.size w0 W
theorem cell_new {w : World} {a : Addr} {v : Value} {o : Obj} (h : w.cell? a = some v) : (w.alloc o).cell? a = w.cell? a := World.cell?_alloc_some w a o (by rw [h]; rfl)
theorem rng_new {w : World} {b o : Nat} {cs : List Value} {x : Obj} (h : w.rangeAt b o cs) (_ : 0 ≤ w.heap.size) : (w.alloc x).rangeAt b o cs := fun j v hv => (cell_new (h j v hv)).trans (h j v hv)
theorem yields_lookup {ops : Array Oper} {S : World → Prop} {op : Oper} {a : Act} (hw : Region.wanted op (yielded ops a.tmps) = true) (t : TypeId) (x y : Operand) (ho : op.op = .lookup t x y true) (m k r : Value) (hx : a.eval x = m) (hy : a.eval y = k)
    (hS : ∀ w, S w → (Instr.lookup t m k true).run Tryz.prog w = .ok r w) : YieldsIf Tryz.prog ops S op r a :=
  .inl ⟨hw, fun w' hw' => by
    unfold execOp
    simp only [ho, hx, hy, Sem.run_bind, Sem.run_pure, Result.andThen_ok, hS w' hw']⟩

set_option maxHeartbeats 1000000 in
theorem getX_any (b : Nat) (mo : Option Nat) (A : List Value) (cs : List Value) (f : Bool) (w : World) (hA : A.length = 32) (hcs : cs.length = 33) (hc1 : ∀ v ∈ cs, v.oneCell' = true) (s : ByteArray) (hs : cs[32]? = some (.string s))
    (hc : (w.alloc (.cells A.toArray 24)).cell? ⟨b, 0, none⟩ = some (.map mo))
    (hl : ∀ W, Below w.heap.size w W → (Instr.lookup 76 (.map mo) (.agg A.toArray) true).run Tryz.prog W = .ok (.tuple #[.agg cs.toArray, .bool f]) W) : Calls Tryz.prog 31 #[.pointer (some ⟨b, 0, none⟩), .agg A.toArray] w fun e w' => e = .returned (.tuple #[.string s, .bool f]) ∧ Below w.heap.size w w' := by
  have hb : Below w.heap.size w (w.alloc (.cells A.toArray 24)) := (Below.refl _ _).alloc (Nat.le_refl _) _
  obtain ⟨W1, hW1⟩ : ∃ W1, W1 = w.alloc (.cells A.toArray 24) := ⟨_, rfl⟩
  have hk : W1.rangeAt w.heap.size 0 A := by rw [hW1]; exact range_new _ _ _ _ rfl
  rw [← hW1] at hc hb
  have HL := Box.mk hl
  clear hl
  go_enter Tryz.func31, Tryz.ntmps31
  go_upto_region 1 with fail
  rw [← hW1]
  clear hW1
  refine wp_region_held_drew (S := LookS w b mo w.heap.size A) (by kernel_rfl) ⟨hc, hk, hb.drew⟩ (fun hHeld => ?_)
  refine wpAnyH_take (i := 0) (v := (.pointer (some ⟨b, 0, none⟩))) rfl (by kernel_rfl) (by kernel_rfl) (by kernel_rfl) (fun _ _ _ h => h) (Or.inl ⟨by rfl, fun w' hw' => by have q := hw'.cell; go_simp; try rfl⟩) hHeld ?_
  refine wpAnyH_take (i := 1) (v := (.pointer (some ⟨b, 0, none⟩))) rfl (by kernel_rfl) (by kernel_rfl) (by kernel_rfl) (fun _ _ _ h => h) (Or.inl ⟨by rfl, fun w' hw' => by have q := hw'.cell; go_simp; try rfl⟩) hHeld ?_
  refine wpAnyH_take (i := 2) (v := (.pointer (some ⟨b, 0, none⟩))) rfl (by kernel_rfl) (by kernel_rfl) (by kernel_rfl) (fun _ _ _ h => h) (Or.inl ⟨by rfl, fun w' hw' => by have q := hw'.cell; go_simp; try rfl⟩) hHeld ?_
  refine wpAnyH_take (i := 3) (v := .map mo) rfl (by kernel_rfl) (by kernel_rfl) (by kernel_rfl) (fun _ _ _ h => h) (Or.inl ⟨by rfl, fun w' hw' => by have q := hw'.cell; go_simp; try rfl⟩) hHeld ?_
  refine wpAnyH_take (i := 4) (v := .agg A.toArray) rfl (by kernel_rfl) (by kernel_rfl) (by kernel_rfl) (fun _ _ _ h => h) (yieldsIf_load_mid (by rfl) 24 (.tmp 3) rfl _ _ rfl A _ (fun w' h => h.key) und_hash rfl (by rw [hA]; exact info_hash)) hHeld ?_
  refine wpAnyH_take (i := 5) (v := .tuple #[.agg cs.toArray, .bool f]) rfl (by kernel_rfl) (by kernel_rfl) (by kernel_rfl) (fun _ _ _ h => h) (yields_lookup (by rfl) 76 (.tmp 12) (.tmp 13) rfl (.map mo) (.agg A.toArray) _ rfl rfl (fun w' h => HL.out _ h.bel)) hHeld ?_
  refine wpAnyH_take (i := 6) (v := .tuple #[.agg cs.toArray, .bool f]) rfl (by kernel_rfl) (by kernel_rfl) (by kernel_rfl) (fun _ _ _ h => h) (Or.inl ⟨by rfl, fun w' hw' => by have q := hw'.cell; go_simp; try rfl⟩) hHeld ?_
  refine wpAnyH_take (i := 7) (v := .agg cs.toArray) rfl (by kernel_rfl) (by kernel_rfl) (by kernel_rfl) (fun _ _ _ h => h) (Or.inl ⟨by rfl, fun w' hw' => by have q := hw'.cell; go_simp; try rfl⟩) hHeld ?_
  refine wpAnyH_take (i := 8) (v := .bool f) rfl (by kernel_rfl) (by kernel_rfl) (by kernel_rfl) (fun _ _ _ h => h) (Or.inl ⟨by rfl, fun w' hw' => by have q := hw'.cell; go_simp; try rfl⟩) hHeld ?_
  refine wpAnyH_ready (rs := [9]) (by kernel_rfl) (by simp) ?_
  refine AllReadyH.cons rfl (fun K hK => ?_) AllReadyH.nil
  go_simp
  refine hK.out _ _ ⟨(cell_new hHeld.cell).trans hHeld.cell, rng_new hHeld.key (Nat.zero_le _), hHeld.bel.trans (((Below.refl W1.heap.size W1.drew).alloc (Nat.le_refl _) _).mono hb.size)⟩ (fun hHeld => ?_)
  clear hK K
  revert hHeld
  generalize hg : World.drew _ = W2
  intro hHeld
  have ht : W2.there W1.heap.size 0 33 := by rw [← hg]; exact there_new W1.drew 86 (List.replicate 32 (Value.int .u8 0) ++ [Value.string ⟨#[]⟩]) W1.heap.size 0 33 rfl (by decide)
  clear hg
  refine wpAnyH_ready (rs := [10]) (by kernel_rfl) (by simp) ?_
  refine AllReadyH.cons rfl (fun K hK => ?_) AllReadyH.nil
  rw [if_pos (by rfl)]
  refine wp_store_mid 86 (.tmp 6) (.tmp 15) rfl W1.heap.size 0 cs.toArray rfl rfl (by have e : cs.toArray.size = 33 := (by simp [hcs]); rw [e]; exact ht) (by have e : cs.toArray.size = 33 := (by simp [hcs]); rw [e]; exact info_entry) (all_oneCell_toArray hc1) ?_
  have hr3 := World.rangeAt_setCells_same W2 W1.heap.size 0 cs (by rw [hcs]; exact ht)
  have hb3 := below_setCells (B := w.heap.size) (b := W1.heap.size) hb.size cs 0 w _ hHeld.bel
  refine hK.out _ _ ⟨?_, ?_, hb3⟩ (fun hHeld3 => ?_)
  · rw [World.cell?_setCells_out W1.heap.size cs 0 W2 ⟨b, 0, none⟩ (fun e _ => absurd e (by have := World.block_lt_of_cell? _ _ hc; show b ≠ _; omega))]; exact hHeld.cell
  · exact World.rangeAt_setCells_apart hHeld.key _ _ _ (.inl (by have := World.block_lt_of_cell? _ _ (hk 0 A[0] (List.getElem?_eq_getElem (by omega))); show w.heap.size ≠ _; have h2 : w.heap.size < W1.heap.size := this; omega))
  clear hK K
  refine wpAnyH_take (i := 11) (v := .bool f) rfl (by kernel_rfl) (by kernel_rfl) (by kernel_rfl) (fun _ _ _ h => h) (Or.inl ⟨by rfl, fun w' hw' => by go_simp; try rfl⟩) hHeld3 ?_
  refine wpAnyH_done (by kernel_rfl) ?_ _
  have hb4 := Box.mk hb3
  have q := hr3 32 (.string s) hs
  generalize World.setCells W2 W1.heap.size 0 cs = W3 at hb4 q ⊢
  clear hHeld hHeld3 hr3 hb3 hb hc hk ht HL
  rw [Nat.zero_add] at q
  go_wp2
  exact bodyPost_ret (v := .tuple #[.string s, .bool f]) (by simp [results, go_sem]) rfl ⟨rfl, hb4.out⟩
end Go.Proofs.YtacfdnjdjgdbcaaGreatDoor
