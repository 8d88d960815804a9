/- Contracts of tables: Get and Put, as they are used. -/
import Derived.Test.YtpinpplbjgbkaaaDoorTabC
namespace Go.Proofs.YtpinpplbjgbkaaaDoor
set_option maxRecDepth 100000
open Go.RowKit Go.Maps Go.Sort Go.ChangeMaps M

theorem Tab.keep {w W : World} {b : Nat} {mo : Option Nat} {l : List Ent} (h : Tab w b mo l) (hb : W.heap[b]? = w.heap[b]?) (hm : ∀ m, mo = some m → W.heap[m]? = w.heap[m]?) : Tab W b mo l :=
  ⟨(tcell_keep (a := ⟨b, 0, none⟩) hb).trans h.cell, (World.frozen?_of_block (a := ⟨b, 0, none⟩) hb).trans h.fr, h.empt, fun m e => ⟨(h.mapd m e).1, (h.mapd m e).2.keep (hm m e)⟩⟩
theorem Tab.below {w W : World} {b : Nat} {mo : Option Nat} {l : List Ent} (h : Tab w b mo l) (hb : Below w.heap.size w W) : Tab W b mo l :=
  h.keep (hb.block b h.lt) (fun m e => hb.block m (h.mapd m e).2.lt)
theorem Tab.uniq {w : World} {b : Nat} {mo : Option Nat} {l : List Ent} (h : Tab w b mo l) : ∀ x ∈ l, ∀ y ∈ l, kkE x = kkE y → x = y := by
  cases mo with
  | none => rw [h.empt rfl]; intro x hx; simp at hx
  | some m => exact (h.mapd m rfl).2.uniq
theorem encE_one (x : Ent) : ∀ v ∈ encE x, v.oneCell' = true := fun v hv => by
  rcases List.mem_append.1 hv with h | h
  · exact byts_one _ v h
  · simp at h; rw [h]; rfl
theorem encE_last (x : Ent) : (encE x)[32]? = some (.string x.text) := by
  unfold encE
  rw [List.getElem?_append_right (by rw [byts_length, x.kl]; omega), byts_length, x.kl]
  rfl
theorem setBlock_sz (w : World) (b : Nat) (o : Obj) : (setBlock w b o).heap.size = w.heap.size := by simp [setBlock]
def zeroE : List Value := List.replicate 32 (Value.int .u8 0) ++ [Value.string ⟨#[]⟩]
theorem zeroE_one : ∀ v ∈ zeroE, v.oneCell' = true := fun v hv => by
  rcases List.mem_append.1 hv with h | h
  · rw [List.eq_of_mem_replicate h]; rfl
  · simp at h; rw [h]; rfl
theorem Tab.boxed {w : World} {b : Nat} {mo : Option Nat} {l : List Ent} (h : Tab w b mo l) (x : Obj) : (w.alloc x).cell? ⟨b, 0, none⟩ = some (.map mo) := (cell_new h.cell).trans h.cell
theorem Tab.look_there {w : World} {b : Nat} {mo : Option Nat} {l : List Ent} (h : Tab w b mo l) {x y : Ent} (hy : y ∈ l) (e : kkE y = kkE x) (W : World) (hb : Below w.heap.size w W) :
    (Instr.lookup 38 (.map mo) (.agg (byts x.key).toArray) true).run Tryd.prog W = .ok (.tuple #[.agg (encE y).toArray, .bool true]) W := by
  rcases (h.below hb).look x with ⟨hn, _⟩ | ⟨z, hz, ez, hr⟩
  · exact absurd e (hn y hy)
  · rw [h.uniq y hy z hz (e.trans ez.symm)]; exact hr
theorem Tab.look_none {w : World} {b : Nat} {mo : Option Nat} {l : List Ent} (h : Tab w b mo l) {x : Ent} (ha : ∀ y ∈ l, kkE y ≠ kkE x) (W : World) (hb : Below w.heap.size w W) :
    (Instr.lookup 38 (.map mo) (.agg (byts x.key).toArray) true).run Tryd.prog W = .ok (.tuple #[.agg zeroE.toArray, .bool false]) W := by
  rcases (h.below hb).look x with ⟨_, hr⟩ | ⟨z, hz, ez, _⟩
  · exact hr
  · exact absurd ez (ha z hz)

theorem get_there (b : Nat) (mo : Option Nat) (l : List Ent) (x y : Ent) (w : World) (h : Tab w b mo l) (hy : y ∈ l) (e : kkE y = kkE x) :
    Calls Tryd.prog 20 #[.pointer (some ⟨b, 0, none⟩), ekE x] w fun e w' => e = .returned (.tuple #[.string y.text, .bool true]) ∧ Below w.heap.size w w' :=
  getX_any b mo (byts x.key) (encE y) true w (by rw [byts_length, x.kl]) (encE_len y) (encE_one y) y.text (encE_last y) (h.boxed _) (h.look_there hy e)
theorem get_none (b : Nat) (mo : Option Nat) (l : List Ent) (x : Ent) (w : World) (h : Tab w b mo l) (ha : ∀ y ∈ l, kkE y ≠ kkE x) :
    Calls Tryd.prog 20 #[.pointer (some ⟨b, 0, none⟩), ekE x] w fun e w' => e = .returned (.tuple #[.string ⟨#[]⟩, .bool false]) ∧ Below w.heap.size w w' :=
  getX_any b mo (byts x.key) zeroE false w (by rw [byts_length, x.kl]) (by decide) zeroE_one ⟨#[]⟩ rfl (h.boxed _) (h.look_none ha)
theorem put_there (b : Nat) (mo : Option Nat) (l : List Ent) (x y : Ent) (w : World) (h : Tab w b mo l) (hy : y ∈ l) (e : kkE y = kkE x) :
    Calls Tryd.prog 12 #[.pointer (some ⟨b, 0, none⟩), ekE x, .string x.text] w fun e w' => e = .returned (.bool false) ∧ Below w.heap.size w w' :=
  putX_any b mo (byts x.key) x.text (encE y) w (by rw [byts_length, x.kl]) (encE_len y) (encE_one y) (h.boxed _) (h.look_there hy e)
theorem TExt.set {w W : World} {b m : Nat} {mo : Option Nat} (hb : Below w.heap.size w W) (o : Obj) (hm : mo = some m ∨ w.heap.size ≤ m) (hmo : mo = none ∨ mo = some m) (hl : mo = none → w.heap.size ≤ m) : TExt b mo (some m) w (setBlock W m o) := by
  refine ⟨hb.os, hb.tape, hb.output, by rw [setBlock_sz]; exact hb.size, fun k hk hkb hkm => ?_, ?_⟩
  · have hne : k ≠ m := by
      rcases hm with e | e
      · intro e2; rw [e, e2] at hkm; exact hkm rfl
      · omega
    rw [setBlock_other W m o hne]; exact hb.block k hk
  · rcases hmo with e | e
    · exact .inr fun k e2 => by injection e2 with e2; rw [← e2]; exact hl e
    · exact .inl e.symm
theorem put_new (b : Nat) (mo : Option Nat) (l : List Ent) (x : Ent) (w : World) (h : Tab w b mo l) (ha : ∀ y ∈ l, kkE y ≠ kkE x) (hroom : l.length + 1 < maxLen) :
    Calls Tryd.prog 12 #[.pointer (some ⟨b, 0, none⟩), ekE x, .string x.text] w fun e w' => e = .returned (.bool true) ∧ ∃ mo', Tab w' b mo' (x :: l) ∧ TExt b mo mo' w w' := by
  cases hmo : mo with
  | some m =>
    obtain ⟨hmb, hM⟩ := h.mapd m hmo
    have c := putS_any b m (byts x.key) x.text zeroE w (by rw [byts_length, x.kl]) (by decide) zeroE_one hmb.symm hM.lt (fun W => Tab W b (some m) (x :: l)) (by have := h.boxed (.cells (byts x.key).toArray 24); rw [hmo] at this; exact this) (by have := h.look_none ha; rw [hmo] at this; exact this)
      (fun W hb => by
        have hW := h.below hb
        obtain ⟨o, hr, hp⟩ := (hM.keep (hb.block m hM.lt)).push codedE Tryd.underlying38 x ha hroom
        refine ⟨o, hr, setBlock_cell _ _ _ hmb.symm (by have := hW.cell; rw [hmo] at this; exact this), ?_, (fun e => by cases e), fun k e => ?_⟩
        · rw [World.frozen?_of_block (a := ⟨b, 0, none⟩) (setBlock_other W m o hmb.symm)]; exact hW.fr
        · injection e with e; subst e; exact ⟨hmb, hp⟩)
    exact c.mono fun e w' ⟨he, hT, W, o, hb, hw⟩ => ⟨he, some m, hT, by rw [hw]; exact TExt.set hb o (.inl rfl) (.inr rfl) (fun e => by cases e)⟩
  | none =>
    have hl := h.empt hmo
    subst hl
    have c := putN_any b mo hmo (byts x.key) x.text zeroE w (by rw [byts_length, x.kl]) (by decide) zeroE_one h.lt h.fr (fun W m => Tab W b (some m) [x]) (h.boxed _) (h.look_none ha)
      (fun W m hm hn hc hf => by
        have hmb : m ≠ b := by have := h.lt; omega
        have hM : MapE W m [] := ⟨⟨#[], 0, hn, MapKept.stamped_empty 0, by simp⟩, by simp, by simp [maxLen]⟩
        obtain ⟨o, hr, hp⟩ := hM.push codedE Tryd.underlying38 x ha hroom
        refine ⟨o, hr, setBlock_cell _ _ _ hmb.symm hc, ?_, (fun e => by cases e), fun k e => ?_⟩
        · rw [World.frozen?_of_block (a := ⟨b, 0, none⟩) (setBlock_other W m o hmb.symm)]; exact hf
        · injection e with e; subst e; exact ⟨hmb, hp⟩)
    refine c.mono fun e w' ⟨he, m, W, o, hm, hT, hb, hw⟩ => ⟨he, some m, hT, ?_⟩
    rw [hw]
    have o1 : Onl b W (W.setCell ⟨b, 0, none⟩ (.map (some m))) := (Onl.refl b W).setCell 0 _
    have hs : (W.setCell ⟨b, 0, none⟩ (.map (some m))).heap.size = m := by rw [← hm]; simp
    refine ⟨o1.os.trans hb.os, o1.tape.trans hb.tape, o1.output.trans hb.output, by rw [setBlock_sz]; have := hb.size; simp; omega, fun k hk hkb _ => ?_, .inr fun k e => by injection e with e; have := hb.size; omega⟩
    have h1 := hb.size
    rw [setBlock_other _ m o (by omega)]
    have h2 : ((W.setCell ⟨b, 0, none⟩ (.map (some m))).alloc (.map #[] 0)).heap[k]? = (W.setCell ⟨b, 0, none⟩ (.map (some m))).heap[k]? := ((Below.refl _ _).alloc (Nat.le_refl _) _).block k (by omega)
    exact h2.trans ((o1.block k (by omega) hkb).trans (hb.block k hk))
end Go.Proofs.YtpinpplbjgbkaaaDoor
