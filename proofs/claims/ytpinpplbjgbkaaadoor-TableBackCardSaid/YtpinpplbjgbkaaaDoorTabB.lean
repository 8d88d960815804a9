/- Contracts of tables: Get, Put, Len. -/
import Derived.Test.YtpinpplbjgbkaaaDoorTabA
import Derived.Test.YtpinpplbjgbkaaaDoorHn
import Derived.Deep.RegionHeld3
import Derived.Deep.RegionWith
namespace Go.Proofs.YtpinpplbjgbkaaaDoor
set_option maxRecDepth 100000
open Go.RowKit Go.Maps Go.Sort M

/-- the table at block b has the entries l, in map mo -/
structure Tab (w : World) (b : Nat) (mo : Option Nat) (l : List Ent) : Prop where
  cell : w.cell? ⟨b, 0, none⟩ = some (.map mo)
  fr : w.frozen? ⟨b, 0, none⟩ = false
  empt : mo = none → l = []
  mapd : ∀ m, mo = some m → m ≠ b ∧ MapE w m l
theorem Tab.lt {w : World} {b : Nat} {mo : Option Nat} {l : List Ent} (h : Tab w b mo l) : b < w.heap.size := World.block_lt_of_cell? w _ h.cell
theorem zero_entry (w : World) : (zeroValue 69).run Tryd.prog w = .ok (.agg (List.replicate 32 (Value.int .u8 0) ++ [Value.string ⟨#[]⟩]).toArray) w := by kernel_rfl
/-- what a look-up tells -/
theorem Tab.look {w : World} {b : Nat} {mo : Option Nat} {l : List Ent} (h : Tab w b mo l) (x : Ent) :
    ((∀ y ∈ l, kkE y ≠ kkE x) ∧ (Instr.lookup 38 (.map mo) (ekE x) true).run Tryd.prog w = .ok (.tuple #[.agg (List.replicate 32 (Value.int .u8 0) ++ [Value.string ⟨#[]⟩]).toArray, .bool false]) w) ∨
    ∃ y ∈ l, kkE y = kkE x ∧ (Instr.lookup 38 (.map mo) (ekE x) true).run Tryd.prog w = .ok (.tuple #[evE y, .bool true]) w := by
  cases mo with
  | none =>
    have e := h.empt rfl
    subst e
    refine .inl ⟨fun y hy => by simp at hy, ?_⟩
    have K := (codedE).keyed
    rcases K.find w (keyOf_hash x) [] (by simp) with ⟨r1, _⟩ | ⟨j, e0, _, r2, _⟩
    · have ez := zero_entry w
      simp [Instr.lookup, run_underlying Tryd.underlying38, K.check w _ (keyOf_hash x), r1, ez, Result.andThen]
    · simp at r2
  | some m => exact (h.mapd m rfl).2.look codedE Tryd.underlying38 (zero_entry w) x

theorem Tab.len {w : World} {b : Nat} {mo : Option Nat} {l : List Ent} (h : Tab w b mo l) (ty : TypeId) : (Builtin.len_ #[38] ty #[.map mo]).run Tryd.prog w = .ok (.int .i64 (l.length : Int)) w := by
  cases mo with
  | none =>
    have e := h.empt rfl
    subst e
    simp [Builtin.len_, run_underlying Tryd.underlying38, Result.andThen]
    rfl
  | some m =>
    obtain ⟨es, clock, hb, _, h3⟩ := (h.mapd m rfl).2.ex
    have hl : es.size = l.length := by have := h3.length_eq; simpa using this
    simp [Builtin.len_, run_underlying Tryd.underlying38, MapKept.run_getObj_map hb, Result.andThen, hl]
    rfl

theorem len_any (b : Nat) (mo : Option Nat) (l : List Ent) (w : World) (h : Tab w b mo l) : Calls Tryd.prog 21 #[.pointer (some ⟨b, 0, none⟩)] w fun e w' => e = .returned (.int .i64 (l.length : Int)) ∧ w = w' := by
  have c := h.cell
  have hl := h.len 3
  clear h
  go_enter Tryd.func21, Tryd.ntmps21
  go_wp2
  go_ret
  exact ⟨rfl, rfl⟩

theorem und_hash : Tryd.prog.underlying 24 = some (.array 32 5) := Tryd.underlying24
theorem info_hash : (Tryd.prog.info? 24).map (·.size) = some 32 := by kernel_rfl
theorem info_entry : (Tryd.prog.info? 69).map (·.size) = some 33 := by kernel_rfl
/-- what a table's look-up region needs of a world -/
structure LookS (w0 : World) (b : Nat) (mo : Option Nat) (c : Nat) (A : List Value) (W : World) : Prop where
  cell : W.cell? ⟨b, 0, none⟩ = some (.map mo)
  key : W.rangeAt c 0 A
  bel : Below w0.heap.size w0 W
theorem cell_new {w : World} {a : Addr} {v : Value} {o : Obj} (h : w.cell? a = some v) : (w.alloc o).cell? a = w.cell? a := World.cell?_alloc_some w a o (by rw [h]; rfl)
theorem rng_new {w : World} {b o : Nat} {cs : List Value} {x : Obj} (h : w.rangeAt b o cs) (_ : 0 ≤ w.heap.size) : (w.alloc x).rangeAt b o cs := fun j v hv => (cell_new (h j v hv)).trans (h j v hv)
theorem yields_lookup {ops : Array Oper} {S : World → Prop} {op : Oper} {a : Act} (hw : Region.wanted op (yielded ops a.tmps) = true) (t : TypeId) (x y : Operand) (ho : op.op = .lookup t x y true) (m k r : Value) (hx : a.eval x = m) (hy : a.eval y = k)
    (hS : ∀ w, S w → (Instr.lookup t m k true).run Tryd.prog w = .ok r w) : YieldsIf Tryd.prog ops S op r a :=
  .inl ⟨hw, fun w' hw' => by
    unfold execOp
    simp only [ho, hx, hy, Sem.run_bind, Sem.run_pure, Result.andThen_ok, hS w' hw']⟩

set_option maxHeartbeats 1000000 in
theorem getX_any (b : Nat) (mo : Option Nat) (A : List Value) (cs : List Value) (f : Bool) (w : World) (hA : A.length = 32) (hcs : cs.length = 33) (hc1 : ∀ v ∈ cs, v.oneCell' = true) (s : ByteArray) (hs : cs[32]? = some (.string s))
    (hc : (w.alloc (.cells A.toArray 24)).cell? ⟨b, 0, none⟩ = some (.map mo))
    (hl : ∀ W, Below w.heap.size w W → (Instr.lookup 38 (.map mo) (.agg A.toArray) true).run Tryd.prog W = .ok (.tuple #[.agg cs.toArray, .bool f]) W) : Calls Tryd.prog 20 #[.pointer (some ⟨b, 0, none⟩), .agg A.toArray] w fun e w' => e = .returned (.tuple #[.string s, .bool f]) ∧ Below w.heap.size w w' := by
  have hb : Below w.heap.size w (w.alloc (.cells A.toArray 24)) := (Below.refl _ _).alloc (Nat.le_refl _) _
  obtain ⟨W1, hW1⟩ : ∃ W1, W1 = w.alloc (.cells A.toArray 24) := ⟨_, rfl⟩
  have hk : W1.rangeAt w.heap.size 0 A := by rw [hW1]; exact range_new _ _ _ _ rfl
  rw [← hW1] at hc hb
  have HL := Box.mk hl
  clear hl
  go_enter Tryd.func20, Tryd.ntmps20
  go_upto_region 1 with fail
  rw [← hW1]
  clear hW1
  refine wp_region_held_drew (S := LookS w b mo w.heap.size A) (by kernel_rfl) ⟨hc, hk, hb.drew⟩ (fun hHeld => ?_)
  refine wpAnyH_take (i := 0) (v := (.pointer (some ⟨b, 0, none⟩))) rfl (by kernel_rfl) (by kernel_rfl) (by kernel_rfl) (fun _ _ _ h => h) (Or.inl ⟨by rfl, fun w' hw' => by have q := hw'.cell; go_simp; try rfl⟩) hHeld ?_
  refine wpAnyH_take (i := 1) (v := (.pointer (some ⟨b, 0, none⟩))) rfl (by kernel_rfl) (by kernel_rfl) (by kernel_rfl) (fun _ _ _ h => h) (Or.inl ⟨by rfl, fun w' hw' => by have q := hw'.cell; go_simp; try rfl⟩) hHeld ?_
  refine wpAnyH_take (i := 2) (v := (.pointer (some ⟨b, 0, none⟩))) rfl (by kernel_rfl) (by kernel_rfl) (by kernel_rfl) (fun _ _ _ h => h) (Or.inl ⟨by rfl, fun w' hw' => by have q := hw'.cell; go_simp; try rfl⟩) hHeld ?_
  refine wpAnyH_take (i := 3) (v := .map mo) rfl (by kernel_rfl) (by kernel_rfl) (by kernel_rfl) (fun _ _ _ h => h) (Or.inl ⟨by rfl, fun w' hw' => by have q := hw'.cell; go_simp; try rfl⟩) hHeld ?_
  refine wpAnyH_take (i := 4) (v := .agg A.toArray) rfl (by kernel_rfl) (by kernel_rfl) (by kernel_rfl) (fun _ _ _ h => h) (yieldsIf_load_mid (by rfl) 24 (.tmp 3) rfl _ _ rfl A _ (fun w' h => h.key) und_hash rfl (by rw [hA]; exact info_hash)) hHeld ?_
  refine wpAnyH_take (i := 5) (v := .tuple #[.agg cs.toArray, .bool f]) rfl (by kernel_rfl) (by kernel_rfl) (by kernel_rfl) (fun _ _ _ h => h) (yields_lookup (by rfl) 38 (.tmp 12) (.tmp 13) rfl (.map mo) (.agg A.toArray) _ rfl rfl (fun w' h => HL.out _ h.bel)) hHeld ?_
  refine wpAnyH_take (i := 6) (v := .tuple #[.agg cs.toArray, .bool f]) rfl (by kernel_rfl) (by kernel_rfl) (by kernel_rfl) (fun _ _ _ h => h) (Or.inl ⟨by rfl, fun w' hw' => by have q := hw'.cell; go_simp; try rfl⟩) hHeld ?_
  refine wpAnyH_take (i := 7) (v := .agg cs.toArray) rfl (by kernel_rfl) (by kernel_rfl) (by kernel_rfl) (fun _ _ _ h => h) (Or.inl ⟨by rfl, fun w' hw' => by have q := hw'.cell; go_simp; try rfl⟩) hHeld ?_
  refine wpAnyH_take (i := 8) (v := .bool f) rfl (by kernel_rfl) (by kernel_rfl) (by kernel_rfl) (fun _ _ _ h => h) (Or.inl ⟨by rfl, fun w' hw' => by have q := hw'.cell; go_simp; try rfl⟩) hHeld ?_
  refine wpAnyH_ready (rs := [9]) (by kernel_rfl) (by simp) ?_
  refine AllReadyH.cons rfl (fun K hK => ?_) AllReadyH.nil
  go_simp
  refine hK.out _ _ ⟨(cell_new hHeld.cell).trans hHeld.cell, rng_new hHeld.key (Nat.zero_le _), hHeld.bel.trans (((Below.refl W1.heap.size W1.drew).alloc (Nat.le_refl _) _).mono hb.size)⟩ (fun hHeld => ?_)
  clear hK K
  revert hHeld
  generalize hg : World.drew _ = W2
  intro hHeld
  have ht : W2.there W1.heap.size 0 33 := by rw [← hg]; exact there_new W1.drew 69 (List.replicate 32 (Value.int .u8 0) ++ [Value.string ⟨#[]⟩]) W1.heap.size 0 33 rfl (by decide)
  clear hg
  refine wpAnyH_ready (rs := [10]) (by kernel_rfl) (by simp) ?_
  refine AllReadyH.cons rfl (fun K hK => ?_) AllReadyH.nil
  rw [if_pos (by rfl)]
  refine wp_store_mid 69 (.tmp 6) (.tmp 15) rfl W1.heap.size 0 cs.toArray rfl rfl (by have e : cs.toArray.size = 33 := (by simp [hcs]); rw [e]; exact ht) (by have e : cs.toArray.size = 33 := (by simp [hcs]); rw [e]; exact info_entry) (all_oneCell_toArray hc1) ?_
  have hr3 := World.rangeAt_setCells_same W2 W1.heap.size 0 cs (by rw [hcs]; exact ht)
  have hb3 := below_setCells (B := w.heap.size) (b := W1.heap.size) hb.size cs 0 w _ hHeld.bel
  refine hK.out _ _ ⟨?_, ?_, hb3⟩ (fun hHeld3 => ?_)
  · rw [World.cell?_setCells_out W1.heap.size cs 0 W2 ⟨b, 0, none⟩ (fun e _ => absurd e (by have := World.block_lt_of_cell? _ _ hc; show b ≠ _; omega))]; exact hHeld.cell
  · exact World.rangeAt_setCells_apart hHeld.key _ _ _ (.inl (by have := World.block_lt_of_cell? _ _ (hk 0 A[0] (List.getElem?_eq_getElem (by omega))); show w.heap.size ≠ _; have h2 : w.heap.size < W1.heap.size := this; omega))
  clear hK K
  refine wpAnyH_take (i := 11) (v := .bool f) rfl (by kernel_rfl) (by kernel_rfl) (by kernel_rfl) (fun _ _ _ h => h) (Or.inl ⟨by rfl, fun w' hw' => by go_simp; try rfl⟩) hHeld3 ?_
  refine wpAnyH_done (by kernel_rfl) ?_ _
  have hb4 := Box.mk hb3
  have q := hr3 32 (.string s) hs
  generalize World.setCells W2 W1.heap.size 0 cs = W3 at hb4 q ⊢
  clear hHeld hHeld3 hr3 hb3 hb hc hk ht HL
  rw [Nat.zero_add] at q
  go_wp2
  exact bodyPost_ret (v := .tuple #[.string s, .bool f]) (by simp [results, go_sem]) rfl ⟨rfl, hb4.out⟩
end Go.Proofs.YtpinpplbjgbkaaaDoor
