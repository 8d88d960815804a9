/- TabA, TabB, in one text. -/
import Derived.Test.YtacfdnjdjgdbcaaDoorMapG
import Derived.Test.YtacfdnjdjgdbcaaDoorKl
import Derived.WideKeyArr
import Derived.DeepKeys3
import Derived.Test.YtacfdnjdjgdbcaaDoorHn
import Derived.Deep.RegionHeld3
import Derived.Deep.RegionWith
namespace Go.Proofs.YtacfdnjdjgdbcaaDoor
set_option maxRecDepth 100000
open Go.RowKit Go.Maps Go.Sort M

/-- an entry: a name of 32 bytes, and a text -/
structure Ent where
  key : List Nat
  text : ByteArray
  kl : key.length = 32
  kb : ∀ d ∈ key, d < 256
theorem Ent.eq {x y : Ent} (h1 : x.key = y.key) (h2 : x.text = y.text) : x = y := by
  cases x; cases y; simp at h1 h2; subst h1; subst h2; rfl
def encE (x : Ent) : List Value := byts x.key ++ [.string x.text]
theorem encE_len (x : Ent) : (encE x).length = 33 := by simp [encE, byts_length, x.kl]
def ekE (x : Ent) : Value := .agg (byts x.key).toArray
def evE (x : Ent) : Value := .agg (encE x).toArray
def kkE (x : Ent) : List UInt8 := u8l x.key
def ccE (x : Ent) : List UInt8 := u8l x.key ++ x.text.data.toList

theorem byts_inj : ∀ {l m : List Nat}, byts l = byts m → l = m
  | [], [], _ => rfl
  | [], _ :: _, h => by simp [byts] at h
  | _ :: _, [], h => by simp [byts] at h
  | a :: l, b :: m, h => by
    have h : Value.int .u8 ((a : Nat) : Int) :: byts l = Value.int .u8 ((b : Nat) : Int) :: byts m := h
    injection h with h1 h2
    injection h1 with _ h1
    rw [Int.ofNat.inj h1, byts_inj h2]
theorem u8l_inj : ∀ {l m : List Nat}, (∀ d ∈ l, d < 256) → (∀ d ∈ m, d < 256) → u8l l = u8l m → l = m
  | [], [], _, _, _ => rfl
  | [], _ :: _, _, _, h => by simp [u8l] at h
  | _ :: _, [], _, _, h => by simp [u8l] at h
  | a :: l, b :: m, hl, hm, h => by
    have h : UInt8.ofNat a :: u8l l = UInt8.ofNat b :: u8l m := h
    injection h with h1 h2
    have ha := hl a (by simp)
    have hb := hm b (by simp)
    have e : a = b := by
      have := congrArg UInt8.toNat h1
      simpa [UInt8.toNat_ofNat', Nat.mod_eq_of_lt ha, Nat.mod_eq_of_lt hb] using this
    rw [e, u8l_inj (fun d hd => hl d (by simp [hd])) (fun d hd => hm d (by simp [hd])) h2]
theorem kkE_eq {x y : Ent} (h : kkE x = kkE y) : x.key = y.key := u8l_inj x.kb y.kb h
theorem ccE_eq {x y : Ent} (h : ccE x = ccE y) : x = y := by
  have h1 := List.append_inj h (by simp [u8l, x.kl, y.kl])
  exact Ent.eq (kkE_eq h1.1) (ByteArray.ext (Array.toList_inj.1 h1.2))
theorem ekE_eq {x y : Ent} (h : ekE x = ekE y) : x.key = y.key := by
  unfold ekE at h
  injection h with h
  exact byts_inj (by simpa using congrArg Array.toList h)
theorem encE_eq {x y : Ent} (h : encE x = encE y) : x = y := by
  have h1 := List.append_inj h (by simp [byts_length, x.kl, y.kl])
  have h2 : Value.string x.text = Value.string y.text := by simpa using h1.2
  injection h2 with h2
  exact Ent.eq (byts_inj h1.1) h2
theorem evE_eq {x y : Ent} (h : evE x = evE y) : x = y := by
  unfold evE at h
  injection h with h
  exact encE_eq (by simpa using congrArg Array.toList h)

theorem mapM_some {β γ : Type} {f : β → Option γ} {g : β → γ} : ∀ (xs : List β), (∀ x ∈ xs, f x = some (g x)) → xs.mapM f = some (xs.map g)
  | [], _ => rfl
  | x :: xs, h => by
    rw [List.mapM_cons, h x (by simp), mapM_some xs (fun y hy => h y (by simp [hy]))]
    rfl
theorem flat_sing {β γ : Type} (f : β → γ) : ∀ xs : List β, (xs.map fun i => [f i]).flatten = xs.map f
  | [] => rfl
  | x :: xs => by rw [List.map_cons, List.flatten_cons, flat_sing f xs]; rfl
theorem cells_hash : Tryd.prog.cellsOf 24 = 32 := by kernel_rfl
theorem cells_u8 : Tryd.prog.cellsOf 5 = 1 := by kernel_rfl
theorem keyLits_hash (d : Nat) (l : List Nat) (h : l.length = 32) (hb : ∀ x ∈ l, x < 256) : Tryd.prog.keyLits (d + 2) 24 (byts l) = some (l.map fun n => Lit.int .u8 ((n : Nat) : Int)) := by
  unfold Program.keyLits
  rw [Tryd.underlying24]
  simp only [cells_hash, cells_u8]
  rw [if_pos (by rw [byts_length, h])]
  rw [mapM_some (g := fun i => [Lit.int .u8 ((l.getD i 0 : Nat) : Int)]) _ (fun i hi => by
    have hi : i < 32 := by simpa using hi
    have hil : i < l.length := by omega
    have e : ((byts l).drop (i * 1)).take 1 = [Value.int .u8 ((l.getD i 0 : Nat) : Int)] := by
      rw [Nat.mul_one, List.drop_eq_getElem_cons (by rw [byts_length]; exact hil)]
      simp [byts, hil]
    rw [e]
    unfold Program.keyLits
    rw [Tryd.underlying5]
    have hx : l.getD i 0 < 256 := by
      rw [List.getD, List.getElem?_eq_getElem hil]
      exact hb _ (List.getElem_mem _)
    obtain ⟨v, hv⟩ : ∃ v, v = l.getD i 0 := ⟨_, rfl⟩
    rw [← hv] at hx ⊢
    have w : (Lit.int .u8 ((v : Nat) : Int)).wf = true := by
      simp only [Lit.wf, IntKind.min, IntKind.max, IntKind.signed, IntKind.bits]
      simp
      omega
    simp only []
    rw [if_pos ⟨trivial, w⟩])]
  rw [Option.map_some]
  congr 1
  rw [flat_sing]
  apply List.ext_getElem
  · simp [h]
  · intro i h1 h2
    have hil : i < l.length := by simpa using h2
    simp [hil]
theorem hashKey : WideMaps.ArrKey Tryd.prog 24 5 32 := ⟨Tryd.underlying24, by kernel_rfl, cells_u8, cells_hash⟩
theorem types_some : ∃ m, Tryd.prog.types.size = m + 1 := ⟨Tryd.prog.types.size - 1, by have : 0 < Tryd.prog.types.size := of_decide_eq_true (by kernel_rfl); omega⟩
theorem keyOf_hash (x : Ent) : keyOf Tryd.prog 24 (ekE x) = some (.string (kkE x)) := by
  unfold keyOf
  rw [Tryd.underlying24]
  obtain ⟨m, hm⟩ := types_some
  have hf : (Value.agg (byts x.key).toArray).formed Tryd.prog 24 = true := by
    simp only [Value.formed, Tryd.underlying24, cells_hash]
    simp [byts_length, x.kl]
  show (if (Tryd.prog.keyType 24 && (Value.agg (byts x.key).toArray).formed Tryd.prog 24) = true then _ else none) = _
  rw [hf, hashKey.keyType ⟨m, hm⟩, hm]
  have hc : (Value.agg (byts x.key).toArray).cells.toList = byts x.key := by simp [Value.cells]
  simp only [Bool.and_self, if_true]
  show Option.map _ (Tryd.prog.keyLits (m + 2) _ (Value.agg (byts x.key).toArray).cells.toList) = _
  rw [hc, keyLits_hash _ _ x.kl x.kb, Option.map_some]
  congr 2
  unfold keyBytes kkE u8l
  rw [List.flatMap_map]
  have : ∀ l : List Nat, (∀ d ∈ l, d < 256) → l.flatMap (fun n => (Lit.int .u8 ((n : Nat) : Int)).keyBytes) = l.map UInt8.ofNat := by
    intro l
    induction l with
    | nil => intro _; rfl
    | cons a l ih =>
      intro h
      have ha := h a (by simp)
      rw [List.flatMap_cons, List.map_cons, ih (fun d hd => h d (by simp [hd]))]
      have e : ((a : Int) % 2 ^ IntKind.u8.bits).toNat = a := by
        show ((a : Int) % 2 ^ 8).toNat = a
        omega
      simp only [Lit.keyBytes, e]
      have e2 : IntKind.u8.bits / 8 = 1 := rfl
      rw [e2]
      simp [bytesBE, bytesLE, Nat.mod_eq_of_lt ha]
  exact this _ x.kb
theorem codedE : Coded Tryd.prog 24 ekE evE kkE ccE :=
  ⟨Keyed.of_law hashKey.law, keyOf_hash, fun x y h => by unfold kkE; rw [ekE_eq h], fun x y => ⟨fun h => by rw [evE_eq h], fun h => by rw [ccE_eq h]⟩⟩
abbrev MapE := MapG ekE evE kkE
end Go.Proofs.YtacfdnjdjgdbcaaDoor
namespace Go.Proofs.YtacfdnjdjgdbcaaDoor
set_option maxRecDepth 100000
open Go.RowKit Go.Maps Go.Sort M

/-- the table at block b has the entries l, in map mo -/
structure Tab (w : World) (b : Nat) (mo : Option Nat) (l : List Ent) : Prop where
  cell : w.cell? ⟨b, 0, none⟩ = some (.map mo)
  fr : w.frozen? ⟨b, 0, none⟩ = false
  empt : mo = none → l = []
  mapd : ∀ m, mo = some m → m ≠ b ∧ MapE w m l
theorem Tab.lt {w : World} {b : Nat} {mo : Option Nat} {l : List Ent} (h : Tab w b mo l) : b < w.heap.size := World.block_lt_of_cell? w _ h.cell
theorem zero_entry (w : World) : (zeroValue 62).run Tryd.prog w = .ok (.agg (List.replicate 32 (Value.int .u8 0) ++ [Value.string ⟨#[]⟩]).toArray) w := by kernel_rfl
/-- what a look-up tells -/
theorem Tab.look {w : World} {b : Nat} {mo : Option Nat} {l : List Ent} (h : Tab w b mo l) (x : Ent) :
    ((∀ y ∈ l, kkE y ≠ kkE x) ∧ (Instr.lookup 50 (.map mo) (ekE x) true).run Tryd.prog w = .ok (.tuple #[.agg (List.replicate 32 (Value.int .u8 0) ++ [Value.string ⟨#[]⟩]).toArray, .bool false]) w) ∨
    ∃ y ∈ l, kkE y = kkE x ∧ (Instr.lookup 50 (.map mo) (ekE x) true).run Tryd.prog w = .ok (.tuple #[evE y, .bool true]) w := by
  cases mo with
  | none =>
    have e := h.empt rfl
    subst e
    refine .inl ⟨fun y hy => by simp at hy, ?_⟩
    have K := (codedE).keyed
    rcases K.find w (keyOf_hash x) [] (by simp) with ⟨r1, _⟩ | ⟨j, e0, _, r2, _⟩
    · have ez := zero_entry w
      simp [Instr.lookup, run_underlying Tryd.underlying50, K.check w _ (keyOf_hash x), r1, ez, Result.andThen]
    · simp at r2
  | some m => exact (h.mapd m rfl).2.look codedE Tryd.underlying50 (zero_entry w) x

theorem Tab.len {w : World} {b : Nat} {mo : Option Nat} {l : List Ent} (h : Tab w b mo l) (ty : TypeId) : (Builtin.len_ #[50] ty #[.map mo]).run Tryd.prog w = .ok (.int .i64 (l.length : Int)) w := by
  cases mo with
  | none =>
    have e := h.empt rfl
    subst e
    simp [Builtin.len_, run_underlying Tryd.underlying50, Result.andThen]
    rfl
  | some m =>
    obtain ⟨es, clock, hb, _, h3⟩ := (h.mapd m rfl).2.ex
    have hl : es.size = l.length := by have := h3.length_eq; simpa using this
    simp [Builtin.len_, run_underlying Tryd.underlying50, MapKept.run_getObj_map hb, Result.andThen, hl]
    rfl

theorem len_any (b : Nat) (mo : Option Nat) (l : List Ent) (w : World) (h : Tab w b mo l) : Calls Tryd.prog 19 #[.pointer (some ⟨b, 0, none⟩)] w fun e w' => e = .returned (.int .i64 (l.length : Int)) ∧ w = w' := by
  have c := h.cell
  have hl := h.len 3
  clear h
  go_enter Tryd.func19, Tryd.ntmps19
  go_wp2
  go_ret
  exact ⟨rfl, rfl⟩

theorem und_hash : Tryd.prog.underlying 24 = some (.array 32 5) := Tryd.underlying24
theorem info_hash : (Tryd.prog.info? 24).map (·.size) = some 32 := by kernel_rfl
theorem info_entry : (Tryd.prog.info? 62).map (·.size) = some 33 := by kernel_rfl
/-- what a table's look-up region needs of a world -/
structure LookS (w0 : World) (b : Nat) (mo : Option Nat) (c : Nat) (A : List Value) (W : World) : Prop where
  cell : W.cell? ⟨b, 0, none⟩ = some (.map mo)
  key : W.rangeAt c 0 A
  bel : Below w0.heap.size w0 W
theorem cell_new {w : World} {a : Addr} {v : Value} {o : Obj} (h : w.cell? a = some v) : (w.alloc o).cell? a = w.cell? a := World.cell?_alloc_some w a o (by rw [h]; rfl)
theorem rng_new {w : World} {b o : Nat} {cs : List Value} {x : Obj} (h : w.rangeAt b o cs) (_ : 0 ≤ w.heap.size) : (w.alloc x).rangeAt b o cs := fun j v hv => (cell_new (h j v hv)).trans (h j v hv)
theorem yields_lookup {ops : Array Oper} {S : World → Prop} {op : Oper} {a : Act} (hw : Region.wanted op (yielded ops a.tmps) = true) (t : TypeId) (x y : Operand) (ho : op.op = .lookup t x y true) (m k r : Value) (hx : a.eval x = m) (hy : a.eval y = k)
    (hS : ∀ w, S w → (Instr.lookup t m k true).run Tryd.prog w = .ok r w) : YieldsIf Tryd.prog ops S op r a :=
  .inl ⟨hw, fun w' hw' => by
    unfold execOp
    simp only [ho, hx, hy, Sem.run_bind, Sem.run_pure, Result.andThen_ok, hS w' hw']⟩

set_option maxHeartbeats 1000000 in
theorem getX_any (b : Nat) (mo : Option Nat) (A : List Value) (cs : List Value) (f : Bool) (w : World) (hA : A.length = 32) (hcs : cs.length = 33) (hc1 : ∀ v ∈ cs, v.oneCell' = true) (s : ByteArray) (hs : cs[32]? = some (.string s))
    (hc : (w.alloc (.cells A.toArray 24)).cell? ⟨b, 0, none⟩ = some (.map mo))
    (hl : ∀ W, Below w.heap.size w W → (Instr.lookup 50 (.map mo) (.agg A.toArray) true).run Tryd.prog W = .ok (.tuple #[.agg cs.toArray, .bool f]) W) : Calls Tryd.prog 12 #[.pointer (some ⟨b, 0, none⟩), .agg A.toArray] w fun e w' => e = .returned (.tuple #[.string s, .bool f]) ∧ Below w.heap.size w w' := by
  have hb : Below w.heap.size w (w.alloc (.cells A.toArray 24)) := (Below.refl _ _).alloc (Nat.le_refl _) _
  obtain ⟨W1, hW1⟩ : ∃ W1, W1 = w.alloc (.cells A.toArray 24) := ⟨_, rfl⟩
  have hk : W1.rangeAt w.heap.size 0 A := by rw [hW1]; exact range_new _ _ _ _ rfl
  rw [← hW1] at hc hb
  have HL := Box.mk hl
  clear hl
  go_enter Tryd.func12, Tryd.ntmps12
  go_upto_region 1 with fail
  rw [← hW1]
  clear hW1
  refine wp_region_held_drew (S := LookS w b mo w.heap.size A) (by kernel_rfl) ⟨hc, hk, hb.drew⟩ (fun hHeld => ?_)
  refine wpAnyH_take (i := 0) (v := (.pointer (some ⟨b, 0, none⟩))) rfl (by kernel_rfl) (by kernel_rfl) (by kernel_rfl) (fun _ _ _ h => h) (Or.inl ⟨by rfl, fun w' hw' => by have q := hw'.cell; go_simp; try rfl⟩) hHeld ?_
  refine wpAnyH_take (i := 1) (v := (.pointer (some ⟨b, 0, none⟩))) rfl (by kernel_rfl) (by kernel_rfl) (by kernel_rfl) (fun _ _ _ h => h) (Or.inl ⟨by rfl, fun w' hw' => by have q := hw'.cell; go_simp; try rfl⟩) hHeld ?_
  refine wpAnyH_take (i := 2) (v := (.pointer (some ⟨b, 0, none⟩))) rfl (by kernel_rfl) (by kernel_rfl) (by kernel_rfl) (fun _ _ _ h => h) (Or.inl ⟨by rfl, fun w' hw' => by have q := hw'.cell; go_simp; try rfl⟩) hHeld ?_
  refine wpAnyH_take (i := 3) (v := .map mo) rfl (by kernel_rfl) (by kernel_rfl) (by kernel_rfl) (fun _ _ _ h => h) (Or.inl ⟨by rfl, fun w' hw' => by have q := hw'.cell; go_simp; try rfl⟩) hHeld ?_
  refine wpAnyH_take (i := 4) (v := .agg A.toArray) rfl (by kernel_rfl) (by kernel_rfl) (by kernel_rfl) (fun _ _ _ h => h) (yieldsIf_load_mid (by rfl) 24 (.tmp 3) rfl _ _ rfl A _ (fun w' h => h.key) und_hash rfl (by rw [hA]; exact info_hash)) hHeld ?_
  refine wpAnyH_take (i := 5) (v := .tuple #[.agg cs.toArray, .bool f]) rfl (by kernel_rfl) (by kernel_rfl) (by kernel_rfl) (fun _ _ _ h => h) (yields_lookup (by rfl) 50 (.tmp 12) (.tmp 13) rfl (.map mo) (.agg A.toArray) _ rfl rfl (fun w' h => HL.out _ h.bel)) hHeld ?_
  refine wpAnyH_take (i := 6) (v := .tuple #[.agg cs.toArray, .bool f]) rfl (by kernel_rfl) (by kernel_rfl) (by kernel_rfl) (fun _ _ _ h => h) (Or.inl ⟨by rfl, fun w' hw' => by have q := hw'.cell; go_simp; try rfl⟩) hHeld ?_
  refine wpAnyH_take (i := 7) (v := .agg cs.toArray) rfl (by kernel_rfl) (by kernel_rfl) (by kernel_rfl) (fun _ _ _ h => h) (Or.inl ⟨by rfl, fun w' hw' => by have q := hw'.cell; go_simp; try rfl⟩) hHeld ?_
  refine wpAnyH_take (i := 8) (v := .bool f) rfl (by kernel_rfl) (by kernel_rfl) (by kernel_rfl) (fun _ _ _ h => h) (Or.inl ⟨by rfl, fun w' hw' => by have q := hw'.cell; go_simp; try rfl⟩) hHeld ?_
  refine wpAnyH_ready (rs := [9]) (by kernel_rfl) (by simp) ?_
  refine AllReadyH.cons rfl (fun K hK => ?_) AllReadyH.nil
  go_simp
  refine hK.out _ _ ⟨(cell_new hHeld.cell).trans hHeld.cell, rng_new hHeld.key (Nat.zero_le _), hHeld.bel.trans (((Below.refl W1.heap.size W1.drew).alloc (Nat.le_refl _) _).mono hb.size)⟩ (fun hHeld => ?_)
  clear hK K
  revert hHeld
  generalize hg : World.drew _ = W2
  intro hHeld
  have ht : W2.there W1.heap.size 0 33 := by rw [← hg]; exact there_new W1.drew 62 (List.replicate 32 (Value.int .u8 0) ++ [Value.string ⟨#[]⟩]) W1.heap.size 0 33 rfl (by decide)
  clear hg
  refine wpAnyH_ready (rs := [10]) (by kernel_rfl) (by simp) ?_
  refine AllReadyH.cons rfl (fun K hK => ?_) AllReadyH.nil
  rw [if_pos (by rfl)]
  refine wp_store_mid 62 (.tmp 6) (.tmp 15) rfl W1.heap.size 0 cs.toArray rfl rfl (by have e : cs.toArray.size = 33 := (by simp [hcs]); rw [e]; exact ht) (by have e : cs.toArray.size = 33 := (by simp [hcs]); rw [e]; exact info_entry) (all_oneCell_toArray hc1) ?_
  have hr3 := World.rangeAt_setCells_same W2 W1.heap.size 0 cs (by rw [hcs]; exact ht)
  have hb3 := below_setCells (B := w.heap.size) (b := W1.heap.size) hb.size cs 0 w _ hHeld.bel
  refine hK.out _ _ ⟨?_, ?_, hb3⟩ (fun hHeld3 => ?_)
  · rw [World.cell?_setCells_out W1.heap.size cs 0 W2 ⟨b, 0, none⟩ (fun e _ => absurd e (by have := World.block_lt_of_cell? _ _ hc; show b ≠ _; omega))]; exact hHeld.cell
  · exact World.rangeAt_setCells_apart hHeld.key _ _ _ (.inl (by have := World.block_lt_of_cell? _ _ (hk 0 A[0] (List.getElem?_eq_getElem (by omega))); show w.heap.size ≠ _; have h2 : w.heap.size < W1.heap.size := this; omega))
  clear hK K
  refine wpAnyH_take (i := 11) (v := .bool f) rfl (by kernel_rfl) (by kernel_rfl) (by kernel_rfl) (fun _ _ _ h => h) (Or.inl ⟨by rfl, fun w' hw' => by go_simp; try rfl⟩) hHeld3 ?_
  refine wpAnyH_done (by kernel_rfl) ?_ _
  have hb4 := Box.mk hb3
  have q := hr3 32 (.string s) hs
  generalize World.setCells W2 W1.heap.size 0 cs = W3 at hb4 q ⊢
  clear hHeld hHeld3 hr3 hb3 hb hc hk ht HL
  rw [Nat.zero_add] at q
  go_wp2
  exact bodyPost_ret (v := .tuple #[.string s, .bool f]) (by simp [results, go_sem]) rfl ⟨rfl, hb4.out⟩
end Go.Proofs.YtacfdnjdjgdbcaaDoor
