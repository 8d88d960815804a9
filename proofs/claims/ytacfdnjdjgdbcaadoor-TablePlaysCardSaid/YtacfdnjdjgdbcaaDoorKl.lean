/- ShaJ, ShaK, ShaL, in one text. -/
import Derived.Test.YtacfdnjdjgdbcaaDoorJd
import Derived.Test.YtacfdnjdjgdbcaaDoorTopA
import Derived.Laws.ResultCell
import Derived.Lib.Bytealg
import Derived.Lib.BytesEntry
import Derived.Deep.QuietTactic
import Derived.BigQuiet
namespace Go.Proofs.YtacfdnjdjgdbcaaDoor
set_option maxRecDepth 100000
open Go.RowKit M

/-- the bytes of digits -/
def prsL : List Nat → List Nat
  | a :: b :: l => (16 * dgV a + dgV b) :: prsL l
  | _ => []
theorem prsL_length : ∀ (l : List Nat), (prsL l).length = l.length / 2
  | [] => rfl
  | [_] => by simp [prsL]
  | a :: b :: l => by simp [prsL, prsL_length l]; omega
theorem prsL_snoc : ∀ (l : List Nat) (a b : Nat), l.length % 2 = 0 → prsL (l ++ [a, b]) = prsL l ++ [16 * dgV a + dgV b]
  | [], a, b, _ => rfl
  | [_], _, _, h => by simp at h
  | x :: y :: l, a, b, h => by
    have := prsL_snoc l a b (by simp at h; omega)
    simp [prsL, this]
theorem dgV_lt (c : Nat) : dgV c < 16 := by unfold dgV; split; omega; split <;> omega
theorem prsL_lt : ∀ (l : List Nat), ∀ d ∈ prsL l, d < 256
  | [] => by simp [prsL]
  | [_] => by simp [prsL]
  | a :: b :: l => by
    intro d hd
    simp only [prsL, List.mem_cons] at hd
    rcases hd with rfl | hd
    · have := dgV_lt a; have := dgV_lt b; omega
    · exact prsL_lt l d hd
/-- are they digits, 64 of them? -/
def digsB (l : List Nat) : Bool := decide (l.length = 64) && l.all dgB
def prsD (l : List Nat) : List Nat := if digsB l = true then prsL l else List.replicate 32 0
def prsP (l : List Nat) (k : Nat) : List Nat := prsL (l.take (2 * k)) ++ List.replicate (32 - k) 0
theorem prsP_length {l : List Nat} (hl : l.length = 64) {k : Nat} (hk : k ≤ 32) : (prsP l k).length = 32 := by
  unfold prsP; rw [List.length_append, prsL_length, List.length_take, List.length_replicate, hl]; omega
theorem prsP_zero (l : List Nat) : prsP l 0 = List.replicate 32 0 := by simp [prsP, prsL]
theorem prsP_full {l : List Nat} (hl : l.length = 64) : prsP l 32 = prsL l := by
  unfold prsP; rw [List.take_of_length_le (by omega)]; simp
theorem prsP_set {l : List Nat} (hl : l.length = 64) {k : Nat} (hk : k < 32) : (prsP l k).set k (16 * dgV (l.getD (2 * k) 0) + dgV (l.getD (2 * k + 1) 0)) = prsP l (k + 1) := by
  have e1 : l.take (2 * (k + 1)) = l.take (2 * k) ++ [l.getD (2 * k) 0, l.getD (2 * k + 1) 0] := by
    rw [show 2 * (k + 1) = 2 * k + 1 + 1 by omega, List.take_succ_eq_append_getElem (i := 2 * k + 1) (by omega), List.take_succ_eq_append_getElem (i := 2 * k) (by omega), List.append_assoc]
    simp [List.getD, hl, show 2 * k < 64 by omega, show 2 * k + 1 < 64 by omega]
  have e2 : (prsL (l.take (2 * k))).length = k := by rw [prsL_length, List.length_take, hl]; omega
  unfold prsP
  rw [e1, prsL_snoc _ _ _ (by rw [List.length_take, hl]; omega), List.set_append, if_neg (by omega), e2, Nat.sub_self, show 32 - k = (32 - (k + 1)) + 1 by omega, List.replicate_succ, List.set_cons_zero, List.append_assoc]
  rfl

theorem byts_get {l : List Nat} {k : Nat} (h : k < l.length) : (byts l)[k]? = some (.int .u8 ((l.getD k 0 : Nat) : Int)) := by
  simp [byts, h, List.getD]
theorem range_setB {w : World} {b : Nat} {l : List Nat} (h : w.rangeAt b 0 (byts l)) (k x : Nat) (hk : k < l.length) : (w.setCell ⟨b, k, none⟩ (.int .u8 (x : Int))).rangeAt b 0 (byts (l.set k x)) := fun j v hv => by
  rw [Nat.zero_add]
  have hj : j < l.length := by
    have := (List.getElem?_eq_some_iff.1 hv).1
    simpa [byts] using this
  rw [byts_get (by simpa using hj)] at hv
  by_cases e : j = k
  · subst e
    have h1 := h j _ (byts_get hk)
    rw [Nat.zero_add] at h1
    rw [World.cell?_setCell_same _ _ _ h1]
    simpa [List.getD, hj] using hv
  · rw [World.cell?_setCell_other _ _ _ _ (by intro e2; cases e2; exact e rfl)]
    have h1 := h j _ (byts_get hj)
    rw [Nat.zero_add] at h1
    rw [h1, ← hv]
    simp [List.getD, show ¬ k = j by omega]

theorem or8 {a b : Nat} (ha : a < 16) (hb : b < 16) : bits BinOp.or IntKind.u8 ((a : Int) * 16) (b : Int) = ((16 * a + b : Nat) : Int) := by
  rw [show (a : Int) * 16 = ((a * 2 ^ 4 : Nat) : Int) by omega, u8_or_nat (a * 2 ^ 4) b (by omega) (by omega), or_add (by omega)]
  congr 1
  omega

theorem results_two {P : Program} {fn : Func} {p u : Tmp} {ty : TypeId} (h : fn.results = #[.cell p ty, .tmp u]) {tmps : Array Value} {w : World} {a : Addr} {v x : Value} (ht : tmps.getD p undef = .pointer (some a)) (hu : tmps.getD u undef = x) (hl : (loadVar ty a).run P w = .ok v w) :
    (results fn tmps).run P w = .ok (.tuple #[v, x]) w := by
  rw [results_cell_tmp h, ht, hu]
  simp [asAddr, hl, Result.andThen]

/-- what Parse leaves -/
def PrsP (l : List Nat) (w : World) (e : Ending) (w' : World) : Prop := e = .returned (.tuple #[.agg (byts (prsD l)).toArray, .bool (digsB l)]) ∧ Below w.heap.size w w'

end Go.Proofs.YtacfdnjdjgdbcaaDoor
namespace Go.Proofs.YtacfdnjdjgdbcaaDoor
set_option maxRecDepth 100000
open Go.RowKit M

/-- the bytes of a list -/
def u8l (l : List Nat) : List UInt8 := l.map UInt8.ofNat
theorem u8l_length (l : List Nat) : (u8l l).length = l.length := by simp [u8l]

theorem bytesCompare_any (g1 g2 c1 c2 : Nat) (l1 l2 : List Nat) (h1 : l1.length = 32) (h2 : l2.length = 32) (t1 : ∀ d ∈ l1, d < 256) (t2 : ∀ d ∈ l2, d < 256) (w : World) (r1 : w.rangeAt g1 0 (byts l1)) (r2 : w.rangeAt g2 0 (byts l2)) :
    Calls Tryd.prog 67 #[.slice (some ⟨g1, 0, none⟩) 32 c1, .slice (some ⟨g2, 0, none⟩) 32 c2] w fun e w' => e = .returned (.int .i64 (Lib.compareBytes (u8l l1) (u8l l2))) ∧ w = w' := by
  have ld : ∀ (g : Nat) (l : List Nat), l.length = 32 → (∀ d ∈ l, d < 256) → w.rangeAt g 0 (byts l) → (Extern.Bytes.loadBytes ⟨g, 0, none⟩ 32 .empty).run Tryd.prog w = .ok ⟨(u8l l).toArray⟩ w := fun g l hl ht hr => by
    have hb : Lib.bytesOf (l.map fun (n : Nat) => (n : Int)) = u8l l := by simp [Lib.bytesOf, u8l]
    have h := Lib.run_loadBytesX (P := Tryd.prog) w (l.map fun (n : Nat) => (n : Int)) ⟨g, 0, none⟩ .empty (fun j x hx => by
      have hj : j < l.length := by have := (List.getElem?_eq_some_iff.1 hx).1; rwa [List.length_map] at this
      have hc := hr j (.int .u8 x) (by rw [List.getElem?_map] at hx; rw [show byts l = l.map (fun (d : Nat) => Value.int .u8 (d : Int)) from rfl, List.getElem?_map]; revert hx; cases l[j]? with | none => simp | some d => intro hx; simpa using hx)
      rw [Nat.zero_add] at hc
      rw [Addr.add_mid, Nat.zero_add]
      exact hc)
    rw [List.length_map, hl, hb] at h
    have he : (⟨ByteArray.empty.data ++ (u8l l).toArray⟩ : ByteArray) = ⟨(u8l l).toArray⟩ := by
      apply ByteArray.ext
      show (#[] : Array UInt8) ++ (u8l l).toArray = (u8l l).toArray
      simp
    rw [h, he]
  have k1 := ld g1 l1 h1 t1 r1
  have k2 := ld g2 l2 h2 t2 r2
  have hrun : (Extern.BytealgCompare.compare #[.slice (some ⟨g1, 0, none⟩) 32 c1, .slice (some ⟨g2, 0, none⟩) 32 c2]).run Tryd.prog w = .ok (.int .i64 (Lib.compareBytes (u8l l1) (u8l l2))) w := by
    change Sem.run Tryd.prog (do pure (goInt (Extern.BytealgCompare.cmp (← Extern.Bytes.bytesOf (.slice (some ⟨g1, 0, none⟩) 32 c1)) (← Extern.Bytes.bytesOf (.slice (some ⟨g2, 0, none⟩) 32 c2))))) w = _
    simp only [Extern.Bytes.bytesOf, Sem.run_bind, Sem.run_pure, Result.andThen, k1, k2]
    rw [Lib.cmp_eq]
    rfl
  clear ld k1 k2 r1 r2 t1 t2 h1 h2
  go_enter Tryd.func67, Tryd.ntmps67
  go_wp2
  rw [run_callFunc_extern Tryd.func85 (by kernel_rfl) (by kernel_rfl) (by kernel_rfl) (e := Extern.BytealgCompare.compare) (by kernel_rfl), hrun]
  simp only [Result.andThen]
  rw [Oper.upon_value]
  go_wp2
  go_ret
  exact ⟨rfl, rfl⟩
end Go.Proofs.YtacfdnjdjgdbcaaDoor
namespace Go.Proofs.YtacfdnjdjgdbcaaDoor
set_option maxRecDepth 100000
open Go.RowKit M

theorem shaCompare_any (l1 l2 : List Nat) (h1 : l1.length = 32) (h2 : l2.length = 32) (t1 : ∀ d ∈ l1, d < 256) (t2 : ∀ d ∈ l2, d < 256) (w : World) :
    Calls Tryd.prog 50 #[.agg (byts l1).toArray, .agg (byts l2).toArray] w fun e w' => e = .returned (.int .i64 (Lib.compareBytes (u8l l1) (u8l l2))) ∧ Below w.heap.size w w' := by
  obtain ⟨wr, hwr⟩ : ∃ wr, wr = (w.alloc (.cells (byts l1).toArray 24)).alloc (.cells (byts l2).toArray 24) := ⟨_, rfl⟩
  have hb : Below w.heap.size w wr := by rw [hwr]; exact ((Below.refl _ _).alloc (Nat.le_refl _) _).alloc (by simp) _
  have r2 : wr.rangeAt (w.heap.size + 1) 0 (byts l2) := by rw [hwr]; exact range_new _ _ _ _ (by simp)
  have r1 : wr.rangeAt w.heap.size 0 (byts l1) := by
    rw [hwr]
    exact range_below ((Below.refl _ _).alloc (Nat.le_refl _) _) (range_new w _ _ _ rfl)
  have q : ∀ k, Calls Tryd.prog 67 #[.slice (some ⟨w.heap.size, 0, none⟩) 32 32, .slice (some ⟨w.heap.size + 1, 0, none⟩) 32 32] (wr.drewN k) fun e w' => e = .returned (.int .i64 (Lib.compareBytes (u8l l1) (u8l l2))) ∧ ∃ m, w' = wr.drewN m := fun k =>
    quiet_l (bytesCompare_any _ _ _ _ l1 l2 h1 h2 t1 t2 (wr.drewN k) (fun j v hv => by simpa using r1 j v hv) (fun j v hv => by simpa using r2 j v hv))
  obtain ⟨A1, hA1⟩ : ∃ A, A = byts l1 := ⟨_, rfl⟩
  obtain ⟨A2, hA2⟩ : ∃ A, A = byts l2 := ⟨_, rfl⟩
  obtain ⟨R, hR⟩ : ∃ R, R = Lib.compareBytes (u8l l1) (u8l l2) := ⟨_, rfl⟩
  rw [← hR] at q ⊢
  rw [← hA1, ← hA2] at hwr ⊢
  clear h1 h2 t1 t2 r1 r2 hR hA1 hA2
  subst hwr
  have HB := Box.mk hb
  have Q := Box.mk q
  clear hb q
  go_enter Tryd.func50, Tryd.ntmps50
  go_wp2
  go_quiet (first
    | (go_at_call 67; exact Q.out _)
    | exact Q.out _)
  go_wp2
  go_ret
  exact ⟨rfl, below_drewN HB.out _⟩
end Go.Proofs.YtacfdnjdjgdbcaaDoor
