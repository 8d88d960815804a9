/- ShaS, RefA, RefB, RefC, in one text. -/
import Derived.Test.YtacfdnjdjgdbcaaDoorJa
import Derived.Test.YtacfdnjdjgdbcaaDoorHy
import Derived.Deep.MidRow
import Derived.Deep.DeepCutAuto
import Derived.Deep.CutBlock
import Derived.Test.YtacfdnjdjgdbcaaDoorJb
import Derived.Deep.QuietTactic
import Derived.BigQuiet
namespace Go.Proofs.YtacfdnjdjgdbcaaDoor.M
set_option maxRecDepth 100000

/-- the number of some parts of 32 bits, the lowest first -/
def valB : List Nat → Nat
  | [] => 0
  | x :: r => x + 4294967296 * valB r
theorem valB_lt : ∀ l : List Nat, (∀ x ∈ l, x < 4294967296) → valB l < 4294967296 ^ l.length
  | [], _ => by simp [valB]
  | x :: r, h => by
    have h1 := valB_lt r fun y hy => h y (by simp [hy])
    have h2 := h x (by simp)
    have e : 4294967296 ^ (x :: r).length = 4294967296 * 4294967296 ^ r.length := by rw [List.length_cons, Nat.pow_succ, Nat.mul_comm]
    rw [e]
    unfold valB
    have h3 : valB r + 1 ≤ 4294967296 ^ r.length := h1
    have h4 : 4294967296 * (valB r + 1) ≤ 4294967296 * 4294967296 ^ r.length := Nat.mul_le_mul_left _ h3
    omega
theorem valB_set : ∀ (l : List Nat) (j : Nat) (y z : Nat), l[j]? = some z → valB (l.set j y) + z * 4294967296 ^ j = valB l + y * 4294967296 ^ j
  | [], _, _, _, h => by simp at h
  | x :: r, 0, y, z, h => by simp at h; subst h; simp [valB]; omega
  | x :: r, j + 1, y, z, h => by
    have ih := valB_set r j y z (by simpa using h)
    have e : 4294967296 ^ (j + 1) = 4294967296 * 4294967296 ^ j := by rw [Nat.pow_succ, Nat.mul_comm]
    simp only [List.set_cons_succ, valB, e]
    generalize 4294967296 ^ j = P at *
    rw [Nat.mul_left_comm z, Nat.mul_left_comm y]
    generalize z * P = a at *
    generalize y * P = b at *
    omega
theorem stepB (l : List Nat) (j c z : Nat) (h : l[j]? = some z) : valB (l.set j ((z + c % 4294967296) % 4294967296)) + (c / 4294967296 + (z + c % 4294967296) / 4294967296) * 4294967296 ^ (j + 1) = valB l + c * 4294967296 ^ j := by
  have h1 := valB_set l j ((z + c % 4294967296) % 4294967296) z h
  have e : 4294967296 ^ (j + 1) = 4294967296 * 4294967296 ^ j := by rw [Nat.pow_succ, Nat.mul_comm]
  rw [e]
  obtain ⟨x, hx⟩ : ∃ x, x = z + c % 4294967296 := ⟨_, rfl⟩
  rw [← hx] at h1 ⊢
  have h2 : (x % 4294967296) * 4294967296 ^ j + (c / 4294967296 + x / 4294967296) * (4294967296 * 4294967296 ^ j) = z * 4294967296 ^ j + c * 4294967296 ^ j := by
    have h3 : x % 4294967296 + (c / 4294967296 + x / 4294967296) * 4294967296 = z + c := by omega
    rw [← Nat.mul_assoc, ← Nat.add_mul, h3, Nat.add_mul]
  omega
theorem valB_split : ∀ (l : List Nat) (i : Nat) (x : Nat), l[i]? = some x → valB l = valB (l.take i) + 4294967296 ^ i * (x + 4294967296 * valB (l.drop (i + 1)))
  | [], _, _, h => by simp at h
  | y :: r, 0, x, h => by simp at h; subst h; simp [valB]
  | y :: r, i + 1, x, h => by
    have ih := valB_split r i x (by simpa using h)
    have e : 4294967296 ^ (i + 1) = 4294967296 * 4294967296 ^ i := by rw [Nat.pow_succ, Nat.mul_comm]
    rw [List.take_succ_cons, List.drop_succ_cons, valB, valB, ih, e, Nat.mul_add, Nat.mul_assoc, Nat.add_assoc]
/-- the highest parts decide -/
theorem valB_cmp (a b : List Nat) (i x y : Nat) (ha : a[i]? = some x) (hb : b[i]? = some y) (hd : a.drop (i + 1) = b.drop (i + 1)) (hal : ∀ z ∈ a, z < 4294967296) (h : x < y) : valB a < valB b := by
  have ea := valB_split a i x ha
  have eb := valB_split b i y hb
  rw [hd] at ea
  have hia : i < a.length := (List.getElem?_eq_some_iff.1 ha).1
  have h1 := valB_lt (a.take i) fun z hz => hal z (List.mem_of_mem_take hz)
  rw [List.length_take, Nat.min_eq_left (Nat.le_of_lt hia)] at h1
  rw [ea, eb]
  generalize valB (b.drop (i + 1)) = D
  generalize valB (b.take i) = E
  generalize valB (a.take i) = A at *
  generalize 4294967296 ^ i = P at *
  have h2 : P * (x + 4294967296 * D) + P ≤ P * (y + 4294967296 * D) := by
    rw [← Nat.mul_succ]
    exact Nat.mul_le_mul_left _ (by omega)
  omega
/-- one more product of parts -/
theorem valB_take_succ (a : List Nat) (i x : Nat) (h : a[i]? = some x) : valB (a.take (i + 1)) = valB (a.take i) + x * 4294967296 ^ i := by
  have h1 : (a.take (i + 1))[i]? = some x := by rw [List.getElem?_take_of_lt (by omega)]; exact h
  have e := valB_split (a.take (i + 1)) i x h1
  have hl : i < a.length := (List.getElem?_eq_some_iff.1 h).1
  rw [List.take_take, Nat.min_eq_left (by omega), List.drop_eq_nil_of_le (by rw [List.length_take]; omega)] at e
  rw [e, valB, Nat.mul_zero, Nat.add_zero, Nat.mul_comm]
/-- greater than p moved left by n parts? -/
def overM (a p n : Nat) : Bool := decide (p * 4294967296 ^ n < a)
def rootGo (p d : Nat) : Nat → Nat → Nat
  | 0, x => x
  | k + 1, x => rootGo p d k (if overM ((x + 2 ^ k) ^ d) p d = true then x else x + 2 ^ k)
theorem rootGo_lt (p d : Nat) : ∀ k x, rootGo p d k x < x + 2 ^ k
  | 0, x => by simp [rootGo]
  | k + 1, x => by
    rw [rootGo]
    have e : 2 ^ (k + 1) = 2 ^ k + 2 ^ k := by rw [Nat.pow_succ]; omega
    have h1 := rootGo_lt p d k x
    have h2 := rootGo_lt p d k (x + 2 ^ k)
    rw [e]
    generalize 2 ^ k = P at *
    split <;> omega
/-- the first 32 bits behind the point of a root -/
def rootM (p d : Nat) : Nat := rootGo p d 36 0 % 4294967296
/-- primes, from p on, behind those that are found -/
def primesGo (n : Nat) : Nat → Nat → List Nat → List Nat
  | 0, _, out => out
  | f + 1, p, out => if out.length < n then primesGo n f (p + 1) (if (out.all fun q => decide (p % q ≠ 0)) = true then out ++ [p] else out) else out
def primesM (n : Nat) : List Nat := primesGo n 398 2 []
theorem primes8 : primesM 8 = [2, 3, 5, 7, 11, 13, 17, 19] := by decide +kernel
theorem primes64 : primesM 64 = [2, 3, 5, 7, 11, 13, 17, 19, 23, 29, 31, 37, 41, 43, 47, 53, 59, 61, 67, 71, 73, 79, 83, 89, 97, 101, 103, 107, 109, 113, 127, 131, 137, 139, 149, 151, 157, 163, 167, 173, 179, 181, 191, 193, 197, 199, 211, 223, 227, 229, 233, 239, 241, 251, 257, 263, 269, 271, 277, 281, 283, 293, 307, 311] := by decide +kernel
theorem roots2 : (primesM 8).map (fun p => rootM p 2) = [iV.a, iV.b, iV.c, iV.d, iV.e, iV.f, iV.g, iV.h] := by rw [primes8]; decide +kernel
theorem roots3 : (primesM 64).map (fun p => rootM p 3) = kN := by rw [primes64]; decide +kernel
end Go.Proofs.YtacfdnjdjgdbcaaDoor.M
namespace Go.Proofs.YtacfdnjdjgdbcaaDoor
set_option maxRecDepth 100000
open Go.RowKit

theorem ldR {P : Program} {ops : Array Oper} {Q : Exit → Act → World → Prop} {rest : List Oper} {a : Act} {w : World} (T : TypeId) (x : Operand) {dst : Option Tmp} {ty : TypeId} {pos : String} {after : Array Edge} {guard : Option (Nat × Bool)}
    (h : wpList P ops Q (⟨dst, .load T x, ty, pos, after, guard⟩ :: rest) a w) : wpList P ops Q (⟨dst, .load T x, ty, pos, after, guard⟩ :: rest) a w := h
theorem stR {P : Program} {ops : Array Oper} {Q : Exit → Act → World → Prop} {rest : List Oper} {a : Act} {w : World} (T : TypeId) (x y : Operand) {dst : Option Tmp} {ty : TypeId} {pos : String} {after : Array Edge} {guard : Option (Nat × Bool)}
    (h : wpList P ops Q (⟨dst, .store T x y, ty, pos, after, guard⟩ :: rest) a w) : wpList P ops Q (⟨dst, .store T x y, ty, pos, after, guard⟩ :: rest) a w := h
theorem cellR {w : World} {b : Nat} {C : Array Value} {t : TypeId} {fr : Nat × Nat} (h : w.heap[b]? = some (.cells C t fr)) (o : Nat) : w.cell? ⟨b, o, none⟩ = C[o]? := by simp [World.cell?, h]
theorem frozR {w : World} {b : Nat} {C : Array Value} {t : TypeId} (h : w.heap[b]? = some (.cells C t (0, 0))) (o : Nat) : w.frozen? ⟨b, o, none⟩ = false := by simp [World.frozen?, h]
theorem asetR (w : World) (o : Obj) : Below w.heap.size w (w.alloc o) := (Below.refl _ _).alloc (Nat.le_refl _) _
theorem setR {w : World} {b : Nat} {C : Array Value} {T : TypeId} {fr : Nat × Nat} (h : w.heap[b]? = some (.cells C T fr)) (o : Nat) (v : Value) : (w.setCell ⟨b, o, none⟩ v).heap[b]? = some (.cells (C.setIfInBounds o v) T fr) := by
  simp [World.setCell, Array.getElem?_modify, h]
theorem ltR {w : World} {b : Nat} {o : Obj} (h : w.heap[b]? = some o) : b < w.heap.size := by
  rcases Nat.lt_or_ge b w.heap.size with e | e
  · exact e
  · rw [Array.getElem?_eq_none e] at h; cases h
/-- the cells of a number of eight parts -/
def bigC (l : List Nat) : Array Value := (l.map fun (n : Nat) => Value.int .u64 (n : Int)).toArray
theorem bigC_get (l : List Nat) (j z : Nat) (h : l[j]? = some z) : (bigC l)[j]? = some (.int .u64 (z : Int)) := by
  unfold bigC; simp [h]
theorem bigC_set (l : List Nat) (j z : Nat) : (bigC l).setIfInBounds j (.int .u64 (z : Int)) = bigC (l.set j z) := by
  unfold bigC; simp [List.map_set]
theorem bigC_one (l : List Nat) : (bigC l).all Value.oneCell' = true := by
  unfold bigC
  simp [Value.oneCell']
theorem bigR {w : World} {b : Nat} {l : List Nat} {t : TypeId} {fr : Nat × Nat} (h : w.heap[b]? = some (.cells (bigC l) t fr)) : w.rangeAt b 0 (bigC l).toList := fun j v hv => by
  rw [Nat.zero_add, cellR h]
  simpa using hv
theorem info_big : (Tryd.prog.info? 96).map (·.size) = some 8 := by kernel_rfl
/-- a part of a product -/
def partY (x : Nat) : Nat → Nat
  | 0 => 0
  | 1 => x % 4294967296
  | _ => x
theorem part_bd (p y : Nat) (hp : p < 4294967296) (hy : y < 4294967296) : p * y ≤ 18446744065119617025 := by
  have := Nat.mul_le_mul (show p ≤ 4294967295 by omega) (show y ≤ 4294967295 by omega)
  omega
/-- what times holds: its product so far, its result's place, what lay before -/
structure BigS (w W : World) (l : List Nat) : Prop where
  o : W.heap[w.heap.size + 1 + 1]? = some (.cells (bigC l) 96 (0, 0))
  r : W.heap[w.heap.size + 1]? = some (.cells #[.int .u64 0, .int .u64 0, .int .u64 0, .int .u64 0, .int .u64 0, .int .u64 0, .int .u64 0, .int .u64 0] 96 (0, 0))
  b : Below w.heap.size w W
  n : l.length = 8
  s : ∀ z ∈ l, z < 4294967296
theorem BigS.bel {w W W2 : World} {l : List Nat} (h : BigS w W l) (hb : Below W.heap.size W W2) : BigS w W2 l :=
  ⟨(hb.block _ (ltR h.o)).trans h.o, (hb.block _ (ltR h.r)).trans h.r, _root_.Go.Proofs.YtacfdnjdjgdbcaaDoor.bel h.b hb, h.n, h.s⟩
theorem BigS.set {w W : World} {l : List Nat} (h : BigS w W l) (j z : Nat) (hz : z < 4294967296) : BigS w (W.setCell ⟨w.heap.size + 1 + 1, j, none⟩ (.int .u64 (z : Int))) (l.set j z) :=
  ⟨by have := setR h.o j (.int .u64 (z : Int)); rwa [bigC_set] at this, (Below.heap_setCell _ _ _ _ (by show w.heap.size + 1 ≠ w.heap.size + 1 + 1; omega)).trans h.r, h.b.setCell (p := ⟨w.heap.size + 1 + 1, j, none⟩) (by show w.heap.size ≤ w.heap.size + 1 + 1; omega) _, by rw [List.length_set]; exact h.n, fun y hy => by
    rcases List.mem_or_eq_of_mem_set hy with hy | rfl
    · exact h.s y hy
    · exact hz⟩
theorem BigS.set2 {w W : World} {l : List Nat} (h : BigS w W l) (j z : Nat) (v : Value) (hz : z < 4294967296) : BigS w ((W.setCell ⟨w.heap.size + 1 + 1, j, none⟩ v).setCell ⟨w.heap.size + 1 + 1, j, none⟩ (.int .u64 (z : Int))) (l.set j z) :=
  ⟨by
    have := setR (setR h.o j v) j (.int .u64 (z : Int))
    have e : ((bigC l).setIfInBounds j v).setIfInBounds j (.int .u64 (z : Int)) = bigC (l.set j z) := by rw [← bigC_set]; simp
    rwa [e] at this, (Below.heap_setCell _ _ _ _ (by show w.heap.size + 1 ≠ w.heap.size + 1 + 1; omega)).trans ((Below.heap_setCell _ _ _ _ (by show w.heap.size + 1 ≠ w.heap.size + 1 + 1; omega)).trans h.r), (h.b.setCell (p := ⟨w.heap.size + 1 + 1, j, none⟩) (by show w.heap.size ≤ w.heap.size + 1 + 1; omega) _).setCell (p := ⟨w.heap.size + 1 + 1, j, none⟩) (by show w.heap.size ≤ w.heap.size + 1 + 1; omega) _, by rw [List.length_set]; exact h.n, fun y hy => by
    rcases List.mem_or_eq_of_mem_set hy with hy | rfl
    · exact h.s y hy
    · exact hz⟩
/-- the two parts of a factor, so far -/
def yy (y0 y1 : Nat) : Nat → Nat
  | 0 => 0
  | 1 => y0
  | _ => y0 + y1 * 4294967296
theorem modEnd (l : List Nat) (hl : l.length = 8) (hs : ∀ z ∈ l, z < 4294967296) (c j T : Nat) (h : (M.valB l + c * 4294967296 ^ j) % 4294967296 ^ 8 = T % 4294967296 ^ 8) (he : c = 0 ∨ j = 8) : M.valB l = T % 4294967296 ^ 8 := by
  have h1 := M.valB_lt l hs
  rw [hl] at h1
  rcases he with rfl | rfl
  · rw [Nat.zero_mul, Nat.add_zero, Nat.mod_eq_of_lt h1] at h
    exact h
  · rw [Nat.add_mul_mod_self_right, Nat.mod_eq_of_lt h1] at h
    exact h
theorem belowC {B b : Nat} (hb : B ≤ b) : ∀ (vs : List Value) (o : Nat) (w0 w : World), Below B w0 w → Below B w0 (w.setCells b o vs)
  | [], _, _, _, h => h
  | v :: r, o, w0, w, h => by
    rw [World.setCells]
    exact belowC hb r (o + 1) w0 _ (h.setCell (p := ⟨b, o, none⟩) hb v)
theorem resR {P : Program} {fn : Func} {p : Tmp} {ty : TypeId} {tmps : Array Value} {w : World} {a : Addr} {v : Value} (h : fn.results = #[.cell p ty]) (ht : tmps.getD p undef = .pointer (some a)) (hl : (loadVar ty a).run P w = .ok v w) :
    (results fn tmps).run P w = .ok v w := by
  have ht' : tmps[p]?.getD undef = .pointer (some a) := by rw [← Array.getD_eq_getD_getElem?]; exact ht
  simp only [results, h]
  simp [ht', hl, asAddr]
set_option maxHeartbeats 6400000 in
theorem times_any (a : List Nat) (x : Nat) (ha : a.length = 8) (hal : ∀ z ∈ a, z < 4294967296) (hx : x < 68719476736) (w : World) :
    Calls Tryd.prog 45 #[.agg (bigC a), .int .u64 (x : Int)] w fun e w' => (∃ o, e = .returned (.agg (bigC o)) ∧ o.length = 8 ∧ (∀ z ∈ o, z < 4294967296) ∧ M.valB o = M.valB a * x % 4294967296 ^ 8) ∧ Below w.heap.size w w' := by
  have hu := Tryd.underlying96
  have R0 : Bx ((((w.alloc (.cells (bigC a) 96)).alloc (.cells #[.int .u64 0, .int .u64 0, .int .u64 0, .int .u64 0, .int .u64 0, .int .u64 0, .int .u64 0, .int .u64 0] 96)).alloc (.cells #[.int .u64 0, .int .u64 0, .int .u64 0, .int .u64 0, .int .u64 0, .int .u64 0, .int .u64 0, .int .u64 0] 96)).rangeAt w.heap.size 0 (bigC a).toList) := ⟨bigR (((asetR _ _).block _ (by simp; omega)).trans (((asetR _ _).block _ (by simp)).trans (heap_alloc_new _ _)))⟩
  have I0 : Bx ((Tryd.prog.info? 96).map (·.size) = some (bigC a).toList.length) := ⟨by rw [info_big]; simp [bigC, ha]⟩
  go_enter Tryd.func45, Tryd.ntmps45
  go_wp2_with ((with_reducible refine ldR 96 (.tmp 2) ?_); refine wpList_load_mid rfl 96 (.tmp 2) (by rfl) w.heap.size 0 (by rfl) (bigC a).toList _ R0.out hu rfl I0.out ?_)
  go_loopw [14] (fun i wr => ∃ (k : Nat) (l : List Nat), i = .int .i64 (k : Int) ∧ k ≤ 8 ∧ Bx (BigS w wr l) ∧ Bx (M.valB l = (M.valB (a.take k) * x) % 4294967296 ^ 8)) (fun i _ => 8 - (intOf i).toNat)
  case atStart =>
    refine ⟨0, [0, 0, 0, 0, 0, 0, 0, 0], rfl, by omega, ⟨⟨?_, ?_, bel (bel (asetR _ _) (asetR _ _)) (asetR _ _), rfl, by decide⟩⟩, ⟨by simp [M.valB]⟩⟩
    · have := heap_alloc_new ((w.alloc (.cells (bigC a) 96)).alloc (.cells #[.int .u64 0, .int .u64 0, .int .u64 0, .int .u64 0, .int .u64 0, .int .u64 0, .int .u64 0, .int .u64 0] 96)) (.cells #[.int .u64 0, .int .u64 0, .int .u64 0, .int .u64 0, .int .u64 0, .int .u64 0, .int .u64 0, .int .u64 0] 96)
      simpa [bigC] using this
    · have h1 := heap_alloc_new (w.alloc (.cells (bigC a) 96)) (.cells #[.int .u64 0, .int .u64 0, .int .u64 0, .int .u64 0, .int .u64 0, .int .u64 0, .int .u64 0, .int .u64 0] 96)
      have hs : (w.alloc (.cells (bigC a) 96)).heap.size = w.heap.size + 1 := by simp
      rw [hs] at h1
      exact ((asetR _ _).block _ (ltR h1)).trans h1
  case round =>
    obtain ⟨k, l, rfl, hk8, hS, hV⟩ := hrel
    obtain ⟨wo, rfl⟩ : ∃ wo : World, wo = wr := ⟨_, rfl⟩
    by_cases hk : k < 8
    · obtain ⟨p, hp⟩ : ∃ p, a[k]? = some p := ⟨_, List.getElem?_eq_getElem (by omega)⟩
      have hpl := hal p (List.mem_of_getElem? hp)
      have hidx : ∀ W, (Instr.index 96 (.agg (bigC a)) (.int .i64 (k : Int))).run Tryd.prog W = .ok (.int .u64 (p : Int)) W := fun W => index_arr W hu (by kernel_rfl) Tryd.underlying67 rfl k hk (by rw [List.getElem?_map, hp]; rfl)
      have hts := M.valB_take_succ a k p hp
      have HTS := Bx.mk hts
      obtain ⟨T0, hT0⟩ : ∃ T0, T0 = M.valB (a.take k) * x := ⟨_, rfl⟩
      rw [← hT0] at hV
      have HT0 := Bx.mk hT0
      have hki : (k : Int) < 8 := by omega
      have hk0 : (0 : Int) ≤ (k : Int) := by omega
      have hx1 : ((x : Int) % 4294967296) = ((x % 4294967296 : Nat) : Int) := by omega
      have hx2 : ((x : Int) / 4294967296) = ((x / 4294967296 : Nat) : Int) := by omega
      obtain ⟨y0, hy0⟩ : ∃ y0, y0 = x % 4294967296 := ⟨_, rfl⟩
      obtain ⟨y1, hy1⟩ : ∃ y1, y1 = x / 4294967296 := ⟨_, rfl⟩
      rw [← hy0] at hx1
      rw [← hy1] at hx2
      have hy0l : y0 < 4294967296 := by omega
      have hy1l : y1 < 4294967296 := by omega
      have hxy : x = y0 + y1 * 4294967296 := by omega
      have HXY := Bx.mk hxy
      clear hp hts hT0 hy0 hy1 hxy
      go_wp2_with fail
      go_loopw [24] (fun i wr => ∃ (q : Nat) (l : List Nat), i = .int .i64 (q : Int) ∧ q ≤ 2 ∧ Bx (BigS w wr l) ∧ Bx (wr.heap[wo.heap.size]? = some (.cells #[.int .u64 (y0 : Int), .int .u64 (y1 : Int)] 67 (0, 0))) ∧ Bx (M.valB l = (T0 + p * yy y0 y1 q * 4294967296 ^ k) % 4294967296 ^ 8)) (fun i _ => 2 - (intOf i).toNat)
      case atStart => exact ⟨0, l, rfl, by omega, ⟨hS.out.bel (asetR _ _)⟩, ⟨heap_alloc_new _ _⟩, ⟨by rw [hV.out]; simp [yy]⟩⟩
      case round =>
        obtain ⟨q, l2, rfl, hq2, hS2, hY, hV2⟩ := hrel
        obtain ⟨wi, rfl⟩ : ∃ wi : World, wi = wr := ⟨_, rfl⟩
        have hob : w.heap.size + 1 + 1 < wo.heap.size := ltR hS.out.o
        by_cases hq : q < 2
        · obtain ⟨y, hyq, hyl, hyy⟩ : ∃ y : Nat, wi.cell? ⟨wo.heap.size, q, none⟩ = some (.int .u64 (y : Int)) ∧ y < 4294967296 ∧ yy y0 y1 (q + 1) = yy y0 y1 q + y * 4294967296 ^ q := by
            rcases (show q = 0 ∨ q = 1 by omega) with rfl | rfl
            · exact ⟨y0, by rw [cellR hY.out]; rfl, hy0l, by simp [yy]⟩
            · exact ⟨y1, by rw [cellR hY.out]; rfl, hy1l, by simp [yy]⟩
          have hbd := part_bd p y hpl hyl
          obtain ⟨c0, hc0⟩ : ∃ c0, c0 = p * y := ⟨_, rfl⟩
          rw [← hc0] at hbd
          have hmul : (p : Int) * (y : Int) = (c0 : Int) := by rw [hc0]; push_cast; rfl
          obtain ⟨T1, hT1⟩ : ∃ T1, T1 = T0 + p * yy y0 y1 (q + 1) * 4294967296 ^ k := ⟨_, rfl⟩
          have hst : (M.valB l2 + c0 * 4294967296 ^ (k + q)) % 4294967296 ^ 8 = T1 % 4294967296 ^ 8 := by
            rw [hV2.out, Nat.mod_add_mod, hT1, hyy, hc0, Nat.mul_add, Nat.add_mul, ← Nat.add_assoc, Nat.pow_add]
            congr 2
            rw [Nat.mul_assoc p y, Nat.mul_assoc p, Nat.mul_assoc y, Nat.mul_comm (4294967296 ^ k)]
          have HST := Bx.mk hst; have HT1 := Bx.mk hT1
          have hqi : (q : Int) < 2 := by omega
          have hq0 : (0 : Int) ≤ (q : Int) := by omega
          clear hst hT1 hyy hc0
          go_wp2_with fail
          go_loopw [10, 11] (fun c j wr => ∃ (cn jn : Nat) (l3 : List Nat), c = .int .u64 (cn : Int) ∧ j = .int .i64 (jn : Int) ∧ jn ≤ 8 ∧ cn ≤ 18446744065119617025 ∧ Bx (BigS w wr l3) ∧ Bx (wr.heap[wo.heap.size]? = some (.cells #[.int .u64 (y0 : Int), .int .u64 (y1 : Int)] 67 (0, 0))) ∧ Bx ((M.valB l3 + cn * 4294967296 ^ jn) % 4294967296 ^ 8 = T1 % 4294967296 ^ 8)) (fun _ j _ => 8 - (intOf j).toNat)
          case atStart => exact ⟨c0, k + q, l2, rfl, by go_num, by omega, hbd, hS2, hY, HST⟩
          case round =>
            obtain ⟨cn, jn, l3, rfl, rfl, hj8, hcb, hS3, hY3, hV3⟩ := hrel
            by_cases hgo : jn < 8 ∧ 0 < cn
            · obtain ⟨hj, hc⟩ := hgo
              obtain ⟨z, hz⟩ : ∃ z, l3[jn]? = some z := ⟨_, List.getElem?_eq_getElem (by rw [hS3.out.n]; exact hj)⟩
              have hzl := hS3.out.s z (List.mem_of_getElem? hz)
              have qz : wr.cell? ⟨w.heap.size + 1 + 1, jn, none⟩ = some (.int .u64 (z : Int)) := by rw [cellR hS3.out.o, bigC_get _ _ _ hz]
              have qf : wr.frozen? ⟨w.heap.size + 1 + 1, jn, none⟩ = false := frozR hS3.out.o _
              have hsb := M.stepB l3 jn cn z hz
              obtain ⟨c1, hc1⟩ : ∃ c1, c1 = cn % 4294967296 := ⟨_, rfl⟩
              obtain ⟨c2, hc2⟩ : ∃ c2, c2 = cn / 4294967296 := ⟨_, rfl⟩
              rw [← hc1, ← hc2] at hsb
              obtain ⟨d, hd⟩ : ∃ d, d = (z + c1) / 4294967296 := ⟨_, rfl⟩
              obtain ⟨m, hm⟩ : ∃ m, m = (z + c1) % 4294967296 := ⟨_, rfl⟩
              rw [← hd, ← hm] at hsb
              have e1 : (cn : Int) % 4294967296 = (c1 : Int) := by omega
              have e2 : (cn : Int) / 4294967296 = (c2 : Int) := by omega
              have e3 : ((z : Int) + (c1 : Int)) / 4294967296 = (d : Int) := by omega
              have e4 : ((z : Int) + (c1 : Int)) % 4294967296 = (m : Int) := by omega
              have b1 : c1 < 4294967296 := by omega
              have b2 : c2 < 4294967296 := by omega
              have b3 : d ≤ 1 := by omega
              have b4 : m < 4294967296 := by omega
              have hji : (jn : Int) < 8 := by omega
              have hj0 : (0 : Int) ≤ (jn : Int) := by omega
              have S4 := Bx.mk (hS3.out.set2 jn m (.int .u64 ((z : Int) + (c1 : Int))) b4)
              have Y4 : Bx (((wr.setCell ⟨w.heap.size + 1 + 1, jn, none⟩ (.int .u64 ((z : Int) + (c1 : Int)))).setCell ⟨w.heap.size + 1 + 1, jn, none⟩ (.int .u64 (m : Int))).heap[wo.heap.size]? = some (.cells #[.int .u64 (y0 : Int), .int .u64 (y1 : Int)] 67 (0, 0))) := ⟨(Below.heap_setCell _ _ _ _ (by show wo.heap.size ≠ w.heap.size + 1 + 1; omega)).trans ((Below.heap_setCell _ _ _ _ (by show wo.heap.size ≠ w.heap.size + 1 + 1; omega)).trans hY3.out)⟩
              have V4 : Bx ((M.valB (l3.set jn m) + (c2 + d) * 4294967296 ^ (jn + 1)) % 4294967296 ^ 8 = T1 % 4294967296 ^ 8) := ⟨by rw [hsb]; exact hV3.out⟩
              clear hsb hz hc1 hc2 hd hm
              go_wp2_with fail
              go_roundw
              case rel => exact ⟨c2 + d, jn + 1, l3.set jn m, by push_cast; rfl, by go_num, by omega, by omega, S4, Y4, V4⟩
              case measure => simp [intOf] <;> omega
            · have HE : Bx (M.valB l3 = T1 % 4294967296 ^ 8) := ⟨modEnd l3 hS3.out.n hS3.out.s cn jn T1 hV3.out (by omega)⟩
              by_cases hj : jn < 8
              · obtain rfl : cn = 0 := by omega
                have hji : (jn : Int) < 8 := by omega
                clear hgo
                go_wp2_with fail
                go_roundw
                case rel => exact ⟨q + 1, l3, by go_num, by omega, hS3, hY3, ⟨by rw [HE.out, HT1.out]⟩⟩
                case measure => simp [intOf] <;> omega
              · have hji : ¬ (jn : Int) < 8 := by omega
                clear hgo
                go_wp2_with fail
                go_roundw
                case rel => exact ⟨q + 1, l3, by go_num, by omega, hS3, hY3, ⟨by rw [HE.out, HT1.out]⟩⟩
                case measure => simp [intOf] <;> omega
        · obtain rfl : q = 2 := by omega
          have HE : Bx (M.valB l2 = M.valB (a.take (k + 1)) * x % 4294967296 ^ 8) := ⟨by
            rw [hV2.out, HTS.out, Nat.add_mul, ← HT0.out]
            congr 2
            rw [Nat.mul_right_comm, HXY.out]
            rfl⟩
          go_wp2_with fail
          go_roundw
          case rel => exact ⟨k + 1, l2, by go_num, by omega, hS2, HE⟩
          case measure => simp [intOf] <;> omega
    · obtain rfl : k = 8 := by omega
      have R1 := Bx.mk (bigR hS.out.o)
      have I1 : Bx ((Tryd.prog.info? 96).map (·.size) = some (bigC l).toList.length) := ⟨by rw [info_big]; simp [bigC, hS.out.n]⟩
      have I2 : Bx ((Tryd.prog.info? 96).map (·.size) = some (bigC l).size) := ⟨by rw [info_big]; simp [bigC, hS.out.n]⟩
      have TH : Bx (wo.there (w.heap.size + 1) 0 (bigC l).size) := ⟨fun j hj => by
        have h8 : (bigC l).size = 8 := by simp [bigC, hS.out.n]
        rw [h8] at hj
        exact ⟨by rw [cellR hS.out.r, Nat.zero_add]; simp [hj], frozR hS.out.r _⟩⟩
      go_wp2_with (first
        | ((with_reducible refine ldR 96 (.tmp 5) ?_); refine wpList_load_mid rfl 96 (.tmp 5) (by rfl) (w.heap.size + 1 + 1) 0 (by rfl) (bigC l).toList _ R1.out hu rfl I1.out ?_)
        | ((with_reducible refine stR 96 (.tmp 4) (.tmp 65) ?_); refine wpList_store_mid rfl 96 (.tmp 4) (.tmp 65) (by rfl) (w.heap.size + 1) 0 (bigC l) (by rfl) (by rfl) TH.out I2.out (bigC_one l) ?_))
      have hld := run_loadVar_mid (P := Tryd.prog) (wo.setCells (w.heap.size + 1) 0 (bigC l).toList) (w.heap.size + 1) 0 96 (bigC l).toList _ (World.rangeAt_setCells_same wo (w.heap.size + 1) 0 (bigC l).toList (by simpa using TH.out)) hu rfl I1.out
      refine bodyPost_ret (v := .agg (bigC l)) (resR rfl rfl hld) rfl ⟨⟨l, rfl, hS.out.n, hS.out.s, ?_⟩, ?_⟩
      · rw [hV.out, ← ha, List.take_length]
      · exact belowC (by omega) _ _ _ _ hS.out.b
end Go.Proofs.YtacfdnjdjgdbcaaDoor
namespace Go.Proofs.YtacfdnjdjgdbcaaDoor
set_option maxRecDepth 100000
open Go.RowKit

/-- p moved left by n parts -/
def movB (p n : Nat) : List Nat := [0, 0, 0, 0, 0, 0, 0, 0].set n p
theorem movB_len (p n : Nat) : (movB p n).length = 8 := by simp [movB]
theorem movB_val (p n : Nat) (hn : n < 8) : M.valB (movB p n) = p * 4294967296 ^ n := by
  have h := M.valB_set [0, 0, 0, 0, 0, 0, 0, 0] n p 0 (by
    have : n = 0 ∨ n = 1 ∨ n = 2 ∨ n = 3 ∨ n = 4 ∨ n = 5 ∨ n = 6 ∨ n = 7 := by omega
    rcases this with rfl | rfl | rfl | rfl | rfl | rfl | rfl | rfl <;> rfl)
  have h0 : M.valB [0, 0, 0, 0, 0, 0, 0, 0] = 0 := by decide
  rw [h0, Nat.zero_mul, Nat.add_zero, Nat.zero_add] at h
  exact h
theorem dropEq {a b : List Nat} {j x : Nat} (ha : a[j]? = some x) (hb : b[j]? = some x) (h : a.drop (j + 1) = b.drop (j + 1)) : a.drop j = b.drop j := by
  obtain ⟨h1, e1⟩ := List.getElem?_eq_some_iff.1 ha
  obtain ⟨h2, e2⟩ := List.getElem?_eq_some_iff.1 hb
  rw [List.drop_eq_getElem_cons h1, List.drop_eq_getElem_cons h2, e1, e2, h]
theorem belDrR {B : Nat} {w0 w : World} (h : Below B w0 w) (n : Nat) : Below B w0 (w.drewN n) := ⟨h.os, h.tape, h.output, h.size, h.block⟩
set_option maxHeartbeats 3200000 in
theorem over_any (a : List Nat) (p n : Nat) (ha : a.length = 8) (hal : ∀ z ∈ a, z < 4294967296) (hp : p < 4294967296) (hn : n < 8) (w : World) :
    Calls Tryd.prog 46 #[.agg (bigC a), .int .u64 (p : Int), .int .i64 (n : Int)] w fun e w' => e = .returned (.bool (M.overM (M.valB a) p n)) ∧ Below w.heap.size w w' := by
  have hni : (n : Int) < 8 := by omega
  have hn0 : (0 : Int) ≤ (n : Int) := by omega
  obtain ⟨b, hb⟩ : ∃ b, b = movB p n := ⟨_, rfl⟩
  have hbv : M.valB b = p * 4294967296 ^ n := by rw [hb]; exact movB_val p n hn
  have hbl : b.length = 8 := by rw [hb]; exact movB_len p n
  have hbs : ∀ z ∈ b, z < 4294967296 := by
    rw [hb]
    intro z hz
    rcases List.mem_or_eq_of_mem_set hz with hz | rfl
    · simp at hz; omega
    · exact hp
  have hs1 : (w.alloc (.cells (bigC a) 96)).heap.size = w.heap.size + 1 := by simp
  have HB1 : Bx (((w.alloc (.cells (bigC a) 96)).alloc (.cells #[.int .u64 0, .int .u64 0, .int .u64 0, .int .u64 0, .int .u64 0, .int .u64 0, .int .u64 0, .int .u64 0] 96)).heap[w.heap.size + 1]? = some (.cells (bigC [0, 0, 0, 0, 0, 0, 0, 0]) 96 (0, 0))) := ⟨by
    have := heap_alloc_new (w.alloc (.cells (bigC a) 96)) (.cells #[.int .u64 0, .int .u64 0, .int .u64 0, .int .u64 0, .int .u64 0, .int .u64 0, .int .u64 0, .int .u64 0] 96)
    rw [hs1] at this
    exact this⟩
  have HB0 : Bx (((w.alloc (.cells (bigC a) 96)).alloc (.cells #[.int .u64 0, .int .u64 0, .int .u64 0, .int .u64 0, .int .u64 0, .int .u64 0, .int .u64 0, .int .u64 0] 96)).heap[w.heap.size]? = some (.cells (bigC a) 96 (0, 0))) := ⟨((asetR _ _).block _ (by rw [hs1]; omega)).trans (heap_alloc_new _ _)⟩
  have HBB : Bx (Below w.heap.size w ((w.alloc (.cells (bigC a) 96)).alloc (.cells #[.int .u64 0, .int .u64 0, .int .u64 0, .int .u64 0, .int .u64 0, .int .u64 0, .int .u64 0, .int .u64 0] 96))) := ⟨bel (asetR _ _) (asetR _ _)⟩
  have HBV := Bx.mk hbv; have HB := Bx.mk hb
  clear hbv hb hs1
  go_enter Tryd.func46, Tryd.ntmps46
  go_upto_region 2 with fail
  generalize ((w.alloc (.cells (bigC a) 96)).alloc (.cells #[.int .u64 0, .int .u64 0, .int .u64 0, .int .u64 0, .int .u64 0, .int .u64 0, .int .u64 0, .int .u64 0] 96)) = w2 at *
  have hz0 : ([0, 0, 0, 0, 0, 0, 0, 0] : List Nat)[n]? = some 0 := by
    have : n = 0 ∨ n = 1 ∨ n = 2 ∨ n = 3 ∨ n = 4 ∨ n = 5 ∨ n = 6 ∨ n = 7 := by omega
    rcases this with rfl | rfl | rfl | rfl | rfl | rfl | rfl | rfl <;> rfl
  have qz : w2.cell? ⟨w.heap.size + 1, n, none⟩ = some (.int .u64 0) := by rw [cellR HB1.out, bigC_get _ _ _ hz0]; rfl
  have qf : w2.frozen? ⟨w.heap.size + 1, n, none⟩ = false := frozR HB1.out _
  have K1 : Bx ((w2.setCell ⟨w.heap.size + 1, n, none⟩ (.int .u64 (p : Int))).heap[w.heap.size + 1]? = some (.cells (bigC b) 96 (0, 0))) := ⟨by
    have := setR HB1.out n (.int .u64 (p : Int))
    rwa [bigC_set, show ([0, 0, 0, 0, 0, 0, 0, 0] : List Nat).set n p = b from HB.out.symm] at this⟩
  have K0 : Bx ((w2.setCell ⟨w.heap.size + 1, n, none⟩ (.int .u64 (p : Int))).heap[w.heap.size]? = some (.cells (bigC a) 96 (0, 0))) := ⟨(Below.heap_setCell _ _ _ _ (by show w.heap.size ≠ w.heap.size + 1; omega)).trans HB0.out⟩
  have KB : Bx (Below w.heap.size w (w2.setCell ⟨w.heap.size + 1, n, none⟩ (.int .u64 (p : Int)))) := ⟨HBB.out.setCell (p := ⟨w.heap.size + 1, n, none⟩) (by show w.heap.size ≤ w.heap.size + 1; omega) _⟩
  clear hz0 HB0 HB1 HBB
  go_upto_region 3 with fail
  generalize w2.setCell ⟨w.heap.size + 1, n, none⟩ (.int .u64 (p : Int)) = w3 at *
  go_wp2_with fail
  go_loopw [8] (fun t wr => ∃ (r : Nat) (v : Int), t = .int .i64 v ∧ v = (r : Int) - 1 ∧ r ≤ 8 ∧ Bx (a.drop r = b.drop r) ∧ Bx (Below w3.heap.size w3 wr)) (fun t _ => (intOf t + 1).toNat)
  case atStart => exact ⟨8, 7, rfl, by omega, by omega, ⟨by rw [List.drop_eq_nil_of_le (by omega), List.drop_eq_nil_of_le (by omega)]⟩, ⟨Below.refl _ _⟩⟩
  case round =>
    obtain ⟨r, v, rfl, hv, hr8, hd, hbw⟩ := hrel
    cases r with
    | zero =>
      have hv1 : v = -1 := by omega
      subst hv1
      have HF : Bx (M.overM (M.valB a) p n = false) := ⟨by
        have h1 := hd.out
        rw [List.drop_zero, List.drop_zero] at h1
        unfold M.overM
        rw [h1, HBV.out]; simp⟩
      clear hv
      go_wp2_with fail
      go_ret
      exact ⟨by rw [HF.out]; rfl, bel KB.out hbw.out⟩
    | succ j =>
      have hv1 : v = (j : Int) := by omega
      subst hv1
      obtain ⟨x, hx⟩ : ∃ x, a[j]? = some x := ⟨_, List.getElem?_eq_getElem (by omega)⟩
      obtain ⟨y, hy⟩ : ∃ y, b[j]? = some y := ⟨_, List.getElem?_eq_getElem (by omega)⟩
      have q0 : wr.cell? ⟨w.heap.size, j, none⟩ = some (.int .u64 (x : Int)) := by
        rw [cellR ((hbw.out.block _ (ltR K0.out)).trans K0.out), bigC_get _ _ _ hx]
      have q1 : wr.cell? ⟨w.heap.size + 1, j, none⟩ = some (.int .u64 (y : Int)) := by
        rw [cellR ((hbw.out.block _ (ltR K1.out)).trans K1.out), bigC_get _ _ _ hy]
      have hji : (j : Int) < 8 := by omega
      have hj0 : (0 : Int) ≤ (j : Int) := by omega
      by_cases hxy : x = y
      · subst hxy
        have HD := Bx.mk (dropEq hx hy hd.out)
        clear hx hy hv
        go_wp2_with fail
        go_quiet (fail)
        go_wp2_with fail
        go_roundw
        case rel => exact ⟨j, _, rfl, by omega, by omega, HD, ⟨belDrR hbw.out _⟩⟩
        case measure => simp [intOf] <;> omega
      · have hq : ((x : Int) == (y : Int)) = false := by rw [beq_eq_false_iff_ne]; omega
        have hq2 : ((x : Int) != (y : Int)) = true := by rw [bne, hq]; rfl
        have HF : Bx (M.overM (M.valB a) p n = decide (y < x)) := ⟨by
          unfold M.overM
          rw [← HBV.out]
          rcases Nat.lt_or_gt_of_ne hxy with h1 | h1
          · have := M.valB_cmp a b j x y hx hy hd.out hal h1
            rw [decide_eq_false (by omega), decide_eq_false (by omega)]
          · have := M.valB_cmp b a j y x hy hx hd.out.symm hbs h1
            rw [decide_eq_true this, decide_eq_true h1]⟩
        clear hx hy hv
        by_cases hlt : y < x
        · have HT : Bx (decide (y < x) = true) := ⟨by simpa using hlt⟩
          have hlti : (y : Int) < (x : Int) := by omega
          clear hxy
          go_wp2_with fail
          go_quiet (fail)
          go_wp2_with fail
          go_quiet (fail)
          go_wp2_with fail
          go_ret
          exact ⟨by rw [HF.out, HT.out]; rfl, by first | exact bel KB.out (belDrR (belDrR hbw.out _) _) | exact bel KB.out (belDrR hbw.out _)⟩
        · have HT : Bx (decide (y < x) = false) := ⟨by simpa using hlt⟩
          have hlti : ¬ (y : Int) < (x : Int) := by omega
          clear hxy
          go_wp2_with fail
          go_quiet (fail)
          go_wp2_with fail
          go_quiet (fail)
          go_wp2_with fail
          go_ret
          exact ⟨by rw [HF.out, HT.out]; rfl, by first | exact bel KB.out (belDrR (belDrR hbw.out _) _) | exact bel KB.out (belDrR hbw.out _)⟩
end Go.Proofs.YtacfdnjdjgdbcaaDoor
namespace Go.Proofs.YtacfdnjdjgdbcaaDoor
set_option maxRecDepth 100000
open Go.RowKit

/-- the bit that is tried next, r are left -/
def bitV : Nat → Nat
  | 0 => 0
  | r + 1 => 2 ^ r
theorem bitV_half (k : Nat) : bitV (k + 1) / 2 = bitV k := by
  cases k with
  | zero => rfl
  | succ j => show 2 ^ (j + 1) / 2 = 2 ^ j; rw [Nat.pow_succ]; omega
theorem powB {s i : Nat} (hs : s < 68719476736) (hi : i ≤ 3) : s ^ i < 4294967296 ^ 8 := by
  have h1 : s ^ i ≤ 68719476736 ^ i := Nat.pow_le_pow_left (by omega) i
  have h2 : (68719476736 : Nat) ^ i ≤ 68719476736 ^ 3 := Nat.pow_le_pow_right (by decide) hi
  have h3 : (68719476736 : Nat) ^ 3 < 4294967296 ^ 8 := by decide +kernel
  omega
theorem cellsThere (w : World) (Z : Array Value) (T : TypeId) : (w.alloc (.cells Z T)).there w.heap.size 0 Z.size := fun j hj => by
  have hh := heap_alloc_new w (.cells Z T)
  exact ⟨by rw [cellR hh, Nat.zero_add]; simp [hj], frozR hh _⟩
theorem bigC_size (l : List Nat) : (bigC l).size = l.length := by simp [bigC]
set_option maxHeartbeats 6400000 in
theorem root_any (p d : Nat) (hp : p < 4294967296) (hd2 : 2 ≤ d) (hd3 : d ≤ 3) (w : World) :
    Calls Tryd.prog 32 #[.int .u64 (p : Int), .int .i64 (d : Int)] w fun e w' => e = .returned (.int .u32 ((M.rootM p d : Nat) : Int)) ∧ Below w.heap.size w w' := by
  have hu := Tryd.underlying96
  go_enter Tryd.func32, Tryd.ntmps32
  go_wp2_with fail
  go_loopw [5, 6] (fun xv bv wr => ∃ (r X : Nat), xv = .int .u64 (X : Int) ∧ bv = .int .u64 ((bitV r : Nat) : Int) ∧ r ≤ 36 ∧ Bx (X + 2 ^ r ≤ 68719476736) ∧ Bx (M.rootGo p d 36 0 = M.rootGo p d r X) ∧ Bx (Below w.heap.size w wr)) (fun _ bv _ => (intOf bv).toNat)
  case atStart => exact ⟨36, 0, rfl, rfl, by omega, ⟨by decide⟩, ⟨rfl⟩, ⟨Below.refl _ _⟩⟩
  case round =>
    obtain ⟨r, X, rfl, rfl, hr, hX, hgo, hb⟩ := hrel
    obtain ⟨wo, rfl⟩ : ∃ wo : World, wo = wr := ⟨_, rfl⟩
    cases r with
    | zero =>
      have hX1 : X < 68719476736 := by have := hX.out; simp at this; omega
      have e0 : ((bitV 0 : Nat) : Int) = 0 := rfl
      rw [e0]
      have hm : (X : Int) % 4294967296 = ((X % 4294967296 : Nat) : Int) := by omega
      obtain ⟨m, hmm⟩ : ∃ m, m = X % 4294967296 := ⟨_, rfl⟩
      rw [← hmm] at hm
      have hml : m < 4294967296 := by omega
      have HR : Bx (M.rootM p d = m) := ⟨by unfold M.rootM; rw [hgo.out, hmm]; rfl⟩
      clear hmm
      go_wp2_with fail
      go_ret
      exact ⟨by rw [HR.out]; rfl, hb.out⟩
    | succ k =>
      obtain ⟨b, hbk⟩ : ∃ b, b = bitV (k + 1) := ⟨_, rfl⟩
      have hbp : 0 < b := by rw [hbk]; exact Nat.pow_pos (by decide)
      obtain ⟨s, hs⟩ : ∃ s, s = X + b := ⟨_, rfl⟩
      have hsum : X + b + b ≤ 68719476736 := by
        have h1 := hX.out
        have h2 : 2 ^ (k + 1) = b + b := by rw [hbk]; show 2 ^ (k + 1) = 2 ^ k + 2 ^ k; rw [Nat.pow_succ]; omega
        omega
      have hsl : s < 68719476736 := by omega
      have hh : b / 2 = bitV k := by rw [hbk]; exact bitV_half k
      have hstep : M.rootGo p d 36 0 = M.rootGo p d k (if M.overM (s ^ d) p d = true then X else s) := by rw [hgo.out, hs, hbk]; rfl
      have hbnd : b = 2 ^ k := hbk
      rw [← hbk]
      obtain ⟨b2, hb2⟩ : ∃ b2, b2 = bitV k := ⟨_, rfl⟩
      have hdiv : (b : Int) / 2 = (b2 : Int) := by rw [hb2, ← hh]; omega
      have hs2 : (X : Int) + (b : Int) = (s : Int) := by rw [hs]; push_cast; rfl
      have HST := Bx.mk hstep; have HBD := Bx.mk hbnd; have HB2 := Bx.mk hb2; have HS := Bx.mk hs; have HSUM := Bx.mk hsum
      have hbl : b ≤ 68719476736 := by omega
      have hXl : X < 68719476736 := by omega
      have hb2l : b2 < b := by rw [hb2, ← hh]; omega
      clear hbk hs hh hstep hbnd hb2 hsum
      have R0 : Bx ((wo.alloc (.cells #[.int .u64 1, .int .u64 0, .int .u64 0, .int .u64 0, .int .u64 0, .int .u64 0, .int .u64 0, .int .u64 0] 96)).rangeAt wo.heap.size 0 (bigC [1, 0, 0, 0, 0, 0, 0, 0]).toList) := ⟨bigR (heap_alloc_new _ _)⟩
      have T0 : Bx ((wo.alloc (.cells #[.int .u64 1, .int .u64 0, .int .u64 0, .int .u64 0, .int .u64 0, .int .u64 0, .int .u64 0, .int .u64 0] 96)).there wo.heap.size 0 8) := ⟨cellsThere _ _ _⟩
      go_wp2_with fail
      go_loopw [8] (fun t wr => ∃ (i : Nat) (l : List Nat), t = .int .i64 (i : Int) ∧ i ≤ d ∧ l.length = 8 ∧ (∀ z ∈ l, z < 4294967296) ∧ Bx (M.valB l = s ^ i) ∧ Bx (Below w.heap.size w wr) ∧ Bx (wr.rangeAt wo.heap.size 0 (bigC l).toList) ∧ Bx (wr.there wo.heap.size 0 8) ∧ w.heap.size ≤ wo.heap.size) (fun t _ => d - (intOf t).toNat)
      case atStart => exact ⟨0, [1, 0, 0, 0, 0, 0, 0, 0], rfl, by omega, rfl, by decide, ⟨by rw [Nat.pow_zero]; decide⟩, ⟨hb.out.alloc hb.out.size _⟩, R0, T0, hb.out.size⟩
      case round =>
        obtain ⟨i, l, rfl, hid, hl8, hls, hV, hbw, hR, hT, hwo⟩ := hrel
        obtain ⟨wi, rfl⟩ : ∃ wi : World, wi = wr := ⟨_, rfl⟩
        have I1 : Bx ((Tryd.prog.info? 96).map (·.size) = some (bigC l).toList.length) := ⟨by rw [info_big]; simp [bigC, hl8]⟩
        have I2 : ∀ o : List Nat, o.length = 8 → (Tryd.prog.info? 96).map (·.size) = some (bigC o).size := fun o ho => by rw [info_big]; simp [bigC, ho]
        by_cases hi : i < d
        · have hii : (i : Int) < (d : Int) := by omega
          go_wp2_with (first
            | ((with_reducible refine ldR 96 (.tmp 7) ?_); refine wpList_load_mid rfl 96 (.tmp 7) (by rfl) wo.heap.size 0 (by rfl) (bigC l).toList _ hR.out hu rfl I1.out ?_)
            | (go_at_call 45; (refine (times_any l s hl8 hls hsl _).mono ?_); rintro e w1 ⟨⟨o, rfl, ho8, hos, hov⟩, hb1⟩)
            | ((with_reducible refine stR 96 (.tmp 7) (.tmp 23) ?_); refine wpList_store_mid rfl 96 (.tmp 7) (.tmp 23) (by rfl) wo.heap.size 0 (bigC o) (by rfl) (by rfl) (by rw [bigC_size, ho8]; exact there_below hb1 hT.out) (I2 o ho8) (bigC_one o) ?_))
          go_roundw
          case rel =>
            refine ⟨i + 1, o, by go_num, by omega, ho8, hos, ⟨?_⟩, ⟨belowC hwo _ _ _ _ (bel hbw.out hb1)⟩, ⟨World.rangeAt_setCells_same _ _ _ _ ?_⟩, ⟨World.there_setCells (there_below hb1 hT.out) _ _ _⟩, hwo⟩
            · rw [hov, hV.out]
              have e9 := powB hsl (i := i + 1) (by omega)
              rw [show s ^ (i + 1) = s ^ i * s from Nat.pow_succ _ _] at e9
              rw [Nat.mod_eq_of_lt e9]; rfl
            · have e8 : (bigC o).toList.length = 8 := by simp [bigC, ho8]
              rw [e8]; exact there_below hb1 hT.out
          case measure => simp [intOf] <;> omega
        · obtain rfl : i = d := by omega
          by_cases hov : M.overM (s ^ i) p i = true
          · have HOV := Bx.mk hov
            have HG : Bx (M.rootGo p i 36 0 = M.rootGo p i k X) := ⟨by rw [HST.out, if_pos hov]⟩
            clear hov
            go_wp2_with (first
              | ((with_reducible refine ldR 96 (.tmp 7) ?_); refine wpList_load_mid rfl 96 (.tmp 7) (by rfl) wo.heap.size 0 (by rfl) (bigC l).toList _ hR.out hu rfl I1.out ?_)
              | (go_at_call 46; (refine (over_any l p i hl8 hls hp (by omega) _).mono ?_); rintro e w1 ⟨he, hb1⟩; rw [hV.out, HOV.out] at he; subst he))
            go_roundw
            case rel => exact ⟨k, X, rfl, by rw [HB2.out], by omega, ⟨by have := HBD.out; have := HSUM.out; omega⟩, HG, ⟨bel hbw.out hb1⟩⟩
            case measure => simp [intOf] <;> omega
          · have HOV : Bx (M.overM (s ^ i) p i = false) := ⟨by simpa using hov⟩
            have HG : Bx (M.rootGo p i 36 0 = M.rootGo p i k s) := ⟨by rw [HST.out, if_neg hov]⟩
            clear hov
            go_wp2_with (first
              | ((with_reducible refine ldR 96 (.tmp 7) ?_); refine wpList_load_mid rfl 96 (.tmp 7) (by rfl) wo.heap.size 0 (by rfl) (bigC l).toList _ hR.out hu rfl I1.out ?_)
              | (go_at_call 46; (refine (over_any l p i hl8 hls hp (by omega) _).mono ?_); rintro e w1 ⟨he, hb1⟩; rw [hV.out, HOV.out] at he; subst he))
            go_roundw
            case rel => exact ⟨k, s, by first | rfl | rw [hs2], by rw [HB2.out], by omega, ⟨by have := HBD.out; have := HSUM.out; have := HS.out; omega⟩, HG, ⟨bel hbw.out hb1⟩⟩
            case measure => simp [intOf] <;> omega
end Go.Proofs.YtacfdnjdjgdbcaaDoor
