/- The reference of layer 3: numbers of eight parts: times. -/
import Derived.Test.YteilmohlgfgmnaaDoorHy
import Derived.Test.YteilmohlgfgmnaaDoorShaS
import Derived.Deep.MidRow
import Derived.Deep.DeepCutAuto
import Derived.Deep.CutBlock
import Derived.Test.YteilmohlgfgmnaaDoorJb
namespace Go.Proofs.YteilmohlgfgmnaaDoor
set_option maxRecDepth 100000
open Go.RowKit

theorem ldR {P : Program} {ops : Array Oper} {Q : Exit → Act → World → Prop} {rest : List Oper} {a : Act} {w : World} (T : TypeId) (x : Operand) {dst : Option Tmp} {ty : TypeId} {pos : String} {after : Array Edge} {guard : Option (Nat × Bool)}
    (h : wpList P ops Q (⟨dst, .load T x, ty, pos, after, guard⟩ :: rest) a w) : wpList P ops Q (⟨dst, .load T x, ty, pos, after, guard⟩ :: rest) a w := h
theorem stR {P : Program} {ops : Array Oper} {Q : Exit → Act → World → Prop} {rest : List Oper} {a : Act} {w : World} (T : TypeId) (x y : Operand) {dst : Option Tmp} {ty : TypeId} {pos : String} {after : Array Edge} {guard : Option (Nat × Bool)}
    (h : wpList P ops Q (⟨dst, .store T x y, ty, pos, after, guard⟩ :: rest) a w) : wpList P ops Q (⟨dst, .store T x y, ty, pos, after, guard⟩ :: rest) a w := h
theorem cellR {w : World} {b : Nat} {C : Array Value} {t : TypeId} {fr : Nat × Nat} (h : w.heap[b]? = some (.cells C t fr)) (o : Nat) : w.cell? ⟨b, o, none⟩ = C[o]? := by simp [World.cell?, h]
theorem frozR {w : World} {b : Nat} {C : Array Value} {t : TypeId} (h : w.heap[b]? = some (.cells C t (0, 0))) (o : Nat) : w.frozen? ⟨b, o, none⟩ = false := by simp [World.frozen?, h]
theorem asetR (w : World) (o : Obj) : Below w.heap.size w (w.alloc o) := (Below.refl _ _).alloc (Nat.le_refl _) _
theorem setR {w : World} {b : Nat} {C : Array Value} {T : TypeId} {fr : Nat × Nat} (h : w.heap[b]? = some (.cells C T fr)) (o : Nat) (v : Value) : (w.setCell ⟨b, o, none⟩ v).heap[b]? = some (.cells (C.setIfInBounds o v) T fr) := by
  simp [World.setCell, Array.getElem?_modify, h]
theorem ltR {w : World} {b : Nat} {o : Obj} (h : w.heap[b]? = some o) : b < w.heap.size := by
  rcases Nat.lt_or_ge b w.heap.size with e | e
  · exact e
  · rw [Array.getElem?_eq_none e] at h; cases h
/-- the cells of a number of eight parts -/
def bigC (l : List Nat) : Array Value := (l.map fun (n : Nat) => Value.int .u64 (n : Int)).toArray
theorem bigC_get (l : List Nat) (j z : Nat) (h : l[j]? = some z) : (bigC l)[j]? = some (.int .u64 (z : Int)) := by
  unfold bigC; simp [h]
theorem bigC_set (l : List Nat) (j z : Nat) : (bigC l).setIfInBounds j (.int .u64 (z : Int)) = bigC (l.set j z) := by
  unfold bigC; simp [List.map_set]
theorem bigC_one (l : List Nat) : (bigC l).all Value.oneCell' = true := by
  unfold bigC
  simp [Value.oneCell']
theorem bigR {w : World} {b : Nat} {l : List Nat} {t : TypeId} {fr : Nat × Nat} (h : w.heap[b]? = some (.cells (bigC l) t fr)) : w.rangeAt b 0 (bigC l).toList := fun j v hv => by
  rw [Nat.zero_add, cellR h]
  simpa using hv
theorem info_big : (Tryd.prog.info? 89).map (·.size) = some 8 := by kernel_rfl
/-- a part of a product -/
def partY (x : Nat) : Nat → Nat
  | 0 => 0
  | 1 => x % 4294967296
  | _ => x
theorem part_bd (p y : Nat) (hp : p < 4294967296) (hy : y < 4294967296) : p * y ≤ 18446744065119617025 := by
  have := Nat.mul_le_mul (show p ≤ 4294967295 by omega) (show y ≤ 4294967295 by omega)
  omega
/-- what times holds: its product so far, its result's place, what lay before -/
structure BigS (w W : World) (l : List Nat) : Prop where
  o : W.heap[w.heap.size + 1 + 1]? = some (.cells (bigC l) 89 (0, 0))
  r : W.heap[w.heap.size + 1]? = some (.cells #[.int .u64 0, .int .u64 0, .int .u64 0, .int .u64 0, .int .u64 0, .int .u64 0, .int .u64 0, .int .u64 0] 89 (0, 0))
  b : Below w.heap.size w W
  n : l.length = 8
  s : ∀ z ∈ l, z < 4294967296
theorem BigS.bel {w W W2 : World} {l : List Nat} (h : BigS w W l) (hb : Below W.heap.size W W2) : BigS w W2 l :=
  ⟨(hb.block _ (ltR h.o)).trans h.o, (hb.block _ (ltR h.r)).trans h.r, _root_.Go.Proofs.YteilmohlgfgmnaaDoor.bel h.b hb, h.n, h.s⟩
theorem BigS.set {w W : World} {l : List Nat} (h : BigS w W l) (j z : Nat) (hz : z < 4294967296) : BigS w (W.setCell ⟨w.heap.size + 1 + 1, j, none⟩ (.int .u64 (z : Int))) (l.set j z) :=
  ⟨by have := setR h.o j (.int .u64 (z : Int)); rwa [bigC_set] at this, (Below.heap_setCell _ _ _ _ (by show w.heap.size + 1 ≠ w.heap.size + 1 + 1; omega)).trans h.r, h.b.setCell (p := ⟨w.heap.size + 1 + 1, j, none⟩) (by show w.heap.size ≤ w.heap.size + 1 + 1; omega) _, by rw [List.length_set]; exact h.n, fun y hy => by
    rcases List.mem_or_eq_of_mem_set hy with hy | rfl
    · exact h.s y hy
    · exact hz⟩
theorem BigS.set2 {w W : World} {l : List Nat} (h : BigS w W l) (j z : Nat) (v : Value) (hz : z < 4294967296) : BigS w ((W.setCell ⟨w.heap.size + 1 + 1, j, none⟩ v).setCell ⟨w.heap.size + 1 + 1, j, none⟩ (.int .u64 (z : Int))) (l.set j z) :=
  ⟨by
    have := setR (setR h.o j v) j (.int .u64 (z : Int))
    have e : ((bigC l).setIfInBounds j v).setIfInBounds j (.int .u64 (z : Int)) = bigC (l.set j z) := by rw [← bigC_set]; simp
    rwa [e] at this, (Below.heap_setCell _ _ _ _ (by show w.heap.size + 1 ≠ w.heap.size + 1 + 1; omega)).trans ((Below.heap_setCell _ _ _ _ (by show w.heap.size + 1 ≠ w.heap.size + 1 + 1; omega)).trans h.r), (h.b.setCell (p := ⟨w.heap.size + 1 + 1, j, none⟩) (by show w.heap.size ≤ w.heap.size + 1 + 1; omega) _).setCell (p := ⟨w.heap.size + 1 + 1, j, none⟩) (by show w.heap.size ≤ w.heap.size + 1 + 1; omega) _, by rw [List.length_set]; exact h.n, fun y hy => by
    rcases List.mem_or_eq_of_mem_set hy with hy | rfl
    · exact h.s y hy
    · exact hz⟩
/-- the two parts of a factor, so far -/
def yy (y0 y1 : Nat) : Nat → Nat
  | 0 => 0
  | 1 => y0
  | _ => y0 + y1 * 4294967296
theorem modEnd (l : List Nat) (hl : l.length = 8) (hs : ∀ z ∈ l, z < 4294967296) (c j T : Nat) (h : (M.valB l + c * 4294967296 ^ j) % 4294967296 ^ 8 = T % 4294967296 ^ 8) (he : c = 0 ∨ j = 8) : M.valB l = T % 4294967296 ^ 8 := by
  have h1 := M.valB_lt l hs
  rw [hl] at h1
  rcases he with rfl | rfl
  · rw [Nat.zero_mul, Nat.add_zero, Nat.mod_eq_of_lt h1] at h
    exact h
  · rw [Nat.add_mul_mod_self_right, Nat.mod_eq_of_lt h1] at h
    exact h
theorem belowC {B b : Nat} (hb : B ≤ b) : ∀ (vs : List Value) (o : Nat) (w0 w : World), Below B w0 w → Below B w0 (w.setCells b o vs)
  | [], _, _, _, h => h
  | v :: r, o, w0, w, h => by
    rw [World.setCells]
    exact belowC hb r (o + 1) w0 _ (h.setCell (p := ⟨b, o, none⟩) hb v)
theorem resR {P : Program} {fn : Func} {p : Tmp} {ty : TypeId} {tmps : Array Value} {w : World} {a : Addr} {v : Value} (h : fn.results = #[.cell p ty]) (ht : tmps.getD p undef = .pointer (some a)) (hl : (loadVar ty a).run P w = .ok v w) :
    (results fn tmps).run P w = .ok v w := by
  have ht' : tmps[p]?.getD undef = .pointer (some a) := by rw [← Array.getD_eq_getD_getElem?]; exact ht
  simp only [results, h]
  simp [ht', hl, asAddr]
set_option maxHeartbeats 6400000 in
theorem times_any (a : List Nat) (x : Nat) (ha : a.length = 8) (hal : ∀ z ∈ a, z < 4294967296) (hx : x < 68719476736) (w : World) :
    Calls Tryd.prog 40 #[.agg (bigC a), .int .u64 (x : Int)] w fun e w' => (∃ o, e = .returned (.agg (bigC o)) ∧ o.length = 8 ∧ (∀ z ∈ o, z < 4294967296) ∧ M.valB o = M.valB a * x % 4294967296 ^ 8) ∧ Below w.heap.size w w' := by
  have hu := Tryd.underlying89
  have R0 : Bx ((((w.alloc (.cells (bigC a) 89)).alloc (.cells #[.int .u64 0, .int .u64 0, .int .u64 0, .int .u64 0, .int .u64 0, .int .u64 0, .int .u64 0, .int .u64 0] 89)).alloc (.cells #[.int .u64 0, .int .u64 0, .int .u64 0, .int .u64 0, .int .u64 0, .int .u64 0, .int .u64 0, .int .u64 0] 89)).rangeAt w.heap.size 0 (bigC a).toList) := ⟨bigR (((asetR _ _).block _ (by simp; omega)).trans (((asetR _ _).block _ (by simp)).trans (heap_alloc_new _ _)))⟩
  have I0 : Bx ((Tryd.prog.info? 89).map (·.size) = some (bigC a).toList.length) := ⟨by rw [info_big]; simp [bigC, ha]⟩
  go_enter Tryd.func40, Tryd.ntmps40
  go_wp2_with ((with_reducible refine ldR 89 (.tmp 2) ?_); refine wpList_load_mid rfl 89 (.tmp 2) (by rfl) w.heap.size 0 (by rfl) (bigC a).toList _ R0.out hu rfl I0.out ?_)
  go_loopw [14] (fun i wr => ∃ (k : Nat) (l : List Nat), i = .int .i64 (k : Int) ∧ k ≤ 8 ∧ Bx (BigS w wr l) ∧ Bx (M.valB l = (M.valB (a.take k) * x) % 4294967296 ^ 8)) (fun i _ => 8 - (intOf i).toNat)
  case atStart =>
    refine ⟨0, [0, 0, 0, 0, 0, 0, 0, 0], rfl, by omega, ⟨⟨?_, ?_, bel (bel (asetR _ _) (asetR _ _)) (asetR _ _), rfl, by decide⟩⟩, ⟨by simp [M.valB]⟩⟩
    · have := heap_alloc_new ((w.alloc (.cells (bigC a) 89)).alloc (.cells #[.int .u64 0, .int .u64 0, .int .u64 0, .int .u64 0, .int .u64 0, .int .u64 0, .int .u64 0, .int .u64 0] 89)) (.cells #[.int .u64 0, .int .u64 0, .int .u64 0, .int .u64 0, .int .u64 0, .int .u64 0, .int .u64 0, .int .u64 0] 89)
      simpa [bigC] using this
    · have h1 := heap_alloc_new (w.alloc (.cells (bigC a) 89)) (.cells #[.int .u64 0, .int .u64 0, .int .u64 0, .int .u64 0, .int .u64 0, .int .u64 0, .int .u64 0, .int .u64 0] 89)
      have hs : (w.alloc (.cells (bigC a) 89)).heap.size = w.heap.size + 1 := by simp
      rw [hs] at h1
      exact ((asetR _ _).block _ (ltR h1)).trans h1
  case round =>
    obtain ⟨k, l, rfl, hk8, hS, hV⟩ := hrel
    obtain ⟨wo, rfl⟩ : ∃ wo : World, wo = wr := ⟨_, rfl⟩
    by_cases hk : k < 8
    · obtain ⟨p, hp⟩ : ∃ p, a[k]? = some p := ⟨_, List.getElem?_eq_getElem (by omega)⟩
      have hpl := hal p (List.mem_of_getElem? hp)
      have hidx : ∀ W, (Instr.index 89 (.agg (bigC a)) (.int .i64 (k : Int))).run Tryd.prog W = .ok (.int .u64 (p : Int)) W := fun W => index_arr W hu (by kernel_rfl) Tryd.underlying30 rfl k hk (by rw [List.getElem?_map, hp]; rfl)
      have hts := M.valB_take_succ a k p hp
      have HTS := Bx.mk hts
      obtain ⟨T0, hT0⟩ : ∃ T0, T0 = M.valB (a.take k) * x := ⟨_, rfl⟩
      rw [← hT0] at hV
      have HT0 := Bx.mk hT0
      have hki : (k : Int) < 8 := by omega
      have hk0 : (0 : Int) ≤ (k : Int) := by omega
      have hx1 : ((x : Int) % 4294967296) = ((x % 4294967296 : Nat) : Int) := by omega
      have hx2 : ((x : Int) / 4294967296) = ((x / 4294967296 : Nat) : Int) := by omega
      obtain ⟨y0, hy0⟩ : ∃ y0, y0 = x % 4294967296 := ⟨_, rfl⟩
      obtain ⟨y1, hy1⟩ : ∃ y1, y1 = x / 4294967296 := ⟨_, rfl⟩
      rw [← hy0] at hx1
      rw [← hy1] at hx2
      have hy0l : y0 < 4294967296 := by omega
      have hy1l : y1 < 4294967296 := by omega
      have hxy : x = y0 + y1 * 4294967296 := by omega
      have HXY := Bx.mk hxy
      clear hp hts hT0 hy0 hy1 hxy
      go_wp2_with fail
      go_loopw [24] (fun i wr => ∃ (q : Nat) (l : List Nat), i = .int .i64 (q : Int) ∧ q ≤ 2 ∧ Bx (BigS w wr l) ∧ Bx (wr.heap[wo.heap.size]? = some (.cells #[.int .u64 (y0 : Int), .int .u64 (y1 : Int)] 30 (0, 0))) ∧ Bx (M.valB l = (T0 + p * yy y0 y1 q * 4294967296 ^ k) % 4294967296 ^ 8)) (fun i _ => 2 - (intOf i).toNat)
      case atStart => exact ⟨0, l, rfl, by omega, ⟨hS.out.bel (asetR _ _)⟩, ⟨heap_alloc_new _ _⟩, ⟨by rw [hV.out]; simp [yy]⟩⟩
      case round =>
        obtain ⟨q, l2, rfl, hq2, hS2, hY, hV2⟩ := hrel
        obtain ⟨wi, rfl⟩ : ∃ wi : World, wi = wr := ⟨_, rfl⟩
        have hob : w.heap.size + 1 + 1 < wo.heap.size := ltR hS.out.o
        by_cases hq : q < 2
        · obtain ⟨y, hyq, hyl, hyy⟩ : ∃ y : Nat, wi.cell? ⟨wo.heap.size, q, none⟩ = some (.int .u64 (y : Int)) ∧ y < 4294967296 ∧ yy y0 y1 (q + 1) = yy y0 y1 q + y * 4294967296 ^ q := by
            rcases (show q = 0 ∨ q = 1 by omega) with rfl | rfl
            · exact ⟨y0, by rw [cellR hY.out]; rfl, hy0l, by simp [yy]⟩
            · exact ⟨y1, by rw [cellR hY.out]; rfl, hy1l, by simp [yy]⟩
          have hbd := part_bd p y hpl hyl
          obtain ⟨c0, hc0⟩ : ∃ c0, c0 = p * y := ⟨_, rfl⟩
          rw [← hc0] at hbd
          have hmul : (p : Int) * (y : Int) = (c0 : Int) := by rw [hc0]; push_cast; rfl
          obtain ⟨T1, hT1⟩ : ∃ T1, T1 = T0 + p * yy y0 y1 (q + 1) * 4294967296 ^ k := ⟨_, rfl⟩
          have hst : (M.valB l2 + c0 * 4294967296 ^ (k + q)) % 4294967296 ^ 8 = T1 % 4294967296 ^ 8 := by
            rw [hV2.out, Nat.mod_add_mod, hT1, hyy, hc0, Nat.mul_add, Nat.add_mul, ← Nat.add_assoc, Nat.pow_add]
            congr 2
            rw [Nat.mul_assoc p y, Nat.mul_assoc p, Nat.mul_assoc y, Nat.mul_comm (4294967296 ^ k)]
          have HST := Bx.mk hst; have HT1 := Bx.mk hT1
          have hqi : (q : Int) < 2 := by omega
          have hq0 : (0 : Int) ≤ (q : Int) := by omega
          clear hst hT1 hyy hc0
          go_wp2_with fail
          go_loopw [10, 11] (fun c j wr => ∃ (cn jn : Nat) (l3 : List Nat), c = .int .u64 (cn : Int) ∧ j = .int .i64 (jn : Int) ∧ jn ≤ 8 ∧ cn ≤ 18446744065119617025 ∧ Bx (BigS w wr l3) ∧ Bx (wr.heap[wo.heap.size]? = some (.cells #[.int .u64 (y0 : Int), .int .u64 (y1 : Int)] 30 (0, 0))) ∧ Bx ((M.valB l3 + cn * 4294967296 ^ jn) % 4294967296 ^ 8 = T1 % 4294967296 ^ 8)) (fun _ j _ => 8 - (intOf j).toNat)
          case atStart => exact ⟨c0, k + q, l2, rfl, by go_num, by omega, hbd, hS2, hY, HST⟩
          case round =>
            obtain ⟨cn, jn, l3, rfl, rfl, hj8, hcb, hS3, hY3, hV3⟩ := hrel
            by_cases hgo : jn < 8 ∧ 0 < cn
            · obtain ⟨hj, hc⟩ := hgo
              obtain ⟨z, hz⟩ : ∃ z, l3[jn]? = some z := ⟨_, List.getElem?_eq_getElem (by rw [hS3.out.n]; exact hj)⟩
              have hzl := hS3.out.s z (List.mem_of_getElem? hz)
              have qz : wr.cell? ⟨w.heap.size + 1 + 1, jn, none⟩ = some (.int .u64 (z : Int)) := by rw [cellR hS3.out.o, bigC_get _ _ _ hz]
              have qf : wr.frozen? ⟨w.heap.size + 1 + 1, jn, none⟩ = false := frozR hS3.out.o _
              have hsb := M.stepB l3 jn cn z hz
              obtain ⟨c1, hc1⟩ : ∃ c1, c1 = cn % 4294967296 := ⟨_, rfl⟩
              obtain ⟨c2, hc2⟩ : ∃ c2, c2 = cn / 4294967296 := ⟨_, rfl⟩
              rw [← hc1, ← hc2] at hsb
              obtain ⟨d, hd⟩ : ∃ d, d = (z + c1) / 4294967296 := ⟨_, rfl⟩
              obtain ⟨m, hm⟩ : ∃ m, m = (z + c1) % 4294967296 := ⟨_, rfl⟩
              rw [← hd, ← hm] at hsb
              have e1 : (cn : Int) % 4294967296 = (c1 : Int) := by omega
              have e2 : (cn : Int) / 4294967296 = (c2 : Int) := by omega
              have e3 : ((z : Int) + (c1 : Int)) / 4294967296 = (d : Int) := by omega
              have e4 : ((z : Int) + (c1 : Int)) % 4294967296 = (m : Int) := by omega
              have b1 : c1 < 4294967296 := by omega
              have b2 : c2 < 4294967296 := by omega
              have b3 : d ≤ 1 := by omega
              have b4 : m < 4294967296 := by omega
              have hji : (jn : Int) < 8 := by omega
              have hj0 : (0 : Int) ≤ (jn : Int) := by omega
              have S4 := Bx.mk (hS3.out.set2 jn m (.int .u64 ((z : Int) + (c1 : Int))) b4)
              have Y4 : Bx (((wr.setCell ⟨w.heap.size + 1 + 1, jn, none⟩ (.int .u64 ((z : Int) + (c1 : Int)))).setCell ⟨w.heap.size + 1 + 1, jn, none⟩ (.int .u64 (m : Int))).heap[wo.heap.size]? = some (.cells #[.int .u64 (y0 : Int), .int .u64 (y1 : Int)] 30 (0, 0))) := ⟨(Below.heap_setCell _ _ _ _ (by show wo.heap.size ≠ w.heap.size + 1 + 1; omega)).trans ((Below.heap_setCell _ _ _ _ (by show wo.heap.size ≠ w.heap.size + 1 + 1; omega)).trans hY3.out)⟩
              have V4 : Bx ((M.valB (l3.set jn m) + (c2 + d) * 4294967296 ^ (jn + 1)) % 4294967296 ^ 8 = T1 % 4294967296 ^ 8) := ⟨by rw [hsb]; exact hV3.out⟩
              clear hsb hz hc1 hc2 hd hm
              go_wp2_with fail
              go_roundw
              case rel => exact ⟨c2 + d, jn + 1, l3.set jn m, by push_cast; rfl, by go_num, by omega, by omega, S4, Y4, V4⟩
              case measure => simp [intOf] <;> omega
            · have HE : Bx (M.valB l3 = T1 % 4294967296 ^ 8) := ⟨modEnd l3 hS3.out.n hS3.out.s cn jn T1 hV3.out (by omega)⟩
              by_cases hj : jn < 8
              · obtain rfl : cn = 0 := by omega
                have hji : (jn : Int) < 8 := by omega
                clear hgo
                go_wp2_with fail
                go_roundw
                case rel => exact ⟨q + 1, l3, by go_num, by omega, hS3, hY3, ⟨by rw [HE.out, HT1.out]⟩⟩
                case measure => simp [intOf] <;> omega
              · have hji : ¬ (jn : Int) < 8 := by omega
                clear hgo
                go_wp2_with fail
                go_roundw
                case rel => exact ⟨q + 1, l3, by go_num, by omega, hS3, hY3, ⟨by rw [HE.out, HT1.out]⟩⟩
                case measure => simp [intOf] <;> omega
        · obtain rfl : q = 2 := by omega
          have HE : Bx (M.valB l2 = M.valB (a.take (k + 1)) * x % 4294967296 ^ 8) := ⟨by
            rw [hV2.out, HTS.out, Nat.add_mul, ← HT0.out]
            congr 2
            rw [Nat.mul_right_comm, HXY.out]
            rfl⟩
          go_wp2_with fail
          go_roundw
          case rel => exact ⟨k + 1, l2, by go_num, by omega, hS2, HE⟩
          case measure => simp [intOf] <;> omega
    · obtain rfl : k = 8 := by omega
      have R1 := Bx.mk (bigR hS.out.o)
      have I1 : Bx ((Tryd.prog.info? 89).map (·.size) = some (bigC l).toList.length) := ⟨by rw [info_big]; simp [bigC, hS.out.n]⟩
      have I2 : Bx ((Tryd.prog.info? 89).map (·.size) = some (bigC l).size) := ⟨by rw [info_big]; simp [bigC, hS.out.n]⟩
      have TH : Bx (wo.there (w.heap.size + 1) 0 (bigC l).size) := ⟨fun j hj => by
        have h8 : (bigC l).size = 8 := by simp [bigC, hS.out.n]
        rw [h8] at hj
        exact ⟨by rw [cellR hS.out.r, Nat.zero_add]; simp [hj], frozR hS.out.r _⟩⟩
      go_wp2_with (first
        | ((with_reducible refine ldR 89 (.tmp 5) ?_); refine wpList_load_mid rfl 89 (.tmp 5) (by rfl) (w.heap.size + 1 + 1) 0 (by rfl) (bigC l).toList _ R1.out hu rfl I1.out ?_)
        | ((with_reducible refine stR 89 (.tmp 4) (.tmp 65) ?_); refine wpList_store_mid rfl 89 (.tmp 4) (.tmp 65) (by rfl) (w.heap.size + 1) 0 (bigC l) (by rfl) (by rfl) TH.out I2.out (bigC_one l) ?_))
      have hld := run_loadVar_mid (P := Tryd.prog) (wo.setCells (w.heap.size + 1) 0 (bigC l).toList) (w.heap.size + 1) 0 89 (bigC l).toList _ (World.rangeAt_setCells_same wo (w.heap.size + 1) 0 (bigC l).toList (by simpa using TH.out)) hu rfl I1.out
      refine bodyPost_ret (v := .agg (bigC l)) (resR rfl rfl hld) rfl ⟨⟨l, rfl, hS.out.n, hS.out.s, ?_⟩, ?_⟩
      · rw [hV.out, ← ha, List.take_length]
      · exact belowC (by omega) _ _ _ _ hS.out.b
end Go.Proofs.YteilmohlgfgmnaaDoor
