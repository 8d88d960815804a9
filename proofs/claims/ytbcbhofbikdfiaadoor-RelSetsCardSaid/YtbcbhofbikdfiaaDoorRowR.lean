/- An array of numbers of 16 bits by value, opened to the list of them, and shut: for a law's frame. -/
import Derived.Test.YtbcbhofbikdfiaaDoorRelA
import Derived.OpenShut
namespace Go.Proofs.YtbcbhofbikdfiaaDoor
set_option maxRecDepth 100000
open M
theorem deBruijn_get : ∀ t, t < 64 → (([0, 1, 56, 2, 57, 49, 28, 3, 61, 58, 42, 50, 38, 29, 17, 4, 62, 47, 59, 36, 45, 43, 51, 22, 53, 39, 33, 30, 24, 18, 12, 5, 63, 55, 48, 27, 60, 41, 37, 16, 46, 35, 44, 21, 52, 32, 23, 11, 54, 26, 40, 15, 34, 20, 31, 10, 25, 14, 19, 9, 13, 8, 7, 6] : List Int).getD t 0) = ((deBruijn.getD t 0 : Nat) : Int) := by decide
theorem R.wf_of {a : List Nat} (h : a.length = 16) (k : ∀ x ∈ a, x < 65536) : R.Wf a := ⟨h, fun i => by
  unfold R.g
  rw [List.getD_eq_getElem?_getD]
  rcases Nat.lt_or_ge i a.length with h1 | h1
  · rw [List.getElem?_eq_getElem h1]; exact k _ (List.getElem_mem h1)
  · rw [List.getElem?_eq_none h1]; decide⟩
open Go.ChangeShapes Go.WideShapes Go.RowKit

section
variable {H : Type} {enc : TypeId × Value → H} {P : Program} {w : World} {base b0 : Nat} {sp : Nat → Bool} {held : Bool} {t e : TypeId} {r : Reach} {v : Value} {d : DataW H} {p : List MemPlace} {n : Nat}

/-- the data of an array of such numbers -/
def datR (H : Type) (a : List Nat) : List (DataW H) := a.map fun (x : Nat) => .lit (.int .u16 ((x : Nat) : Int))

theorem open_rel (ht : P.underlying t = some (.array n e)) (he : P.underlying e = some (.int .u16)) (hce : P.cellsOf e = 1) (hct : P.cellsOf t = n)
    (hv : Value.okWide P w r b0 t v) (h : DataW.Trod enc P w base sp held t v d p) :
    ∃ a : List Nat, a.length = n ∧ (∀ x ∈ a, x < 65536) ∧ v = .agg (w16 a).toArray ∧ d = .agg (datR H a) ∧ p = [] := by
  obtain ⟨cs, rfl, hsz, _⟩ : ∃ cs, v = .agg cs ∧ cs.size = P.cellsOf t ∧ Row.okWide P w r b0 t cs := by
    simpa [Value.okWide, ht] using hv
  obtain ⟨fuel, hf⟩ := h
  obtain ⟨xs, m, _, ex, _, hl, hel⟩ := DataW.trod_array ht hf
  rw [hct] at hsz
  obtain ⟨l⟩ := cs
  have hll : l.length = n := by simpa using hsz
  have key : ∀ i, i < n → ∃ z : Nat, z < 65536 ∧ l[i]? = some (.int .u16 (z : Int)) ∧ xs[i]? = some (.lit (.int .u16 (z : Int)), []) := by
    intro i hi
    have hE := hel i hi
    rw [hce, Nat.mul_one, List.getElem?_eq_getElem (by omega)] at hE
    obtain ⟨z, e1, e2, e3⟩ := DataW.trod_int he hE
    have hz := bounds_u16 e3
    refine ⟨z.toNat, by omega, ?_, ?_⟩
    · have h0 : ((l.drop i).take 1)[0]? = some (.int .u16 z) := by
        have : ((Value.agg ⟨l⟩).cells.toList.drop i).take 1 = (l.drop i).take 1 := rfl
        rw [← this, e1]; rfl
      have : ((z.toNat : Nat) : Int) = z := by omega
      rw [this]
      simpa using h0
    · have : ((z.toNat : Nat) : Int) = z := by omega
      rw [this, List.getElem?_eq_getElem (by omega), e2]
  let f : Value → Nat := fun v => match v with | .int _ z => z.toNat | _ => 0
  refine ⟨l.map f, by simp [hll], ?_, ?_, ?_, ?_⟩
  · intro x hx
    obtain ⟨v, hv, rfl⟩ := List.mem_map.1 hx
    obtain ⟨i, hi, rfl⟩ := List.mem_iff_getElem.1 hv
    obtain ⟨z, h1, h2, _⟩ := key i (by omega)
    rw [List.getElem?_eq_getElem hi] at h2
    rw [Option.some.inj h2]
    show (z : Int).toNat < 65536
    omega
  · have : w16 (l.map f) = l := by
      unfold w16
      rw [List.map_map]
      refine List.ext_getElem (by simp) fun i h1 h2 => ?_
      obtain ⟨z, h3, h4, _⟩ := key i (by omega)
      rw [List.getElem?_eq_getElem h2] at h4
      simp only [List.getElem_map, Function.comp]
      rw [Option.some.inj h4]
      show Value.int .u16 (((z : Int).toNat : Nat) : Int) = .int .u16 (z : Int)
      rw [Int.toNat_natCast]
    rw [this]
  · rw [(Prod.mk.inj ex).1]
    refine congrArg DataW.agg ?_
    unfold datR
    rw [List.map_map]
    refine List.ext_getElem (by simp [hl, hll]) fun i h1 h2 => ?_
    have hi : i < n := by simpa [hl] using h1
    obtain ⟨z, _, h4, h5⟩ := key i hi
    rw [List.getElem?_eq_getElem (by omega)] at h4 h5
    simp only [List.getElem_map, Function.comp]
    rw [Option.some.inj h4, Option.some.inj h5]
    show DataW.lit (.int .u16 (z : Int)) = .lit (.int .u16 (((z : Int).toNat : Nat) : Int))
    rw [Int.toNat_natCast]
  · rw [(Prod.mk.inj ex).2]
    refine List.flatMap_eq_nil_iff.2 fun x hx => ?_
    obtain ⟨i, hi, rfl⟩ := List.mem_iff_getElem.1 hx
    obtain ⟨z, _, _, h5⟩ := key i (by omega)
    rw [List.getElem?_eq_getElem hi] at h5
    rw [Option.some.inj h5]

theorem mapM_each {α β : Type} (f : α → Option β) (g : α → β) : ∀ l : List α, (∀ x ∈ l, f x = some (g x)) → l.mapM f = some (l.map g)
  | [], _ => rfl
  | x :: l, h => by
    rw [List.mapM_cons, h x (by simp), mapM_each f g l (fun y hy => h y (by simp [hy]))]
    rfl

theorem shut_rel (w : World) (ht : P.underlying t = some (.array n e)) (he : P.underlying e = some (.int .u16)) (hce : P.cellsOf e = 1) (hct : P.cellsOf t = n)
    {a : List Nat} (ha : a.length = n) (ta : ∀ x ∈ a, x < 65536) : DataW.Trod enc P w base sp held t (.agg (w16 a).toArray) (.agg (datR H a)) [] := by
  refine ⟨2, ?_⟩
  have hc : (Value.agg (w16 a).toArray).cells.toList = w16 a := rfl
  rw [hc]
  have hlen : (w16 a).length = n := by simp [w16, ha]
  unfold DataW.trod
  rw [ht]
  have e1 : (List.range n).mapM (fun i => DataW.trod enc P w base sp held 1 e (((w16 a).drop (i * P.cellsOf e)).take (P.cellsOf e))) = some ((List.range n).map fun i => ((DataW.lit (.int .u16 ((a.getD i 0 : Nat) : Int)) : DataW H), [])) := by
    refine mapM_each _ _ _ fun i hi => ?_
    have hi' : i < n := List.mem_range.1 hi
    have e2 : ((w16 a).drop (i * P.cellsOf e)).take (P.cellsOf e) = [.int .u16 ((a.getD i 0 : Nat) : Int)] := by
      rw [hce, Nat.mul_one, List.drop_eq_getElem_cons (by omega)]
      simp [w16, List.getD, List.getElem?_eq_getElem (show i < a.length by omega)]
    rw [e2]
    have hb : a.getD i 0 < 65536 := by
      rw [List.getD, List.getElem?_eq_getElem (show i < a.length by omega)]
      exact ta _ (List.getElem_mem _)
    have hw : (Lit.int .u16 ((a.getD i 0 : Nat) : Int)).wf = true := WalkArith.wf_u16 (by omega)
    simpa [DataW.trod, he] using hw
  have e3 : ((List.range n).map fun i => ((DataW.lit (.int .u16 ((a.getD i 0 : Nat) : Int)) : DataW H), ([] : List MemPlace))).map (·.1) = datR H a := by
    unfold datR
    rw [List.map_map]
    refine List.ext_getElem (by simp [ha]) fun i h1 h2 => ?_
    have : i < a.length := by simpa using h2
    simp only [List.getElem_map, List.getElem_range, Function.comp_apply]
    rw [List.getD, List.getElem?_eq_getElem this, Option.getD_some]
  have e4 : ((List.range n).map fun i => ((DataW.lit (.int .u16 ((a.getD i 0 : Nat) : Int)) : DataW H), ([] : List MemPlace))).flatMap (·.2) = [] := by
    refine List.flatMap_eq_nil_iff.2 fun x hx => ?_
    obtain ⟨i, _, rfl⟩ := List.mem_map.1 hx
    rfl
  dsimp only
  rw [if_pos (by rw [hct]; exact hlen), e1, Option.map_some, e3, e4]
end
end Go.Proofs.YtbcbhofbikdfiaaDoor
