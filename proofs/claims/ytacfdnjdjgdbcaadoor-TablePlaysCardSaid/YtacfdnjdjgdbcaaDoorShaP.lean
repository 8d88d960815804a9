/- An array of bytes by value, opened to the list of its bytes, and shut: for a law's frame. -/
import Derived.Test.YtacfdnjdjgdbcaaDoorHb
import Derived.OpenShut
namespace Go.Proofs.YtacfdnjdjgdbcaaDoor
set_option maxRecDepth 100000
open Go.ChangeShapes Go.WideShapes Go.RowKit

section
variable {H : Type} {enc : TypeId × Value → H} {P : Program} {w : World} {base b0 : Nat} {sp : Nat → Bool} {held : Bool} {t e : TypeId} {r : Reach} {v : Value} {d : DataW H} {p : List MemPlace} {n : Nat}

/-- the data of an array of bytes -/
def dats (H : Type) (a : List Nat) : List (DataW H) := a.map fun (x : Nat) => .lit (.int .u8 ((x : Nat) : Int))

theorem open_bytes (ht : P.underlying t = some (.array n e)) (he : P.underlying e = some (.int .u8)) (hce : P.cellsOf e = 1) (hct : P.cellsOf t = n)
    (hv : Value.okWide P w r b0 t v) (h : DataW.Trod enc P w base sp held t v d p) :
    ∃ a : List Nat, a.length = n ∧ (∀ x ∈ a, x < 256) ∧ v = .agg (byts a).toArray ∧ d = .agg (dats H a) ∧ p = [] := by
  obtain ⟨cs, rfl, hsz, _⟩ : ∃ cs, v = .agg cs ∧ cs.size = P.cellsOf t ∧ Row.okWide P w r b0 t cs := by
    simpa [Value.okWide, ht] using hv
  obtain ⟨fuel, hf⟩ := h
  obtain ⟨xs, m, _, ex, _, hl, hel⟩ := DataW.trod_array ht hf
  rw [hct] at hsz
  obtain ⟨l⟩ := cs
  have hll : l.length = n := by simpa using hsz
  have key : ∀ i, i < n → ∃ z : Nat, z < 256 ∧ l[i]? = some (.int .u8 (z : Int)) ∧ xs[i]? = some (.lit (.int .u8 (z : Int)), []) := by
    intro i hi
    have hE := hel i hi
    rw [hce, Nat.mul_one, List.getElem?_eq_getElem (by omega)] at hE
    obtain ⟨z, e1, e2, e3⟩ := DataW.trod_int he hE
    have hz := bounds_u8 e3
    refine ⟨z.toNat, by omega, ?_, ?_⟩
    · have h0 : ((l.drop i).take 1)[0]? = some (.int .u8 z) := by
        have : ((Value.agg ⟨l⟩).cells.toList.drop i).take 1 = (l.drop i).take 1 := rfl
        rw [← this, e1]; rfl
      have : ((z.toNat : Nat) : Int) = z := by omega
      rw [this]
      simpa using h0
    · have : ((z.toNat : Nat) : Int) = z := by omega
      rw [this, List.getElem?_eq_getElem (by omega), e2]
  let f : Value → Nat := fun v => match v with | .int _ z => z.toNat | _ => 0
  refine ⟨l.map f, by simp [hll], ?_, ?_, ?_, ?_⟩
  · intro x hx
    obtain ⟨v, hv, rfl⟩ := List.mem_map.1 hx
    obtain ⟨i, hi, rfl⟩ := List.mem_iff_getElem.1 hv
    obtain ⟨z, h1, h2, _⟩ := key i (by omega)
    rw [List.getElem?_eq_getElem hi] at h2
    rw [Option.some.inj h2]
    show (z : Int).toNat < 256
    omega
  · have : byts (l.map f) = l := by
      unfold byts
      rw [List.map_map]
      refine List.ext_getElem (by simp) fun i h1 h2 => ?_
      obtain ⟨z, h3, h4, _⟩ := key i (by omega)
      rw [List.getElem?_eq_getElem h2] at h4
      simp only [List.getElem_map, Function.comp]
      rw [Option.some.inj h4]
      show Value.int .u8 (((z : Int).toNat : Nat) : Int) = .int .u8 (z : Int)
      rw [Int.toNat_natCast]
    rw [this]
  · rw [(Prod.mk.inj ex).1]
    refine congrArg DataW.agg ?_
    unfold dats
    rw [List.map_map]
    refine List.ext_getElem (by simp [hl, hll]) fun i h1 h2 => ?_
    have hi : i < n := by simpa [hl] using h1
    obtain ⟨z, _, h4, h5⟩ := key i hi
    rw [List.getElem?_eq_getElem (by omega)] at h4 h5
    simp only [List.getElem_map, Function.comp]
    rw [Option.some.inj h4, Option.some.inj h5]
    show DataW.lit (.int .u8 (z : Int)) = .lit (.int .u8 (((z : Int).toNat : Nat) : Int))
    rw [Int.toNat_natCast]
  · rw [(Prod.mk.inj ex).2]
    refine List.flatMap_eq_nil_iff.2 fun x hx => ?_
    obtain ⟨i, hi, rfl⟩ := List.mem_iff_getElem.1 hx
    obtain ⟨z, _, _, h5⟩ := key i (by omega)
    rw [List.getElem?_eq_getElem hi] at h5
    rw [Option.some.inj h5]

theorem mapM_all {α β : Type} (f : α → Option β) (g : α → β) : ∀ l : List α, (∀ x ∈ l, f x = some (g x)) → l.mapM f = some (l.map g)
  | [], _ => rfl
  | x :: l, h => by
    rw [List.mapM_cons, h x (by simp), mapM_all f g l (fun y hy => h y (by simp [hy]))]
    rfl

theorem shut_bytes (w : World) (ht : P.underlying t = some (.array n e)) (he : P.underlying e = some (.int .u8)) (hce : P.cellsOf e = 1) (hct : P.cellsOf t = n)
    {a : List Nat} (ha : a.length = n) (ta : ∀ x ∈ a, x < 256) : DataW.Trod enc P w base sp held t (.agg (byts a).toArray) (.agg (dats H a)) [] := by
  refine ⟨2, ?_⟩
  have hc : (Value.agg (byts a).toArray).cells.toList = byts a := rfl
  rw [hc]
  have hlen : (byts a).length = n := by simp [byts, ha]
  unfold DataW.trod
  rw [ht]
  have e1 : (List.range n).mapM (fun i => DataW.trod enc P w base sp held 1 e (((byts a).drop (i * P.cellsOf e)).take (P.cellsOf e))) = some ((List.range n).map fun i => ((DataW.lit (.int .u8 ((a.getD i 0 : Nat) : Int)) : DataW H), [])) := by
    refine mapM_all _ _ _ fun i hi => ?_
    have hi' : i < n := List.mem_range.1 hi
    have e2 : ((byts a).drop (i * P.cellsOf e)).take (P.cellsOf e) = [.int .u8 ((a.getD i 0 : Nat) : Int)] := by
      rw [hce, Nat.mul_one, List.drop_eq_getElem_cons (by omega)]
      simp [byts, List.getD, List.getElem?_eq_getElem (show i < a.length by omega)]
    rw [e2]
    have hb : a.getD i 0 < 256 := by
      rw [List.getD, List.getElem?_eq_getElem (show i < a.length by omega)]
      exact ta _ (List.getElem_mem _)
    have hw : (Lit.int .u8 ((a.getD i 0 : Nat) : Int)).wf = true := WalkArith.wf_u8 (by omega)
    simpa [DataW.trod, he] using hw
  have e3 : ((List.range n).map fun i => ((DataW.lit (.int .u8 ((a.getD i 0 : Nat) : Int)) : DataW H), ([] : List MemPlace))).map (·.1) = dats H a := by
    unfold dats
    rw [List.map_map]
    refine List.ext_getElem (by simp [ha]) fun i h1 h2 => ?_
    have : i < a.length := by simpa using h2
    simp only [List.getElem_map, List.getElem_range, Function.comp_apply]
    rw [List.getD, List.getElem?_eq_getElem this, Option.getD_some]
  have e4 : ((List.range n).map fun i => ((DataW.lit (.int .u8 ((a.getD i 0 : Nat) : Int)) : DataW H), ([] : List MemPlace))).flatMap (·.2) = [] := by
    refine List.flatMap_eq_nil_iff.2 fun x hx => ?_
    obtain ⟨i, _, rfl⟩ := List.mem_map.1 hx
    rfl
  dsimp only
  rw [if_pos (by rw [hct]; exact hlen), e1, Option.map_some, e3, e4]
end
end Go.Proofs.YtacfdnjdjgdbcaaDoor
