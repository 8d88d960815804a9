/- Tables: entries, and how a map has them. -/
import Derived.Test.YtpinpplbjgbkaaaDoorMapG
import Derived.Test.YtpinpplbjgbkaaaDoorShaL
import Derived.WideKeyArr
import Derived.DeepKeys3
namespace Go.Proofs.YtpinpplbjgbkaaaDoor
set_option maxRecDepth 100000
open Go.RowKit Go.Maps Go.Sort M

/-- an entry: a name of 32 bytes, and a text -/
structure Ent where
  key : List Nat
  text : ByteArray
  kl : key.length = 32
  kb : ∀ d ∈ key, d < 256
theorem Ent.eq {x y : Ent} (h1 : x.key = y.key) (h2 : x.text = y.text) : x = y := by
  cases x; cases y; simp at h1 h2; subst h1; subst h2; rfl
def encE (x : Ent) : List Value := byts x.key ++ [.string x.text]
theorem encE_len (x : Ent) : (encE x).length = 33 := by simp [encE, byts_length, x.kl]
def ekE (x : Ent) : Value := .agg (byts x.key).toArray
def evE (x : Ent) : Value := .agg (encE x).toArray
def kkE (x : Ent) : List UInt8 := u8l x.key
def ccE (x : Ent) : List UInt8 := u8l x.key ++ x.text.data.toList

theorem byts_inj : ∀ {l m : List Nat}, byts l = byts m → l = m
  | [], [], _ => rfl
  | [], _ :: _, h => by simp [byts] at h
  | _ :: _, [], h => by simp [byts] at h
  | a :: l, b :: m, h => by
    have h : Value.int .u8 ((a : Nat) : Int) :: byts l = Value.int .u8 ((b : Nat) : Int) :: byts m := h
    injection h with h1 h2
    injection h1 with _ h1
    rw [Int.ofNat.inj h1, byts_inj h2]
theorem u8l_inj : ∀ {l m : List Nat}, (∀ d ∈ l, d < 256) → (∀ d ∈ m, d < 256) → u8l l = u8l m → l = m
  | [], [], _, _, _ => rfl
  | [], _ :: _, _, _, h => by simp [u8l] at h
  | _ :: _, [], _, _, h => by simp [u8l] at h
  | a :: l, b :: m, hl, hm, h => by
    have h : UInt8.ofNat a :: u8l l = UInt8.ofNat b :: u8l m := h
    injection h with h1 h2
    have ha := hl a (by simp)
    have hb := hm b (by simp)
    have e : a = b := by
      have := congrArg UInt8.toNat h1
      simpa [UInt8.toNat_ofNat', Nat.mod_eq_of_lt ha, Nat.mod_eq_of_lt hb] using this
    rw [e, u8l_inj (fun d hd => hl d (by simp [hd])) (fun d hd => hm d (by simp [hd])) h2]
theorem kkE_eq {x y : Ent} (h : kkE x = kkE y) : x.key = y.key := u8l_inj x.kb y.kb h
theorem ccE_eq {x y : Ent} (h : ccE x = ccE y) : x = y := by
  have h1 := List.append_inj h (by simp [u8l, x.kl, y.kl])
  exact Ent.eq (kkE_eq h1.1) (ByteArray.ext (Array.toList_inj.1 h1.2))
theorem ekE_eq {x y : Ent} (h : ekE x = ekE y) : x.key = y.key := by
  unfold ekE at h
  injection h with h
  exact byts_inj (by simpa using congrArg Array.toList h)
theorem encE_eq {x y : Ent} (h : encE x = encE y) : x = y := by
  have h1 := List.append_inj h (by simp [byts_length, x.kl, y.kl])
  have h2 : Value.string x.text = Value.string y.text := by simpa using h1.2
  injection h2 with h2
  exact Ent.eq (byts_inj h1.1) h2
theorem evE_eq {x y : Ent} (h : evE x = evE y) : x = y := by
  unfold evE at h
  injection h with h
  exact encE_eq (by simpa using congrArg Array.toList h)

theorem mapM_some {β γ : Type} {f : β → Option γ} {g : β → γ} : ∀ (xs : List β), (∀ x ∈ xs, f x = some (g x)) → xs.mapM f = some (xs.map g)
  | [], _ => rfl
  | x :: xs, h => by
    rw [List.mapM_cons, h x (by simp), mapM_some xs (fun y hy => h y (by simp [hy]))]
    rfl
theorem flat_sing {β γ : Type} (f : β → γ) : ∀ xs : List β, (xs.map fun i => [f i]).flatten = xs.map f
  | [] => rfl
  | x :: xs => by rw [List.map_cons, List.flatten_cons, flat_sing f xs]; rfl
theorem cells_hash : Tryd.prog.cellsOf 24 = 32 := by kernel_rfl
theorem cells_u8 : Tryd.prog.cellsOf 5 = 1 := by kernel_rfl
theorem keyLits_hash (d : Nat) (l : List Nat) (h : l.length = 32) (hb : ∀ x ∈ l, x < 256) : Tryd.prog.keyLits (d + 2) 24 (byts l) = some (l.map fun n => Lit.int .u8 ((n : Nat) : Int)) := by
  unfold Program.keyLits
  rw [Tryd.underlying24]
  simp only [cells_hash, cells_u8]
  rw [if_pos (by rw [byts_length, h])]
  rw [mapM_some (g := fun i => [Lit.int .u8 ((l.getD i 0 : Nat) : Int)]) _ (fun i hi => by
    have hi : i < 32 := by simpa using hi
    have hil : i < l.length := by omega
    have e : ((byts l).drop (i * 1)).take 1 = [Value.int .u8 ((l.getD i 0 : Nat) : Int)] := by
      rw [Nat.mul_one, List.drop_eq_getElem_cons (by rw [byts_length]; exact hil)]
      simp [byts, hil]
    rw [e]
    unfold Program.keyLits
    rw [Tryd.underlying5]
    have hx : l.getD i 0 < 256 := by
      rw [List.getD, List.getElem?_eq_getElem hil]
      exact hb _ (List.getElem_mem _)
    obtain ⟨v, hv⟩ : ∃ v, v = l.getD i 0 := ⟨_, rfl⟩
    rw [← hv] at hx ⊢
    have w : (Lit.int .u8 ((v : Nat) : Int)).wf = true := by
      simp only [Lit.wf, IntKind.min, IntKind.max, IntKind.signed, IntKind.bits]
      simp
      omega
    simp only []
    rw [if_pos ⟨trivial, w⟩])]
  rw [Option.map_some]
  congr 1
  rw [flat_sing]
  apply List.ext_getElem
  · simp [h]
  · intro i h1 h2
    have hil : i < l.length := by simpa using h2
    simp [hil]
theorem hashKey : WideMaps.ArrKey Tryd.prog 24 5 32 := ⟨Tryd.underlying24, by kernel_rfl, cells_u8, cells_hash⟩
theorem types_some : ∃ m, Tryd.prog.types.size = m + 1 := ⟨Tryd.prog.types.size - 1, by have : 0 < Tryd.prog.types.size := of_decide_eq_true (by kernel_rfl); omega⟩
theorem keyOf_hash (x : Ent) : keyOf Tryd.prog 24 (ekE x) = some (.string (kkE x)) := by
  unfold keyOf
  rw [Tryd.underlying24]
  obtain ⟨m, hm⟩ := types_some
  have hf : (Value.agg (byts x.key).toArray).formed Tryd.prog 24 = true := by
    simp only [Value.formed, Tryd.underlying24, cells_hash]
    simp [byts_length, x.kl]
  show (if (Tryd.prog.keyType 24 && (Value.agg (byts x.key).toArray).formed Tryd.prog 24) = true then _ else none) = _
  rw [hf, hashKey.keyType ⟨m, hm⟩, hm]
  have hc : (Value.agg (byts x.key).toArray).cells.toList = byts x.key := by simp [Value.cells]
  simp only [Bool.and_self, if_true]
  show Option.map _ (Tryd.prog.keyLits (m + 2) _ (Value.agg (byts x.key).toArray).cells.toList) = _
  rw [hc, keyLits_hash _ _ x.kl x.kb, Option.map_some]
  congr 2
  unfold keyBytes kkE u8l
  rw [List.flatMap_map]
  have : ∀ l : List Nat, (∀ d ∈ l, d < 256) → l.flatMap (fun n => (Lit.int .u8 ((n : Nat) : Int)).keyBytes) = l.map UInt8.ofNat := by
    intro l
    induction l with
    | nil => intro _; rfl
    | cons a l ih =>
      intro h
      have ha := h a (by simp)
      rw [List.flatMap_cons, List.map_cons, ih (fun d hd => h d (by simp [hd]))]
      have e : ((a : Int) % 2 ^ IntKind.u8.bits).toNat = a := by
        show ((a : Int) % 2 ^ 8).toNat = a
        omega
      simp only [Lit.keyBytes, e]
      have e2 : IntKind.u8.bits / 8 = 1 := rfl
      rw [e2]
      simp [bytesBE, bytesLE, Nat.mod_eq_of_lt ha]
  exact this _ x.kb
theorem codedE : Coded Tryd.prog 24 ekE evE kkE ccE :=
  ⟨Keyed.of_law hashKey.law, keyOf_hash, fun x y h => by unfold kkE; rw [ekE_eq h], fun x y => ⟨fun h => by rw [evE_eq h], fun h => by rw [ccE_eq h]⟩⟩
abbrev MapE := MapG ekE evE kkE
end Go.Proofs.YtpinpplbjgbkaaaDoor
