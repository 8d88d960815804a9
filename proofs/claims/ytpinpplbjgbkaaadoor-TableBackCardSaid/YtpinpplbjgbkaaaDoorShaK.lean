/- Contracts of sha: Compare. -/
import Derived.Test.YtpinpplbjgbkaaaDoorShaJ
import Derived.Lib.Bytealg
import Derived.Lib.BytesEntry
import Derived.Deep.QuietTactic
import Derived.BigQuiet
namespace Go.Proofs.YtpinpplbjgbkaaaDoor
set_option maxRecDepth 100000
open Go.RowKit M

/-- the bytes of a list -/
def u8l (l : List Nat) : List UInt8 := l.map UInt8.ofNat
theorem u8l_length (l : List Nat) : (u8l l).length = l.length := by simp [u8l]

theorem bytesCompare_any (g1 g2 c1 c2 : Nat) (l1 l2 : List Nat) (h1 : l1.length = 32) (h2 : l2.length = 32) (t1 : ∀ d ∈ l1, d < 256) (t2 : ∀ d ∈ l2, d < 256) (w : World) (r1 : w.rangeAt g1 0 (byts l1)) (r2 : w.rangeAt g2 0 (byts l2)) :
    Calls Tryd.prog 51 #[.slice (some ⟨g1, 0, none⟩) 32 c1, .slice (some ⟨g2, 0, none⟩) 32 c2] w fun e w' => e = .returned (.int .i64 (Lib.compareBytes (u8l l1) (u8l l2))) ∧ w = w' := by
  have ld : ∀ (g : Nat) (l : List Nat), l.length = 32 → (∀ d ∈ l, d < 256) → w.rangeAt g 0 (byts l) → (Extern.Bytes.loadBytes ⟨g, 0, none⟩ 32 .empty).run Tryd.prog w = .ok ⟨(u8l l).toArray⟩ w := fun g l hl ht hr => by
    have hb : Lib.bytesOf (l.map fun (n : Nat) => (n : Int)) = u8l l := by simp [Lib.bytesOf, u8l]
    have h := Lib.run_loadBytesX (P := Tryd.prog) w (l.map fun (n : Nat) => (n : Int)) ⟨g, 0, none⟩ .empty (fun j x hx => by
      have hj : j < l.length := by have := (List.getElem?_eq_some_iff.1 hx).1; rwa [List.length_map] at this
      have hc := hr j (.int .u8 x) (by rw [List.getElem?_map] at hx; rw [show byts l = l.map (fun (d : Nat) => Value.int .u8 (d : Int)) from rfl, List.getElem?_map]; revert hx; cases l[j]? with | none => simp | some d => intro hx; simpa using hx)
      rw [Nat.zero_add] at hc
      rw [Addr.add_mid, Nat.zero_add]
      exact hc)
    rw [List.length_map, hl, hb] at h
    have he : (⟨ByteArray.empty.data ++ (u8l l).toArray⟩ : ByteArray) = ⟨(u8l l).toArray⟩ := by
      apply ByteArray.ext
      show (#[] : Array UInt8) ++ (u8l l).toArray = (u8l l).toArray
      simp
    rw [h, he]
  have k1 := ld g1 l1 h1 t1 r1
  have k2 := ld g2 l2 h2 t2 r2
  have hrun : (Extern.BytealgCompare.compare #[.slice (some ⟨g1, 0, none⟩) 32 c1, .slice (some ⟨g2, 0, none⟩) 32 c2]).run Tryd.prog w = .ok (.int .i64 (Lib.compareBytes (u8l l1) (u8l l2))) w := by
    change Sem.run Tryd.prog (do pure (goInt (Extern.BytealgCompare.cmp (← Extern.Bytes.bytesOf (.slice (some ⟨g1, 0, none⟩) 32 c1)) (← Extern.Bytes.bytesOf (.slice (some ⟨g2, 0, none⟩) 32 c2))))) w = _
    simp only [Extern.Bytes.bytesOf, Sem.run_bind, Sem.run_pure, Result.andThen, k1, k2]
    rw [Lib.cmp_eq]
    rfl
  clear ld k1 k2 r1 r2 t1 t2 h1 h2
  go_enter Tryd.func51, Tryd.ntmps51
  go_wp2
  rw [run_callFunc_extern Tryd.func66 (by kernel_rfl) (by kernel_rfl) (by kernel_rfl) (e := Extern.BytealgCompare.compare) (by kernel_rfl), hrun]
  simp only [Result.andThen]
  rw [Oper.upon_value]
  go_wp2
  go_ret
  exact ⟨rfl, rfl⟩
end Go.Proofs.YtpinpplbjgbkaaaDoor
