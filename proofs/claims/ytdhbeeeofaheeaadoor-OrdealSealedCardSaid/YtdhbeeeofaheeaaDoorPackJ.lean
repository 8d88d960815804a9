/- Contracts of pack: the reader's texts, Done. -/
import Derived.Test.YtdhbeeeofaheeaaDoorPackI
namespace Go.Proofs.YtdhbeeeofaheeaaDoor
set_option maxRecDepth 100000
open Go.RowKit M

theorem numV_lt (T : ByteArray) (a x : Nat) : numV T a x < 18446744073709551616 := by
  unfold numV
  have h1 := fixU_lt T a x 1 (by omega)
  split
  · omega
  · split
    · exact fixU_lt64 _ _ _ _ (by omega)
    · omega
theorem numA_le {T : ByteArray} {a x : Nat} (h : a ≤ T.size) : numA T a x ≤ T.size := by
  have hr : ∀ (a' x' : Nat) (n : Int), a' ≤ T.size → rawA T a' x' n ≤ T.size := fun a' x' n h' => by
    unfold rawA; split <;> omega
  unfold numA
  split
  · exact hr _ _ _ h
  · split
    · exact hr _ _ _ (hr _ _ _ h)
    · exact h

def txtE (T : ByteArray) (a x : Nat) (most : Int) : Nat := if max most 0 < (numV T a x : Int) then (if numX T a x = 0 then 12 else numX T a x) else numX T a x
def txtK (T : ByteArray) (a x : Nat) : Int := IntKind.i64.wrap (numV T a x : Int)
def txtX (T : ByteArray) (a x : Nat) (most : Int) : Nat := rawX T (numA T a x) (txtE T a x most) (txtK T a x)
def txtA (T : ByteArray) (a x : Nat) (most : Int) : Nat := if txtX T a x most = 0 then rawA T (numA T a x) (txtE T a x most) (txtK T a x) else a
def txtS (T : ByteArray) (a x : Nat) (most : Int) : ByteArray := rawS T (numA T a x) (txtE T a x most) (txtK T a x)

theorem done_any (b : Nat) (T : ByteArray) (a x : Nat) (w : World) (h : Rd w b T a x) :
    Calls Tryd.prog 37 #[.pointer (some ⟨b, 0, none⟩)] w (RdQ b T a (if x = 0 ∧ a < T.size then 3 else x) (.int .i64 ((if x = 0 ∧ a < T.size then 3 else x : Nat) : Int)) w) := by
  have hle := h.le
  have cl := left_any b T a x w h
  obtain ⟨y, hy⟩ : ∃ y, y = T.size - a := ⟨_, rfl⟩
  rw [← hy] at cl
  have CL := Box.mk cl
  clear cl h
  by_cases hs : a < T.size
  · have e : (if x = 0 ∧ a < T.size then 3 else x) = if x = 0 then 3 else x := by
      by_cases hx : x = 0
      · rw [if_pos ⟨hx, hs⟩, if_pos hx]
      · rw [if_neg (fun hh => hx hh.1), if_neg hx]
    rw [e]
    have hy0 : 0 < y := by omega
    have cf : ∀ W, Rd W b T a x → Calls Tryd.prog 61 #[.pointer (some ⟨b, 0, none⟩), .int .i64 3] W (RdQ b T a (if x = 0 then 3 else x) (.tuple #[]) W) := fun W hW => fail_any b T a x 3 W hW
    obtain ⟨z, hz⟩ : ∃ z, z = if x = 0 then 3 else x := ⟨_, rfl⟩
    rw [← hz]
    have cf : ∀ W, Rd W b T a x → Calls Tryd.prog 61 #[.pointer (some ⟨b, 0, none⟩), .int .i64 3] W (RdQ b T a z (.tuple #[]) W) := fun W hW => by rw [hz]; exact cf W hW
    have CF := Box.mk cf
    clear cf e hz hy
    go_enter Tryd.func37, Tryd.ntmps37
    go_wp2_with (first
      | (go_at_call 63; refine CL.out.mono ?_; rintro e w1 ⟨rfl, r1, o1⟩; have R1 := Box.mk r1; have O1 := Box.mk o1; clear r1 o1)
      | (go_at_call 61; refine (CF.out _ R1.out).mono ?_; rintro e w2 ⟨rfl, r2, o2⟩; have c2 := r2.c2; have R2 := Box.mk r2; have O2 := Box.mk o2; clear r2 o2))
    go_ret
    exact ⟨rfl, R2.out, O1.out.trans O2.out⟩
  · rw [if_neg (fun hh => hs hh.2)]
    have hy0 : y = 0 := by omega
    subst hy0
    clear hy
    go_enter Tryd.func37, Tryd.ntmps37
    go_wp2_with (go_at_call 63; refine CL.out.mono ?_; rintro e w1 ⟨rfl, r1, o1⟩; have c2 := r1.c2; have R1 := Box.mk r1; have O1 := Box.mk o1; clear r1 o1)
    go_ret
    exact ⟨rfl, R1.out, O1.out⟩

end Go.Proofs.YtdhbeeeofaheeaaDoor
