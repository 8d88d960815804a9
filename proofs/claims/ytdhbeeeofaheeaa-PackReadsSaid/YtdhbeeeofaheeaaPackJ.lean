/- Contracts of pack: the reader's texts, Done. -/
import Derived.Test.YtdhbeeeofaheeaaPackI
namespace Go.Proofs.Ytdhbeeeofaheeaa
set_option maxRecDepth 100000
open Go.RowKit M

theorem numV_lt (T : ByteArray) (a x : Nat) : numV T a x < 18446744073709551616 := by
  unfold numV
  have h1 := fixU_lt T a x 1 (by omega)
  split
  · omega
  · split
    · exact fixU_lt64 _ _ _ _ (by omega)
    · omega
theorem numA_le {T : ByteArray} {a x : Nat} (h : a ≤ T.size) : numA T a x ≤ T.size := by
  have hr : ∀ (a' x' : Nat) (n : Int), a' ≤ T.size → rawA T a' x' n ≤ T.size := fun a' x' n h' => by
    unfold rawA; split <;> omega
  unfold numA
  split
  · exact hr _ _ _ h
  · split
    · exact hr _ _ _ (hr _ _ _ h)
    · exact h

def txtE (T : ByteArray) (a x : Nat) (most : Int) : Nat := if max most 0 < (numV T a x : Int) then (if numX T a x = 0 then 12 else numX T a x) else numX T a x
def txtK (T : ByteArray) (a x : Nat) : Int := IntKind.i64.wrap (numV T a x : Int)
def txtX (T : ByteArray) (a x : Nat) (most : Int) : Nat := rawX T (numA T a x) (txtE T a x most) (txtK T a x)
def txtA (T : ByteArray) (a x : Nat) (most : Int) : Nat := if txtX T a x most = 0 then rawA T (numA T a x) (txtE T a x most) (txtK T a x) else a
def txtS (T : ByteArray) (a x : Nat) (most : Int) : ByteArray := rawS T (numA T a x) (txtE T a x most) (txtK T a x)

theorem done_any (b : Nat) (T : ByteArray) (a x : Nat) (w : World) (h : Rd w b T a x) :
    Calls Try.prog 22 #[.pointer (some ⟨b, 0, none⟩)] w (RdQ b T a (if x = 0 ∧ a < T.size then 3 else x) (.int .i64 ((if x = 0 ∧ a < T.size then 3 else x : Nat) : Int)) w) := by
  have hle := h.le
  have cl := left_any b T a x w h
  obtain ⟨y, hy⟩ : ∃ y, y = T.size - a := ⟨_, rfl⟩
  rw [← hy] at cl
  have CL := Box.mk cl
  clear cl h
  by_cases hs : a < T.size
  · have e : (if x = 0 ∧ a < T.size then 3 else x) = if x = 0 then 3 else x := by
      by_cases hx : x = 0
      · rw [if_pos ⟨hx, hs⟩, if_pos hx]
      · rw [if_neg (fun hh => hx hh.1), if_neg hx]
    rw [e]
    have hy0 : 0 < y := by omega
    have cf : ∀ W, Rd W b T a x → Calls Try.prog 34 #[.pointer (some ⟨b, 0, none⟩), .int .i64 3] W (RdQ b T a (if x = 0 then 3 else x) (.tuple #[]) W) := fun W hW => fail_any b T a x 3 W hW
    obtain ⟨z, hz⟩ : ∃ z, z = if x = 0 then 3 else x := ⟨_, rfl⟩
    rw [← hz]
    have cf : ∀ W, Rd W b T a x → Calls Try.prog 34 #[.pointer (some ⟨b, 0, none⟩), .int .i64 3] W (RdQ b T a z (.tuple #[]) W) := fun W hW => by rw [hz]; exact cf W hW
    have CF := Box.mk cf
    clear cf e hz hy
    go_enter Try.func22, Try.ntmps22
    go_wp2_with (first
      | (go_at_call 35; refine CL.out.mono ?_; rintro e w1 ⟨rfl, r1, o1⟩; have R1 := Box.mk r1; have O1 := Box.mk o1; clear r1 o1)
      | (go_at_call 34; refine (CF.out _ R1.out).mono ?_; rintro e w2 ⟨rfl, r2, o2⟩; have c2 := r2.c2; have R2 := Box.mk r2; have O2 := Box.mk o2; clear r2 o2))
    go_ret
    exact ⟨rfl, R2.out, O1.out.trans O2.out⟩
  · rw [if_neg (fun hh => hs hh.2)]
    have hy0 : y = 0 := by omega
    subst hy0
    clear hy
    go_enter Try.func22, Try.ntmps22
    go_wp2_with (go_at_call 35; refine CL.out.mono ?_; rintro e w1 ⟨rfl, r1, o1⟩; have c2 := r1.c2; have R1 := Box.mk r1; have O1 := Box.mk o1; clear r1 o1)
    go_ret
    exact ⟨rfl, R1.out, O1.out⟩

set_option maxRecDepth 100000 in
set_option maxHeartbeats 600000 in
theorem rtext_any (b : Nat) (T : ByteArray) (a x : Nat) (most : Int) (hm1 : -9223372036854775808 ≤ most) (hm2 : most ≤ 9223372036854775807) (w : World) (h : Rd w b T a x) :
    Calls Try.prog 16 #[.pointer (some ⟨b, 0, none⟩), .int .i64 most] w (RdQ b T (txtA T a x most) (txtX T a x most) (.string (txtS T a x most)) w) := by
  have c1w := h.c1
  have hle := h.le
  have cn := rnum_any b T a x w h
  have hvl := numV_lt T a x
  obtain ⟨K, hK⟩ : ∃ K, K = txtK T a x := ⟨_, rfl⟩
  obtain ⟨x1, hx1⟩ : ∃ q, q = txtE T a x most := ⟨_, rfl⟩
  have hA : txtA T a x most = if rawX T (numA T a x) x1 K = 0 then rawA T (numA T a x) x1 K else a := by rw [hK, hx1]; rfl
  have hX : txtX T a x most = rawX T (numA T a x) x1 K := by rw [hK, hx1]; rfl
  have hS : txtS T a x most = rawS T (numA T a x) x1 K := by rw [hK, hx1]; rfl
  unfold txtE at hx1
  unfold txtK at hK
  obtain ⟨na, hna⟩ : ∃ q, q = numA T a x := ⟨_, rfl⟩
  obtain ⟨nx, hnx⟩ : ∃ q, q = numX T a x := ⟨_, rfl⟩
  obtain ⟨nv, hnv⟩ : ∃ q, q = numV T a x := ⟨_, rfl⟩
  rw [← hna] at hA hX hS cn
  rw [← hnx] at hx1 cn
  rw [← hnv] at hx1 hK cn hvl
  have cr : ∀ W, Rd W b T na x1 → Calls Try.prog 18 #[.pointer (some ⟨b, 0, none⟩), .int .i64 K] W (RdQ b T (rawA T na x1 K) (rawX T na x1 K) (.string (rawS T na x1 K)) W) := fun W hW => rraw_any b T na x1 K W hW
  obtain ⟨S, hS2⟩ : ∃ q, q = rawS T na x1 K := ⟨_, rfl⟩
  obtain ⟨a2, ha2⟩ : ∃ q, q = rawA T na x1 K := ⟨_, rfl⟩
  obtain ⟨x2, hx2⟩ : ∃ q, q = rawX T na x1 K := ⟨_, rfl⟩
  rw [← ha2, ← hx2] at hA
  rw [← hx2] at hX
  rw [← hS2] at hS
  have cr : ∀ W, Rd W b T na x1 → Calls Try.prog 18 #[.pointer (some ⟨b, 0, none⟩), .int .i64 K] W (RdQ b T a2 x2 (.string S) W) := fun W hW => by rw [ha2, hx2, hS2]; exact rraw_any b T na x1 K W hW
  rw [hA, hX, hS]
  have nK : IntKind.i64.wrap (nv : Int) = K := hK.symm
  have nM : IntKind.u64.wrap (max most 0) = max most 0 := by
    obtain ⟨m, hm⟩ : ∃ m : Nat, max most 0 = m := ⟨(max most 0).toNat, by omega⟩
    rw [hm]; exact u64small (by omega)
  have CN := Box.mk cn; have CR := Box.mk cr
  clear cn cr hA hX hS hK hS2 ha2 hx2 hna hnx hnv h
  by_cases hb : max most 0 < (nv : Int)
  · rw [if_pos hb] at hx1
    have cf : ∀ W, Rd W b T na nx → Calls Try.prog 34 #[.pointer (some ⟨b, 0, none⟩), .int .i64 12] W (RdQ b T na x1 (.tuple #[]) W) := fun W hW => by rw [hx1]; exact fail_any b T na nx 12 W hW
    have CF := Box.mk cf
    clear cf hx1
    rcases Nat.eq_zero_or_pos x2 with hz | hz
    · subst hz
      rw [if_pos rfl]
      go_enter Try.func16, Try.ntmps16
      go_wp2_with (first
        | (go_at_call 14; refine CN.out.mono ?_; rintro e w1 ⟨rfl, r1, o1⟩; have R1 := Box.mk r1; have O1 := Box.mk o1; clear r1 o1)
        | (go_at_call 34; ((with_reducible refine (CF.out _ R1.out).mono ?_); rintro e w2 ⟨rfl, r2, o2⟩; have R2 := Box.mk r2; have O2 := Box.mk (O1.out.trans o2); clear r2 o2))
        | (go_at_call 18; ((with_reducible refine (CR.out _ R2.out).mono ?_); rintro e w3 ⟨rfl, r3, o3⟩; have d2 := r3.c2; have d1 := r3.c1; have g1 := r3.f1; have R3 := Box.mk r3; have O3 := Box.mk (O2.out.trans o3); clear r3 o3)))
      go_ret
      exact ⟨rfl, R3.out, O3.out⟩
    · have z1 : ((x2 : Int) != 0) = true := by simp; omega
      rw [if_neg (by omega)]
      go_enter Try.func16, Try.ntmps16
      go_wp2_with (first
        | (go_at_call 14; refine CN.out.mono ?_; rintro e w1 ⟨rfl, r1, o1⟩; have R1 := Box.mk r1; have O1 := Box.mk o1; clear r1 o1)
        | (go_at_call 34; ((with_reducible refine (CF.out _ R1.out).mono ?_); rintro e w2 ⟨rfl, r2, o2⟩; have R2 := Box.mk r2; have O2 := Box.mk (O1.out.trans o2); clear r2 o2))
        | (go_at_call 18; ((with_reducible refine (CR.out _ R2.out).mono ?_); rintro e w3 ⟨rfl, r3, o3⟩; have d2 := r3.c2; have d1 := r3.c1; have g1 := r3.f1; have R3 := Box.mk r3; have O3 := Box.mk (O2.out.trans o3); clear r3 o3)))
      go_ret
      exact ⟨rfl, R3.out.move a hle, O3.out.setCell 1 _⟩
  · rw [if_neg hb] at hx1
    subst hx1
    rcases Nat.eq_zero_or_pos x2 with hz | hz
    · subst hz
      rw [if_pos rfl]
      go_enter Try.func16, Try.ntmps16
      go_wp2_with (first
        | (go_at_call 14; refine CN.out.mono ?_; rintro e w1 ⟨rfl, r1, o1⟩; have R1 := Box.mk r1; have O1 := Box.mk o1; clear r1 o1)
        | (go_at_call 18; ((with_reducible refine (CR.out _ R1.out).mono ?_); rintro e w3 ⟨rfl, r3, o3⟩; have d2 := r3.c2; have d1 := r3.c1; have g1 := r3.f1; have R3 := Box.mk r3; have O3 := Box.mk (O1.out.trans o3); clear r3 o3)))
      go_ret
      exact ⟨rfl, R3.out, O3.out⟩
    · have z1 : ((x2 : Int) != 0) = true := by simp; omega
      rw [if_neg (by omega)]
      go_enter Try.func16, Try.ntmps16
      go_wp2_with (first
        | (go_at_call 14; refine CN.out.mono ?_; rintro e w1 ⟨rfl, r1, o1⟩; have R1 := Box.mk r1; have O1 := Box.mk o1; clear r1 o1)
        | (go_at_call 18; ((with_reducible refine (CR.out _ R1.out).mono ?_); rintro e w3 ⟨rfl, r3, o3⟩; have d2 := r3.c2; have d1 := r3.c1; have g1 := r3.f1; have R3 := Box.mk r3; have O3 := Box.mk (O1.out.trans o3); clear r3 o3)))
      go_ret
      exact ⟨rfl, R3.out.move a hle, O3.out.setCell 1 _⟩
end Go.Proofs.Ytdhbeeeofaheeaa
