/- Contracts of pack: the reader's numbers. -/
import Derived.Test.YtdhbeeeofaheeaaDoorPackD
namespace Go.Proofs.YtdhbeeeofaheeaaDoor
set_option maxRecDepth 100000
open Go.RowKit M

theorem numN_sb {s : ByteArray} (h : s.size ≤ 8) : numN s = num 8 (sb s) := by
  unfold numN sb; rw [Nat.min_eq_left h]
theorem fixV {s : ByteArray} {k : Nat} (h1 : 1 ≤ k) (h8 : k ≤ 8) (h : s.size = k ∨ s.size = 0) : revN 8 (numN s) / 2 ^ (64 - 8 * k) = un (sb s) := by
  rw [numN_sb (by omega)]
  rcases h with h | h
  · have e := swap_num (l := sb s) (sb_lt s) (by rw [sb_length]; omega)
    rw [sb_length, h] at e
    exact e
  · have e : sb s = [] := List.eq_nil_of_length_eq_zero (by rw [sb_length]; exact h)
    rw [e, swap_none]; rfl
theorem rawS_size (T : ByteArray) (a x k : Nat) : (rawS T a x k).size = k ∨ (rawS T a x k).size = 0 := by
  unfold rawS
  split
  · rename_i h
    left; simp; omega
  · right; rfl
/-- the number that is read -/
def fixU (T : ByteArray) (a x k : Nat) : Nat := un (sb (rawS T a x k))
theorem numN_lt (s : ByteArray) : numN s < 18446744073709551616 := by
  unfold numN
  have h := num_lt 8 (bnl s (min s.size 8)) (bnl_lt s _)
  rw [bnl_length] at h
  have h2 : 2 ^ (8 * min s.size 8) ≤ 2 ^ 64 := Nat.pow_le_pow_right (by decide) (by omega)
  have h3 : (2 : Nat) ^ 64 = 18446744073709551616 := by decide
  omega

set_option maxRecDepth 100000 in
theorem rfx1 (b : Nat) (T : ByteArray) (a x : Nat) (n : Int) (hk : cl18 n = 1) (w : World) (h : Rd w b T a x) :
    Calls Tryd.prog 35 #[.pointer (some ⟨b, 0, none⟩), .int .i64 n] w (RdQ b T (rawA T a x 1) (rawX T a x 1) (.int .u64 (fixU T a x 1 : Nat)) w) := by
  have cf := fixedSize_any n w
  rw [show (if n < 1 then 1 else if 8 < n then 8 else n.toNat : Nat) = 1 from hk] at cf
  have cr := rraw_any b T a x 1 w h
  have hv := fixV (s := rawS T a x (1 : Nat)) (k := 1) (by omega) (by omega) (rawS_size T a x 1)
  have hS : rawS T a x (1 : Int) = rawS T a x ((1 : Nat) : Int) := rfl
  rw [hS] at cr
  have hfu : fixU T a x 1 = un (sb (rawS T a x ((1 : Nat) : Int))) := rfl
  rw [← hfu] at hv
  have hsz : (rawS T a x ((1 : Nat) : Int)).size ≤ 8 := by have := rawS_size T a x 1; omega
  obtain ⟨S, hS2⟩ : ∃ S, S = rawS T a x ((1 : Nat) : Int) := ⟨_, rfl⟩
  rw [← hS2] at cr hv hsz
  obtain ⟨z, hz⟩ : ∃ z, z = fixU T a x 1 := ⟨_, rfl⟩
  rw [← hz] at hv ⊢
  have cn := fun w => wordNumber_any S (by omega) w
  have hnl := numN_lt S
  obtain ⟨m, hm⟩ : ∃ m, m = numN S := ⟨_, rfl⟩
  rw [← hm] at cn hv hnl
  have hyl := revN_lt8 m
  have cw := fun w => wordSwap_any m hnl w
  obtain ⟨y, hy⟩ : ∃ y, y = revN 8 m := ⟨_, rfl⟩
  rw [← hy] at cw hv hyl
  have hz2 : z = y / 72057594037927936 := hv.symm
  have r1 : (y : Int) / 72057594037927936 = (z : Int) := by rw [hz2]; omega
  have CF := Box.mk cf; have CR := Box.mk cr; have CN := Box.mk cn; have CW := Box.mk cw; have HZ := Box.mk hz2
  clear cf cr cn cw hv hS hS2 hfu hm hy hz hz2 hk h
  go_enter Tryd.func35, Tryd.ntmps35
  go_wp2_with (first
    | (go_at_call 58; refine CF.out.mono ?_; rintro e w' ⟨rfl, rfl⟩)
    | (go_at_call 36; refine CR.out.mono ?_; rintro e w1 ⟨rfl, r1, o1⟩; have R1 := Box.mk r1; have O1 := Box.mk o1; clear r1 o1)
    | (go_at_call 62; ((with_reducible refine (CN.out _).mono ?_); rintro e w' ⟨rfl, rfl⟩))
    | (go_at_call 60; ((with_reducible refine (CW.out _).mono ?_); rintro e w' ⟨rfl, rfl⟩)))
  go_ret
  exact ⟨rfl, R1.out, O1.out⟩

set_option maxRecDepth 100000 in
theorem rfx2 (b : Nat) (T : ByteArray) (a x : Nat) (n : Int) (hk : cl18 n = 2) (w : World) (h : Rd w b T a x) :
    Calls Tryd.prog 35 #[.pointer (some ⟨b, 0, none⟩), .int .i64 n] w (RdQ b T (rawA T a x 2) (rawX T a x 2) (.int .u64 (fixU T a x 2 : Nat)) w) := by
  have cf := fixedSize_any n w
  rw [show (if n < 1 then 1 else if 8 < n then 8 else n.toNat : Nat) = 2 from hk] at cf
  have cr := rraw_any b T a x 2 w h
  have hv := fixV (s := rawS T a x (2 : Nat)) (k := 2) (by omega) (by omega) (rawS_size T a x 2)
  have hS : rawS T a x (2 : Int) = rawS T a x ((2 : Nat) : Int) := rfl
  rw [hS] at cr
  have hfu : fixU T a x 2 = un (sb (rawS T a x ((2 : Nat) : Int))) := rfl
  rw [← hfu] at hv
  have hsz : (rawS T a x ((2 : Nat) : Int)).size ≤ 8 := by have := rawS_size T a x 2; omega
  obtain ⟨S, hS2⟩ : ∃ S, S = rawS T a x ((2 : Nat) : Int) := ⟨_, rfl⟩
  rw [← hS2] at cr hv hsz
  obtain ⟨z, hz⟩ : ∃ z, z = fixU T a x 2 := ⟨_, rfl⟩
  rw [← hz] at hv ⊢
  have cn := fun w => wordNumber_any S (by omega) w
  have hnl := numN_lt S
  obtain ⟨m, hm⟩ : ∃ m, m = numN S := ⟨_, rfl⟩
  rw [← hm] at cn hv hnl
  have hyl := revN_lt8 m
  have cw := fun w => wordSwap_any m hnl w
  obtain ⟨y, hy⟩ : ∃ y, y = revN 8 m := ⟨_, rfl⟩
  rw [← hy] at cw hv hyl
  have hz2 : z = y / 281474976710656 := hv.symm
  have r1 : (y : Int) / 281474976710656 = (z : Int) := by rw [hz2]; omega
  have CF := Box.mk cf; have CR := Box.mk cr; have CN := Box.mk cn; have CW := Box.mk cw; have HZ := Box.mk hz2
  clear cf cr cn cw hv hS hS2 hfu hm hy hz hz2 hk h
  go_enter Tryd.func35, Tryd.ntmps35
  go_wp2_with (first
    | (go_at_call 58; refine CF.out.mono ?_; rintro e w' ⟨rfl, rfl⟩)
    | (go_at_call 36; refine CR.out.mono ?_; rintro e w1 ⟨rfl, r1, o1⟩; have R1 := Box.mk r1; have O1 := Box.mk o1; clear r1 o1)
    | (go_at_call 62; ((with_reducible refine (CN.out _).mono ?_); rintro e w' ⟨rfl, rfl⟩))
    | (go_at_call 60; ((with_reducible refine (CW.out _).mono ?_); rintro e w' ⟨rfl, rfl⟩)))
  go_ret
  exact ⟨rfl, R1.out, O1.out⟩

set_option maxRecDepth 100000 in
theorem rfx3 (b : Nat) (T : ByteArray) (a x : Nat) (n : Int) (hk : cl18 n = 3) (w : World) (h : Rd w b T a x) :
    Calls Tryd.prog 35 #[.pointer (some ⟨b, 0, none⟩), .int .i64 n] w (RdQ b T (rawA T a x 3) (rawX T a x 3) (.int .u64 (fixU T a x 3 : Nat)) w) := by
  have cf := fixedSize_any n w
  rw [show (if n < 1 then 1 else if 8 < n then 8 else n.toNat : Nat) = 3 from hk] at cf
  have cr := rraw_any b T a x 3 w h
  have hv := fixV (s := rawS T a x (3 : Nat)) (k := 3) (by omega) (by omega) (rawS_size T a x 3)
  have hS : rawS T a x (3 : Int) = rawS T a x ((3 : Nat) : Int) := rfl
  rw [hS] at cr
  have hfu : fixU T a x 3 = un (sb (rawS T a x ((3 : Nat) : Int))) := rfl
  rw [← hfu] at hv
  have hsz : (rawS T a x ((3 : Nat) : Int)).size ≤ 8 := by have := rawS_size T a x 3; omega
  obtain ⟨S, hS2⟩ : ∃ S, S = rawS T a x ((3 : Nat) : Int) := ⟨_, rfl⟩
  rw [← hS2] at cr hv hsz
  obtain ⟨z, hz⟩ : ∃ z, z = fixU T a x 3 := ⟨_, rfl⟩
  rw [← hz] at hv ⊢
  have cn := fun w => wordNumber_any S (by omega) w
  have hnl := numN_lt S
  obtain ⟨m, hm⟩ : ∃ m, m = numN S := ⟨_, rfl⟩
  rw [← hm] at cn hv hnl
  have hyl := revN_lt8 m
  have cw := fun w => wordSwap_any m hnl w
  obtain ⟨y, hy⟩ : ∃ y, y = revN 8 m := ⟨_, rfl⟩
  rw [← hy] at cw hv hyl
  have hz2 : z = y / 1099511627776 := hv.symm
  have r1 : (y : Int) / 1099511627776 = (z : Int) := by rw [hz2]; omega
  have CF := Box.mk cf; have CR := Box.mk cr; have CN := Box.mk cn; have CW := Box.mk cw; have HZ := Box.mk hz2
  clear cf cr cn cw hv hS hS2 hfu hm hy hz hz2 hk h
  go_enter Tryd.func35, Tryd.ntmps35
  go_wp2_with (first
    | (go_at_call 58; refine CF.out.mono ?_; rintro e w' ⟨rfl, rfl⟩)
    | (go_at_call 36; refine CR.out.mono ?_; rintro e w1 ⟨rfl, r1, o1⟩; have R1 := Box.mk r1; have O1 := Box.mk o1; clear r1 o1)
    | (go_at_call 62; ((with_reducible refine (CN.out _).mono ?_); rintro e w' ⟨rfl, rfl⟩))
    | (go_at_call 60; ((with_reducible refine (CW.out _).mono ?_); rintro e w' ⟨rfl, rfl⟩)))
  go_ret
  exact ⟨rfl, R1.out, O1.out⟩

set_option maxRecDepth 100000 in
theorem rfx4 (b : Nat) (T : ByteArray) (a x : Nat) (n : Int) (hk : cl18 n = 4) (w : World) (h : Rd w b T a x) :
    Calls Tryd.prog 35 #[.pointer (some ⟨b, 0, none⟩), .int .i64 n] w (RdQ b T (rawA T a x 4) (rawX T a x 4) (.int .u64 (fixU T a x 4 : Nat)) w) := by
  have cf := fixedSize_any n w
  rw [show (if n < 1 then 1 else if 8 < n then 8 else n.toNat : Nat) = 4 from hk] at cf
  have cr := rraw_any b T a x 4 w h
  have hv := fixV (s := rawS T a x (4 : Nat)) (k := 4) (by omega) (by omega) (rawS_size T a x 4)
  have hS : rawS T a x (4 : Int) = rawS T a x ((4 : Nat) : Int) := rfl
  rw [hS] at cr
  have hfu : fixU T a x 4 = un (sb (rawS T a x ((4 : Nat) : Int))) := rfl
  rw [← hfu] at hv
  have hsz : (rawS T a x ((4 : Nat) : Int)).size ≤ 8 := by have := rawS_size T a x 4; omega
  obtain ⟨S, hS2⟩ : ∃ S, S = rawS T a x ((4 : Nat) : Int) := ⟨_, rfl⟩
  rw [← hS2] at cr hv hsz
  obtain ⟨z, hz⟩ : ∃ z, z = fixU T a x 4 := ⟨_, rfl⟩
  rw [← hz] at hv ⊢
  have cn := fun w => wordNumber_any S (by omega) w
  have hnl := numN_lt S
  obtain ⟨m, hm⟩ : ∃ m, m = numN S := ⟨_, rfl⟩
  rw [← hm] at cn hv hnl
  have hyl := revN_lt8 m
  have cw := fun w => wordSwap_any m hnl w
  obtain ⟨y, hy⟩ : ∃ y, y = revN 8 m := ⟨_, rfl⟩
  rw [← hy] at cw hv hyl
  have hz2 : z = y / 4294967296 := hv.symm
  have r1 : (y : Int) / 4294967296 = (z : Int) := by rw [hz2]; omega
  have CF := Box.mk cf; have CR := Box.mk cr; have CN := Box.mk cn; have CW := Box.mk cw; have HZ := Box.mk hz2
  clear cf cr cn cw hv hS hS2 hfu hm hy hz hz2 hk h
  go_enter Tryd.func35, Tryd.ntmps35
  go_wp2_with (first
    | (go_at_call 58; refine CF.out.mono ?_; rintro e w' ⟨rfl, rfl⟩)
    | (go_at_call 36; refine CR.out.mono ?_; rintro e w1 ⟨rfl, r1, o1⟩; have R1 := Box.mk r1; have O1 := Box.mk o1; clear r1 o1)
    | (go_at_call 62; ((with_reducible refine (CN.out _).mono ?_); rintro e w' ⟨rfl, rfl⟩))
    | (go_at_call 60; ((with_reducible refine (CW.out _).mono ?_); rintro e w' ⟨rfl, rfl⟩)))
  go_ret
  exact ⟨rfl, R1.out, O1.out⟩

set_option maxRecDepth 100000 in
theorem rfx5 (b : Nat) (T : ByteArray) (a x : Nat) (n : Int) (hk : cl18 n = 5) (w : World) (h : Rd w b T a x) :
    Calls Tryd.prog 35 #[.pointer (some ⟨b, 0, none⟩), .int .i64 n] w (RdQ b T (rawA T a x 5) (rawX T a x 5) (.int .u64 (fixU T a x 5 : Nat)) w) := by
  have cf := fixedSize_any n w
  rw [show (if n < 1 then 1 else if 8 < n then 8 else n.toNat : Nat) = 5 from hk] at cf
  have cr := rraw_any b T a x 5 w h
  have hv := fixV (s := rawS T a x (5 : Nat)) (k := 5) (by omega) (by omega) (rawS_size T a x 5)
  have hS : rawS T a x (5 : Int) = rawS T a x ((5 : Nat) : Int) := rfl
  rw [hS] at cr
  have hfu : fixU T a x 5 = un (sb (rawS T a x ((5 : Nat) : Int))) := rfl
  rw [← hfu] at hv
  have hsz : (rawS T a x ((5 : Nat) : Int)).size ≤ 8 := by have := rawS_size T a x 5; omega
  obtain ⟨S, hS2⟩ : ∃ S, S = rawS T a x ((5 : Nat) : Int) := ⟨_, rfl⟩
  rw [← hS2] at cr hv hsz
  obtain ⟨z, hz⟩ : ∃ z, z = fixU T a x 5 := ⟨_, rfl⟩
  rw [← hz] at hv ⊢
  have cn := fun w => wordNumber_any S (by omega) w
  have hnl := numN_lt S
  obtain ⟨m, hm⟩ : ∃ m, m = numN S := ⟨_, rfl⟩
  rw [← hm] at cn hv hnl
  have hyl := revN_lt8 m
  have cw := fun w => wordSwap_any m hnl w
  obtain ⟨y, hy⟩ : ∃ y, y = revN 8 m := ⟨_, rfl⟩
  rw [← hy] at cw hv hyl
  have hz2 : z = y / 16777216 := hv.symm
  have r1 : (y : Int) / 16777216 = (z : Int) := by rw [hz2]; omega
  have CF := Box.mk cf; have CR := Box.mk cr; have CN := Box.mk cn; have CW := Box.mk cw; have HZ := Box.mk hz2
  clear cf cr cn cw hv hS hS2 hfu hm hy hz hz2 hk h
  go_enter Tryd.func35, Tryd.ntmps35
  go_wp2_with (first
    | (go_at_call 58; refine CF.out.mono ?_; rintro e w' ⟨rfl, rfl⟩)
    | (go_at_call 36; refine CR.out.mono ?_; rintro e w1 ⟨rfl, r1, o1⟩; have R1 := Box.mk r1; have O1 := Box.mk o1; clear r1 o1)
    | (go_at_call 62; ((with_reducible refine (CN.out _).mono ?_); rintro e w' ⟨rfl, rfl⟩))
    | (go_at_call 60; ((with_reducible refine (CW.out _).mono ?_); rintro e w' ⟨rfl, rfl⟩)))
  go_ret
  exact ⟨rfl, R1.out, O1.out⟩

set_option maxRecDepth 100000 in
theorem rfx6 (b : Nat) (T : ByteArray) (a x : Nat) (n : Int) (hk : cl18 n = 6) (w : World) (h : Rd w b T a x) :
    Calls Tryd.prog 35 #[.pointer (some ⟨b, 0, none⟩), .int .i64 n] w (RdQ b T (rawA T a x 6) (rawX T a x 6) (.int .u64 (fixU T a x 6 : Nat)) w) := by
  have cf := fixedSize_any n w
  rw [show (if n < 1 then 1 else if 8 < n then 8 else n.toNat : Nat) = 6 from hk] at cf
  have cr := rraw_any b T a x 6 w h
  have hv := fixV (s := rawS T a x (6 : Nat)) (k := 6) (by omega) (by omega) (rawS_size T a x 6)
  have hS : rawS T a x (6 : Int) = rawS T a x ((6 : Nat) : Int) := rfl
  rw [hS] at cr
  have hfu : fixU T a x 6 = un (sb (rawS T a x ((6 : Nat) : Int))) := rfl
  rw [← hfu] at hv
  have hsz : (rawS T a x ((6 : Nat) : Int)).size ≤ 8 := by have := rawS_size T a x 6; omega
  obtain ⟨S, hS2⟩ : ∃ S, S = rawS T a x ((6 : Nat) : Int) := ⟨_, rfl⟩
  rw [← hS2] at cr hv hsz
  obtain ⟨z, hz⟩ : ∃ z, z = fixU T a x 6 := ⟨_, rfl⟩
  rw [← hz] at hv ⊢
  have cn := fun w => wordNumber_any S (by omega) w
  have hnl := numN_lt S
  obtain ⟨m, hm⟩ : ∃ m, m = numN S := ⟨_, rfl⟩
  rw [← hm] at cn hv hnl
  have hyl := revN_lt8 m
  have cw := fun w => wordSwap_any m hnl w
  obtain ⟨y, hy⟩ : ∃ y, y = revN 8 m := ⟨_, rfl⟩
  rw [← hy] at cw hv hyl
  have hz2 : z = y / 65536 := hv.symm
  have r1 : (y : Int) / 65536 = (z : Int) := by rw [hz2]; omega
  have CF := Box.mk cf; have CR := Box.mk cr; have CN := Box.mk cn; have CW := Box.mk cw; have HZ := Box.mk hz2
  clear cf cr cn cw hv hS hS2 hfu hm hy hz hz2 hk h
  go_enter Tryd.func35, Tryd.ntmps35
  go_wp2_with (first
    | (go_at_call 58; refine CF.out.mono ?_; rintro e w' ⟨rfl, rfl⟩)
    | (go_at_call 36; refine CR.out.mono ?_; rintro e w1 ⟨rfl, r1, o1⟩; have R1 := Box.mk r1; have O1 := Box.mk o1; clear r1 o1)
    | (go_at_call 62; ((with_reducible refine (CN.out _).mono ?_); rintro e w' ⟨rfl, rfl⟩))
    | (go_at_call 60; ((with_reducible refine (CW.out _).mono ?_); rintro e w' ⟨rfl, rfl⟩)))
  go_ret
  exact ⟨rfl, R1.out, O1.out⟩

set_option maxRecDepth 100000 in
theorem rfx7 (b : Nat) (T : ByteArray) (a x : Nat) (n : Int) (hk : cl18 n = 7) (w : World) (h : Rd w b T a x) :
    Calls Tryd.prog 35 #[.pointer (some ⟨b, 0, none⟩), .int .i64 n] w (RdQ b T (rawA T a x 7) (rawX T a x 7) (.int .u64 (fixU T a x 7 : Nat)) w) := by
  have cf := fixedSize_any n w
  rw [show (if n < 1 then 1 else if 8 < n then 8 else n.toNat : Nat) = 7 from hk] at cf
  have cr := rraw_any b T a x 7 w h
  have hv := fixV (s := rawS T a x (7 : Nat)) (k := 7) (by omega) (by omega) (rawS_size T a x 7)
  have hS : rawS T a x (7 : Int) = rawS T a x ((7 : Nat) : Int) := rfl
  rw [hS] at cr
  have hfu : fixU T a x 7 = un (sb (rawS T a x ((7 : Nat) : Int))) := rfl
  rw [← hfu] at hv
  have hsz : (rawS T a x ((7 : Nat) : Int)).size ≤ 8 := by have := rawS_size T a x 7; omega
  obtain ⟨S, hS2⟩ : ∃ S, S = rawS T a x ((7 : Nat) : Int) := ⟨_, rfl⟩
  rw [← hS2] at cr hv hsz
  obtain ⟨z, hz⟩ : ∃ z, z = fixU T a x 7 := ⟨_, rfl⟩
  rw [← hz] at hv ⊢
  have cn := fun w => wordNumber_any S (by omega) w
  have hnl := numN_lt S
  obtain ⟨m, hm⟩ : ∃ m, m = numN S := ⟨_, rfl⟩
  rw [← hm] at cn hv hnl
  have hyl := revN_lt8 m
  have cw := fun w => wordSwap_any m hnl w
  obtain ⟨y, hy⟩ : ∃ y, y = revN 8 m := ⟨_, rfl⟩
  rw [← hy] at cw hv hyl
  have hz2 : z = y / 256 := hv.symm
  have r1 : (y : Int) / 256 = (z : Int) := by rw [hz2]; omega
  have CF := Box.mk cf; have CR := Box.mk cr; have CN := Box.mk cn; have CW := Box.mk cw; have HZ := Box.mk hz2
  clear cf cr cn cw hv hS hS2 hfu hm hy hz hz2 hk h
  go_enter Tryd.func35, Tryd.ntmps35
  go_wp2_with (first
    | (go_at_call 58; refine CF.out.mono ?_; rintro e w' ⟨rfl, rfl⟩)
    | (go_at_call 36; refine CR.out.mono ?_; rintro e w1 ⟨rfl, r1, o1⟩; have R1 := Box.mk r1; have O1 := Box.mk o1; clear r1 o1)
    | (go_at_call 62; ((with_reducible refine (CN.out _).mono ?_); rintro e w' ⟨rfl, rfl⟩))
    | (go_at_call 60; ((with_reducible refine (CW.out _).mono ?_); rintro e w' ⟨rfl, rfl⟩)))
  go_ret
  exact ⟨rfl, R1.out, O1.out⟩

set_option maxRecDepth 100000 in
theorem rfx8 (b : Nat) (T : ByteArray) (a x : Nat) (n : Int) (hk : cl18 n = 8) (w : World) (h : Rd w b T a x) :
    Calls Tryd.prog 35 #[.pointer (some ⟨b, 0, none⟩), .int .i64 n] w (RdQ b T (rawA T a x 8) (rawX T a x 8) (.int .u64 (fixU T a x 8 : Nat)) w) := by
  have cf := fixedSize_any n w
  rw [show (if n < 1 then 1 else if 8 < n then 8 else n.toNat : Nat) = 8 from hk] at cf
  have cr := rraw_any b T a x 8 w h
  have hv := fixV (s := rawS T a x (8 : Nat)) (k := 8) (by omega) (by omega) (rawS_size T a x 8)
  have hS : rawS T a x (8 : Int) = rawS T a x ((8 : Nat) : Int) := rfl
  rw [hS] at cr
  have hfu : fixU T a x 8 = un (sb (rawS T a x ((8 : Nat) : Int))) := rfl
  rw [← hfu] at hv
  have hsz : (rawS T a x ((8 : Nat) : Int)).size ≤ 8 := by have := rawS_size T a x 8; omega
  obtain ⟨S, hS2⟩ : ∃ S, S = rawS T a x ((8 : Nat) : Int) := ⟨_, rfl⟩
  rw [← hS2] at cr hv hsz
  obtain ⟨z, hz⟩ : ∃ z, z = fixU T a x 8 := ⟨_, rfl⟩
  rw [← hz] at hv ⊢
  have cn := fun w => wordNumber_any S (by omega) w
  have hnl := numN_lt S
  obtain ⟨m, hm⟩ : ∃ m, m = numN S := ⟨_, rfl⟩
  rw [← hm] at cn hv hnl
  have hyl := revN_lt8 m
  have cw := fun w => wordSwap_any m hnl w
  obtain ⟨y, hy⟩ : ∃ y, y = revN 8 m := ⟨_, rfl⟩
  rw [← hy] at cw hv hyl
  have hz2 : z = y / 1 := hv.symm
  have CF := Box.mk cf; have CR := Box.mk cr; have CN := Box.mk cn; have CW := Box.mk cw; have HZ := Box.mk hz2
  clear cf cr cn cw hv hS hS2 hfu hm hy hz hz2 hk h
  go_enter Tryd.func35, Tryd.ntmps35
  go_wp2_with (first
    | (go_at_call 58; refine CF.out.mono ?_; rintro e w' ⟨rfl, rfl⟩)
    | (go_at_call 36; refine CR.out.mono ?_; rintro e w1 ⟨rfl, r1, o1⟩; have R1 := Box.mk r1; have O1 := Box.mk o1; clear r1 o1)
    | (go_at_call 62; ((with_reducible refine (CN.out _).mono ?_); rintro e w' ⟨rfl, rfl⟩))
    | (go_at_call 60; ((with_reducible refine (CW.out _).mono ?_); rintro e w' ⟨rfl, rfl⟩)))
  go_ret
  exact ⟨by rw [HZ.out, Nat.div_one]; rfl, R1.out, O1.out⟩

theorem rfixed_any (b : Nat) (T : ByteArray) (a x : Nat) (n : Int) (w : World) (h : Rd w b T a x) :
    Calls Tryd.prog 35 #[.pointer (some ⟨b, 0, none⟩), .int .i64 n] w (RdQ b T (rawA T a x (cl18 n : Nat)) (rawX T a x (cl18 n : Nat)) (.int .u64 (fixU T a x (cl18 n) : Nat)) w) := by
  have hb := cl18_bd n
  rcases (by omega : cl18 n = 1 ∨ cl18 n = 2 ∨ cl18 n = 3 ∨ cl18 n = 4 ∨ cl18 n = 5 ∨ cl18 n = 6 ∨ cl18 n = 7 ∨ cl18 n = 8) with hk | hk | hk | hk | hk | hk | hk | hk
  · rw [hk]; exact rfx1 b T a x n hk w h
  · rw [hk]; exact rfx2 b T a x n hk w h
  · rw [hk]; exact rfx3 b T a x n hk w h
  · rw [hk]; exact rfx4 b T a x n hk w h
  · rw [hk]; exact rfx5 b T a x n hk w h
  · rw [hk]; exact rfx6 b T a x n hk w h
  · rw [hk]; exact rfx7 b T a x n hk w h
  · rw [hk]; exact rfx8 b T a x n hk w h
end Go.Proofs.YtdhbeeeofaheeaaDoor
