/- Contracts of pack: the writer's numbers and texts. -/
import Derived.Test.YtdhbeeeofaheeaaDoorPackA
namespace Go.Proofs.YtdhbeeeofaheeaaDoor
set_option maxRecDepth 100000
open Go.RowKit M

theorem bitLen_pos {x : Nat} (h : 0 < x) (hx : x < 18446744073709551616) : 1 ≤ Lib.bitLen x := by
  rw [Lib.bitLen_half x (by omega) (by omega)]; omega
theorem size_math {v : Nat} (h1 : 0 < v) (hv : v < 18446744073709551616) : (Lib.bitLen v + 7) / 8 = szN v := by
  have key : ∀ x, 0 < x → x < 256 → 1 ≤ Lib.bitLen x ∧ Lib.bitLen x ≤ 8 := fun x h h2 => ⟨bitLen_pos h (by omega), Lib.bitLen_le x 8 (by omega) (by omega)⟩
  unfold szN
  split
  · have := key v h1 (by omega); omega
  split
  · rw [Lib.bitLen_shift8 v (by omega) hv]; have := key (v / 256) (by omega) (by omega); omega
  split
  · rw [Lib.bitLen_shift16 v (by omega) hv]; have := key (v / 65536) (by omega) (by omega); omega
  split
  · rw [Lib.bitLen_shift24 v (by omega) hv]; have := key (v / 16777216) (by omega) (by omega); omega
  split
  · rw [Lib.bitLen_shift32 v (by omega) hv]; have := key (v / 4294967296) (by omega) (by omega); omega
  split
  · rw [Lib.bitLen_shift40 v (by omega) hv]; have := key (v / 1099511627776) (by omega) (by omega); omega
  split
  · rw [Lib.bitLen_shift48 v (by omega) hv]; have := key (v / 281474976710656) (by omega) (by omega); omega
  · rw [Lib.bitLen_shift56 v (by omega) hv]; have := key (v / 72057594037927936) (by omega) (by omega); omega

theorem numSize_any (v : Nat) (h1 : 0 < v) (hv : v < 18446744073709551616) (w : World) : Calls Tryd.prog 57 #[.int .u64 v] w fun e w' => e = .returned (.int .i64 (szN v : Nat)) ∧ w = w' := by
  have hm := size_math h1 hv
  have hle := Lib.bitLen_le v 64 (by omega) (by omega)
  have c1 : ∀ w, Calls Tryd.prog 81 #[.int .u64 v] w fun e w' => e = .returned (.int .i64 (Lib.bitLen v : Nat)) ∧ w = w' := fun w =>
    (Tryd.bits_Len64 v w (by omega) (by omega)).mono fun e w' ⟨he, hw⟩ => ⟨by rw [he, Int.toNat_natCast], hw.symm⟩
  have C1 := Box.mk c1; have HM := Box.mk hm
  clear c1 hm
  generalize Lib.bitLen v = q at *
  go_enter Tryd.func57, Tryd.ntmps57
  go_wp2_with (go_at_call 81; ((with_reducible refine (C1.out _).mono ?_); rintro e w' ⟨rfl, rfl⟩))
  go_ret
  refine ⟨?_, rfl⟩
  rw [← HM.out]
  exact congrArg Ending.returned (congrArg (Value.int .i64) (by omega))

/-- limited to 1 to 8 -/
def cl18 (n : Int) : Nat := if n < 1 then 1 else if 8 < n then 8 else n.toNat
theorem cl18_bd (n : Int) : 1 ≤ cl18 n ∧ cl18 n ≤ 8 := by unfold cl18; split; omega; split <;> omega

theorem wfx1 (b : Nat) (L : List Nat) (v0 : Value) (x : Nat) (_hx : x < 18446744073709551616) (n : Int) (hk : cl18 n = 1) (w : World) (h : Wr w b L v0) (hl : L.length ≤ 900000) :
    Calls Tryd.prog 29 #[.pointer (some ⟨b, 0, none⟩), .int .u64 x, .int .i64 n] w (WrP b (L ++ fx 1 x) v0 w) := by
  have cf := fixedSize_any n w
  rw [show (if n < 1 then 1 else if 8 < n then 8 else n.toNat : Nat) = 1 from hk] at cf
  obtain ⟨y, hy⟩ : ∃ y, y = x * 2 ^ (64 - 8 * 1) % 18446744073709551616 := ⟨_, rfl⟩
  have hlt : y < 18446744073709551616 := by omega
  have r1 : IntKind.u64.wrap ((x : Int) * 72057594037927936) = (y : Int) := by
    rw [hy, show (x : Int) * 72057594037927936 = ((x * 72057594037927936 : Nat) : Int) by omega, u64w]
  have e := bytes_swap (n := 1) (v := x) (by omega) (by omega)
  rw [← hy] at e
  have cb := fun w => wordBytes_any (revN 8 y) 1 w
  rw [show cl8 1 = 1 by decide, e] at cb
  have cr : ∀ W : World, Below w.heap.size w W → Calls Tryd.prog 31 #[.pointer (some ⟨b, 0, none⟩), .string (bs (fx 1 x))] W (WrP b (L ++ fx 1 x) v0 W) := fun W hW => by
    have c := raw_any b L v0 (bs (fx 1 x)) W (h.below hW) (by rw [bs_size, fx_length]; omega)
    rwa [sb_bs _ (fx_lt 1 x)] at c
  have hbl := World.block_lt_of_cell? w _ h.cell
  have hbl : b < w.heap.size := hbl
  have CF := Box.mk cf; have CB := Box.mk cb; have CR := Box.mk cr
  clear cf cb cr h e hy hk
  go_enter Tryd.func29, Tryd.ntmps29
  go_wp2_with (first
    | (go_at_call 58; refine CF.out.mono ?_; rintro e w' ⟨rfl, rfl⟩)
    | (go_at_call 60; refine (wordSwap_any y hlt _).mono ?_; rintro e w' ⟨rfl, rfl⟩)
    | (go_at_call 59; ((with_reducible refine (CB.out _).mono ?_); rintro e w1 ⟨rfl, b1⟩; have B1 := Box.mk b1; clear b1))
    | (go_at_call 31; ((with_reducible refine (CR.out _ B1.out).mono ?_); rintro e w2 ⟨rfl, v2, q2, b2⟩; have Q2 := Box.mk q2; have B2 := Box.mk b2; clear q2 b2)))
  go_end0
  exact ⟨rfl, v2, Q2.out, (Ext.of_below B1.out).trans B2.out⟩

theorem wfx2 (b : Nat) (L : List Nat) (v0 : Value) (x : Nat) (_hx : x < 18446744073709551616) (n : Int) (hk : cl18 n = 2) (w : World) (h : Wr w b L v0) (hl : L.length ≤ 900000) :
    Calls Tryd.prog 29 #[.pointer (some ⟨b, 0, none⟩), .int .u64 x, .int .i64 n] w (WrP b (L ++ fx 2 x) v0 w) := by
  have cf := fixedSize_any n w
  rw [show (if n < 1 then 1 else if 8 < n then 8 else n.toNat : Nat) = 2 from hk] at cf
  obtain ⟨y, hy⟩ : ∃ y, y = x * 2 ^ (64 - 8 * 2) % 18446744073709551616 := ⟨_, rfl⟩
  have hlt : y < 18446744073709551616 := by omega
  have r1 : IntKind.u64.wrap ((x : Int) * 281474976710656) = (y : Int) := by
    rw [hy, show (x : Int) * 281474976710656 = ((x * 281474976710656 : Nat) : Int) by omega, u64w]
  have e := bytes_swap (n := 2) (v := x) (by omega) (by omega)
  rw [← hy] at e
  have cb := fun w => wordBytes_any (revN 8 y) 2 w
  rw [show cl8 2 = 2 by decide, e] at cb
  have cr : ∀ W : World, Below w.heap.size w W → Calls Tryd.prog 31 #[.pointer (some ⟨b, 0, none⟩), .string (bs (fx 2 x))] W (WrP b (L ++ fx 2 x) v0 W) := fun W hW => by
    have c := raw_any b L v0 (bs (fx 2 x)) W (h.below hW) (by rw [bs_size, fx_length]; omega)
    rwa [sb_bs _ (fx_lt 2 x)] at c
  have hbl := World.block_lt_of_cell? w _ h.cell
  have hbl : b < w.heap.size := hbl
  have CF := Box.mk cf; have CB := Box.mk cb; have CR := Box.mk cr
  clear cf cb cr h e hy hk
  go_enter Tryd.func29, Tryd.ntmps29
  go_wp2_with (first
    | (go_at_call 58; refine CF.out.mono ?_; rintro e w' ⟨rfl, rfl⟩)
    | (go_at_call 60; refine (wordSwap_any y hlt _).mono ?_; rintro e w' ⟨rfl, rfl⟩)
    | (go_at_call 59; ((with_reducible refine (CB.out _).mono ?_); rintro e w1 ⟨rfl, b1⟩; have B1 := Box.mk b1; clear b1))
    | (go_at_call 31; ((with_reducible refine (CR.out _ B1.out).mono ?_); rintro e w2 ⟨rfl, v2, q2, b2⟩; have Q2 := Box.mk q2; have B2 := Box.mk b2; clear q2 b2)))
  go_end0
  exact ⟨rfl, v2, Q2.out, (Ext.of_below B1.out).trans B2.out⟩

theorem wfx3 (b : Nat) (L : List Nat) (v0 : Value) (x : Nat) (_hx : x < 18446744073709551616) (n : Int) (hk : cl18 n = 3) (w : World) (h : Wr w b L v0) (hl : L.length ≤ 900000) :
    Calls Tryd.prog 29 #[.pointer (some ⟨b, 0, none⟩), .int .u64 x, .int .i64 n] w (WrP b (L ++ fx 3 x) v0 w) := by
  have cf := fixedSize_any n w
  rw [show (if n < 1 then 1 else if 8 < n then 8 else n.toNat : Nat) = 3 from hk] at cf
  obtain ⟨y, hy⟩ : ∃ y, y = x * 2 ^ (64 - 8 * 3) % 18446744073709551616 := ⟨_, rfl⟩
  have hlt : y < 18446744073709551616 := by omega
  have r1 : IntKind.u64.wrap ((x : Int) * 1099511627776) = (y : Int) := by
    rw [hy, show (x : Int) * 1099511627776 = ((x * 1099511627776 : Nat) : Int) by omega, u64w]
  have e := bytes_swap (n := 3) (v := x) (by omega) (by omega)
  rw [← hy] at e
  have cb := fun w => wordBytes_any (revN 8 y) 3 w
  rw [show cl8 3 = 3 by decide, e] at cb
  have cr : ∀ W : World, Below w.heap.size w W → Calls Tryd.prog 31 #[.pointer (some ⟨b, 0, none⟩), .string (bs (fx 3 x))] W (WrP b (L ++ fx 3 x) v0 W) := fun W hW => by
    have c := raw_any b L v0 (bs (fx 3 x)) W (h.below hW) (by rw [bs_size, fx_length]; omega)
    rwa [sb_bs _ (fx_lt 3 x)] at c
  have hbl := World.block_lt_of_cell? w _ h.cell
  have hbl : b < w.heap.size := hbl
  have CF := Box.mk cf; have CB := Box.mk cb; have CR := Box.mk cr
  clear cf cb cr h e hy hk
  go_enter Tryd.func29, Tryd.ntmps29
  go_wp2_with (first
    | (go_at_call 58; refine CF.out.mono ?_; rintro e w' ⟨rfl, rfl⟩)
    | (go_at_call 60; refine (wordSwap_any y hlt _).mono ?_; rintro e w' ⟨rfl, rfl⟩)
    | (go_at_call 59; ((with_reducible refine (CB.out _).mono ?_); rintro e w1 ⟨rfl, b1⟩; have B1 := Box.mk b1; clear b1))
    | (go_at_call 31; ((with_reducible refine (CR.out _ B1.out).mono ?_); rintro e w2 ⟨rfl, v2, q2, b2⟩; have Q2 := Box.mk q2; have B2 := Box.mk b2; clear q2 b2)))
  go_end0
  exact ⟨rfl, v2, Q2.out, (Ext.of_below B1.out).trans B2.out⟩

theorem wfx4 (b : Nat) (L : List Nat) (v0 : Value) (x : Nat) (_hx : x < 18446744073709551616) (n : Int) (hk : cl18 n = 4) (w : World) (h : Wr w b L v0) (hl : L.length ≤ 900000) :
    Calls Tryd.prog 29 #[.pointer (some ⟨b, 0, none⟩), .int .u64 x, .int .i64 n] w (WrP b (L ++ fx 4 x) v0 w) := by
  have cf := fixedSize_any n w
  rw [show (if n < 1 then 1 else if 8 < n then 8 else n.toNat : Nat) = 4 from hk] at cf
  obtain ⟨y, hy⟩ : ∃ y, y = x * 2 ^ (64 - 8 * 4) % 18446744073709551616 := ⟨_, rfl⟩
  have hlt : y < 18446744073709551616 := by omega
  have r1 : IntKind.u64.wrap ((x : Int) * 4294967296) = (y : Int) := by
    rw [hy, show (x : Int) * 4294967296 = ((x * 4294967296 : Nat) : Int) by omega, u64w]
  have e := bytes_swap (n := 4) (v := x) (by omega) (by omega)
  rw [← hy] at e
  have cb := fun w => wordBytes_any (revN 8 y) 4 w
  rw [show cl8 4 = 4 by decide, e] at cb
  have cr : ∀ W : World, Below w.heap.size w W → Calls Tryd.prog 31 #[.pointer (some ⟨b, 0, none⟩), .string (bs (fx 4 x))] W (WrP b (L ++ fx 4 x) v0 W) := fun W hW => by
    have c := raw_any b L v0 (bs (fx 4 x)) W (h.below hW) (by rw [bs_size, fx_length]; omega)
    rwa [sb_bs _ (fx_lt 4 x)] at c
  have hbl := World.block_lt_of_cell? w _ h.cell
  have hbl : b < w.heap.size := hbl
  have CF := Box.mk cf; have CB := Box.mk cb; have CR := Box.mk cr
  clear cf cb cr h e hy hk
  go_enter Tryd.func29, Tryd.ntmps29
  go_wp2_with (first
    | (go_at_call 58; refine CF.out.mono ?_; rintro e w' ⟨rfl, rfl⟩)
    | (go_at_call 60; refine (wordSwap_any y hlt _).mono ?_; rintro e w' ⟨rfl, rfl⟩)
    | (go_at_call 59; ((with_reducible refine (CB.out _).mono ?_); rintro e w1 ⟨rfl, b1⟩; have B1 := Box.mk b1; clear b1))
    | (go_at_call 31; ((with_reducible refine (CR.out _ B1.out).mono ?_); rintro e w2 ⟨rfl, v2, q2, b2⟩; have Q2 := Box.mk q2; have B2 := Box.mk b2; clear q2 b2)))
  go_end0
  exact ⟨rfl, v2, Q2.out, (Ext.of_below B1.out).trans B2.out⟩

theorem wfx5 (b : Nat) (L : List Nat) (v0 : Value) (x : Nat) (_hx : x < 18446744073709551616) (n : Int) (hk : cl18 n = 5) (w : World) (h : Wr w b L v0) (hl : L.length ≤ 900000) :
    Calls Tryd.prog 29 #[.pointer (some ⟨b, 0, none⟩), .int .u64 x, .int .i64 n] w (WrP b (L ++ fx 5 x) v0 w) := by
  have cf := fixedSize_any n w
  rw [show (if n < 1 then 1 else if 8 < n then 8 else n.toNat : Nat) = 5 from hk] at cf
  obtain ⟨y, hy⟩ : ∃ y, y = x * 2 ^ (64 - 8 * 5) % 18446744073709551616 := ⟨_, rfl⟩
  have hlt : y < 18446744073709551616 := by omega
  have r1 : IntKind.u64.wrap ((x : Int) * 16777216) = (y : Int) := by
    rw [hy, show (x : Int) * 16777216 = ((x * 16777216 : Nat) : Int) by omega, u64w]
  have e := bytes_swap (n := 5) (v := x) (by omega) (by omega)
  rw [← hy] at e
  have cb := fun w => wordBytes_any (revN 8 y) 5 w
  rw [show cl8 5 = 5 by decide, e] at cb
  have cr : ∀ W : World, Below w.heap.size w W → Calls Tryd.prog 31 #[.pointer (some ⟨b, 0, none⟩), .string (bs (fx 5 x))] W (WrP b (L ++ fx 5 x) v0 W) := fun W hW => by
    have c := raw_any b L v0 (bs (fx 5 x)) W (h.below hW) (by rw [bs_size, fx_length]; omega)
    rwa [sb_bs _ (fx_lt 5 x)] at c
  have hbl := World.block_lt_of_cell? w _ h.cell
  have hbl : b < w.heap.size := hbl
  have CF := Box.mk cf; have CB := Box.mk cb; have CR := Box.mk cr
  clear cf cb cr h e hy hk
  go_enter Tryd.func29, Tryd.ntmps29
  go_wp2_with (first
    | (go_at_call 58; refine CF.out.mono ?_; rintro e w' ⟨rfl, rfl⟩)
    | (go_at_call 60; refine (wordSwap_any y hlt _).mono ?_; rintro e w' ⟨rfl, rfl⟩)
    | (go_at_call 59; ((with_reducible refine (CB.out _).mono ?_); rintro e w1 ⟨rfl, b1⟩; have B1 := Box.mk b1; clear b1))
    | (go_at_call 31; ((with_reducible refine (CR.out _ B1.out).mono ?_); rintro e w2 ⟨rfl, v2, q2, b2⟩; have Q2 := Box.mk q2; have B2 := Box.mk b2; clear q2 b2)))
  go_end0
  exact ⟨rfl, v2, Q2.out, (Ext.of_below B1.out).trans B2.out⟩

theorem wfx6 (b : Nat) (L : List Nat) (v0 : Value) (x : Nat) (_hx : x < 18446744073709551616) (n : Int) (hk : cl18 n = 6) (w : World) (h : Wr w b L v0) (hl : L.length ≤ 900000) :
    Calls Tryd.prog 29 #[.pointer (some ⟨b, 0, none⟩), .int .u64 x, .int .i64 n] w (WrP b (L ++ fx 6 x) v0 w) := by
  have cf := fixedSize_any n w
  rw [show (if n < 1 then 1 else if 8 < n then 8 else n.toNat : Nat) = 6 from hk] at cf
  obtain ⟨y, hy⟩ : ∃ y, y = x * 2 ^ (64 - 8 * 6) % 18446744073709551616 := ⟨_, rfl⟩
  have hlt : y < 18446744073709551616 := by omega
  have r1 : IntKind.u64.wrap ((x : Int) * 65536) = (y : Int) := by
    rw [hy, show (x : Int) * 65536 = ((x * 65536 : Nat) : Int) by omega, u64w]
  have e := bytes_swap (n := 6) (v := x) (by omega) (by omega)
  rw [← hy] at e
  have cb := fun w => wordBytes_any (revN 8 y) 6 w
  rw [show cl8 6 = 6 by decide, e] at cb
  have cr : ∀ W : World, Below w.heap.size w W → Calls Tryd.prog 31 #[.pointer (some ⟨b, 0, none⟩), .string (bs (fx 6 x))] W (WrP b (L ++ fx 6 x) v0 W) := fun W hW => by
    have c := raw_any b L v0 (bs (fx 6 x)) W (h.below hW) (by rw [bs_size, fx_length]; omega)
    rwa [sb_bs _ (fx_lt 6 x)] at c
  have hbl := World.block_lt_of_cell? w _ h.cell
  have hbl : b < w.heap.size := hbl
  have CF := Box.mk cf; have CB := Box.mk cb; have CR := Box.mk cr
  clear cf cb cr h e hy hk
  go_enter Tryd.func29, Tryd.ntmps29
  go_wp2_with (first
    | (go_at_call 58; refine CF.out.mono ?_; rintro e w' ⟨rfl, rfl⟩)
    | (go_at_call 60; refine (wordSwap_any y hlt _).mono ?_; rintro e w' ⟨rfl, rfl⟩)
    | (go_at_call 59; ((with_reducible refine (CB.out _).mono ?_); rintro e w1 ⟨rfl, b1⟩; have B1 := Box.mk b1; clear b1))
    | (go_at_call 31; ((with_reducible refine (CR.out _ B1.out).mono ?_); rintro e w2 ⟨rfl, v2, q2, b2⟩; have Q2 := Box.mk q2; have B2 := Box.mk b2; clear q2 b2)))
  go_end0
  exact ⟨rfl, v2, Q2.out, (Ext.of_below B1.out).trans B2.out⟩

theorem wfx7 (b : Nat) (L : List Nat) (v0 : Value) (x : Nat) (_hx : x < 18446744073709551616) (n : Int) (hk : cl18 n = 7) (w : World) (h : Wr w b L v0) (hl : L.length ≤ 900000) :
    Calls Tryd.prog 29 #[.pointer (some ⟨b, 0, none⟩), .int .u64 x, .int .i64 n] w (WrP b (L ++ fx 7 x) v0 w) := by
  have cf := fixedSize_any n w
  rw [show (if n < 1 then 1 else if 8 < n then 8 else n.toNat : Nat) = 7 from hk] at cf
  obtain ⟨y, hy⟩ : ∃ y, y = x * 2 ^ (64 - 8 * 7) % 18446744073709551616 := ⟨_, rfl⟩
  have hlt : y < 18446744073709551616 := by omega
  have r1 : IntKind.u64.wrap ((x : Int) * 256) = (y : Int) := by
    rw [hy, show (x : Int) * 256 = ((x * 256 : Nat) : Int) by omega, u64w]
  have e := bytes_swap (n := 7) (v := x) (by omega) (by omega)
  rw [← hy] at e
  have cb := fun w => wordBytes_any (revN 8 y) 7 w
  rw [show cl8 7 = 7 by decide, e] at cb
  have cr : ∀ W : World, Below w.heap.size w W → Calls Tryd.prog 31 #[.pointer (some ⟨b, 0, none⟩), .string (bs (fx 7 x))] W (WrP b (L ++ fx 7 x) v0 W) := fun W hW => by
    have c := raw_any b L v0 (bs (fx 7 x)) W (h.below hW) (by rw [bs_size, fx_length]; omega)
    rwa [sb_bs _ (fx_lt 7 x)] at c
  have hbl := World.block_lt_of_cell? w _ h.cell
  have hbl : b < w.heap.size := hbl
  have CF := Box.mk cf; have CB := Box.mk cb; have CR := Box.mk cr
  clear cf cb cr h e hy hk
  go_enter Tryd.func29, Tryd.ntmps29
  go_wp2_with (first
    | (go_at_call 58; refine CF.out.mono ?_; rintro e w' ⟨rfl, rfl⟩)
    | (go_at_call 60; refine (wordSwap_any y hlt _).mono ?_; rintro e w' ⟨rfl, rfl⟩)
    | (go_at_call 59; ((with_reducible refine (CB.out _).mono ?_); rintro e w1 ⟨rfl, b1⟩; have B1 := Box.mk b1; clear b1))
    | (go_at_call 31; ((with_reducible refine (CR.out _ B1.out).mono ?_); rintro e w2 ⟨rfl, v2, q2, b2⟩; have Q2 := Box.mk q2; have B2 := Box.mk b2; clear q2 b2)))
  go_end0
  exact ⟨rfl, v2, Q2.out, (Ext.of_below B1.out).trans B2.out⟩

theorem wfx8 (b : Nat) (L : List Nat) (v0 : Value) (x : Nat) (hx : x < 18446744073709551616) (n : Int) (hk : cl18 n = 8) (w : World) (h : Wr w b L v0) (hl : L.length ≤ 900000) :
    Calls Tryd.prog 29 #[.pointer (some ⟨b, 0, none⟩), .int .u64 x, .int .i64 n] w (WrP b (L ++ fx 8 x) v0 w) := by
  have cf := fixedSize_any n w
  rw [show (if n < 1 then 1 else if 8 < n then 8 else n.toNat : Nat) = 8 from hk] at cf
  have hlt := hx
  have e := bytes_swap (n := 8) (v := x) (by omega) (by omega)
  rw [show 64 - 8 * 8 = 0 by rfl, Nat.pow_zero, Nat.mul_one, Nat.mod_eq_of_lt hx] at e
  have cb := fun w => wordBytes_any (revN 8 x) 8 w
  rw [show cl8 8 = 8 by decide, e] at cb
  have cr : ∀ W : World, Below w.heap.size w W → Calls Tryd.prog 31 #[.pointer (some ⟨b, 0, none⟩), .string (bs (fx 8 x))] W (WrP b (L ++ fx 8 x) v0 W) := fun W hW => by
    have c := raw_any b L v0 (bs (fx 8 x)) W (h.below hW) (by rw [bs_size, fx_length]; omega)
    rwa [sb_bs _ (fx_lt 8 x)] at c
  have hbl := World.block_lt_of_cell? w _ h.cell
  have hbl : b < w.heap.size := hbl
  have CF := Box.mk cf; have CB := Box.mk cb; have CR := Box.mk cr
  clear cf cb cr h e hk
  go_enter Tryd.func29, Tryd.ntmps29
  go_wp2_with (first
    | (go_at_call 58; refine CF.out.mono ?_; rintro e w' ⟨rfl, rfl⟩)
    | (go_at_call 60; refine (wordSwap_any x hlt _).mono ?_; rintro e w' ⟨rfl, rfl⟩)
    | (go_at_call 59; ((with_reducible refine (CB.out _).mono ?_); rintro e w1 ⟨rfl, b1⟩; have B1 := Box.mk b1; clear b1))
    | (go_at_call 31; ((with_reducible refine (CR.out _ B1.out).mono ?_); rintro e w2 ⟨rfl, v2, q2, b2⟩; have Q2 := Box.mk q2; have B2 := Box.mk b2; clear q2 b2)))
  go_end0
  exact ⟨rfl, v2, Q2.out, (Ext.of_below B1.out).trans B2.out⟩

theorem wfixed_any (b : Nat) (L : List Nat) (v0 : Value) (x : Nat) (hx : x < 18446744073709551616) (n : Int) (w : World) (h : Wr w b L v0) (hl : L.length ≤ 900000) :
    Calls Tryd.prog 29 #[.pointer (some ⟨b, 0, none⟩), .int .u64 x, .int .i64 n] w (WrP b (L ++ fx (cl18 n) x) v0 w) := by
  have hb := cl18_bd n
  rcases (by omega : cl18 n = 1 ∨ cl18 n = 2 ∨ cl18 n = 3 ∨ cl18 n = 4 ∨ cl18 n = 5 ∨ cl18 n = 6 ∨ cl18 n = 7 ∨ cl18 n = 8) with hk | hk | hk | hk | hk | hk | hk | hk
  · rw [hk]; exact wfx1 b L v0 x hx n hk w h hl
  · rw [hk]; exact wfx2 b L v0 x hx n hk w h hl
  · rw [hk]; exact wfx3 b L v0 x hx n hk w h hl
  · rw [hk]; exact wfx4 b L v0 x hx n hk w h hl
  · rw [hk]; exact wfx5 b L v0 x hx n hk w h hl
  · rw [hk]; exact wfx6 b L v0 x hx n hk w h hl
  · rw [hk]; exact wfx7 b L v0 x hx n hk w h hl
  · rw [hk]; exact wfx8 b L v0 x hx n hk w h hl
end Go.Proofs.YtdhbeeeofaheeaaDoor
