/- PackB, PackC, PackD, PackE, in one text. -/
import Derived.Test.YtdffpbfllekcgaaGreatDoorHk
import Derived.Deep.QuietTactic
import Derived.BigQuiet
import Derived.Deep.DeepCutAuto
namespace Go.Proofs.YtdffpbfllekcgaaGreatDoor
set_option maxRecDepth 100000
open Go.RowKit M

theorem bitLen_pos {x : Nat} (h : 0 < x) (hx : x < 18446744073709551616) : 1 ≤ Lib.bitLen x := by
  rw [Lib.bitLen_half x (by omega) (by omega)]; omega
theorem size_math {v : Nat} (h1 : 0 < v) (hv : v < 18446744073709551616) : (Lib.bitLen v + 7) / 8 = szN v := by
  have key : ∀ x, 0 < x → x < 256 → 1 ≤ Lib.bitLen x ∧ Lib.bitLen x ≤ 8 := fun x h h2 => ⟨bitLen_pos h (by omega), Lib.bitLen_le x 8 (by omega) (by omega)⟩
  unfold szN
  split
  · have := key v h1 (by omega); omega
  split
  · rw [Lib.bitLen_shift8 v (by omega) hv]; have := key (v / 256) (by omega) (by omega); omega
  split
  · rw [Lib.bitLen_shift16 v (by omega) hv]; have := key (v / 65536) (by omega) (by omega); omega
  split
  · rw [Lib.bitLen_shift24 v (by omega) hv]; have := key (v / 16777216) (by omega) (by omega); omega
  split
  · rw [Lib.bitLen_shift32 v (by omega) hv]; have := key (v / 4294967296) (by omega) (by omega); omega
  split
  · rw [Lib.bitLen_shift40 v (by omega) hv]; have := key (v / 1099511627776) (by omega) (by omega); omega
  split
  · rw [Lib.bitLen_shift48 v (by omega) hv]; have := key (v / 281474976710656) (by omega) (by omega); omega
  · rw [Lib.bitLen_shift56 v (by omega) hv]; have := key (v / 72057594037927936) (by omega) (by omega); omega

/-- limited to 1 to 8 -/
def cl18 (n : Int) : Nat := if n < 1 then 1 else if 8 < n then 8 else n.toNat
theorem cl18_bd (n : Int) : 1 ≤ cl18 n ∧ cl18 n ≤ 8 := by unfold cl18; split; omega; split <;> omega

theorem wfx1 (b : Nat) (L : List Nat) (v0 : Value) (x : Nat) (_hx : x < 18446744073709551616) (n : Int) (hk : cl18 n = 1) (w : World) (h : Wr w b L v0) (hl : L.length ≤ 900000) :
    Calls Tryz.prog 49 #[.pointer (some ⟨b, 0, none⟩), .int .u64 x, .int .i64 n] w (WrP b (L ++ fx 1 x) v0 w) := by
  have cf := fixedSize_any n w
  rw [show (if n < 1 then 1 else if 8 < n then 8 else n.toNat : Nat) = 1 from hk] at cf
  obtain ⟨y, hy⟩ : ∃ y, y = x * 2 ^ (64 - 8 * 1) % 18446744073709551616 := ⟨_, rfl⟩
  have hlt : y < 18446744073709551616 := by omega
  have r1 : IntKind.u64.wrap ((x : Int) * 72057594037927936) = (y : Int) := by
    rw [hy, show (x : Int) * 72057594037927936 = ((x * 72057594037927936 : Nat) : Int) by omega, u64w]
  have e := bytes_swap (n := 1) (v := x) (by omega) (by omega)
  rw [← hy] at e
  have cb := fun w => wordBytes_any (revN 8 y) 1 w
  rw [show cl8 1 = 1 by decide, e] at cb
  have cr : ∀ W : World, Below w.heap.size w W → Calls Tryz.prog 47 #[.pointer (some ⟨b, 0, none⟩), .string (bs (fx 1 x))] W (WrP b (L ++ fx 1 x) v0 W) := fun W hW => by
    have c := raw_any b L v0 (bs (fx 1 x)) W (h.below hW) (by rw [bs_size, fx_length]; omega)
    rwa [sb_bs _ (fx_lt 1 x)] at c
  have hbl := World.block_lt_of_cell? w _ h.cell
  have hbl : b < w.heap.size := hbl
  have CF := Box.mk cf; have CB := Box.mk cb; have CR := Box.mk cr
  clear cf cb cr h e hy hk
  go_enter Tryz.func49, Tryz.ntmps49
  go_wp2_with (first
    | (go_at_call 75; refine CF.out.mono ?_; rintro e w' ⟨rfl, rfl⟩)
    | (go_at_call 77; refine (wordSwap_any y hlt _).mono ?_; rintro e w' ⟨rfl, rfl⟩)
    | (go_at_call 76; ((with_reducible refine (CB.out _).mono ?_); rintro e w1 ⟨rfl, b1⟩; have B1 := Box.mk b1; clear b1))
    | (go_at_call 47; ((with_reducible refine (CR.out _ B1.out).mono ?_); rintro e w2 ⟨rfl, v2, q2, b2⟩; have Q2 := Box.mk q2; have B2 := Box.mk b2; clear q2 b2)))
  go_end0
  exact ⟨rfl, v2, Q2.out, (Ext.of_below B1.out).trans B2.out⟩

theorem wfx2 (b : Nat) (L : List Nat) (v0 : Value) (x : Nat) (_hx : x < 18446744073709551616) (n : Int) (hk : cl18 n = 2) (w : World) (h : Wr w b L v0) (hl : L.length ≤ 900000) :
    Calls Tryz.prog 49 #[.pointer (some ⟨b, 0, none⟩), .int .u64 x, .int .i64 n] w (WrP b (L ++ fx 2 x) v0 w) := by
  have cf := fixedSize_any n w
  rw [show (if n < 1 then 1 else if 8 < n then 8 else n.toNat : Nat) = 2 from hk] at cf
  obtain ⟨y, hy⟩ : ∃ y, y = x * 2 ^ (64 - 8 * 2) % 18446744073709551616 := ⟨_, rfl⟩
  have hlt : y < 18446744073709551616 := by omega
  have r1 : IntKind.u64.wrap ((x : Int) * 281474976710656) = (y : Int) := by
    rw [hy, show (x : Int) * 281474976710656 = ((x * 281474976710656 : Nat) : Int) by omega, u64w]
  have e := bytes_swap (n := 2) (v := x) (by omega) (by omega)
  rw [← hy] at e
  have cb := fun w => wordBytes_any (revN 8 y) 2 w
  rw [show cl8 2 = 2 by decide, e] at cb
  have cr : ∀ W : World, Below w.heap.size w W → Calls Tryz.prog 47 #[.pointer (some ⟨b, 0, none⟩), .string (bs (fx 2 x))] W (WrP b (L ++ fx 2 x) v0 W) := fun W hW => by
    have c := raw_any b L v0 (bs (fx 2 x)) W (h.below hW) (by rw [bs_size, fx_length]; omega)
    rwa [sb_bs _ (fx_lt 2 x)] at c
  have hbl := World.block_lt_of_cell? w _ h.cell
  have hbl : b < w.heap.size := hbl
  have CF := Box.mk cf; have CB := Box.mk cb; have CR := Box.mk cr
  clear cf cb cr h e hy hk
  go_enter Tryz.func49, Tryz.ntmps49
  go_wp2_with (first
    | (go_at_call 75; refine CF.out.mono ?_; rintro e w' ⟨rfl, rfl⟩)
    | (go_at_call 77; refine (wordSwap_any y hlt _).mono ?_; rintro e w' ⟨rfl, rfl⟩)
    | (go_at_call 76; ((with_reducible refine (CB.out _).mono ?_); rintro e w1 ⟨rfl, b1⟩; have B1 := Box.mk b1; clear b1))
    | (go_at_call 47; ((with_reducible refine (CR.out _ B1.out).mono ?_); rintro e w2 ⟨rfl, v2, q2, b2⟩; have Q2 := Box.mk q2; have B2 := Box.mk b2; clear q2 b2)))
  go_end0
  exact ⟨rfl, v2, Q2.out, (Ext.of_below B1.out).trans B2.out⟩

theorem wfx3 (b : Nat) (L : List Nat) (v0 : Value) (x : Nat) (_hx : x < 18446744073709551616) (n : Int) (hk : cl18 n = 3) (w : World) (h : Wr w b L v0) (hl : L.length ≤ 900000) :
    Calls Tryz.prog 49 #[.pointer (some ⟨b, 0, none⟩), .int .u64 x, .int .i64 n] w (WrP b (L ++ fx 3 x) v0 w) := by
  have cf := fixedSize_any n w
  rw [show (if n < 1 then 1 else if 8 < n then 8 else n.toNat : Nat) = 3 from hk] at cf
  obtain ⟨y, hy⟩ : ∃ y, y = x * 2 ^ (64 - 8 * 3) % 18446744073709551616 := ⟨_, rfl⟩
  have hlt : y < 18446744073709551616 := by omega
  have r1 : IntKind.u64.wrap ((x : Int) * 1099511627776) = (y : Int) := by
    rw [hy, show (x : Int) * 1099511627776 = ((x * 1099511627776 : Nat) : Int) by omega, u64w]
  have e := bytes_swap (n := 3) (v := x) (by omega) (by omega)
  rw [← hy] at e
  have cb := fun w => wordBytes_any (revN 8 y) 3 w
  rw [show cl8 3 = 3 by decide, e] at cb
  have cr : ∀ W : World, Below w.heap.size w W → Calls Tryz.prog 47 #[.pointer (some ⟨b, 0, none⟩), .string (bs (fx 3 x))] W (WrP b (L ++ fx 3 x) v0 W) := fun W hW => by
    have c := raw_any b L v0 (bs (fx 3 x)) W (h.below hW) (by rw [bs_size, fx_length]; omega)
    rwa [sb_bs _ (fx_lt 3 x)] at c
  have hbl := World.block_lt_of_cell? w _ h.cell
  have hbl : b < w.heap.size := hbl
  have CF := Box.mk cf; have CB := Box.mk cb; have CR := Box.mk cr
  clear cf cb cr h e hy hk
  go_enter Tryz.func49, Tryz.ntmps49
  go_wp2_with (first
    | (go_at_call 75; refine CF.out.mono ?_; rintro e w' ⟨rfl, rfl⟩)
    | (go_at_call 77; refine (wordSwap_any y hlt _).mono ?_; rintro e w' ⟨rfl, rfl⟩)
    | (go_at_call 76; ((with_reducible refine (CB.out _).mono ?_); rintro e w1 ⟨rfl, b1⟩; have B1 := Box.mk b1; clear b1))
    | (go_at_call 47; ((with_reducible refine (CR.out _ B1.out).mono ?_); rintro e w2 ⟨rfl, v2, q2, b2⟩; have Q2 := Box.mk q2; have B2 := Box.mk b2; clear q2 b2)))
  go_end0
  exact ⟨rfl, v2, Q2.out, (Ext.of_below B1.out).trans B2.out⟩

theorem wfx4 (b : Nat) (L : List Nat) (v0 : Value) (x : Nat) (_hx : x < 18446744073709551616) (n : Int) (hk : cl18 n = 4) (w : World) (h : Wr w b L v0) (hl : L.length ≤ 900000) :
    Calls Tryz.prog 49 #[.pointer (some ⟨b, 0, none⟩), .int .u64 x, .int .i64 n] w (WrP b (L ++ fx 4 x) v0 w) := by
  have cf := fixedSize_any n w
  rw [show (if n < 1 then 1 else if 8 < n then 8 else n.toNat : Nat) = 4 from hk] at cf
  obtain ⟨y, hy⟩ : ∃ y, y = x * 2 ^ (64 - 8 * 4) % 18446744073709551616 := ⟨_, rfl⟩
  have hlt : y < 18446744073709551616 := by omega
  have r1 : IntKind.u64.wrap ((x : Int) * 4294967296) = (y : Int) := by
    rw [hy, show (x : Int) * 4294967296 = ((x * 4294967296 : Nat) : Int) by omega, u64w]
  have e := bytes_swap (n := 4) (v := x) (by omega) (by omega)
  rw [← hy] at e
  have cb := fun w => wordBytes_any (revN 8 y) 4 w
  rw [show cl8 4 = 4 by decide, e] at cb
  have cr : ∀ W : World, Below w.heap.size w W → Calls Tryz.prog 47 #[.pointer (some ⟨b, 0, none⟩), .string (bs (fx 4 x))] W (WrP b (L ++ fx 4 x) v0 W) := fun W hW => by
    have c := raw_any b L v0 (bs (fx 4 x)) W (h.below hW) (by rw [bs_size, fx_length]; omega)
    rwa [sb_bs _ (fx_lt 4 x)] at c
  have hbl := World.block_lt_of_cell? w _ h.cell
  have hbl : b < w.heap.size := hbl
  have CF := Box.mk cf; have CB := Box.mk cb; have CR := Box.mk cr
  clear cf cb cr h e hy hk
  go_enter Tryz.func49, Tryz.ntmps49
  go_wp2_with (first
    | (go_at_call 75; refine CF.out.mono ?_; rintro e w' ⟨rfl, rfl⟩)
    | (go_at_call 77; refine (wordSwap_any y hlt _).mono ?_; rintro e w' ⟨rfl, rfl⟩)
    | (go_at_call 76; ((with_reducible refine (CB.out _).mono ?_); rintro e w1 ⟨rfl, b1⟩; have B1 := Box.mk b1; clear b1))
    | (go_at_call 47; ((with_reducible refine (CR.out _ B1.out).mono ?_); rintro e w2 ⟨rfl, v2, q2, b2⟩; have Q2 := Box.mk q2; have B2 := Box.mk b2; clear q2 b2)))
  go_end0
  exact ⟨rfl, v2, Q2.out, (Ext.of_below B1.out).trans B2.out⟩

theorem wfx5 (b : Nat) (L : List Nat) (v0 : Value) (x : Nat) (_hx : x < 18446744073709551616) (n : Int) (hk : cl18 n = 5) (w : World) (h : Wr w b L v0) (hl : L.length ≤ 900000) :
    Calls Tryz.prog 49 #[.pointer (some ⟨b, 0, none⟩), .int .u64 x, .int .i64 n] w (WrP b (L ++ fx 5 x) v0 w) := by
  have cf := fixedSize_any n w
  rw [show (if n < 1 then 1 else if 8 < n then 8 else n.toNat : Nat) = 5 from hk] at cf
  obtain ⟨y, hy⟩ : ∃ y, y = x * 2 ^ (64 - 8 * 5) % 18446744073709551616 := ⟨_, rfl⟩
  have hlt : y < 18446744073709551616 := by omega
  have r1 : IntKind.u64.wrap ((x : Int) * 16777216) = (y : Int) := by
    rw [hy, show (x : Int) * 16777216 = ((x * 16777216 : Nat) : Int) by omega, u64w]
  have e := bytes_swap (n := 5) (v := x) (by omega) (by omega)
  rw [← hy] at e
  have cb := fun w => wordBytes_any (revN 8 y) 5 w
  rw [show cl8 5 = 5 by decide, e] at cb
  have cr : ∀ W : World, Below w.heap.size w W → Calls Tryz.prog 47 #[.pointer (some ⟨b, 0, none⟩), .string (bs (fx 5 x))] W (WrP b (L ++ fx 5 x) v0 W) := fun W hW => by
    have c := raw_any b L v0 (bs (fx 5 x)) W (h.below hW) (by rw [bs_size, fx_length]; omega)
    rwa [sb_bs _ (fx_lt 5 x)] at c
  have hbl := World.block_lt_of_cell? w _ h.cell
  have hbl : b < w.heap.size := hbl
  have CF := Box.mk cf; have CB := Box.mk cb; have CR := Box.mk cr
  clear cf cb cr h e hy hk
  go_enter Tryz.func49, Tryz.ntmps49
  go_wp2_with (first
    | (go_at_call 75; refine CF.out.mono ?_; rintro e w' ⟨rfl, rfl⟩)
    | (go_at_call 77; refine (wordSwap_any y hlt _).mono ?_; rintro e w' ⟨rfl, rfl⟩)
    | (go_at_call 76; ((with_reducible refine (CB.out _).mono ?_); rintro e w1 ⟨rfl, b1⟩; have B1 := Box.mk b1; clear b1))
    | (go_at_call 47; ((with_reducible refine (CR.out _ B1.out).mono ?_); rintro e w2 ⟨rfl, v2, q2, b2⟩; have Q2 := Box.mk q2; have B2 := Box.mk b2; clear q2 b2)))
  go_end0
  exact ⟨rfl, v2, Q2.out, (Ext.of_below B1.out).trans B2.out⟩

theorem wfx6 (b : Nat) (L : List Nat) (v0 : Value) (x : Nat) (_hx : x < 18446744073709551616) (n : Int) (hk : cl18 n = 6) (w : World) (h : Wr w b L v0) (hl : L.length ≤ 900000) :
    Calls Tryz.prog 49 #[.pointer (some ⟨b, 0, none⟩), .int .u64 x, .int .i64 n] w (WrP b (L ++ fx 6 x) v0 w) := by
  have cf := fixedSize_any n w
  rw [show (if n < 1 then 1 else if 8 < n then 8 else n.toNat : Nat) = 6 from hk] at cf
  obtain ⟨y, hy⟩ : ∃ y, y = x * 2 ^ (64 - 8 * 6) % 18446744073709551616 := ⟨_, rfl⟩
  have hlt : y < 18446744073709551616 := by omega
  have r1 : IntKind.u64.wrap ((x : Int) * 65536) = (y : Int) := by
    rw [hy, show (x : Int) * 65536 = ((x * 65536 : Nat) : Int) by omega, u64w]
  have e := bytes_swap (n := 6) (v := x) (by omega) (by omega)
  rw [← hy] at e
  have cb := fun w => wordBytes_any (revN 8 y) 6 w
  rw [show cl8 6 = 6 by decide, e] at cb
  have cr : ∀ W : World, Below w.heap.size w W → Calls Tryz.prog 47 #[.pointer (some ⟨b, 0, none⟩), .string (bs (fx 6 x))] W (WrP b (L ++ fx 6 x) v0 W) := fun W hW => by
    have c := raw_any b L v0 (bs (fx 6 x)) W (h.below hW) (by rw [bs_size, fx_length]; omega)
    rwa [sb_bs _ (fx_lt 6 x)] at c
  have hbl := World.block_lt_of_cell? w _ h.cell
  have hbl : b < w.heap.size := hbl
  have CF := Box.mk cf; have CB := Box.mk cb; have CR := Box.mk cr
  clear cf cb cr h e hy hk
  go_enter Tryz.func49, Tryz.ntmps49
  go_wp2_with (first
    | (go_at_call 75; refine CF.out.mono ?_; rintro e w' ⟨rfl, rfl⟩)
    | (go_at_call 77; refine (wordSwap_any y hlt _).mono ?_; rintro e w' ⟨rfl, rfl⟩)
    | (go_at_call 76; ((with_reducible refine (CB.out _).mono ?_); rintro e w1 ⟨rfl, b1⟩; have B1 := Box.mk b1; clear b1))
    | (go_at_call 47; ((with_reducible refine (CR.out _ B1.out).mono ?_); rintro e w2 ⟨rfl, v2, q2, b2⟩; have Q2 := Box.mk q2; have B2 := Box.mk b2; clear q2 b2)))
  go_end0
  exact ⟨rfl, v2, Q2.out, (Ext.of_below B1.out).trans B2.out⟩

theorem wfx7 (b : Nat) (L : List Nat) (v0 : Value) (x : Nat) (_hx : x < 18446744073709551616) (n : Int) (hk : cl18 n = 7) (w : World) (h : Wr w b L v0) (hl : L.length ≤ 900000) :
    Calls Tryz.prog 49 #[.pointer (some ⟨b, 0, none⟩), .int .u64 x, .int .i64 n] w (WrP b (L ++ fx 7 x) v0 w) := by
  have cf := fixedSize_any n w
  rw [show (if n < 1 then 1 else if 8 < n then 8 else n.toNat : Nat) = 7 from hk] at cf
  obtain ⟨y, hy⟩ : ∃ y, y = x * 2 ^ (64 - 8 * 7) % 18446744073709551616 := ⟨_, rfl⟩
  have hlt : y < 18446744073709551616 := by omega
  have r1 : IntKind.u64.wrap ((x : Int) * 256) = (y : Int) := by
    rw [hy, show (x : Int) * 256 = ((x * 256 : Nat) : Int) by omega, u64w]
  have e := bytes_swap (n := 7) (v := x) (by omega) (by omega)
  rw [← hy] at e
  have cb := fun w => wordBytes_any (revN 8 y) 7 w
  rw [show cl8 7 = 7 by decide, e] at cb
  have cr : ∀ W : World, Below w.heap.size w W → Calls Tryz.prog 47 #[.pointer (some ⟨b, 0, none⟩), .string (bs (fx 7 x))] W (WrP b (L ++ fx 7 x) v0 W) := fun W hW => by
    have c := raw_any b L v0 (bs (fx 7 x)) W (h.below hW) (by rw [bs_size, fx_length]; omega)
    rwa [sb_bs _ (fx_lt 7 x)] at c
  have hbl := World.block_lt_of_cell? w _ h.cell
  have hbl : b < w.heap.size := hbl
  have CF := Box.mk cf; have CB := Box.mk cb; have CR := Box.mk cr
  clear cf cb cr h e hy hk
  go_enter Tryz.func49, Tryz.ntmps49
  go_wp2_with (first
    | (go_at_call 75; refine CF.out.mono ?_; rintro e w' ⟨rfl, rfl⟩)
    | (go_at_call 77; refine (wordSwap_any y hlt _).mono ?_; rintro e w' ⟨rfl, rfl⟩)
    | (go_at_call 76; ((with_reducible refine (CB.out _).mono ?_); rintro e w1 ⟨rfl, b1⟩; have B1 := Box.mk b1; clear b1))
    | (go_at_call 47; ((with_reducible refine (CR.out _ B1.out).mono ?_); rintro e w2 ⟨rfl, v2, q2, b2⟩; have Q2 := Box.mk q2; have B2 := Box.mk b2; clear q2 b2)))
  go_end0
  exact ⟨rfl, v2, Q2.out, (Ext.of_below B1.out).trans B2.out⟩

theorem wfx8 (b : Nat) (L : List Nat) (v0 : Value) (x : Nat) (hx : x < 18446744073709551616) (n : Int) (hk : cl18 n = 8) (w : World) (h : Wr w b L v0) (hl : L.length ≤ 900000) :
    Calls Tryz.prog 49 #[.pointer (some ⟨b, 0, none⟩), .int .u64 x, .int .i64 n] w (WrP b (L ++ fx 8 x) v0 w) := by
  have cf := fixedSize_any n w
  rw [show (if n < 1 then 1 else if 8 < n then 8 else n.toNat : Nat) = 8 from hk] at cf
  have hlt := hx
  have e := bytes_swap (n := 8) (v := x) (by omega) (by omega)
  rw [show 64 - 8 * 8 = 0 by rfl, Nat.pow_zero, Nat.mul_one, Nat.mod_eq_of_lt hx] at e
  have cb := fun w => wordBytes_any (revN 8 x) 8 w
  rw [show cl8 8 = 8 by decide, e] at cb
  have cr : ∀ W : World, Below w.heap.size w W → Calls Tryz.prog 47 #[.pointer (some ⟨b, 0, none⟩), .string (bs (fx 8 x))] W (WrP b (L ++ fx 8 x) v0 W) := fun W hW => by
    have c := raw_any b L v0 (bs (fx 8 x)) W (h.below hW) (by rw [bs_size, fx_length]; omega)
    rwa [sb_bs _ (fx_lt 8 x)] at c
  have hbl := World.block_lt_of_cell? w _ h.cell
  have hbl : b < w.heap.size := hbl
  have CF := Box.mk cf; have CB := Box.mk cb; have CR := Box.mk cr
  clear cf cb cr h e hk
  go_enter Tryz.func49, Tryz.ntmps49
  go_wp2_with (first
    | (go_at_call 75; refine CF.out.mono ?_; rintro e w' ⟨rfl, rfl⟩)
    | (go_at_call 77; refine (wordSwap_any x hlt _).mono ?_; rintro e w' ⟨rfl, rfl⟩)
    | (go_at_call 76; ((with_reducible refine (CB.out _).mono ?_); rintro e w1 ⟨rfl, b1⟩; have B1 := Box.mk b1; clear b1))
    | (go_at_call 47; ((with_reducible refine (CR.out _ B1.out).mono ?_); rintro e w2 ⟨rfl, v2, q2, b2⟩; have Q2 := Box.mk q2; have B2 := Box.mk b2; clear q2 b2)))
  go_end0
  exact ⟨rfl, v2, Q2.out, (Ext.of_below B1.out).trans B2.out⟩

theorem wfixed_any (b : Nat) (L : List Nat) (v0 : Value) (x : Nat) (hx : x < 18446744073709551616) (n : Int) (w : World) (h : Wr w b L v0) (hl : L.length ≤ 900000) :
    Calls Tryz.prog 49 #[.pointer (some ⟨b, 0, none⟩), .int .u64 x, .int .i64 n] w (WrP b (L ++ fx (cl18 n) x) v0 w) := by
  have hb := cl18_bd n
  rcases (by omega : cl18 n = 1 ∨ cl18 n = 2 ∨ cl18 n = 3 ∨ cl18 n = 4 ∨ cl18 n = 5 ∨ cl18 n = 6 ∨ cl18 n = 7 ∨ cl18 n = 8) with hk | hk | hk | hk | hk | hk | hk | hk
  · rw [hk]; exact wfx1 b L v0 x hx n hk w h hl
  · rw [hk]; exact wfx2 b L v0 x hx n hk w h hl
  · rw [hk]; exact wfx3 b L v0 x hx n hk w h hl
  · rw [hk]; exact wfx4 b L v0 x hx n hk w h hl
  · rw [hk]; exact wfx5 b L v0 x hx n hk w h hl
  · rw [hk]; exact wfx6 b L v0 x hx n hk w h hl
  · rw [hk]; exact wfx7 b L v0 x hx n hk w h hl
  · rw [hk]; exact wfx8 b L v0 x hx n hk w h hl
end Go.Proofs.YtdffpbfllekcgaaGreatDoor
namespace Go.Proofs.YtdffpbfllekcgaaGreatDoor
set_option maxRecDepth 100000
open Go.RowKit M

theorem numL_length (v : Nat) : 1 ≤ (numL v).length ∧ (numL v).length ≤ 9 := by
  have := szN_bd v
  unfold numL
  split
  · simp
  · simp [fx_length]; omega
theorem fx_one {v : Nat} (h : v < 256) : fx 1 v = [v] := by simp [fx, bytesN, List.range_succ, byt]; omega
theorem cl18_nat {k : Nat} (h1 : 1 ≤ k) (h8 : k ≤ 8) : cl18 (k : Int) = k := by unfold cl18; rw [if_neg (by omega), if_neg (by omega), Int.toNat_natCast]

theorem bytes_any (b : Nat) (L : List Nat) (v0 : Value) (w : World) (h : Wr w b L v0) :
    Calls Tryz.prog 51 #[.pointer (some ⟨b, 0, none⟩)] w fun e w' => e = .returned (.string (bs L)) ∧ w = w' := by
  have hc := h.cell
  have hconv : (convert 52 9 v0).run Tryz.prog w = .ok (.string (bs L)) w := by
    rcases h.own.2 with ⟨rfl, hn⟩ | ⟨g, cap, cur, rfl, _⟩
    · have : L = [] := List.eq_nil_of_length_eq_zero hn
      subst this
      simp [convert, run_underlying Tryz.underlying52, run_underlying Tryz.underlying9, go_sem, Conv.bytesToString]
      rfl
    · exact conv_bytes h.own
  obtain ⟨p, l, c, rfl⟩ := own_slice h.own
  clear h
  go_enter Tryz.func51, Tryz.ntmps51
  go_wp2
  go_ret
  exact ⟨rfl, rfl⟩
end Go.Proofs.YtdffpbfllekcgaaGreatDoor
namespace Go.Proofs.YtdffpbfllekcgaaGreatDoor
set_option maxRecDepth 100000
open Go.RowKit M

/-- block b alone of the old blocks may have changed -/
structure Onl (b : Nat) (w w' : World) : Prop where
  os : w'.os = w.os
  tape : w'.tape = w.tape
  output : w'.output = w.output
  size : w.heap.size ≤ w'.heap.size
  block : ∀ k, k < w.heap.size → k ≠ b → w'.heap[k]? = w.heap[k]?
theorem Onl.refl (b : Nat) (w : World) : Onl b w w := ⟨rfl, rfl, rfl, Nat.le_refl _, fun _ _ _ => rfl⟩
theorem Onl.trans {b : Nat} {w x y : World} (h : Onl b w x) (k : Onl b x y) : Onl b w y :=
  ⟨k.os.trans h.os, k.tape.trans h.tape, k.output.trans h.output, Nat.le_trans h.size k.size, fun i hi hb => (k.block i (Nat.lt_of_lt_of_le hi h.size) hb).trans (h.block i hi hb)⟩
theorem Onl.below {b B : Nat} {w x : World} (h : Onl b w x) (hb : B ≤ b) (hB : B ≤ w.heap.size) : Below B w x := ⟨h.os, h.tape, h.output, h.size, fun i hi => h.block i (by omega) (by omega)⟩
theorem Onl.setCell {b : Nat} {w x : World} (h : Onl b w x) (o : Nat) (u : Value) : Onl b w (x.setCell ⟨b, o, none⟩ u) :=
  h.trans ⟨rfl, rfl, rfl, by simp [World.setCell], fun k _ hk => Below.heap_setCell _ _ _ _ (by simpa using hk)⟩
theorem Onl.drewN {b : Nat} {w x : World} (h : Onl b w x) (n : Nat) : Onl b w (x.drewN n) := ⟨h.os, h.tape, h.output, h.size, h.block⟩

/-- a reader of T lies in block b, at a, with the error x -/
structure Rd (w : World) (b : Nat) (T : ByteArray) (a x : Nat) : Prop where
  c0 : w.cell? ⟨b, 0, none⟩ = some (.string T)
  c1 : w.cell? ⟨b, 1, none⟩ = some (.int .i64 (a : Int))
  c2 : w.cell? ⟨b, 2, none⟩ = some (.int .i64 (x : Int))
  f1 : w.frozen? ⟨b, 1, none⟩ = false
  f2 : w.frozen? ⟨b, 2, none⟩ = false
  le : a ≤ T.size
  sz : T.size ≤ 1000000
theorem Rd.drewN {w : World} {b : Nat} {T : ByteArray} {a x : Nat} (h : Rd w b T a x) (n : Nat) : Rd (w.drewN n) b T a x := ⟨h.c0, h.c1, h.c2, h.f1, h.f2, h.le, h.sz⟩
theorem Rd.err {w : World} {b : Nat} {T : ByteArray} {a x : Nat} (h : Rd w b T a x) (y : Nat) : Rd (w.setCell ⟨b, 2, none⟩ (.int .i64 (y : Int))) b T a y :=
  ⟨by rw [World.cell?_setCell_other _ _ _ _ (by simp)]; exact h.c0, by rw [World.cell?_setCell_other _ _ _ _ (by simp)]; exact h.c1, World.cell?_setCell_same _ _ _ h.c2, by rw [frozen_setCell]; exact h.f1, by rw [frozen_setCell]; exact h.f2, h.le, h.sz⟩
theorem Rd.move {w : World} {b : Nat} {T : ByteArray} {a x : Nat} (h : Rd w b T a x) (y : Nat) (hy : y ≤ T.size) : Rd (w.setCell ⟨b, 1, none⟩ (.int .i64 (y : Int))) b T y x :=
  ⟨by rw [World.cell?_setCell_other _ _ _ _ (by simp)]; exact h.c0, World.cell?_setCell_same _ _ _ h.c1, by rw [World.cell?_setCell_other _ _ _ _ (by simp)]; exact h.c2, by rw [frozen_setCell]; exact h.f1, by rw [frozen_setCell]; exact h.f2, hy, h.sz⟩

/-- what a call on a reader leaves -/
def RdQ (b : Nat) (T : ByteArray) (a x : Nat) (ret : Value) (w : World) (e : Ending) (w' : World) : Prop :=
  e = .returned ret ∧ Rd w' b T a x ∧ Onl b w w'

theorem fail_any (b : Nat) (T : ByteArray) (a x n : Nat) (w : World) (h : Rd w b T a x) :
    Calls Tryz.prog 69 #[.pointer (some ⟨b, 0, none⟩), .int .i64 (n : Int)] w (RdQ b T a (if x = 0 then n else x) (.tuple #[]) w) := by
  have c2 := h.c2
  have f2 := h.f2
  have HR := Box.mk h; clear h
  rcases Nat.eq_zero_or_pos x with hx | hx
  · subst hx
    go_enter Tryz.func69, Tryz.ntmps69
    go_wp2
    go_end0
    exact ⟨rfl, HR.out.err n, (Onl.refl _ _).setCell _ _⟩
  · have e1 : ((x : Int) == 0) = false := by rw [beq_eq_false_iff_ne]; omega
    have e2 : ¬ x = 0 := by omega
    rw [if_neg e2]
    go_enter Tryz.func69, Tryz.ntmps69
    go_wp2
    go_end0
    exact ⟨rfl, HR.out, Onl.refl _ _⟩

theorem left_any (b : Nat) (T : ByteArray) (a x : Nat) (w : World) (h : Rd w b T a x) :
    Calls Tryz.prog 104 #[.pointer (some ⟨b, 0, none⟩)] w (RdQ b T a x (.int .i64 ((T.size - a : Nat) : Int)) w) := by
  have c0 := h.c0
  have c1 := h.c1
  have hle := h.le
  have hsz := h.sz
  have e : IntKind.i64.wrap ((T.size : Int) - (a : Int)) = ((T.size - a : Nat) : Int) := by rw [IntWalk.i64_in _ (by omega)]; omega
  have HR := Box.mk h; clear h
  obtain ⟨y, hy⟩ : ∃ y, y = T.size - a := ⟨_, rfl⟩
  rw [← hy] at e ⊢
  clear hy
  go_enter Tryz.func104, Tryz.ntmps104
  go_wp2_with fail
  go_quiet (fail)
  go_wp2_with fail
  go_ret
  exact ⟨rfl, HR.out.drewN _, (Onl.refl _ _).drewN _⟩

/-- n bytes are read: the place, the error, the bytes -/
def rawA (T : ByteArray) (a x : Nat) (n : Int) : Nat := if x = 0 ∧ 0 ≤ n ∧ n ≤ ((T.size - a : Nat) : Int) then a + n.toNat else a
def rawX (T : ByteArray) (a x : Nat) (n : Int) : Nat := if x = 0 then (if 0 ≤ n ∧ n ≤ ((T.size - a : Nat) : Int) then 0 else 2) else x
def rawS (T : ByteArray) (a x : Nat) (n : Int) : ByteArray := if x = 0 ∧ 0 ≤ n ∧ n ≤ ((T.size - a : Nat) : Int) then T.extract a (a + n.toNat) else ⟨#[]⟩

set_option maxRecDepth 100000 in
set_option maxHeartbeats 400000 in
theorem rraw_any (b : Nat) (T : ByteArray) (a x : Nat) (n : Int) (w : World) (h : Rd w b T a x) :
    Calls Tryz.prog 68 #[.pointer (some ⟨b, 0, none⟩), .int .i64 n] w (RdQ b T (rawA T a x n) (rawX T a x n) (.string (rawS T a x n)) w) := by
  have hle := h.le
  have hsz := h.sz
  by_cases hok : 0 ≤ n ∧ n ≤ ((T.size - a : Nat) : Int)
  · obtain ⟨k, rfl⟩ : ∃ k : Nat, n = k := ⟨n.toNat, by omega⟩
    have hk : a + k ≤ T.size := by omega
    rcases Nat.eq_zero_or_pos x with hx | hx
    · subst hx
      have e1 : rawA T a 0 k = a + k := by unfold rawA; rw [if_pos ⟨rfl, hok⟩, Int.toNat_natCast]
      have e2 : rawX T a 0 k = 0 := by unfold rawX; rw [if_pos rfl, if_pos hok]
      have e3 : rawS T a 0 k = T.extract a (a + k) := by unfold rawS; rw [if_pos ⟨rfl, hok⟩, Int.toNat_natCast]
      rw [e1, e2, e3]
      clear e1 e2 e3
      have cl := left_any b T a 0 w h
      obtain ⟨y, hy⟩ : ∃ y, y = T.size - a := ⟨_, rfl⟩
      have hky : k ≤ y := by omega
      obtain ⟨q, hq⟩ : ∃ q, q = a + k := ⟨_, rfl⟩
      have n1 : IntKind.i64.wrap ((a : Int) + (k : Int)) = (q : Int) := by rw [IntWalk.i64_in _ (by omega)]; omega
      have hqs : q ≤ T.size := by omega
      have haq : a ≤ q := by omega
      rw [← hq]
      rw [← hy] at cl
      have CL := Box.mk cl; have HQ := Box.mk hq
      clear cl hy hok hk hq h
      go_enter Tryz.func68, Tryz.ntmps68
      go_wp2_with (go_at_call 104; refine CL.out.mono ?_; rintro e w1 ⟨rfl, r1, o1⟩; have c0 := r1.c0; have c1 := r1.c1; have c2 := r1.c2; have f1 := r1.f1; have R1 := Box.mk r1; have O1 := Box.mk o1; clear r1 o1)
      go_quiet (fail)
      go_wp2_with fail
      go_ret
      exact ⟨rfl, (R1.out.drewN nq).move q hqs, (O1.out.drewN nq).setCell 1 _⟩
    · have e1 : rawA T a x k = a := by unfold rawA; rw [if_neg (by omega)]
      have e2 : rawX T a x k = x := by unfold rawX; rw [if_neg (by omega)]
      have e3 : rawS T a x k = ⟨#[]⟩ := by unfold rawS; rw [if_neg (by omega)]
      rw [e1, e2, e3]
      clear e1 e2 e3
      have cl := left_any b T a x w h
      obtain ⟨y, hy⟩ : ∃ y, y = T.size - a := ⟨_, rfl⟩
      have hky : k ≤ y := by omega
      have z1 : ((x : Int) != 0) = true := by simp; omega
      rw [← hy] at cl
      have CL := Box.mk cl
      clear cl hy hok hk h
      go_enter Tryz.func68, Tryz.ntmps68
      go_wp2_with (go_at_call 104; refine CL.out.mono ?_; rintro e w1 ⟨rfl, r1, o1⟩; have c2 := r1.c2; have R1 := Box.mk r1; have O1 := Box.mk o1; clear r1 o1)
      go_ret
      exact ⟨rfl, R1.out, O1.out⟩
  · have e1 : rawA T a x n = a := by unfold rawA; rw [if_neg (by omega)]
    have e2 : rawX T a x n = if x = 0 then 2 else x := by unfold rawX; rw [if_neg hok]
    have e3 : rawS T a x n = ⟨#[]⟩ := by unfold rawS; rw [if_neg (by omega)]
    rw [e1, e2, e3]
    clear e1 e2 e3
    obtain ⟨x', hx'⟩ : ∃ x', x' = if x = 0 then 2 else x := ⟨_, rfl⟩
    have hx1 : 0 < x' := by rw [hx']; split <;> omega
    have z1 : ((x' : Int) != 0) = true := by simp; omega
    have cl := left_any b T a x w h
    have cf : ∀ W, Rd W b T a x → Calls Tryz.prog 69 #[.pointer (some ⟨b, 0, none⟩), .int .i64 2] W (RdQ b T a x' (.tuple #[]) W) := fun W hW => by rw [hx']; exact fail_any b T a x 2 W hW
    obtain ⟨y, hy⟩ : ∃ y, y = T.size - a := ⟨_, rfl⟩
    rw [← hy] at cl hok
    rw [← hx']
    have CL := Box.mk cl; have CF := Box.mk cf; have HR := Box.mk h
    clear cl cf h hy hx'
    rcases (by omega : n < 0 ∨ (0 ≤ n ∧ (y : Int) < n)) with hn | ⟨hn, hn2⟩
    · clear hok
      go_enter Tryz.func68, Tryz.ntmps68
      go_wp2_with (go_at_call 69; refine (CF.out _ HR.out).mono ?_; rintro e w1 ⟨rfl, r1, o1⟩; have c2 := r1.c2; have R1 := Box.mk r1; have O1 := Box.mk o1; clear r1 o1)
      go_ret
      exact ⟨rfl, R1.out, O1.out⟩
    · clear hok
      go_enter Tryz.func68, Tryz.ntmps68
      go_wp2_with (first
        | (go_at_call 104; refine CL.out.mono ?_; rintro e w1 ⟨rfl, r1, o1⟩; have R1 := Box.mk r1; have O1 := Box.mk o1; clear r1 o1)
        | (go_at_call 69; refine (CF.out _ R1.out).mono ?_; rintro e w2 ⟨rfl, r2, o2⟩; have c2 := r2.c2; have R2 := Box.mk r2; have O2 := Box.mk o2; clear r2 o2))
      go_ret
      exact ⟨rfl, R2.out, O1.out.trans O2.out⟩
end Go.Proofs.YtdffpbfllekcgaaGreatDoor
namespace Go.Proofs.YtdffpbfllekcgaaGreatDoor
set_option maxRecDepth 100000
open Go.RowKit M

theorem numN_sb {s : ByteArray} (h : s.size ≤ 8) : numN s = num 8 (sb s) := by
  unfold numN sb; rw [Nat.min_eq_left h]
theorem fixV {s : ByteArray} {k : Nat} (h1 : 1 ≤ k) (h8 : k ≤ 8) (h : s.size = k ∨ s.size = 0) : revN 8 (numN s) / 2 ^ (64 - 8 * k) = un (sb s) := by
  rw [numN_sb (by omega)]
  rcases h with h | h
  · have e := swap_num (l := sb s) (sb_lt s) (by rw [sb_length]; omega)
    rw [sb_length, h] at e
    exact e
  · have e : sb s = [] := List.eq_nil_of_length_eq_zero (by rw [sb_length]; exact h)
    rw [e, swap_none]; rfl
theorem rawS_size (T : ByteArray) (a x k : Nat) : (rawS T a x k).size = k ∨ (rawS T a x k).size = 0 := by
  unfold rawS
  split
  · rename_i h
    left; simp; omega
  · right; rfl
/-- the number that is read -/
def fixU (T : ByteArray) (a x k : Nat) : Nat := un (sb (rawS T a x k))
theorem numN_lt (s : ByteArray) : numN s < 18446744073709551616 := by
  unfold numN
  have h := num_lt 8 (bnl s (min s.size 8)) (bnl_lt s _)
  rw [bnl_length] at h
  have h2 : 2 ^ (8 * min s.size 8) ≤ 2 ^ 64 := Nat.pow_le_pow_right (by decide) (by omega)
  have h3 : (2 : Nat) ^ 64 = 18446744073709551616 := by decide
  omega

set_option maxRecDepth 100000 in
theorem rfx1 (b : Nat) (T : ByteArray) (a x : Nat) (n : Int) (hk : cl18 n = 1) (w : World) (h : Rd w b T a x) :
    Calls Tryz.prog 70 #[.pointer (some ⟨b, 0, none⟩), .int .i64 n] w (RdQ b T (rawA T a x 1) (rawX T a x 1) (.int .u64 (fixU T a x 1 : Nat)) w) := by
  have cf := fixedSize_any n w
  rw [show (if n < 1 then 1 else if 8 < n then 8 else n.toNat : Nat) = 1 from hk] at cf
  have cr := rraw_any b T a x 1 w h
  have hv := fixV (s := rawS T a x (1 : Nat)) (k := 1) (by omega) (by omega) (rawS_size T a x 1)
  have hS : rawS T a x (1 : Int) = rawS T a x ((1 : Nat) : Int) := rfl
  rw [hS] at cr
  have hfu : fixU T a x 1 = un (sb (rawS T a x ((1 : Nat) : Int))) := rfl
  rw [← hfu] at hv
  have hsz : (rawS T a x ((1 : Nat) : Int)).size ≤ 8 := by have := rawS_size T a x 1; omega
  obtain ⟨S, hS2⟩ : ∃ S, S = rawS T a x ((1 : Nat) : Int) := ⟨_, rfl⟩
  rw [← hS2] at cr hv hsz
  obtain ⟨z, hz⟩ : ∃ z, z = fixU T a x 1 := ⟨_, rfl⟩
  rw [← hz] at hv ⊢
  have cn := fun w => wordNumber_any S (by omega) w
  have hnl := numN_lt S
  obtain ⟨m, hm⟩ : ∃ m, m = numN S := ⟨_, rfl⟩
  rw [← hm] at cn hv hnl
  have hyl := revN_lt8 m
  have cw := fun w => wordSwap_any m hnl w
  obtain ⟨y, hy⟩ : ∃ y, y = revN 8 m := ⟨_, rfl⟩
  rw [← hy] at cw hv hyl
  have hz2 : z = y / 72057594037927936 := hv.symm
  have r1 : (y : Int) / 72057594037927936 = (z : Int) := by rw [hz2]; omega
  have CF := Box.mk cf; have CR := Box.mk cr; have CN := Box.mk cn; have CW := Box.mk cw; have HZ := Box.mk hz2
  clear cf cr cn cw hv hS hS2 hfu hm hy hz hz2 hk h
  go_enter Tryz.func70, Tryz.ntmps70
  go_wp2_with (first
    | (go_at_call 75; refine CF.out.mono ?_; rintro e w' ⟨rfl, rfl⟩)
    | (go_at_call 68; refine CR.out.mono ?_; rintro e w1 ⟨rfl, r1, o1⟩; have R1 := Box.mk r1; have O1 := Box.mk o1; clear r1 o1)
    | (go_at_call 105; ((with_reducible refine (CN.out _).mono ?_); rintro e w' ⟨rfl, rfl⟩))
    | (go_at_call 77; ((with_reducible refine (CW.out _).mono ?_); rintro e w' ⟨rfl, rfl⟩)))
  go_ret
  exact ⟨rfl, R1.out, O1.out⟩

set_option maxRecDepth 100000 in
theorem rfx2 (b : Nat) (T : ByteArray) (a x : Nat) (n : Int) (hk : cl18 n = 2) (w : World) (h : Rd w b T a x) :
    Calls Tryz.prog 70 #[.pointer (some ⟨b, 0, none⟩), .int .i64 n] w (RdQ b T (rawA T a x 2) (rawX T a x 2) (.int .u64 (fixU T a x 2 : Nat)) w) := by
  have cf := fixedSize_any n w
  rw [show (if n < 1 then 1 else if 8 < n then 8 else n.toNat : Nat) = 2 from hk] at cf
  have cr := rraw_any b T a x 2 w h
  have hv := fixV (s := rawS T a x (2 : Nat)) (k := 2) (by omega) (by omega) (rawS_size T a x 2)
  have hS : rawS T a x (2 : Int) = rawS T a x ((2 : Nat) : Int) := rfl
  rw [hS] at cr
  have hfu : fixU T a x 2 = un (sb (rawS T a x ((2 : Nat) : Int))) := rfl
  rw [← hfu] at hv
  have hsz : (rawS T a x ((2 : Nat) : Int)).size ≤ 8 := by have := rawS_size T a x 2; omega
  obtain ⟨S, hS2⟩ : ∃ S, S = rawS T a x ((2 : Nat) : Int) := ⟨_, rfl⟩
  rw [← hS2] at cr hv hsz
  obtain ⟨z, hz⟩ : ∃ z, z = fixU T a x 2 := ⟨_, rfl⟩
  rw [← hz] at hv ⊢
  have cn := fun w => wordNumber_any S (by omega) w
  have hnl := numN_lt S
  obtain ⟨m, hm⟩ : ∃ m, m = numN S := ⟨_, rfl⟩
  rw [← hm] at cn hv hnl
  have hyl := revN_lt8 m
  have cw := fun w => wordSwap_any m hnl w
  obtain ⟨y, hy⟩ : ∃ y, y = revN 8 m := ⟨_, rfl⟩
  rw [← hy] at cw hv hyl
  have hz2 : z = y / 281474976710656 := hv.symm
  have r1 : (y : Int) / 281474976710656 = (z : Int) := by rw [hz2]; omega
  have CF := Box.mk cf; have CR := Box.mk cr; have CN := Box.mk cn; have CW := Box.mk cw; have HZ := Box.mk hz2
  clear cf cr cn cw hv hS hS2 hfu hm hy hz hz2 hk h
  go_enter Tryz.func70, Tryz.ntmps70
  go_wp2_with (first
    | (go_at_call 75; refine CF.out.mono ?_; rintro e w' ⟨rfl, rfl⟩)
    | (go_at_call 68; refine CR.out.mono ?_; rintro e w1 ⟨rfl, r1, o1⟩; have R1 := Box.mk r1; have O1 := Box.mk o1; clear r1 o1)
    | (go_at_call 105; ((with_reducible refine (CN.out _).mono ?_); rintro e w' ⟨rfl, rfl⟩))
    | (go_at_call 77; ((with_reducible refine (CW.out _).mono ?_); rintro e w' ⟨rfl, rfl⟩)))
  go_ret
  exact ⟨rfl, R1.out, O1.out⟩

set_option maxRecDepth 100000 in
theorem rfx3 (b : Nat) (T : ByteArray) (a x : Nat) (n : Int) (hk : cl18 n = 3) (w : World) (h : Rd w b T a x) :
    Calls Tryz.prog 70 #[.pointer (some ⟨b, 0, none⟩), .int .i64 n] w (RdQ b T (rawA T a x 3) (rawX T a x 3) (.int .u64 (fixU T a x 3 : Nat)) w) := by
  have cf := fixedSize_any n w
  rw [show (if n < 1 then 1 else if 8 < n then 8 else n.toNat : Nat) = 3 from hk] at cf
  have cr := rraw_any b T a x 3 w h
  have hv := fixV (s := rawS T a x (3 : Nat)) (k := 3) (by omega) (by omega) (rawS_size T a x 3)
  have hS : rawS T a x (3 : Int) = rawS T a x ((3 : Nat) : Int) := rfl
  rw [hS] at cr
  have hfu : fixU T a x 3 = un (sb (rawS T a x ((3 : Nat) : Int))) := rfl
  rw [← hfu] at hv
  have hsz : (rawS T a x ((3 : Nat) : Int)).size ≤ 8 := by have := rawS_size T a x 3; omega
  obtain ⟨S, hS2⟩ : ∃ S, S = rawS T a x ((3 : Nat) : Int) := ⟨_, rfl⟩
  rw [← hS2] at cr hv hsz
  obtain ⟨z, hz⟩ : ∃ z, z = fixU T a x 3 := ⟨_, rfl⟩
  rw [← hz] at hv ⊢
  have cn := fun w => wordNumber_any S (by omega) w
  have hnl := numN_lt S
  obtain ⟨m, hm⟩ : ∃ m, m = numN S := ⟨_, rfl⟩
  rw [← hm] at cn hv hnl
  have hyl := revN_lt8 m
  have cw := fun w => wordSwap_any m hnl w
  obtain ⟨y, hy⟩ : ∃ y, y = revN 8 m := ⟨_, rfl⟩
  rw [← hy] at cw hv hyl
  have hz2 : z = y / 1099511627776 := hv.symm
  have r1 : (y : Int) / 1099511627776 = (z : Int) := by rw [hz2]; omega
  have CF := Box.mk cf; have CR := Box.mk cr; have CN := Box.mk cn; have CW := Box.mk cw; have HZ := Box.mk hz2
  clear cf cr cn cw hv hS hS2 hfu hm hy hz hz2 hk h
  go_enter Tryz.func70, Tryz.ntmps70
  go_wp2_with (first
    | (go_at_call 75; refine CF.out.mono ?_; rintro e w' ⟨rfl, rfl⟩)
    | (go_at_call 68; refine CR.out.mono ?_; rintro e w1 ⟨rfl, r1, o1⟩; have R1 := Box.mk r1; have O1 := Box.mk o1; clear r1 o1)
    | (go_at_call 105; ((with_reducible refine (CN.out _).mono ?_); rintro e w' ⟨rfl, rfl⟩))
    | (go_at_call 77; ((with_reducible refine (CW.out _).mono ?_); rintro e w' ⟨rfl, rfl⟩)))
  go_ret
  exact ⟨rfl, R1.out, O1.out⟩

set_option maxRecDepth 100000 in
theorem rfx4 (b : Nat) (T : ByteArray) (a x : Nat) (n : Int) (hk : cl18 n = 4) (w : World) (h : Rd w b T a x) :
    Calls Tryz.prog 70 #[.pointer (some ⟨b, 0, none⟩), .int .i64 n] w (RdQ b T (rawA T a x 4) (rawX T a x 4) (.int .u64 (fixU T a x 4 : Nat)) w) := by
  have cf := fixedSize_any n w
  rw [show (if n < 1 then 1 else if 8 < n then 8 else n.toNat : Nat) = 4 from hk] at cf
  have cr := rraw_any b T a x 4 w h
  have hv := fixV (s := rawS T a x (4 : Nat)) (k := 4) (by omega) (by omega) (rawS_size T a x 4)
  have hS : rawS T a x (4 : Int) = rawS T a x ((4 : Nat) : Int) := rfl
  rw [hS] at cr
  have hfu : fixU T a x 4 = un (sb (rawS T a x ((4 : Nat) : Int))) := rfl
  rw [← hfu] at hv
  have hsz : (rawS T a x ((4 : Nat) : Int)).size ≤ 8 := by have := rawS_size T a x 4; omega
  obtain ⟨S, hS2⟩ : ∃ S, S = rawS T a x ((4 : Nat) : Int) := ⟨_, rfl⟩
  rw [← hS2] at cr hv hsz
  obtain ⟨z, hz⟩ : ∃ z, z = fixU T a x 4 := ⟨_, rfl⟩
  rw [← hz] at hv ⊢
  have cn := fun w => wordNumber_any S (by omega) w
  have hnl := numN_lt S
  obtain ⟨m, hm⟩ : ∃ m, m = numN S := ⟨_, rfl⟩
  rw [← hm] at cn hv hnl
  have hyl := revN_lt8 m
  have cw := fun w => wordSwap_any m hnl w
  obtain ⟨y, hy⟩ : ∃ y, y = revN 8 m := ⟨_, rfl⟩
  rw [← hy] at cw hv hyl
  have hz2 : z = y / 4294967296 := hv.symm
  have r1 : (y : Int) / 4294967296 = (z : Int) := by rw [hz2]; omega
  have CF := Box.mk cf; have CR := Box.mk cr; have CN := Box.mk cn; have CW := Box.mk cw; have HZ := Box.mk hz2
  clear cf cr cn cw hv hS hS2 hfu hm hy hz hz2 hk h
  go_enter Tryz.func70, Tryz.ntmps70
  go_wp2_with (first
    | (go_at_call 75; refine CF.out.mono ?_; rintro e w' ⟨rfl, rfl⟩)
    | (go_at_call 68; refine CR.out.mono ?_; rintro e w1 ⟨rfl, r1, o1⟩; have R1 := Box.mk r1; have O1 := Box.mk o1; clear r1 o1)
    | (go_at_call 105; ((with_reducible refine (CN.out _).mono ?_); rintro e w' ⟨rfl, rfl⟩))
    | (go_at_call 77; ((with_reducible refine (CW.out _).mono ?_); rintro e w' ⟨rfl, rfl⟩)))
  go_ret
  exact ⟨rfl, R1.out, O1.out⟩

set_option maxRecDepth 100000 in
theorem rfx5 (b : Nat) (T : ByteArray) (a x : Nat) (n : Int) (hk : cl18 n = 5) (w : World) (h : Rd w b T a x) :
    Calls Tryz.prog 70 #[.pointer (some ⟨b, 0, none⟩), .int .i64 n] w (RdQ b T (rawA T a x 5) (rawX T a x 5) (.int .u64 (fixU T a x 5 : Nat)) w) := by
  have cf := fixedSize_any n w
  rw [show (if n < 1 then 1 else if 8 < n then 8 else n.toNat : Nat) = 5 from hk] at cf
  have cr := rraw_any b T a x 5 w h
  have hv := fixV (s := rawS T a x (5 : Nat)) (k := 5) (by omega) (by omega) (rawS_size T a x 5)
  have hS : rawS T a x (5 : Int) = rawS T a x ((5 : Nat) : Int) := rfl
  rw [hS] at cr
  have hfu : fixU T a x 5 = un (sb (rawS T a x ((5 : Nat) : Int))) := rfl
  rw [← hfu] at hv
  have hsz : (rawS T a x ((5 : Nat) : Int)).size ≤ 8 := by have := rawS_size T a x 5; omega
  obtain ⟨S, hS2⟩ : ∃ S, S = rawS T a x ((5 : Nat) : Int) := ⟨_, rfl⟩
  rw [← hS2] at cr hv hsz
  obtain ⟨z, hz⟩ : ∃ z, z = fixU T a x 5 := ⟨_, rfl⟩
  rw [← hz] at hv ⊢
  have cn := fun w => wordNumber_any S (by omega) w
  have hnl := numN_lt S
  obtain ⟨m, hm⟩ : ∃ m, m = numN S := ⟨_, rfl⟩
  rw [← hm] at cn hv hnl
  have hyl := revN_lt8 m
  have cw := fun w => wordSwap_any m hnl w
  obtain ⟨y, hy⟩ : ∃ y, y = revN 8 m := ⟨_, rfl⟩
  rw [← hy] at cw hv hyl
  have hz2 : z = y / 16777216 := hv.symm
  have r1 : (y : Int) / 16777216 = (z : Int) := by rw [hz2]; omega
  have CF := Box.mk cf; have CR := Box.mk cr; have CN := Box.mk cn; have CW := Box.mk cw; have HZ := Box.mk hz2
  clear cf cr cn cw hv hS hS2 hfu hm hy hz hz2 hk h
  go_enter Tryz.func70, Tryz.ntmps70
  go_wp2_with (first
    | (go_at_call 75; refine CF.out.mono ?_; rintro e w' ⟨rfl, rfl⟩)
    | (go_at_call 68; refine CR.out.mono ?_; rintro e w1 ⟨rfl, r1, o1⟩; have R1 := Box.mk r1; have O1 := Box.mk o1; clear r1 o1)
    | (go_at_call 105; ((with_reducible refine (CN.out _).mono ?_); rintro e w' ⟨rfl, rfl⟩))
    | (go_at_call 77; ((with_reducible refine (CW.out _).mono ?_); rintro e w' ⟨rfl, rfl⟩)))
  go_ret
  exact ⟨rfl, R1.out, O1.out⟩

set_option maxRecDepth 100000 in
theorem rfx6 (b : Nat) (T : ByteArray) (a x : Nat) (n : Int) (hk : cl18 n = 6) (w : World) (h : Rd w b T a x) :
    Calls Tryz.prog 70 #[.pointer (some ⟨b, 0, none⟩), .int .i64 n] w (RdQ b T (rawA T a x 6) (rawX T a x 6) (.int .u64 (fixU T a x 6 : Nat)) w) := by
  have cf := fixedSize_any n w
  rw [show (if n < 1 then 1 else if 8 < n then 8 else n.toNat : Nat) = 6 from hk] at cf
  have cr := rraw_any b T a x 6 w h
  have hv := fixV (s := rawS T a x (6 : Nat)) (k := 6) (by omega) (by omega) (rawS_size T a x 6)
  have hS : rawS T a x (6 : Int) = rawS T a x ((6 : Nat) : Int) := rfl
  rw [hS] at cr
  have hfu : fixU T a x 6 = un (sb (rawS T a x ((6 : Nat) : Int))) := rfl
  rw [← hfu] at hv
  have hsz : (rawS T a x ((6 : Nat) : Int)).size ≤ 8 := by have := rawS_size T a x 6; omega
  obtain ⟨S, hS2⟩ : ∃ S, S = rawS T a x ((6 : Nat) : Int) := ⟨_, rfl⟩
  rw [← hS2] at cr hv hsz
  obtain ⟨z, hz⟩ : ∃ z, z = fixU T a x 6 := ⟨_, rfl⟩
  rw [← hz] at hv ⊢
  have cn := fun w => wordNumber_any S (by omega) w
  have hnl := numN_lt S
  obtain ⟨m, hm⟩ : ∃ m, m = numN S := ⟨_, rfl⟩
  rw [← hm] at cn hv hnl
  have hyl := revN_lt8 m
  have cw := fun w => wordSwap_any m hnl w
  obtain ⟨y, hy⟩ : ∃ y, y = revN 8 m := ⟨_, rfl⟩
  rw [← hy] at cw hv hyl
  have hz2 : z = y / 65536 := hv.symm
  have r1 : (y : Int) / 65536 = (z : Int) := by rw [hz2]; omega
  have CF := Box.mk cf; have CR := Box.mk cr; have CN := Box.mk cn; have CW := Box.mk cw; have HZ := Box.mk hz2
  clear cf cr cn cw hv hS hS2 hfu hm hy hz hz2 hk h
  go_enter Tryz.func70, Tryz.ntmps70
  go_wp2_with (first
    | (go_at_call 75; refine CF.out.mono ?_; rintro e w' ⟨rfl, rfl⟩)
    | (go_at_call 68; refine CR.out.mono ?_; rintro e w1 ⟨rfl, r1, o1⟩; have R1 := Box.mk r1; have O1 := Box.mk o1; clear r1 o1)
    | (go_at_call 105; ((with_reducible refine (CN.out _).mono ?_); rintro e w' ⟨rfl, rfl⟩))
    | (go_at_call 77; ((with_reducible refine (CW.out _).mono ?_); rintro e w' ⟨rfl, rfl⟩)))
  go_ret
  exact ⟨rfl, R1.out, O1.out⟩

set_option maxRecDepth 100000 in
theorem rfx7 (b : Nat) (T : ByteArray) (a x : Nat) (n : Int) (hk : cl18 n = 7) (w : World) (h : Rd w b T a x) :
    Calls Tryz.prog 70 #[.pointer (some ⟨b, 0, none⟩), .int .i64 n] w (RdQ b T (rawA T a x 7) (rawX T a x 7) (.int .u64 (fixU T a x 7 : Nat)) w) := by
  have cf := fixedSize_any n w
  rw [show (if n < 1 then 1 else if 8 < n then 8 else n.toNat : Nat) = 7 from hk] at cf
  have cr := rraw_any b T a x 7 w h
  have hv := fixV (s := rawS T a x (7 : Nat)) (k := 7) (by omega) (by omega) (rawS_size T a x 7)
  have hS : rawS T a x (7 : Int) = rawS T a x ((7 : Nat) : Int) := rfl
  rw [hS] at cr
  have hfu : fixU T a x 7 = un (sb (rawS T a x ((7 : Nat) : Int))) := rfl
  rw [← hfu] at hv
  have hsz : (rawS T a x ((7 : Nat) : Int)).size ≤ 8 := by have := rawS_size T a x 7; omega
  obtain ⟨S, hS2⟩ : ∃ S, S = rawS T a x ((7 : Nat) : Int) := ⟨_, rfl⟩
  rw [← hS2] at cr hv hsz
  obtain ⟨z, hz⟩ : ∃ z, z = fixU T a x 7 := ⟨_, rfl⟩
  rw [← hz] at hv ⊢
  have cn := fun w => wordNumber_any S (by omega) w
  have hnl := numN_lt S
  obtain ⟨m, hm⟩ : ∃ m, m = numN S := ⟨_, rfl⟩
  rw [← hm] at cn hv hnl
  have hyl := revN_lt8 m
  have cw := fun w => wordSwap_any m hnl w
  obtain ⟨y, hy⟩ : ∃ y, y = revN 8 m := ⟨_, rfl⟩
  rw [← hy] at cw hv hyl
  have hz2 : z = y / 256 := hv.symm
  have r1 : (y : Int) / 256 = (z : Int) := by rw [hz2]; omega
  have CF := Box.mk cf; have CR := Box.mk cr; have CN := Box.mk cn; have CW := Box.mk cw; have HZ := Box.mk hz2
  clear cf cr cn cw hv hS hS2 hfu hm hy hz hz2 hk h
  go_enter Tryz.func70, Tryz.ntmps70
  go_wp2_with (first
    | (go_at_call 75; refine CF.out.mono ?_; rintro e w' ⟨rfl, rfl⟩)
    | (go_at_call 68; refine CR.out.mono ?_; rintro e w1 ⟨rfl, r1, o1⟩; have R1 := Box.mk r1; have O1 := Box.mk o1; clear r1 o1)
    | (go_at_call 105; ((with_reducible refine (CN.out _).mono ?_); rintro e w' ⟨rfl, rfl⟩))
    | (go_at_call 77; ((with_reducible refine (CW.out _).mono ?_); rintro e w' ⟨rfl, rfl⟩)))
  go_ret
  exact ⟨rfl, R1.out, O1.out⟩

set_option maxRecDepth 100000 in
theorem rfx8 (b : Nat) (T : ByteArray) (a x : Nat) (n : Int) (hk : cl18 n = 8) (w : World) (h : Rd w b T a x) :
    Calls Tryz.prog 70 #[.pointer (some ⟨b, 0, none⟩), .int .i64 n] w (RdQ b T (rawA T a x 8) (rawX T a x 8) (.int .u64 (fixU T a x 8 : Nat)) w) := by
  have cf := fixedSize_any n w
  rw [show (if n < 1 then 1 else if 8 < n then 8 else n.toNat : Nat) = 8 from hk] at cf
  have cr := rraw_any b T a x 8 w h
  have hv := fixV (s := rawS T a x (8 : Nat)) (k := 8) (by omega) (by omega) (rawS_size T a x 8)
  have hS : rawS T a x (8 : Int) = rawS T a x ((8 : Nat) : Int) := rfl
  rw [hS] at cr
  have hfu : fixU T a x 8 = un (sb (rawS T a x ((8 : Nat) : Int))) := rfl
  rw [← hfu] at hv
  have hsz : (rawS T a x ((8 : Nat) : Int)).size ≤ 8 := by have := rawS_size T a x 8; omega
  obtain ⟨S, hS2⟩ : ∃ S, S = rawS T a x ((8 : Nat) : Int) := ⟨_, rfl⟩
  rw [← hS2] at cr hv hsz
  obtain ⟨z, hz⟩ : ∃ z, z = fixU T a x 8 := ⟨_, rfl⟩
  rw [← hz] at hv ⊢
  have cn := fun w => wordNumber_any S (by omega) w
  have hnl := numN_lt S
  obtain ⟨m, hm⟩ : ∃ m, m = numN S := ⟨_, rfl⟩
  rw [← hm] at cn hv hnl
  have hyl := revN_lt8 m
  have cw := fun w => wordSwap_any m hnl w
  obtain ⟨y, hy⟩ : ∃ y, y = revN 8 m := ⟨_, rfl⟩
  rw [← hy] at cw hv hyl
  have hz2 : z = y / 1 := hv.symm
  have CF := Box.mk cf; have CR := Box.mk cr; have CN := Box.mk cn; have CW := Box.mk cw; have HZ := Box.mk hz2
  clear cf cr cn cw hv hS hS2 hfu hm hy hz hz2 hk h
  go_enter Tryz.func70, Tryz.ntmps70
  go_wp2_with (first
    | (go_at_call 75; refine CF.out.mono ?_; rintro e w' ⟨rfl, rfl⟩)
    | (go_at_call 68; refine CR.out.mono ?_; rintro e w1 ⟨rfl, r1, o1⟩; have R1 := Box.mk r1; have O1 := Box.mk o1; clear r1 o1)
    | (go_at_call 105; ((with_reducible refine (CN.out _).mono ?_); rintro e w' ⟨rfl, rfl⟩))
    | (go_at_call 77; ((with_reducible refine (CW.out _).mono ?_); rintro e w' ⟨rfl, rfl⟩)))
  go_ret
  exact ⟨by rw [HZ.out, Nat.div_one]; rfl, R1.out, O1.out⟩

theorem rfixed_any (b : Nat) (T : ByteArray) (a x : Nat) (n : Int) (w : World) (h : Rd w b T a x) :
    Calls Tryz.prog 70 #[.pointer (some ⟨b, 0, none⟩), .int .i64 n] w (RdQ b T (rawA T a x (cl18 n : Nat)) (rawX T a x (cl18 n : Nat)) (.int .u64 (fixU T a x (cl18 n) : Nat)) w) := by
  have hb := cl18_bd n
  rcases (by omega : cl18 n = 1 ∨ cl18 n = 2 ∨ cl18 n = 3 ∨ cl18 n = 4 ∨ cl18 n = 5 ∨ cl18 n = 6 ∨ cl18 n = 7 ∨ cl18 n = 8) with hk | hk | hk | hk | hk | hk | hk | hk
  · rw [hk]; exact rfx1 b T a x n hk w h
  · rw [hk]; exact rfx2 b T a x n hk w h
  · rw [hk]; exact rfx3 b T a x n hk w h
  · rw [hk]; exact rfx4 b T a x n hk w h
  · rw [hk]; exact rfx5 b T a x n hk w h
  · rw [hk]; exact rfx6 b T a x n hk w h
  · rw [hk]; exact rfx7 b T a x n hk w h
  · rw [hk]; exact rfx8 b T a x n hk w h
end Go.Proofs.YtdffpbfllekcgaaGreatDoor
