/- Contracts of outcome: small numbers as text; the name of a place. -/
import Derived.Test.YtnlcmdgjoikljaaDoorOutE
import Derived.Deep.QuietTactic
import Derived.BigQuiet
namespace Go.Proofs.YtnlcmdgjoikljaaDoor
set_option maxRecDepth 100000
open Go.RowKit

theorem ifmtSmall_any (u : Nat) (h : u < 100) (w : World) :
    Calls Tryd.prog 50 #[.int .u64 (u : Int), .int .i64 10] w fun e w' => e = .returned (.string (st (Lib.decDigits u))) ∧ w = w' := by
  have c := fun W => (Tryd.internal_strconv_small u h W)
  have C := Bx.mk c
  clear c
  have hu : (u : Int) < 100 := by omega
  go_enter Tryd.func50, Tryd.ntmps50
  go_wp2_with (go_at_call 72; ((with_reducible refine (C.out _).mono ?_); rintro e w' ⟨rfl, rfl⟩))
  go_ret
  exact ⟨rfl, rfl⟩
theorem fmtSmall_any (u : Nat) (h : u < 100) (w : World) :
    Calls Tryd.prog 31 #[.int .u64 (u : Int), .int .i64 10] w fun e w' => e = .returned (.string (st (Lib.decDigits u))) ∧ w = w' := by
  have c := fun W => ifmtSmall_any u h W
  have C := Bx.mk c
  clear c
  go_enter Tryd.func31, Tryd.ntmps31
  go_wp2_with (go_at_call 50; ((with_reducible refine (C.out _).mono ?_); rintro e w' ⟨rfl, rfl⟩))
  go_ret
  exact ⟨rfl, rfl⟩
theorem itoaSmall_any (u : Nat) (h : u < 100) (w : World) :
    Calls Tryd.prog 49 #[.int .i64 (u : Int)] w fun e w' => e = .returned (.string (st (Lib.decDigits u))) ∧ w' = w := Tryd.strconv_Itoa_small u h w

/-- the name of a place -/
def nameP (t : TestM) (p : Int × Int) : List UInt8 := if p.1 = -1 then (t.locs.getD p.2.toNat ([], 0)).1 else Lib.decDigits p.1.toNat ++ [58, 114] ++ Lib.decDigits p.2.toNat
set_option maxHeartbeats 1600000 in
theorem nameLoc_any (b : Nat) (t : TestM) (hk : TestOk t) (i : Nat) (l : List UInt8 × Int) (hl : t.locs[i]? = some l) (w : World) (h : TestAt w b t) :
    Calls Tryd.prog 30 #[.pointer (some ⟨b, 0, none⟩), .agg #[.int .i64 (-1), .int .i64 (i : Int)]] w fun e w' => e = .returned (.string (st (nameP t (-1, (i : Int))))) ∧ Below w.heap.size w w' := by
  have en : nameP t (-1, (i : Int)) = l.1 := by
    unfold nameP
    rw [if_pos rfl]
    simp [List.getD, hl]
  rw [en]
  obtain ⟨lv, tv, av, h0, h1, h2, ⟨hlo, _, _⟩⟩ := h.test
  have hil : i < t.locs.length := (List.getElem?_eq_some_iff.1 hl).1
  obtain ⟨bb, off, c, rfl, hbl, hcl⟩ := hlo.at (by omega)
  have f0 := flatAt locC 2 (fun _ => rfl) t.locs i 0 l hl (by decide)
  have q0 : w.cell? ⟨bb, off + i * 2, none⟩ = some (.string (st l.1)) := hcl _ _ f0
  have hb' : b < w.heap.size := World.block_lt_of_cell? _ _ h0
  have hi1 : (i : Int) < (t.locs.length : Int) := by omega
  have hi0 : (0 : Int) ≤ (i : Int) := by omega
  have hln := hk.locs
  clear h h1 h2 hlo hcl f0 hl en hk
  generalize t.locs.length = N at *
  go_enter Tryd.func30, Tryd.ntmps30
  go_wp2_with fail
  go_quiet (fail)
  go_wp2
  go_ret
  exact ⟨rfl, belDr (aset _ _) _⟩
set_option maxHeartbeats 1600000 in
theorem nameReg_any (b : Nat) (t : TestM) (i r : Nat) (hi : i < 100) (hr : r < 100) (w : World) :
    Calls Tryd.prog 30 #[.pointer (some ⟨b, 0, none⟩), .agg #[.int .i64 (i : Int), .int .i64 (r : Int)]] w fun e w' => e = .returned (.string (st (nameP t ((i : Int), (r : Int))))) ∧ Below w.heap.size w w' := by
  have en : nameP t ((i : Int), (r : Int)) = Lib.decDigits i ++ [58, 114] ++ Lib.decDigits r := by
    unfold nameP
    rw [if_neg (by show ¬ ((i : Int) = -1); omega)]
    simp
  rw [en]
  have c1 := fun W => itoaSmall_any i hi W
  have c2 := fun W => itoaSmall_any r hr W
  have ha : st (Lib.decDigits i) ++ (⟨#[58, 114]⟩ : ByteArray) = st (Lib.decDigits i ++ [58, 114]) := st_app _ [58, 114]
  have hb := st_app (Lib.decDigits i ++ [58, 114]) (Lib.decDigits r)
  have d2 : ∀ n : Fin 100, (Lib.decDigits n.val).length ≤ 2 := by decide +kernel
  have z1 : (st (Lib.decDigits i)).size ≤ 2 := by rw [st_size]; exact d2 ⟨i, hi⟩
  have z2 : (st (Lib.decDigits r)).size ≤ 2 := by rw [st_size]; exact d2 ⟨r, hr⟩
  have z3 : (st (Lib.decDigits i) ++ (⟨#[58, 114]⟩ : ByteArray)).size ≤ 4 := by
    rw [ha, st_size, List.length_append]
    have : (Lib.decDigits i).length ≤ 2 := d2 ⟨i, hi⟩
    simp only [List.length_cons, List.length_nil]
    omega
  have z4 : (⟨#[58, 114]⟩ : ByteArray).size = 2 := rfl
  clear d2
  rw [← hb, ← ha]
  generalize st (Lib.decDigits i) = S1 at *
  generalize st (Lib.decDigits r) = S2 at *
  have hq : ((i : Int) == -1) = false := by rw [beq_eq_false_iff_ne]; omega
  have C1 := Bx.mk c1; have C2 := Bx.mk c2
  clear c1 c2 en ha hb hi hr
  go_enter Tryd.func30, Tryd.ntmps30
  go_wp2_with fail
  go_quiet ((first
    | (go_at_call 49; exact Calls.quiet_of_same (C1.out _))
    | (go_at_call 49; exact Calls.quiet_of_same (C2.out _))))
  go_wp2
  go_ret
  exact ⟨rfl, belDr (aset _ _) _⟩
end Go.Proofs.YtnlcmdgjoikljaaDoor
