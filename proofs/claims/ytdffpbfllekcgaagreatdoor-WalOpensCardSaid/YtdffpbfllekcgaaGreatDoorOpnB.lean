/- Contracts of wal: the number of a name that is no log's file; Next. -/
import Derived.Test.YtdffpbfllekcgaaGreatDoorHz
import Derived.Test.YtdffpbfllekcgaaGreatDoorOpnA
import Derived.Test.YtdffpbfllekcgaaGreatDoorHx
namespace Go.Proofs.YtdffpbfllekcgaaGreatDoor
set_option maxRecDepth 100000
open Go.ChangeShapes Go.WideShapes Go.RowKit Go.Maps Go.Sort M

theorem toList_ne {a b : ByteArray} (h : a ≠ b) : (a.toList == b.toList) = false := by
  rw [beq_eq_false_iff_ne]
  intro e
  apply h
  rw [ByteArray.toList_eq, ByteArray.toList_eq] at e
  exact ByteArray.ext (Array.toList_inj.1 e)

set_option maxHeartbeats 1000000 in
theorem wnumber_not (x : ByteArray) (hs : x.size ≤ 1000) (hx : ∀ q, ¬ IsLog x q) (w : World) (hL : LibW w) :
    Calls Tryz.prog 26 #[.string x] w fun e w' => (∃ v : Nat, e = .returned (.tuple #[.int .u64 (v : Int), .bool false])) ∧ Below w.heap.size w w' := by
  have cp : ∀ W, Calls Tryz.prog 42 #[.string x, .string ⟨#[119, 97, 108, 45]⟩] W fun e w' => e = .returned (.tuple #[.string (st (Lib.trimPrefix (by' x) [119, 97, 108, 45])), .bool (Lib.hasPrefix (by' x) [119, 97, 108, 45])]) ∧ w' = W := fun W => Tryz.strings_CutPrefix x ⟨#[119, 97, 108, 45]⟩ W
  have hd : (st (Lib.trimPrefix (by' x) [119, 97, 108, 45])).size ≤ 1000000 := by
    rw [st_size]
    unfold Lib.trimPrefix
    split
    · rw [List.length_drop, by_size]; omega
    · rw [by_size]; omega
  generalize st (Lib.trimPrefix (by' x) [119, 97, 108, 45]) = D at *
  generalize Lib.hasPrefix (by' x) [119, 97, 108, 45] = H at *
  have cu := fun W hW => parse_any 16 (.inr rfl) D hd W hW
  have hlt := puX_lt 16 (by' D)
  have HL := Box.mk hL
  by_cases h0 : (puX 16 (by' D)).1 = 0
  · have hv : ∀ X, ErrV (puX 16 (by' D)) X → X = .nilIface := fun X h => by unfold ErrV at h; rw [if_pos h0] at h; exact h
    generalize puX 16 (by' D) = R at *
    have cn := fun W => name_any R.2 hlt W
    have e1 : ((nameM R.2).toList == x.toList) = false := toList_ne (fun e => hx R.2 ⟨hlt, e.symm⟩)
    generalize nameM R.2 = N at *
    generalize R.2 = V at *
    have CP := Box.mk cp; have CU := Box.mk cu; have CN := Box.mk cn; have HV := Box.mk hv
    clear cp cu cn hL hx hs hd hlt hv h0
    go_enter Tryz.func26, Tryz.ntmps26
    go_wp2_with (first
      | (go_at_call 42; ((with_reducible refine (CP.out _).mono ?_); rintro e w1 ⟨rfl, rfl⟩))
      | (go_at_call 43; ((refine (CU.out _ HL.out).mono ?_); rintro e w2 ⟨⟨X, rfl, hX⟩, b2⟩; obtain rfl := HV.out X hX; have B2 := Box.mk b2; clear b2))
      | (go_at_call 18; ((with_reducible refine (CN.out _).mono ?_); rintro e w3 ⟨rfl, b3⟩; have B3 := Box.mk (B2.out.trans (b3.mono B2.out.size)); clear b3)))
    go_ret2
    exact ⟨⟨_, rfl⟩, B3.out⟩
  · have hv : ∀ X, ErrV (puX 16 (by' D)) X → ∃ N, X = .iface 146 (.pointer (some ⟨N, 0, none⟩)) := fun X h => by unfold ErrV at h; rw [if_neg h0] at h; exact h
    generalize puX 16 (by' D) = R at *
    generalize R.2 = V at *
    have CP := Box.mk cp; have CU := Box.mk cu; have HV := Box.mk hv
    clear cp cu hL hx hs hd hlt hv h0
    go_enter Tryz.func26, Tryz.ntmps26
    go_wp2_with (first
      | (go_at_call 42; ((with_reducible refine (CP.out _).mono ?_); rintro e w1 ⟨rfl, rfl⟩))
      | (go_at_call 43; ((refine (CU.out _ HL.out).mono ?_); rintro e w2 ⟨⟨X, rfl, hX⟩, b2⟩; obtain ⟨N, rfl⟩ := HV.out X hX; have B2 := Box.mk b2; clear b2)))
    go_ret2
    exact ⟨⟨_, rfl⟩, B2.out⟩
/-- the number of any name -/
theorem wnumber_all (x : ByteArray) (hs : x.size ≤ 1000) (w : World) (hL : LibW w) :
    Calls Tryz.prog 26 #[.string x] w fun e w' => (∃ v : Nat, e = .returned (.tuple #[.int .u64 (v : Int), .bool (logN x).isSome]) ∧ (∀ q, logN x = some q → v = q)) ∧ Below w.heap.size w w' := by
  cases h : logN x with
  | some q =>
    obtain ⟨h1, h2⟩ := logN_is h
    rw [h2]
    exact (wnumber_any q h1 w hL).mono fun e w' ⟨he, hb⟩ => ⟨⟨q, he, fun p hp => Option.some.inj hp⟩, hb⟩
  | none => exact (wnumber_not x hs (logN_not h) w hL).mono fun e w' ⟨⟨v, he⟩, hb⟩ => ⟨⟨v, he, fun p hp => nomatch hp⟩, hb⟩
end Go.Proofs.YtdffpbfllekcgaaGreatDoor
