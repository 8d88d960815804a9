/- The laws of layer 1 (word): numbers and bytes; there and back; fields that are laid. -/
import Derived.Test.YtemghjjgmjhcnaaDoorWordN
namespace Go.Proofs.YtemghjjgmjhcnaaDoor
open Go.RowKit M

theorem nb_cases (n : Int) : (n = 1 ∧ nb n = 8) ∨ (n = 2 ∧ nb n = 16) ∨ (n = 4 ∧ nb n = 32) ∨ ((n == 1) = false ∧ (n == 2) = false ∧ (n == 4) = false ∧ nb n = 64) := by
  unfold nb
  by_cases h1 : n = 1
  · subst h1; exact .inl ⟨rfl, by simp⟩
  by_cases h2 : n = 2
  · subst h2; exact .inr (.inl ⟨rfl, by simp⟩)
  by_cases h4 : n = 4
  · subst h4; exact .inr (.inr (.inl ⟨rfl, by simp⟩))
  · exact .inr (.inr (.inr ⟨by simpa using h1, by simpa using h2, by simpa using h4, by rw [if_neg (by omega)]⟩))

theorem narrow_at (v : Nat) (n B : Int) (hB : nb n = B) (hv : v < 18446744073709551616) (w : World) :
    Calls Tryd.prog 36 #[.int .u64 v, .int .i64 n] w fun e w' => e = .returned (.tuple #[.int .u64 ((v % 2 ^ cl B : Nat) : Int), .int .i64 (sgn (cl1 B) v)]) ∧ w = w' := by
  have h := wordNarrow_any v n hv w
  rwa [hB] at h

set_option maxRecDepth 100000 in
set_option maxHeartbeats 2000000 in
theorem wordBytes_walk (v : Nat) (s : ByteArray) (n : Int) (hv : v < 18446744073709551616) (w : World) (hT : Tab64 w) :
    Calls Tryd.prog 5 #[.int .u64 v, .string s, .int .i64 n] w fun e w' => e = .returned (.bool true) ∧ Below w.heap.size w w' := by
  have HT := Box.mk hT; clear hT
  obtain ⟨z, hz⟩ : ∃ z, z = wrap64 (v : Int) := ⟨_, rfl⟩
  have z1 : -9223372036854775808 ≤ z := by rw [hz]; unfold wrap64; omega
  have z2 : z ≤ 9223372036854775807 := by rw [hz]; unfold wrap64; omega
  have r1 : wrap64 (v : Int) = z := hz.symm
  clear hz
  have hcut : (s.extract 0 20).size ≤ 9223372036854775807 := by simp; omega
  have HCUT := Box.mk hcut; clear hcut
  rcases nb_cases n with ⟨rfl, hB⟩ | ⟨rfl, hB⟩ | ⟨rfl, hB⟩ | ⟨n1, n2, n4, hB⟩
  all_goals
    have HB := Box.mk hB; clear hB
    go_enter Tryd.func5, Tryd.ntmps5
    go_wp2_with (first
      | (go_at_call 35; refine (cut_any s 20 _).mono ?_; rintro e w' ⟨rfl, rfl⟩)
      | (go_at_call 36; refine (narrow_at v _ _ HB.out hv _).mono ?_; rintro e w' ⟨rfl, rfl⟩)
      | (go_at_call 12; refine (awake1_any _ HT.out).mono ?_; rintro e w' ⟨rfl, rfl⟩)
      | (go_at_call 37; refine (wordBytes_any v _ _).mono ?_; rintro e w1 ⟨rfl, b1⟩)
      | (go_at_call 38; refine (refBytes_any v _ hv _).mono ?_; rintro e w2 ⟨rfl, b2⟩)
      | (go_at_call 39; refine (wordNumber_any _ HCUT.out _).mono ?_; rintro e w' ⟨rfl, rfl⟩)
      | (go_at_call 40; refine (refNumber_any _ HCUT.out _).mono ?_; rintro e w' ⟨rfl, rfl⟩)
      | (go_at_call 41; refine (wordSwap_any v hv _).mono ?_; rintro e w' ⟨rfl, rfl⟩)
      | (go_at_call 42; refine (refSwap_any v hv _).mono ?_; rintro e w3 ⟨rfl, b3⟩)
      | (go_at_call 14; refine (refLow_any v _ hv _).mono ?_; rintro e w4 ⟨rfl, b4⟩)
      | (go_at_call 16; refine (refSigned_any v _ hv _).mono ?_; rintro e w5 ⟨rfl, b5⟩)
      | (go_at_call 43; refine (wordFold_any z z1 z2 _).mono ?_; rintro e w' ⟨rfl, rfl⟩)
      | (go_at_call 44; refine (refFold_any z z1 z2 _).mono ?_; rintro e w' ⟨rfl, rfl⟩))
    go_ret
    exact ⟨rfl, bch (bch (bch (bch b1 b2) b3) b4) b5⟩
end Go.Proofs.YtemghjjgmjhcnaaDoor
