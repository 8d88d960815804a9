/- Contracts of word and its reference: bytes and numbers. -/
import Derived.Test.YtdhbeeeofaheeaaDoorWordE
namespace Go.Proofs.YtdhbeeeofaheeaaDoor
set_option maxRecDepth 100000
open Go.RowKit M

theorem bytesN_succ (k v : Nat) : bytesN (k + 1) v = bytesN k v ++ [byt v k] := by simp [bytesN, List.range_succ]
theorem byt_eq (v j : Nat) : byt v j = v / 256 ^ j % 256 := by
  unfold byt
  rw [Nat.pow_mul]
theorem div256 (v j : Nat) : v / 256 ^ j / 256 = v / 256 ^ (j + 1) := by rw [Nat.div_div_eq_div_mul, Nat.pow_succ]

theorem conv_one (w : World) (b : Nat) : (convert 38 9 (.slice (some ⟨w.heap.size, 0, none⟩) 1 1)).run Tryd.prog (w.alloc (.cells #[.int .u8 (b : Int)] 5)) = .ok (.string (bs [b])) (w.alloc (.cells #[.int .u8 (b : Int)] 5)) := by
  refine run_convert_bytes_arg (P := Tryd.prog) _ 38 5 Tryd.underlying38 Tryd.underlying5 w.heap.size 0 1 1 [(b : Int)] rfl (fun i hi => ?_) 9 Tryd.underlying9
  obtain rfl : i = 0 := by omega
  have h := cell_one_new w (.int .u8 (b : Int)) 5 0 _ rfl
  exact h

theorem bs_append (l m : List Nat) : bs l ++ bs m = bs (l ++ m) := by
  apply ByteArray.ext
  simp [bs, strOfNums]
theorem bs_size (l : List Nat) : (bs l).size = l.length := by simp [bs, strOfNums_size]

theorem cl8_max {n : Int} {j : Nat} (hj : j ≤ 8) (hjn : (j : Int) ≤ max n 0) (h : ¬ ((j : Int) < n) ∨ ¬ j < 8) : cl8 n = j := by
  rcases cl8_cases n with ⟨h1, e⟩ | ⟨h1, e⟩ | ⟨k, h1, hk, e⟩ <;> omega

set_option maxHeartbeats 800000 in
theorem refBytes_any (v : Nat) (n : Int) (hv : v < 18446744073709551616) (w : World) :
    Calls Tryd.prog 83 #[.int .u64 v, .int .i64 n] w fun e w' => e = .returned (.string (bs (bytesN (cl8 n) v))) ∧ Below w.heap.size w w' := by
  go_enter Tryd.func83, Tryd.ntmps83
  go_wp2_with fail
  go_loopw [0, 5, 6] (fun x s i wr => ∃ j : Nat, j ≤ 8 ∧ (j : Int) ≤ max n 0 ∧ i = .int .i64 j ∧ x = .int .u64 ((v / 256 ^ j : Nat) : Int) ∧ s = .string (bs (bytesN j v)) ∧ Below w.heap.size w wr) (fun _ _ i _ => 8 - (intOf i).toNat)
  case atStart => exact ⟨0, by omega, by omega, rfl, by simp, rfl, Below.refl _ _⟩
  case round =>
    obtain ⟨j, hj, hjn, rfl, rfl, rfl, hb⟩ := hrel
    have hq : v / 256 ^ j < 18446744073709551616 := Nat.lt_of_le_of_lt (Nat.div_le_self _ _) hv
    have hbt := byt_eq v j
    have hdv := div256 v j
    generalize v / 256 ^ j = q at *
    by_cases h1 : (j : Int) < n
    · by_cases h2 : j < 8
      · have hw : IntKind.u8.wrap ((q : Int) % 256) = ((byt v j : Nat) : Int) := by rw [IntKind.wrap_u8']; omega
        obtain ⟨b, hbb⟩ : ∃ b, b = byt v j := ⟨_, rfl⟩
        rw [← hbb] at hw
        have HBB := Box.mk hbb; clear hbb
        have hconv := conv_one wr b
        have HB := Box.mk hbt; clear hbt
        have HD := Box.mk hdv; clear hdv
        have hjn2 := Box.mk hjn; clear hjn
        have s1 : (bs (bytesN j v)).size ≤ 8 := by rw [bs_size]; simp [bytesN]; omega
        have s2 : (bs [b]).size ≤ 1 := by rw [bs_size]; simp
        have d1 : decide ((j : Int) < n) = true := by simpa using h1
        go_wp2
        go_roundw
        case rel => exact ⟨j + 1, by omega, by omega, by go_num, by rw [← HD.out]; go_num, by rw [bs_append, bytesN_succ, HBB.out], hb.alloc hb.size _⟩
        case measure => simp [intOf]; omega
      · obtain rfl : j = 8 := by omega
        have e := cl8_max hj hjn (.inr h2)
        have E := Box.mk e
        clear e hjn
        go_wp2
        go_ret
        exact ⟨by rw [E.out]; rfl, hb⟩
    · have e := cl8_max hj hjn (.inl h1)
      have E := Box.mk e
      clear e hjn
      have d1 : decide ((j : Int) < n) = false := by simpa using h1
      go_wp2
      go_ret
      exact ⟨by rw [E.out]; rfl, hb⟩
end Go.Proofs.YtdhbeeeofaheeaaDoor
