/- The laws of layer 2 (crc): sums, joined sums. -/
import Derived.Test.YtemghjjgmjhcnaaDoorCrcB
namespace Go.Proofs.YtemghjjgmjhcnaaDoor
open Go.RowKit M

theorem cut_size (s : ByteArray) (n : Nat) : (s.extract 0 n).size ≤ n := by simp; omega

set_option maxRecDepth 100000 in
set_option maxHeartbeats 1000000 in
theorem crcSums_walk (s : ByteArray) (sum : Nat) (n : Int) (hsum : sum < 4294967296) (hn : n ≤ 9223372036854775807) (w : World) (hH : Halves w) :
    Calls Tryd.prog 8 #[.string s, .int .u32 sum, .int .i64 n] w fun e w' => e = .returned (.bool true) ∧ Below w.heap.size w w' := by
  have HH := Box.mk hH; clear hH
  obtain ⟨t, ht⟩ : ∃ t, t = s.extract 0 600 := ⟨_, rfl⟩
  have hts : t.size ≤ 9223372036854775807 := by rw [ht]; have := cut_size s 600; omega
  have c0 : ∀ w, Calls Tryd.prog 35 #[.string s, .int .i64 600] w fun e w' => e = .returned (.string t) ∧ w = w' := fun w => by
    have h := cut_any s 600 w
    rw [← ht] at h; exact h
  have c1 : ∀ w, Calls Tryd.prog 48 #[.int .u32 0, .string t] w fun e w' => e = .returned (.int .u32 (more 0 (sb t) : Nat)) ∧ Below w.heap.size w w' := fun w => refMore_any 0 t (by omega) hts w
  have c2 : ∀ w, Calls Tryd.prog 48 #[.int .u32 sum, .string t] w fun e w' => e = .returned (.int .u32 (more sum (sb t) : Nat)) ∧ Below w.heap.size w w' := fun w => refMore_any sum t hsum hts w
  have C0 := Box.mk c0
  have C1 := Box.mk c1
  have C2 := Box.mk c2
  clear c0 c1 c2 ht
  rcases (by omega : 300 < n ∨ n ≤ 300) with h | h
  all_goals
    go_enter Tryd.func8, Tryd.ntmps8
    go_wp2_with (first
      | (go_at_call 35; refine (C0.out _).mono ?_; rintro e w' ⟨rfl, rfl⟩)
      | (go_at_call 46; refine (awake2_any _ HH.out).mono ?_; rintro e w' ⟨rfl, rfl⟩)
      | (go_at_call 47; refine (crcOf_any t hts _ HH.out).mono ?_; unfold ofN; rintro e w' ⟨rfl, rfl⟩)
      | (go_at_call 48; ((with_reducible refine (C1.out _).mono ?_); rintro e w1 ⟨rfl, b1⟩))
      | (go_at_call 49; refine (crcMore_any sum t hsum hts _ (halves_below HH.out b1)).mono ?_; rintro e w' ⟨rfl, rfl⟩)
      | (go_at_call 48; ((with_reducible refine (C2.out _).mono ?_); rintro e w2 ⟨rfl, b2⟩))
      | (go_at_call 50; refine (crcPass_any sum _ hsum (by omega) _).mono ?_; rintro e w' ⟨rfl, rfl⟩)
      | (go_at_call 51; refine (refPass_any sum _ hsum (by omega) _).mono ?_; rintro e w' ⟨rfl, rfl⟩))
    go_ret
    exact ⟨rfl, bch b1 b2⟩

theorem compl_compl {x : Nat} (h : x < 4294967296) : 4294967295 - (4294967295 - x) = x := by omega
theorem more_append (sum : Nat) (l m : List Nat) (hl : ∀ d ∈ l, d < 2 ^ 8) : more (more sum l) m = more sum (l ++ m) := by
  have h := crcF_lt (show 4294967295 - sum < 4294967296 by omega) l hl
  unfold more
  rw [compl_compl h, crcF_append _ _ _ hl]
theorem join_math (l m : List Nat) (hl : ∀ d ∈ l, d < 2 ^ 8) (hm : ∀ d ∈ m, d < 2 ^ 8) : sti (8 * m.length) (ofN l) ^^^ ofN m = ofN (l ++ m) := by
  have h1 := crcF_lt (show 4294967295 < 4294967296 by omega) l hl
  have h2 := crcF_lt (show 4294967295 < 4294967296 by omega) m hm
  have h3 := crcF_lt (show 4294967295 < 4294967296 by omega) (l ++ m) (fun d hd => by rcases List.mem_append.1 hd with h | h; exact hl d h; exact hm d h)
  unfold ofN more
  simp only [Nat.sub_zero]
  rw [compl32 h3, compl32 h2, compl32 h1, crcF_append _ _ _ hl]
  have e : crcF 4294967295 l = 4294967295 ^^^ (crcF 4294967295 l ^^^ 4294967295) := by
    rw [Nat.xor_comm 4294967295, Nat.xor_assoc, Nat.xor_self, Nat.xor_zero]
  conv => rhs; rw [e]
  rw [crcF_xor, ← Nat.xor_assoc, Nat.xor_comm (sti _ _)]

theorem sb_append (s t : ByteArray) : sb (s ++ t) = sb s ++ sb t := by
  apply List.ext_getElem
  · simp [sb, bnl_length]
  · intro i h1 h2
    simp only [sb, bnl_length] at h1
    have hs : i < (s ++ t).size := h1
    rw [List.getElem_append]
    split
    · rename_i h
      simp only [sb, bnl_length] at h
      simp only [sb, bnl, List.getElem_map, List.getElem_range]
      rw [← bn_of hs, ← bn_of h, ByteArray.getElem_append_left h]
    · rename_i h
      simp only [sb, bnl_length] at h
      simp only [sb, bnl, List.getElem_map, List.getElem_range, List.length_map, List.length_range]
      have ht : i - s.size < t.size := by simp at hs; omega
      rw [← bn_of hs, ← bn_of ht, ByteArray.getElem_append_right (by omega)]

set_option maxRecDepth 100000 in
set_option maxHeartbeats 1000000 in
theorem crcJoins_walk (s0 t0 : ByteArray) (w : World) (hH : Halves w) :
    Calls Tryd.prog 9 #[.string s0, .string t0] w fun e w' => e = .returned (.bool true) ∧ Below w.heap.size w w' := by
  have HH := Box.mk hH; clear hH
  obtain ⟨s, hs⟩ : ∃ t, t = s0.extract 0 600 := ⟨_, rfl⟩
  obtain ⟨t, ht⟩ : ∃ t, t = t0.extract 0 600 := ⟨_, rfl⟩
  have hss : s.size ≤ 600 := by rw [hs]; exact cut_size s0 600
  have hts : t.size ≤ 600 := by rw [ht]; exact cut_size t0 600
  have c0 : ∀ w, Calls Tryd.prog 35 #[.string s0, .int .i64 600] w fun e w' => e = .returned (.string s) ∧ w = w' := fun w => by
    have h := cut_any s0 600 w
    rw [← hs] at h; exact h
  have c1 : ∀ w, Calls Tryd.prog 35 #[.string t0, .int .i64 600] w fun e w' => e = .returned (.string t) ∧ w = w' := fun w => by
    have h := cut_any t0 600 w
    rw [← ht] at h; exact h
  have c2 := crcOf_any (s ++ t) (by simp; omega) w HH.out
  have c3 := crcOf_any s (by omega) w HH.out
  have c4 := crcOf_any t (by omega) w HH.out
  have hj := join_math (sb s) (sb t) (sb_lt s) (sb_lt t)
  have hm := more_append 0 (sb s) (sb t) (sb_lt s)
  rw [← sb_append] at hj hm
  rw [sb_length] at hj
  have hl1 : ofN (sb s) < 4294967296 := more_lt _ _
  have hl2 : ofN (sb t) < 4294967296 := more_lt _ _
  have c5 : ∀ w, Calls Tryd.prog 52 #[.int .u32 (ofN (sb s) : Nat), .int .u32 (ofN (sb t) : Nat), .int .i64 (t.size : Nat)] w fun e w' => e = .returned (.int .u32 (ofN (sb (s ++ t)) : Nat)) ∧ w = w' := fun w => by
    have h := crcJoin_any (ofN (sb s)) (ofN (sb t)) (t.size : Nat) hl1 hl2 (by omega) w
    rw [Int.toNat_natCast, hj] at h; exact h
  have c6 := crcMore_any (ofN (sb s)) t hl1 (by omega) w HH.out
  have e6 : more (ofN (sb s)) (sb t) = ofN (sb (s ++ t)) := hm
  rw [e6] at c6
  clear hj hm e6
  generalize ofN (sb (s ++ t)) = X at *
  generalize ofN (sb s) = A at *
  generalize ofN (sb t) = B at *
  have C0 := Box.mk c0
  have C1 := Box.mk c1
  have C2 := Box.mk c2
  have C3 := Box.mk c3
  have C4 := Box.mk c4
  have C5 := Box.mk c5
  have C6 := Box.mk c6
  clear c0 c1 c2 c3 c4 c5 c6 hs ht
  go_enter Tryd.func9, Tryd.ntmps9
  go_wp2_with (first
    | (go_at_call 35; ((with_reducible refine (C0.out _).mono ?_); rintro e w' ⟨rfl, rfl⟩))
    | (go_at_call 35; ((with_reducible refine (C1.out _).mono ?_); rintro e w' ⟨rfl, rfl⟩))
    | (go_at_call 46; refine (awake2_any _ HH.out).mono ?_; rintro e w' ⟨rfl, rfl⟩)
    | (go_at_call 47; ((with_reducible refine (C2.out).mono ?_); rintro e w' ⟨rfl, rfl⟩))
    | (go_at_call 47; ((with_reducible refine (C3.out).mono ?_); rintro e w' ⟨rfl, rfl⟩))
    | (go_at_call 47; ((with_reducible refine (C4.out).mono ?_); rintro e w' ⟨rfl, rfl⟩))
    | (go_at_call 52; ((with_reducible refine (C5.out _).mono ?_); rintro e w' ⟨rfl, rfl⟩))
    | (go_at_call 49; ((with_reducible refine (C6.out).mono ?_); rintro e w' ⟨rfl, rfl⟩)))
  go_ret
  exact ⟨rfl, Below.refl _ _⟩
end Go.Proofs.YtemghjjgmjhcnaaDoor
