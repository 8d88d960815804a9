/- WordD, WordE, WordF, WordG, WordH, WordI, in one text. -/
import Derived.Test.YtdffpbfllekcgaaGreatDoorHa
import Derived.Lib.LaidTab
import Derived.Lib.ConvBytes
namespace Go.Proofs.YtdffpbfllekcgaaGreatDoor
set_option maxRecDepth 100000
open Go.RowKit M

/-- the table of math/bits lies in its cells -/
def Tab64 (w : World) : Prop := ∀ t, t < 64 → w.cell? ⟨5, t, none⟩ = some (.int .u8 ((deBruijn.getD t 0 : Nat) : Int))

theorem and_int {a b : Nat} (ha : a < 18446744073709551616) (hb : b < 18446744073709551616) {x : Int} {y : Int} (hx : x = a) (hy : y = b) : bits BinOp.and IntKind.u64 x y = ((a &&& b : Nat) : Int) := by
  rw [hx, hy]; exact u64_and_nat _ _ ha hb

theorem and127 {a : Nat} (ha : a < 9223372036854775808) : bits BinOp.and IntKind.i64 (a : Int) 127 = ((a % 128 : Nat) : Int) := by
  show IntKind.i64.wrap ((BitVec.ofInt 64 (a : Int) &&& BitVec.ofInt 64 127).toNat : Int) = _
  rw [BitVec.toNat_and, ofInt_u64 a (by omega), show (BitVec.ofInt 64 127).toNat = 127 by decide, nat_mask7, IntKind.wrap_i64]
  omega

set_option maxHeartbeats 400000 in
theorem zeros_any (v : Nat) (hv : v < 18446744073709551616) (w : World) (hT : v ≠ 0 → Tab64 w) :
    Calls Tryz.prog 146 #[.int .u64 v] w fun e w' => e = .returned (.int .i64 ((ctz v : Nat) : Int)) ∧ w = w' := by
  rcases Nat.eq_zero_or_pos v with rfl | h0
  · rw [ctz_zero]
    clear hT
    go_enter Tryz.func146, Tryz.ntmps146
    go_wp2
    go_ret
    exact ⟨rfl, rfl⟩
  · obtain ⟨p, m, j, e1, e2, e3, b1, b2, b3, hd, b4⟩ := zeros_math v hv h0
    have hcell := hT (by omega) j b3
    rw [hd] at hcell
    clear hT hd
    obtain ⟨nv, hnv⟩ : ∃ nv, nv = 18446744073709551616 - v := ⟨_, rfl⟩
    have r1 : IntKind.u64.wrap (-(v : Int)) = (nv : Int) := by rw [IntKind.wrap_u64]; omega
    have r2 : bits BinOp.and IntKind.u64 (v : Int) (nv : Int) = (p : Int) := by rw [e1, ← hnv]; exact u64_and_nat _ _ hv (by omega)
    have r3 : IntKind.u64.wrap ((p : Int) * 285870213051353865) = (m : Int) := by rw [e2, ← u64w]; congr 1
    have r4 : (m : Int) / 288230376151711744 = (j : Int) := by omega
    have hz : ((v : Int) == 0) = false := by simp; omega
    generalize ctz v = t at *
    clear e1 e2 e3 hnv
    go_enter Tryz.func146, Tryz.ntmps146
    go_wp2
    go_ret
    exact ⟨rfl, rfl⟩

theorem sum_take_succ (l : List Nat) (k : Nat) (h : k < l.length) : (l.take (k + 1)).sum = (l.take k).sum + l.getD k 0 := by
  have e : l.getD k 0 = l[k] := by simp [List.getD, h]
  rw [List.take_succ_eq_append_getElem h, List.sum_append, e]; simp

theorem sum_take_le (l : List Nat) (h : ∀ b ∈ l, b ≤ 1) (k : Nat) : (l.take k).sum ≤ k := by
  induction k generalizing l with
  | zero => simp
  | succ k ih =>
    cases l with
    | nil => simp
    | cons b l =>
      have h1 := h b (by simp)
      have h2 := ih l (fun c hc => h c (by simp [hc]))
      simp; omega

theorem ctz_eq {v k : Nat} (hk : k < 64) (h1 : (bl 64 v).getD k 0 = 1) (h2 : ∀ i, i < k → (bl 64 v).getD i 0 ≠ 1) : ctz v = k := findIdx_of (by rw [bl_length]; exact hk) h1 h2
def NoOne (v k : Nat) : Prop := ∀ i, i < k → (bl 64 v).getD i 0 ≠ 1
theorem ctz_none {v : Nat} (h2 : ∀ i, i < 64 → (bl 64 v).getD i 0 ≠ 1) : ctz v = 64 := by
  unfold ctz
  rw [List.findIdx_eq_length_of_false]
  · exact bl_length 64 v
  · intro x hx
    obtain ⟨i, hi, rfl⟩ := List.getElem_of_mem hx
    rw [bl_length] at hi
    have := h2 i hi
    simp [List.getD, bl_length, hi] at this
    simpa using this

end Go.Proofs.YtdffpbfllekcgaaGreatDoor
namespace Go.Proofs.YtdffpbfllekcgaaGreatDoor
set_option maxRecDepth 100000
open Go.RowKit M

theorem info_byte : (Tryz.prog.info? 5).map (fun i => (i.zero, i.size, i.bytes)) = some (some (.int .u8 0), 1, 1) := by kernel_rfl

/-- the string of a list of bytes -/
def bs (l : List Nat) : ByteArray := strOfNums (l.map fun n => ((n : Nat) : Int))
/-- byte i of v -/
def byt (v i : Nat) : Nat := v / 2 ^ (8 * i) % 256
/-- the cells of a list of bytes -/
def byts (l : List Nat) : List Value := l.map fun n => .int .u8 ((n : Nat) : Int)
/-- the first j bytes of v, and zeros, k in all -/
def byl (k v j : Nat) : List Nat := (List.range k).map fun i => if i < j then byt v i else 0

theorem byl_length (k v j : Nat) : (byl k v j).length = k := by simp [byl]
theorem byts_length (l : List Nat) : (byts l).length = l.length := by simp [byts]
theorem byl_zero (k v : Nat) : byts (byl k v 0) = List.replicate k (.int .u8 0) := by
  apply List.ext_getElem
  · simp [byts, byl]
  · intro i h1 h2; simp [byts, byl]
theorem byl_set (k v j : Nat) : (byts (byl k v j)).set j (.int .u8 ((byt v j : Nat) : Int)) = byts (byl k v (j + 1)) := by
  apply List.ext_getElem
  · simp [byts, byl]
  · intro i h1 h2
    simp only [List.length_set, byts_length, byl_length] at h1
    rw [List.getElem_set]
    by_cases h : j = i
    · subst h; simp [byts, byl]
    · rw [if_neg h]
      simp only [byts, byl, List.getElem_map, List.getElem_range]
      by_cases h3 : i < j
      · rw [if_pos h3, if_pos (by omega)]
      · rw [if_neg h3, if_neg (by omega)]
theorem byl_full (k v : Nat) : byl k v k = (List.range k).map (byt v) := by
  apply List.map_congr_left
  intro i hi
  simp at hi
  simp [hi]

/-- the lowest k bytes of v -/
def bytesN (k v : Nat) : List Nat := (List.range k).map (byt v)

/-- limited to 0 to 8 -/
def cl8 (n : Int) : Nat := if n < 0 then 0 else if 8 < n then 8 else n.toNat
theorem cl8_cases (n : Int) : (n < 0 ∧ cl8 n = 0) ∨ (8 < n ∧ cl8 n = 8) ∨ (∃ k : Nat, n = k ∧ k ≤ 8 ∧ cl8 n = k) := by
  unfold cl8
  by_cases h : n < 0
  · exact .inl ⟨h, by simp [h]⟩
  · by_cases h2 : 8 < n
    · exact .inr (.inl ⟨h2, by simp [h, h2]⟩)
    · exact .inr (.inr ⟨n.toNat, by omega, by omega, by simp [h, h2]⟩)

theorem u8w (a : Nat) : IntKind.u8.wrap (a : Int) = ((a % 256 : Nat) : Int) := by rw [IntKind.wrap_u8']; omega

/-- the string of bytes that are owned -/
theorem conv_bytes {w : World} {B g n cap : Nat} {l : List Nat} (h : w.ownsRow B 5 1 (.slice (some ⟨g, 0, none⟩) n cap) n (byts l)) :
    (convert 52 9 (.slice (some ⟨g, 0, none⟩) n cap)).run Tryz.prog w = .ok (.string (bs l)) w := by
  have hl : l.length = n := by have := h.1; simpa [byts] using this
  refine run_convert_bytes_arg (P := Tryz.prog) w 52 5 Tryz.underlying52 Tryz.underlying5 g 0 n cap (l.map fun n => ((n : Nat) : Int)) (by simp [hl]) (fun i hi => ?_) 9 Tryz.underlying9
  rw [Nat.zero_add, h.cellAt i (by omega)]
  simp [byts, List.getD, hl, hi]

set_option maxRecDepth 100000 in
set_option maxHeartbeats 800000 in
theorem wordBytes_any (v : Nat) (n : Int) (w : World) :
    Calls Tryz.prog 76 #[.int .u64 v, .int .i64 n] w fun e w' => e = .returned (.string (bs (bytesN (cl8 n) v))) ∧ Below w.heap.size w w' := by
  obtain ⟨i0, hi, hz0, hz1, hz2⟩ := info_parts info_byte
  have main : ∀ k : Nat, k ≤ 8 → ((n < 0 ∧ k = 0) ∨ (8 < n ∧ k = 8) ∨ n = k) →
      Calls Tryz.prog 76 #[.int .u64 v, .int .i64 n] w fun e w' => e = .returned (.string (bs (bytesN k v))) ∧ Below w.heap.size w w' := by
    intro k hk hcase
    rcases hcase with ⟨hn, rfl⟩ | ⟨hn, rfl⟩ | rfl
    · go_enter Tryz.func76, Tryz.ntmps76
      go_wp2_with (at_make; refine wpList_make_full _ rfl (.tmp 10) (.tmp 10) 52 rfl w.heap.size 5 i0 (.int .u8 0) 1 Tryz.underlying52 hi hz0 hz1 .i64 .i64 0 0 0 rfl rfl rfl rfl (by rw [hz2]; omega) (by unfold maxLen; omega) (Nat.le_refl _) ?_; intro w1 hown hg)
      have hown2 : w1.ownsRow w.heap.size 5 1 (.slice (some ⟨w.heap.size, 0, none⟩) 0 0) 0 (byts (byl 0 v 0)) := by
        rw [byl_zero]; have h := hown; rw [show (Value.int IntKind.u8 0).cells = #[.int .u8 0] from rfl, toList_madeCells_one, Nat.mul_one] at h; exact h
      have hb := (Below.refl w.heap.size w).grown hg (Nat.le_refl _) (fun k h => by cases h)
      clear hown hg
      go_loopw [6, 13] (fun _ i wr => ∃ j : Nat, j ≤ 0 ∧ i = .int .i64 j ∧ wr.ownsRow w.heap.size 5 1 (.slice (some ⟨w.heap.size, 0, none⟩) 0 0) 0 (byts (byl 0 v j)) ∧ Below w.heap.size w wr) (fun _ i _ => 8 - (intOf i).toNat)
      case atStart => exact ⟨0, by omega, rfl, hown2, hb⟩
      case round =>
        obtain ⟨j, hj, rfl, hown, hb⟩ := hrel
        by_cases hlt : j < 0
        · omega
        · obtain rfl : 0 = j := by omega
          rw [byl_full] at hown
          have hconv := conv_bytes hown
          go_wp2
          go_ret
          exact ⟨rfl, hb⟩
    · go_enter Tryz.func76, Tryz.ntmps76
      go_wp2_with (at_make; refine wpList_make_full _ rfl (.tmp 10) (.tmp 10) 52 rfl w.heap.size 5 i0 (.int .u8 0) 1 Tryz.underlying52 hi hz0 hz1 .i64 .i64 8 8 8 rfl rfl rfl rfl (by rw [hz2]; omega) (by unfold maxLen; omega) (Nat.le_refl _) ?_; intro w1 hown hg)
      have hown2 : w1.ownsRow w.heap.size 5 1 (.slice (some ⟨w.heap.size, 0, none⟩) 8 8) 8 (byts (byl 8 v 0)) := by
        rw [byl_zero]; have h := hown; rw [show (Value.int IntKind.u8 0).cells = #[.int .u8 0] from rfl, toList_madeCells_one, Nat.mul_one] at h; exact h
      have hb := (Below.refl w.heap.size w).grown hg (Nat.le_refl _) (fun k h => by cases h)
      clear hown hg
      go_loopw [6, 13] (fun _ i wr => ∃ j : Nat, j ≤ 8 ∧ i = .int .i64 j ∧ wr.ownsRow w.heap.size 5 1 (.slice (some ⟨w.heap.size, 0, none⟩) 8 8) 8 (byts (byl 8 v j)) ∧ Below w.heap.size w wr) (fun _ i _ => 8 - (intOf i).toNat)
      case atStart => exact ⟨0, by omega, rfl, hown2, hb⟩
      case round =>
        obtain ⟨j, hj, rfl, hown, hb⟩ := hrel
        by_cases hlt : j < 8
        · have hcell : wr.cell? ⟨w.heap.size, j, none⟩ = some (.int .u8 0) := by
            rw [hown.cellAt j (by omega)]; simp [byts, byl, hlt]
          have hfz : wr.frozen? ⟨w.heap.size, j, none⟩ = false := hown.frozenAt j
          have hst := hown.stored j (.int .u8 ((byt v j : Nat) : Int))
          rw [byl_set] at hst
          have HST := Box.mk hst; clear hst
          have hbt : (v : Int) / 2 ^ (8 * j) = ((v / 2 ^ (8 * j) : Nat) : Int) := by rw [ipow, ← Int.natCast_ediv]
          have hbt2 : IntKind.u8.wrap ((v / 2 ^ (8 * j) : Nat) : Int) = ((byt v j : Nat) : Int) := u8w _
          generalize v / 2 ^ (8 * j) = q at *
          generalize byt v j = b at *
          go_wp2
          go_roundw
          case rel => exact ⟨j + 1, by omega, by go_num, HST.out.1, hb.grown HST.out.2 hb.size (fun k h => by cases h; exact Nat.le_refl _)⟩
          case measure => simp [intOf]; omega
        · obtain rfl : 8 = j := by omega
          rw [byl_full] at hown
          have hconv := conv_bytes hown
          go_wp2
          go_ret
          exact ⟨rfl, hb⟩
    · go_enter Tryz.func76, Tryz.ntmps76
      go_wp2_with (at_make; refine wpList_make_full _ rfl (.tmp 10) (.tmp 10) 52 rfl w.heap.size 5 i0 (.int .u8 0) 1 Tryz.underlying52 hi hz0 hz1 .i64 .i64 (k : Int) (k : Int) k rfl rfl rfl rfl (by rw [hz2]; omega) (by unfold maxLen; omega) (Nat.le_refl _) ?_; intro w1 hown hg)
      have hown2 : w1.ownsRow w.heap.size 5 1 (.slice (some ⟨w.heap.size, 0, none⟩) k k) k (byts (byl k v 0)) := by
        rw [byl_zero]; have h := hown; rw [show (Value.int IntKind.u8 0).cells = #[.int .u8 0] from rfl, toList_madeCells_one, Nat.mul_one] at h; exact h
      have hb := (Below.refl w.heap.size w).grown hg (Nat.le_refl _) (fun k h => by cases h)
      clear hown hg
      go_loopw [6, 13] (fun _ i wr => ∃ j : Nat, j ≤ k ∧ i = .int .i64 j ∧ wr.ownsRow w.heap.size 5 1 (.slice (some ⟨w.heap.size, 0, none⟩) k k) k (byts (byl k v j)) ∧ Below w.heap.size w wr) (fun _ i _ => 8 - (intOf i).toNat)
      case atStart => exact ⟨0, by omega, rfl, hown2, hb⟩
      case round =>
        obtain ⟨j, hj, rfl, hown, hb⟩ := hrel
        by_cases hlt : j < k
        · have hcell : wr.cell? ⟨w.heap.size, j, none⟩ = some (.int .u8 0) := by
            rw [hown.cellAt j (by omega)]; simp [byts, byl, hlt]
          have hfz : wr.frozen? ⟨w.heap.size, j, none⟩ = false := hown.frozenAt j
          have hst := hown.stored j (.int .u8 ((byt v j : Nat) : Int))
          rw [byl_set] at hst
          have HST := Box.mk hst; clear hst
          have hbt : (v : Int) / 2 ^ (8 * j) = ((v / 2 ^ (8 * j) : Nat) : Int) := by rw [ipow, ← Int.natCast_ediv]
          have hbt2 : IntKind.u8.wrap ((v / 2 ^ (8 * j) : Nat) : Int) = ((byt v j : Nat) : Int) := u8w _
          generalize v / 2 ^ (8 * j) = q at *
          generalize byt v j = b at *
          go_wp2
          go_roundw
          case rel => exact ⟨j + 1, by omega, by go_num, HST.out.1, hb.grown HST.out.2 hb.size (fun k h => by cases h; exact Nat.le_refl _)⟩
          case measure => simp [intOf]; omega
        · obtain rfl : k = j := by omega
          rw [byl_full] at hown
          have hconv := conv_bytes hown
          go_wp2
          go_ret
          exact ⟨rfl, hb⟩
  rcases cl8_cases n with ⟨h, e⟩ | ⟨h, e⟩ | ⟨k, h, hk, e⟩
  · rw [e]; exact main 0 (by omega) (.inl ⟨h, rfl⟩)
  · rw [e]; exact main 8 (by omega) (.inr (.inl ⟨h, rfl⟩))
  · rw [e]; exact main k hk (.inr (.inr h))
end Go.Proofs.YtdffpbfllekcgaaGreatDoor
namespace Go.Proofs.YtdffpbfllekcgaaGreatDoor
set_option maxRecDepth 100000
open Go.RowKit M

theorem bytesN_succ (k v : Nat) : bytesN (k + 1) v = bytesN k v ++ [byt v k] := by simp [bytesN, List.range_succ]
theorem byt_eq (v j : Nat) : byt v j = v / 256 ^ j % 256 := by
  unfold byt
  rw [Nat.pow_mul]
theorem div256 (v j : Nat) : v / 256 ^ j / 256 = v / 256 ^ (j + 1) := by rw [Nat.div_div_eq_div_mul, Nat.pow_succ]

theorem conv_one (w : World) (b : Nat) : (convert 52 9 (.slice (some ⟨w.heap.size, 0, none⟩) 1 1)).run Tryz.prog (w.alloc (.cells #[.int .u8 (b : Int)] 5)) = .ok (.string (bs [b])) (w.alloc (.cells #[.int .u8 (b : Int)] 5)) := by
  refine run_convert_bytes_arg (P := Tryz.prog) _ 52 5 Tryz.underlying52 Tryz.underlying5 w.heap.size 0 1 1 [(b : Int)] rfl (fun i hi => ?_) 9 Tryz.underlying9
  obtain rfl : i = 0 := by omega
  have h := cell_one_new w (.int .u8 (b : Int)) 5 0 _ rfl
  exact h

theorem bs_append (l m : List Nat) : bs l ++ bs m = bs (l ++ m) := by
  apply ByteArray.ext
  simp [bs, strOfNums]
theorem bs_size (l : List Nat) : (bs l).size = l.length := by simp [bs, strOfNums_size]

theorem cl8_max {n : Int} {j : Nat} (hj : j ≤ 8) (hjn : (j : Int) ≤ max n 0) (h : ¬ ((j : Int) < n) ∨ ¬ j < 8) : cl8 n = j := by
  rcases cl8_cases n with ⟨h1, e⟩ | ⟨h1, e⟩ | ⟨k, h1, hk, e⟩ <;> omega

set_option maxHeartbeats 800000 in
theorem refBytes_any (v : Nat) (n : Int) (hv : v < 18446744073709551616) (w : World) :
    Calls Tryz.prog 119 #[.int .u64 v, .int .i64 n] w fun e w' => e = .returned (.string (bs (bytesN (cl8 n) v))) ∧ Below w.heap.size w w' := by
  go_enter Tryz.func119, Tryz.ntmps119
  go_wp2_with fail
  go_loopw [0, 5, 6] (fun x s i wr => ∃ j : Nat, j ≤ 8 ∧ (j : Int) ≤ max n 0 ∧ i = .int .i64 j ∧ x = .int .u64 ((v / 256 ^ j : Nat) : Int) ∧ s = .string (bs (bytesN j v)) ∧ Below w.heap.size w wr) (fun _ _ i _ => 8 - (intOf i).toNat)
  case atStart => exact ⟨0, by omega, by omega, rfl, by simp, rfl, Below.refl _ _⟩
  case round =>
    obtain ⟨j, hj, hjn, rfl, rfl, rfl, hb⟩ := hrel
    have hq : v / 256 ^ j < 18446744073709551616 := Nat.lt_of_le_of_lt (Nat.div_le_self _ _) hv
    have hbt := byt_eq v j
    have hdv := div256 v j
    generalize v / 256 ^ j = q at *
    by_cases h1 : (j : Int) < n
    · by_cases h2 : j < 8
      · have hw : IntKind.u8.wrap ((q : Int) % 256) = ((byt v j : Nat) : Int) := by rw [IntKind.wrap_u8']; omega
        obtain ⟨b, hbb⟩ : ∃ b, b = byt v j := ⟨_, rfl⟩
        rw [← hbb] at hw
        have HBB := Box.mk hbb; clear hbb
        have hconv := conv_one wr b
        have HB := Box.mk hbt; clear hbt
        have HD := Box.mk hdv; clear hdv
        have hjn2 := Box.mk hjn; clear hjn
        have s1 : (bs (bytesN j v)).size ≤ 8 := by rw [bs_size]; simp [bytesN]; omega
        have s2 : (bs [b]).size ≤ 1 := by rw [bs_size]; simp
        have d1 : decide ((j : Int) < n) = true := by simpa using h1
        go_wp2
        go_roundw
        case rel => exact ⟨j + 1, by omega, by omega, by go_num, by rw [← HD.out]; go_num, by rw [bs_append, bytesN_succ, HBB.out], hb.alloc hb.size _⟩
        case measure => simp [intOf]; omega
      · obtain rfl : j = 8 := by omega
        have e := cl8_max hj hjn (.inr h2)
        have E := Box.mk e
        clear e hjn
        go_wp2
        go_ret
        exact ⟨by rw [E.out]; rfl, hb⟩
    · have e := cl8_max hj hjn (.inl h1)
      have E := Box.mk e
      clear e hjn
      have d1 : decide ((j : Int) < n) = false := by simpa using h1
      go_wp2
      go_ret
      exact ⟨by rw [E.out]; rfl, hb⟩
end Go.Proofs.YtdffpbfllekcgaaGreatDoor
namespace Go.Proofs.YtdffpbfllekcgaaGreatDoor
set_option maxRecDepth 100000
open Go.RowKit M

/-- byte i of a string -/
def bn (s : ByteArray) (i : Nat) : Nat := if h : i < s.size then (s[i]'h).toNat else 0
theorem bn_of {s : ByteArray} {i : Nat} (h : i < s.size) : (s[i]'h).toNat = bn s i := by simp [bn, h]
theorem bn_le (s : ByteArray) (i : Nat) : bn s i ≤ 255 := by
  unfold bn
  split
  · have := UInt8.toNat_lt (s[i]'(by assumption)); omega
  · omega
/-- the first m bytes of a string -/
def bnl (s : ByteArray) (m : Nat) : List Nat := (List.range m).map (bn s)
theorem bnl_length (s : ByteArray) (m : Nat) : (bnl s m).length = m := by simp [bnl]
theorem bnl_getD (s : ByteArray) (m i : Nat) (h : i < m) : (bnl s m).getD i 0 = bn s i := by simp [bnl, List.getD, h]
theorem bnl_succ (s : ByteArray) (m : Nat) : bnl s (m + 1) = bnl s m ++ [bn s m] := by simp [bnl, List.range_succ]
theorem bnl_lt (s : ByteArray) (m : Nat) : ∀ d ∈ bnl s m, d < 2 ^ 8 := by
  intro d hd
  simp [bnl] at hd
  obtain ⟨i, _, rfl⟩ := hd
  have := bn_le s i
  omega
theorem num_append (k : Nat) (l m : List Nat) : num k (l ++ m) = num k l + 2 ^ (k * l.length) * num k m := by
  induction l with
  | nil => simp [num]
  | cons d l ih =>
    simp only [List.cons_append, num, ih, List.length_cons]
    rw [Nat.mul_add, Nat.add_assoc, ← Nat.mul_assoc, ← Nat.pow_add]
    rw [show k + k * l.length = k * (l.length + 1) by rw [Nat.mul_add]; omega]
/-- the number of the first 8 bytes -/
def numN (s : ByteArray) : Nat := num 8 (bnl s (min s.size 8))

theorem num_drop_lt (s : ByteArray) (m k : Nat) (hm : m ≤ 8) (hk : 1 ≤ k) : num 8 ((bnl s m).drop k) < 72057594037927936 := by
  have h1 := num_lt 8 ((bnl s m).drop k) (fun b hb => bnl_lt s m b (List.mem_of_mem_drop hb))
  have h2 : 2 ^ (8 * ((bnl s m).drop k).length) ≤ 2 ^ 56 := Nat.pow_le_pow_right (by decide) (by simp [bnl_length]; omega)
  have h3 : (2 : Nat) ^ 56 = 72057594037927936 := by decide
  omega



theorem num_step (s : ByteArray) (k : Nat) (hk : k < 8) (hks : k < s.size) :
    bits BinOp.or IntKind.u64 ((num 8 (bnl s k) : Nat) : Int) (IntKind.u64.wrap (((s[k]'hks).toNat : Int) * 2 ^ (8 * k))) = ((num 8 (bnl s (k + 1)) : Nat) : Int) := by
  have h1 := num_lt 8 (bnl s k) (bnl_lt s k)
  rw [bnl_length] at h1
  have hp : 2 ^ (8 * k) * 2 ^ 8 ≤ 2 ^ 64 := by rw [← Nat.pow_add]; exact Nat.pow_le_pow_right (by decide) (by omega)
  have hb := bn_le s k
  have hpos := pow_pos' (8 * k)
  have h2 : bn s k * 2 ^ (8 * k) + 2 ^ (8 * k) ≤ 2 ^ (8 * k) * 2 ^ 8 := by
    have : (bn s k + 1) * 2 ^ (8 * k) ≤ 2 ^ 8 * 2 ^ (8 * k) := Nat.mul_le_mul_right _ (by omega)
    rw [Nat.add_mul, Nat.one_mul, Nat.mul_comm (2 ^ 8)] at this
    exact this
  rw [bn_of hks, bnl_succ, num_append, bnl_length, ipow, ← Int.natCast_mul, u64small (by rw [p64] at hp; omega), u64_or_nat _ _ (by rw [p64] at hp; omega) (by rw [p64] at hp; omega)]
  rw [Nat.or_comm, nat_join (8 * k) _ _ (Nat.mul_mod_left _ _) h1]
  simp only [num, Nat.mul_zero, Nat.add_zero]
  rw [Nat.mul_comm (bn s k)]; omega

set_option maxHeartbeats 400000 in
theorem wordNumber_long (s : ByteArray) (hs : s.size ≤ 9223372036854775807) (hc : 8 < s.size) (w : World) :
    Calls Tryz.prog 105 #[.string s] w fun e w' => e = .returned (.int .u64 ((num 8 (bnl s 8) : Nat) : Int)) ∧ w = w' := by
  go_enter Tryz.func105, Tryz.ntmps105
  go_wp2_with fail
  go_loop [3, 4, 8] (fun x _ i => ∃ k : Nat, k ≤ 8 ∧ i = .int .i64 k ∧ x = .int .u64 ((num 8 (bnl s k) : Nat) : Int)) (fun _ _ i => 8 - (intOf i).toNat)
  case atStart => exact ⟨0, by omega, rfl, rfl⟩
  case round =>
    obtain ⟨k, hk, rfl, rfl⟩ := hrel
    by_cases hlt : k < 8
    · have hks : k < s.size := by omega
      have hm := num_step s k (by omega) hks
      have hle := bn_le s k
      rw [← bn_of hks] at hle
      have HM := Box.mk hm; clear hm
      generalize hx : num 8 (bnl s k) = x at *
      have HX := Box.mk hx; clear hx
      go_wp2
      go_round
      case rel => exact ⟨k + 1, by omega, by go_num, by rw [← HM.out]⟩
      case measure => simp [intOf]; omega
    · obtain rfl : 8 = k := by omega
      go_wp2
      go_ret
      exact ⟨rfl, rfl⟩

set_option maxHeartbeats 400000 in
theorem wordNumber_short (s : ByteArray) (hs : s.size ≤ 9223372036854775807) (hc : s.size ≤ 8) (w : World) :
    Calls Tryz.prog 105 #[.string s] w fun e w' => e = .returned (.int .u64 ((num 8 (bnl s s.size) : Nat) : Int)) ∧ w = w' := by
  go_enter Tryz.func105, Tryz.ntmps105
  go_wp2_with fail
  go_loop [3, 4, 8] (fun x _ i => ∃ k : Nat, k ≤ s.size ∧ i = .int .i64 k ∧ x = .int .u64 ((num 8 (bnl s k) : Nat) : Int)) (fun _ _ i => 8 - (intOf i).toNat)
  case atStart => exact ⟨0, by omega, rfl, rfl⟩
  case round =>
    obtain ⟨k, hk, rfl, rfl⟩ := hrel
    by_cases hlt : k < s.size
    · have hks : k < s.size := by omega
      have hm := num_step s k (by omega) hks
      have hle := bn_le s k
      rw [← bn_of hks] at hle
      have HM := Box.mk hm; clear hm
      generalize hx : num 8 (bnl s k) = x at *
      have HX := Box.mk hx; clear hx
      go_wp2
      go_round
      case rel => exact ⟨k + 1, by omega, by go_num, by rw [← HM.out]⟩
      case measure => simp [intOf]; omega
    · obtain rfl : s.size = k := by omega
      go_wp2
      go_ret
      exact ⟨rfl, rfl⟩

theorem wordNumber_any (s : ByteArray) (hs : s.size ≤ 9223372036854775807) (w : World) :
    Calls Tryz.prog 105 #[.string s] w fun e w' => e = .returned (.int .u64 ((numN s : Nat) : Int)) ∧ w = w' := by
  unfold numN
  by_cases h : 8 < s.size
  · rw [Nat.min_eq_right (by omega)]; exact wordNumber_long s hs h w
  · rw [Nat.min_eq_left (by omega)]; exact wordNumber_short s hs (by omega) w
end Go.Proofs.YtdffpbfllekcgaaGreatDoor
namespace Go.Proofs.YtdffpbfllekcgaaGreatDoor
set_option maxRecDepth 100000
open Go.RowKit M

/-- the number of the first i bytes of v in reverse -/
def revN (i v : Nat) : Nat := num 8 (bytesN i v).reverse

theorem revN_succ (i v : Nat) : revN (i + 1) v = byt v i + 256 * revN i v := by
  unfold revN
  rw [bytesN_succ, List.reverse_append]
  simp [num]
theorem byt_lt (v i : Nat) : byt v i < 256 := by unfold byt; omega
theorem bytesN_lt (k v : Nat) : ∀ d ∈ bytesN k v, d < 2 ^ 8 := by
  intro d hd; simp [bytesN] at hd; obtain ⟨i, _, rfl⟩ := hd; have := byt_lt v i; omega
theorem bytesN_length (k v : Nat) : (bytesN k v).length = k := by simp [bytesN]
theorem revN_lt (i v : Nat) (hi : i ≤ 7) : revN i v < 72057594037927936 := by
  have h1 := num_lt 8 (bytesN i v).reverse (fun b hb => bytesN_lt i v b (by simpa using hb))
  have h2 : 2 ^ (8 * (bytesN i v).reverse.length) ≤ 2 ^ 56 := Nat.pow_le_pow_right (by decide) (by simp [bytesN_length]; omega)
  have h3 : (2 : Nat) ^ 56 = 72057594037927936 := by decide
  unfold revN; omega

theorem field_byt {v i : Nat} (hi : i < 8) : fieldN v (8 * (i : Int)) 8 = byt v i := by
  unfold fieldN byt
  rw [if_pos (by omega)]
  have e : (8 * (i : Int)).toNat = 8 * i := by omega
  have e2 : cl 8 = 8 := by decide
  rw [e, e2]

theorem or_shift {r b : Nat} (hr : r < 72057594037927936) (hb : b < 256) : bits BinOp.or IntKind.u64 ((r : Int) * 256) (b : Int) = ((b + 256 * r : Nat) : Int) := by
  have e : ((r : Int) * 256) = ((r * 256 : Nat) : Int) := by omega
  rw [e, u64_or_nat _ _ (by omega) (by omega), nat_join 8 _ _ (by omega) (by omega)]
  omega

set_option maxHeartbeats 400000 in
theorem wordSwap_any (v : Nat) (hv : v < 18446744073709551616) (w : World) :
    Calls Tryz.prog 77 #[.int .u64 v] w fun e w' => e = .returned (.int .u64 ((revN 8 v : Nat) : Int)) ∧ w = w' := by
  go_enter Tryz.func77, Tryz.ntmps77
  go_wp2_with fail
  go_loop [3, 4, 5] (fun x _ i => ∃ k : Nat, k ≤ 8 ∧ i = .int .i64 k ∧ x = .int .u64 ((revN k v : Nat) : Int)) (fun _ _ i => 8 - (intOf i).toNat)
  case atStart => exact ⟨0, by omega, rfl, rfl⟩
  case round =>
    obtain ⟨k, hk, rfl, rfl⟩ := hrel
    by_cases hlt : k < 8
    · have hb := byt_lt v k
      have hr := revN_lt k v (by omega)
      have ho := or_shift hr hb
      have hs := revN_succ k v
      have HS := Box.mk hs; clear hs
      have hf := field_byt (v := v) hlt
      have HF := Box.mk hf; clear hf
      generalize revN k v = r at *
      obtain ⟨b, hbb⟩ : ∃ b, b = byt v k := ⟨_, rfl⟩
      rw [← hbb] at ho hb
      have HB := Box.mk hbb; clear hbb
      have HO := Box.mk ho; clear ho
      go_wp2_with (go_at_call 37; refine (wordField_any v (8 * (k : Int)) 8 hv _).mono ?_; rw [HF.out, ← HB.out]; rintro e w' ⟨rfl, rfl⟩)
      go_round
      case rel => exact ⟨k + 1, by omega, by go_num, by rw [HS.out, ← HB.out, ← HO.out]⟩
      case measure => simp [intOf]; omega
    · obtain rfl : k = 8 := by omega
      go_wp2
      go_ret
      exact ⟨rfl, rfl⟩

theorem num_bnl (l : List Nat) (h : l.length = 8) (hl : ∀ d ∈ l, d < 2 ^ 8) : numN (bs l) = num 8 l := by
  unfold numN
  rw [bs_size, h]
  congr 1
  apply List.ext_getElem
  · simp [bnl_length, h]
  · intro i h1 h2
    have h3 := hl l[i] (List.getElem_mem h2)
    simp only [bnl, List.getElem_map, List.getElem_range]
    have hs : i < (bs l).size := by rw [bs_size]; exact h2
    rw [← bn_of hs]
    simp [bs, strOfNums, ByteArray.getElem_eq_getElem_data]
    omega

/-- a string turned into bytes: new cells that hold them -/
theorem str_bytes (w : World) (s : ByteArray) : ∃ cap W, (convert 9 52 (.string s)).run Tryz.prog w = .ok (.slice (some ⟨w.heap.size, 0, none⟩) s.size cap) W ∧
    (∀ j, j < s.size → W.cell? ⟨w.heap.size, j, none⟩ = some (.int .u8 ((bn s j : Nat) : Int))) ∧ Below w.heap.size w W ∧ w.heap.size < W.heap.size := by
  refine ⟨_, _, Lib.run_convert_string_bytes (P := Tryz.prog) w 9 52 5 s Tryz.underlying9 Tryz.underlying52 Tryz.underlying5, fun j hj => ?_, ⟨rfl, rfl, rfl, ?_, fun k hk => Lib.bytesWorld_at_old w _ s k hk⟩, ?_⟩
  · rw [Lib.bytesWorld_cell w _ s j hj, ← bn_of hj]
    simp [List.getD, hj, ByteArray.getElem_eq_getElem_data]
  · rw [Lib.bytesWorld_size]; omega
  · rw [Lib.bytesWorld_size]; omega

theorem refBytes8_any (v : Nat) (hv : v < 18446744073709551616) (w : World) :
    Calls Tryz.prog 119 #[.int .u64 v, .int .i64 8] w fun e w' => e = .returned (.string (bs (bytesN 8 v))) ∧ Below w.heap.size w w' :=
  refBytes_any v 8 hv w

theorem bn_bs (l : List Nat) (hl : ∀ d ∈ l, d < 2 ^ 8) (j : Nat) (hj : j < l.length) : bn (bs l) j = l.getD j 0 := by
  have h3 := hl l[j] (List.getElem_mem hj)
  have hs : j < (bs l).size := by rw [bs_size]; exact hj
  rw [← bn_of hs]
  simp [bs, strOfNums, ByteArray.getElem_eq_getElem_data, List.getD, hj]
  omega

end Go.Proofs.YtdffpbfllekcgaaGreatDoor
namespace Go.Proofs.YtdffpbfllekcgaaGreatDoor
set_option maxRecDepth 100000
open Go.RowKit M

/-- the list of 64 numbers -/
def fl (f : Nat → Nat) : List Nat := (List.range 64).map f
theorem fl_length (f : Nat → Nat) : (fl f).length = 64 := by simp [fl]
theorem fl_getD (f : Nat → Nat) (i : Nat) : (fl f).getD i 0 = if i < 64 then f i else 0 := by
  by_cases h : i < 64 <;> simp [fl, List.getD, h]
theorem fl_bl (v : Nat) : bl 64 v = fl fun i => v / 2 ^ i % 2 := rfl
theorem fl_congr {f g : Nat → Nat} (h : ∀ i, i < 64 → f i = g i) : fl f = fl g := by
  apply List.map_congr_left; intro i hi; exact h i (by simpa using hi)
theorem ints_set (l : List Nat) (j x : Nat) : (ints l).set j (.int .i64 (x : Int)) = ints (l.set j x) := by simp [ints, List.map_set]
theorem fl_set (f : Nat → Nat) (j x : Nat) : (fl f).set j x = fl fun i => if i = j then x else f i := by
  apply List.ext_getElem
  · simp [fl]
  · intro i h1 h2
    rw [List.getElem_set]
    by_cases h : j = i
    · subst h; simp [fl]
    · rw [if_neg h]; simp [fl, Ne.symm h]
theorem fl_le {f : Nat → Nat} (h : ∀ i, i < 64 → f i ≤ 1) : ∀ b ∈ fl f, b ≤ 1 := by
  intro b hb; simp [fl] at hb; obtain ⟨i, hi, rfl⟩ := hb; exact h i hi
/-- the number of 64 bits, given bit by bit -/
theorem val_fl {f : Nat → Nat} (h : ∀ i, i < 64 → f i ≤ 1) {m : Nat} (hm : m < 18446744073709551616) (e : ∀ i, i < 64 → decide (f i = 1) = m.testBit i) : val (fl f) = m := by
  refine val_eq_of (fl_le h) m (fun i => ?_)
  rw [fl_getD]
  by_cases hi : i < 64
  · rw [if_pos hi]; exact e i hi
  · rw [if_neg hi]
    have : m.testBit i = false := Nat.testBit_lt_two_pow (Nat.lt_of_lt_of_le (by rw [← p64] at hm; exact hm) (Nat.pow_le_pow_right (by decide) (by omega)))
    simp [this]

/-- a store into what is owned -/
theorem own_store {w : World} {B E g n cap : Nat} {l : List Nat} (h : w.ownsRow B E 1 (.slice (some ⟨g, 0, none⟩) n cap) n (ints l)) (j x : Nat) :
    (w.setCell ⟨g, j, none⟩ (.int .i64 (x : Int))).ownsRow B E 1 (.slice (some ⟨g, 0, none⟩) n cap) n (ints (l.set j x)) := by
  have := (h.stored j (.int .i64 (x : Int))).1
  rwa [ints_set] at this

/-- the cell of what is owned -/
theorem own_at {w : World} {B E g cap : Nat} {f : Nat → Nat} (h : w.ownsRow B E 1 (.slice (some ⟨g, 0, none⟩) 64 cap) 64 (ints (fl f))) (j : Nat) (hj : j < 64) : w.cell? ⟨g, j, none⟩ = some (.int .i64 ((f j : Nat) : Int)) := by
  have := own_cells h 0 j (by omega)
  rw [Nat.zero_add, List.drop_zero, fl_getD, if_pos hj] at this
  exact this

theorem bit_le (v i : Nat) : v / 2 ^ i % 2 ≤ 1 := by omega
theorem bit_tb (v i : Nat) : decide (v / 2 ^ i % 2 = 1) = v.testBit i := div_mod_testBit v i

theorem fieldN_val {v a k : Nat} (_ha : a < 64) (_hk : k ≤ 64 - a) : val (((bl 64 v).drop a).take k) = v / 2 ^ a % 2 ^ k := by
  rw [drop_bl, take_bl _ _ _ (by omega), val_bl]

theorem field_mod {v a : Nat} (hv : v < 18446744073709551616) (ha : a < 64) (k : Nat) (hk : 64 - a ≤ k) : v / 2 ^ a % 2 ^ k = v / 2 ^ a % 2 ^ (64 - a) := by
  have h1 : v / 2 ^ a < 2 ^ (64 - a) := by
    rw [Nat.div_lt_iff_lt_mul (pow_pos' a), ← Nat.pow_add, show 64 - a + a = 64 by omega, p64]; exact hv
  have h2 : 2 ^ (64 - a) ≤ 2 ^ k := Nat.pow_le_pow_right (by decide) hk
  rw [Nat.mod_eq_of_lt h1, Nat.mod_eq_of_lt (by omega)]

end Go.Proofs.YtdffpbfllekcgaaGreatDoor
