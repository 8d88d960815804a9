/- Contracts of word: numbers as bytes. -/
import Derived.Test.YtdhbeeeofaheeaaDoorWordD
namespace Go.Proofs.YtdhbeeeofaheeaaDoor
set_option maxRecDepth 100000
open Go.RowKit M

theorem info_byte : (Tryd.prog.info? 5).map (fun i => (i.zero, i.size, i.bytes)) = some (some (.int .u8 0), 1, 1) := by kernel_rfl

/-- the string of a list of bytes -/
def bs (l : List Nat) : ByteArray := strOfNums (l.map fun n => ((n : Nat) : Int))
/-- byte i of v -/
def byt (v i : Nat) : Nat := v / 2 ^ (8 * i) % 256
/-- the cells of a list of bytes -/
def byts (l : List Nat) : List Value := l.map fun n => .int .u8 ((n : Nat) : Int)
/-- the first j bytes of v, and zeros, k in all -/
def byl (k v j : Nat) : List Nat := (List.range k).map fun i => if i < j then byt v i else 0

theorem byl_length (k v j : Nat) : (byl k v j).length = k := by simp [byl]
theorem byts_length (l : List Nat) : (byts l).length = l.length := by simp [byts]
theorem byl_zero (k v : Nat) : byts (byl k v 0) = List.replicate k (.int .u8 0) := by
  apply List.ext_getElem
  · simp [byts, byl]
  · intro i h1 h2; simp [byts, byl]
theorem byl_set (k v j : Nat) : (byts (byl k v j)).set j (.int .u8 ((byt v j : Nat) : Int)) = byts (byl k v (j + 1)) := by
  apply List.ext_getElem
  · simp [byts, byl]
  · intro i h1 h2
    simp only [List.length_set, byts_length, byl_length] at h1
    rw [List.getElem_set]
    by_cases h : j = i
    · subst h; simp [byts, byl]
    · rw [if_neg h]
      simp only [byts, byl, List.getElem_map, List.getElem_range]
      by_cases h3 : i < j
      · rw [if_pos h3, if_pos (by omega)]
      · rw [if_neg h3, if_neg (by omega)]
theorem byl_full (k v : Nat) : byl k v k = (List.range k).map (byt v) := by
  apply List.map_congr_left
  intro i hi
  simp at hi
  simp [hi]

/-- the lowest k bytes of v -/
def bytesN (k v : Nat) : List Nat := (List.range k).map (byt v)

/-- limited to 0 to 8 -/
def cl8 (n : Int) : Nat := if n < 0 then 0 else if 8 < n then 8 else n.toNat
theorem cl8_cases (n : Int) : (n < 0 ∧ cl8 n = 0) ∨ (8 < n ∧ cl8 n = 8) ∨ (∃ k : Nat, n = k ∧ k ≤ 8 ∧ cl8 n = k) := by
  unfold cl8
  by_cases h : n < 0
  · exact .inl ⟨h, by simp [h]⟩
  · by_cases h2 : 8 < n
    · exact .inr (.inl ⟨h2, by simp [h, h2]⟩)
    · exact .inr (.inr ⟨n.toNat, by omega, by omega, by simp [h, h2]⟩)

theorem u8w (a : Nat) : IntKind.u8.wrap (a : Int) = ((a % 256 : Nat) : Int) := by rw [IntKind.wrap_u8']; omega

/-- the string of bytes that are owned -/
theorem conv_bytes {w : World} {B g n cap : Nat} {l : List Nat} (h : w.ownsRow B 5 1 (.slice (some ⟨g, 0, none⟩) n cap) n (byts l)) :
    (convert 38 9 (.slice (some ⟨g, 0, none⟩) n cap)).run Tryd.prog w = .ok (.string (bs l)) w := by
  have hl : l.length = n := by have := h.1; simpa [byts] using this
  refine run_convert_bytes_arg (P := Tryd.prog) w 38 5 Tryd.underlying38 Tryd.underlying5 g 0 n cap (l.map fun n => ((n : Nat) : Int)) (by simp [hl]) (fun i hi => ?_) 9 Tryd.underlying9
  rw [Nat.zero_add, h.cellAt i (by omega)]
  simp [byts, List.getD, hl, hi]

set_option maxRecDepth 100000 in
set_option maxHeartbeats 800000 in
theorem wordBytes_any (v : Nat) (n : Int) (w : World) :
    Calls Tryd.prog 59 #[.int .u64 v, .int .i64 n] w fun e w' => e = .returned (.string (bs (bytesN (cl8 n) v))) ∧ Below w.heap.size w w' := by
  obtain ⟨i0, hi, hz0, hz1, hz2⟩ := info_parts info_byte
  have main : ∀ k : Nat, k ≤ 8 → ((n < 0 ∧ k = 0) ∨ (8 < n ∧ k = 8) ∨ n = k) →
      Calls Tryd.prog 59 #[.int .u64 v, .int .i64 n] w fun e w' => e = .returned (.string (bs (bytesN k v))) ∧ Below w.heap.size w w' := by
    intro k hk hcase
    rcases hcase with ⟨hn, rfl⟩ | ⟨hn, rfl⟩ | rfl
    · go_enter Tryd.func59, Tryd.ntmps59
      go_wp2_with (at_make; refine wpList_make_full _ rfl (.tmp 10) (.tmp 10) 38 rfl w.heap.size 5 i0 (.int .u8 0) 1 Tryd.underlying38 hi hz0 hz1 .i64 .i64 0 0 0 rfl rfl rfl rfl (by rw [hz2]; omega) (by unfold maxLen; omega) (Nat.le_refl _) ?_; intro w1 hown hg)
      have hown2 : w1.ownsRow w.heap.size 5 1 (.slice (some ⟨w.heap.size, 0, none⟩) 0 0) 0 (byts (byl 0 v 0)) := by
        rw [byl_zero]; have h := hown; rw [show (Value.int IntKind.u8 0).cells = #[.int .u8 0] from rfl, toList_madeCells_one, Nat.mul_one] at h; exact h
      have hb := (Below.refl w.heap.size w).grown hg (Nat.le_refl _) (fun k h => by cases h)
      clear hown hg
      go_loopw [6, 13] (fun _ i wr => ∃ j : Nat, j ≤ 0 ∧ i = .int .i64 j ∧ wr.ownsRow w.heap.size 5 1 (.slice (some ⟨w.heap.size, 0, none⟩) 0 0) 0 (byts (byl 0 v j)) ∧ Below w.heap.size w wr) (fun _ i _ => 8 - (intOf i).toNat)
      case atStart => exact ⟨0, by omega, rfl, hown2, hb⟩
      case round =>
        obtain ⟨j, hj, rfl, hown, hb⟩ := hrel
        by_cases hlt : j < 0
        · omega
        · obtain rfl : 0 = j := by omega
          rw [byl_full] at hown
          have hconv := conv_bytes hown
          go_wp2
          go_ret
          exact ⟨rfl, hb⟩
    · go_enter Tryd.func59, Tryd.ntmps59
      go_wp2_with (at_make; refine wpList_make_full _ rfl (.tmp 10) (.tmp 10) 38 rfl w.heap.size 5 i0 (.int .u8 0) 1 Tryd.underlying38 hi hz0 hz1 .i64 .i64 8 8 8 rfl rfl rfl rfl (by rw [hz2]; omega) (by unfold maxLen; omega) (Nat.le_refl _) ?_; intro w1 hown hg)
      have hown2 : w1.ownsRow w.heap.size 5 1 (.slice (some ⟨w.heap.size, 0, none⟩) 8 8) 8 (byts (byl 8 v 0)) := by
        rw [byl_zero]; have h := hown; rw [show (Value.int IntKind.u8 0).cells = #[.int .u8 0] from rfl, toList_madeCells_one, Nat.mul_one] at h; exact h
      have hb := (Below.refl w.heap.size w).grown hg (Nat.le_refl _) (fun k h => by cases h)
      clear hown hg
      go_loopw [6, 13] (fun _ i wr => ∃ j : Nat, j ≤ 8 ∧ i = .int .i64 j ∧ wr.ownsRow w.heap.size 5 1 (.slice (some ⟨w.heap.size, 0, none⟩) 8 8) 8 (byts (byl 8 v j)) ∧ Below w.heap.size w wr) (fun _ i _ => 8 - (intOf i).toNat)
      case atStart => exact ⟨0, by omega, rfl, hown2, hb⟩
      case round =>
        obtain ⟨j, hj, rfl, hown, hb⟩ := hrel
        by_cases hlt : j < 8
        · have hcell : wr.cell? ⟨w.heap.size, j, none⟩ = some (.int .u8 0) := by
            rw [hown.cellAt j (by omega)]; simp [byts, byl, hlt]
          have hfz : wr.frozen? ⟨w.heap.size, j, none⟩ = false := hown.frozenAt j
          have hst := hown.stored j (.int .u8 ((byt v j : Nat) : Int))
          rw [byl_set] at hst
          have HST := Box.mk hst; clear hst
          have hbt : (v : Int) / 2 ^ (8 * j) = ((v / 2 ^ (8 * j) : Nat) : Int) := by rw [ipow, ← Int.natCast_ediv]
          have hbt2 : IntKind.u8.wrap ((v / 2 ^ (8 * j) : Nat) : Int) = ((byt v j : Nat) : Int) := u8w _
          generalize v / 2 ^ (8 * j) = q at *
          generalize byt v j = b at *
          go_wp2
          go_roundw
          case rel => exact ⟨j + 1, by omega, by go_num, HST.out.1, hb.grown HST.out.2 hb.size (fun k h => by cases h; exact Nat.le_refl _)⟩
          case measure => simp [intOf]; omega
        · obtain rfl : 8 = j := by omega
          rw [byl_full] at hown
          have hconv := conv_bytes hown
          go_wp2
          go_ret
          exact ⟨rfl, hb⟩
    · go_enter Tryd.func59, Tryd.ntmps59
      go_wp2_with (at_make; refine wpList_make_full _ rfl (.tmp 10) (.tmp 10) 38 rfl w.heap.size 5 i0 (.int .u8 0) 1 Tryd.underlying38 hi hz0 hz1 .i64 .i64 (k : Int) (k : Int) k rfl rfl rfl rfl (by rw [hz2]; omega) (by unfold maxLen; omega) (Nat.le_refl _) ?_; intro w1 hown hg)
      have hown2 : w1.ownsRow w.heap.size 5 1 (.slice (some ⟨w.heap.size, 0, none⟩) k k) k (byts (byl k v 0)) := by
        rw [byl_zero]; have h := hown; rw [show (Value.int IntKind.u8 0).cells = #[.int .u8 0] from rfl, toList_madeCells_one, Nat.mul_one] at h; exact h
      have hb := (Below.refl w.heap.size w).grown hg (Nat.le_refl _) (fun k h => by cases h)
      clear hown hg
      go_loopw [6, 13] (fun _ i wr => ∃ j : Nat, j ≤ k ∧ i = .int .i64 j ∧ wr.ownsRow w.heap.size 5 1 (.slice (some ⟨w.heap.size, 0, none⟩) k k) k (byts (byl k v j)) ∧ Below w.heap.size w wr) (fun _ i _ => 8 - (intOf i).toNat)
      case atStart => exact ⟨0, by omega, rfl, hown2, hb⟩
      case round =>
        obtain ⟨j, hj, rfl, hown, hb⟩ := hrel
        by_cases hlt : j < k
        · have hcell : wr.cell? ⟨w.heap.size, j, none⟩ = some (.int .u8 0) := by
            rw [hown.cellAt j (by omega)]; simp [byts, byl, hlt]
          have hfz : wr.frozen? ⟨w.heap.size, j, none⟩ = false := hown.frozenAt j
          have hst := hown.stored j (.int .u8 ((byt v j : Nat) : Int))
          rw [byl_set] at hst
          have HST := Box.mk hst; clear hst
          have hbt : (v : Int) / 2 ^ (8 * j) = ((v / 2 ^ (8 * j) : Nat) : Int) := by rw [ipow, ← Int.natCast_ediv]
          have hbt2 : IntKind.u8.wrap ((v / 2 ^ (8 * j) : Nat) : Int) = ((byt v j : Nat) : Int) := u8w _
          generalize v / 2 ^ (8 * j) = q at *
          generalize byt v j = b at *
          go_wp2
          go_roundw
          case rel => exact ⟨j + 1, by omega, by go_num, HST.out.1, hb.grown HST.out.2 hb.size (fun k h => by cases h; exact Nat.le_refl _)⟩
          case measure => simp [intOf]; omega
        · obtain rfl : k = j := by omega
          rw [byl_full] at hown
          have hconv := conv_bytes hown
          go_wp2
          go_ret
          exact ⟨rfl, hb⟩
  rcases cl8_cases n with ⟨h, e⟩ | ⟨h, e⟩ | ⟨k, h, hk, e⟩
  · rw [e]; exact main 0 (by omega) (.inl ⟨h, rfl⟩)
  · rw [e]; exact main 8 (by omega) (.inr (.inl ⟨h, rfl⟩))
  · rw [e]; exact main k hk (.inr (.inr h))
end Go.Proofs.YtdhbeeeofaheeaaDoor
