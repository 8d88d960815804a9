/- Contracts of word: numbers as bytes. -/
import Derived.Test.YtalinhjalnndhaaWordD
namespace Go.Proofs.Ytalinhjalnndhaa
set_option maxRecDepth 100000
open Go.RowKit M

theorem info_byte : (Try.prog.info? 5).map (fun i => (i.zero, i.size, i.bytes)) = some (some (.int .u8 0), 1, 1) := by kernel_rfl

/-- the string of a list of bytes -/
def bs (l : List Nat) : ByteArray := strOfNums (l.map fun n => ((n : Nat) : Int))
/-- byte i of v -/
def byt (v i : Nat) : Nat := v / 2 ^ (8 * i) % 256
/-- the cells of a list of bytes -/
def byts (l : List Nat) : List Value := l.map fun n => .int .u8 ((n : Nat) : Int)
/-- the first j bytes of v, and zeros, k in all -/
def byl (k v j : Nat) : List Nat := (List.range k).map fun i => if i < j then byt v i else 0

theorem byl_length (k v j : Nat) : (byl k v j).length = k := by simp [byl]
theorem byts_length (l : List Nat) : (byts l).length = l.length := by simp [byts]
theorem byl_zero (k v : Nat) : byts (byl k v 0) = List.replicate k (.int .u8 0) := by
  apply List.ext_getElem
  · simp [byts, byl]
  · intro i h1 h2; simp [byts, byl]
theorem byl_set (k v j : Nat) : (byts (byl k v j)).set j (.int .u8 ((byt v j : Nat) : Int)) = byts (byl k v (j + 1)) := by
  apply List.ext_getElem
  · simp [byts, byl]
  · intro i h1 h2
    simp only [List.length_set, byts_length, byl_length] at h1
    rw [List.getElem_set]
    by_cases h : j = i
    · subst h; simp [byts, byl]
    · rw [if_neg h]
      simp only [byts, byl, List.getElem_map, List.getElem_range]
      by_cases h3 : i < j
      · rw [if_pos h3, if_pos (by omega)]
      · rw [if_neg h3, if_neg (by omega)]
theorem byl_full (k v : Nat) : byl k v k = (List.range k).map (byt v) := by
  apply List.map_congr_left
  intro i hi
  simp at hi
  simp [hi]

/-- the lowest k bytes of v -/
def bytesN (k v : Nat) : List Nat := (List.range k).map (byt v)

/-- limited to 0 to 8 -/
def cl8 (n : Int) : Nat := if n < 0 then 0 else if 8 < n then 8 else n.toNat
theorem cl8_cases (n : Int) : (n < 0 ∧ cl8 n = 0) ∨ (8 < n ∧ cl8 n = 8) ∨ (∃ k : Nat, n = k ∧ k ≤ 8 ∧ cl8 n = k) := by
  unfold cl8
  by_cases h : n < 0
  · exact .inl ⟨h, by simp [h]⟩
  · by_cases h2 : 8 < n
    · exact .inr (.inl ⟨h2, by simp [h, h2]⟩)
    · exact .inr (.inr ⟨n.toNat, by omega, by omega, by simp [h, h2]⟩)

theorem u8w (a : Nat) : IntKind.u8.wrap (a : Int) = ((a % 256 : Nat) : Int) := by rw [IntKind.wrap_u8']; omega

/-- the string of bytes that are owned -/
theorem conv_bytes {w : World} {B g n cap : Nat} {l : List Nat} (h : w.ownsRow B 5 1 (.slice (some ⟨g, 0, none⟩) n cap) n (byts l)) :
    (convert 76 9 (.slice (some ⟨g, 0, none⟩) n cap)).run Try.prog w = .ok (.string (bs l)) w := by
  have hl : l.length = n := by have := h.1; simpa [byts] using this
  refine run_convert_bytes_arg (P := Try.prog) w 76 5 Try.underlying76 Try.underlying5 g 0 n cap (l.map fun n => ((n : Nat) : Int)) (by simp [hl]) (fun i hi => ?_) 9 Try.underlying9
  rw [Nat.zero_add, h.cellAt i (by omega)]
  simp [byts, List.getD, hl, hi]

end Go.Proofs.Ytalinhjalnndhaa
