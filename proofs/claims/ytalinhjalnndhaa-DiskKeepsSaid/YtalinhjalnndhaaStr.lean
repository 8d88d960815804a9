/- Strings and their bytes. -/
import Derived.Test.YtalinhjalnndhaaCrcD
import Derived.Lib.AppendStr
namespace Go.Proofs.Ytalinhjalnndhaa
set_option maxRecDepth 100000
open Go.RowKit M

theorem bch' {B : Nat} {w a b : World} (h : Below B w a) (k : Below B a b) : Below B w b := h.trans k
theorem sb_data (s : ByteArray) : sb s = s.data.toList.map UInt8.toNat := by
  apply List.ext_getElem
  · rw [sb_length, List.length_map, Array.length_toList]; rfl
  · intro j h1 h2
    rw [sb_length] at h1
    have e := bn_of h1
    simp only [sb, bnl, List.getElem_map, List.getElem_range]
    rw [← e]; rfl
theorem bs_list (s : ByteArray) : bs (sb s) = s := by
  apply ByteArray.ext
  apply Array.ext'
  have h : (sb s).map (fun n => ((n : Nat) : Int)) = s.data.toList.map fun b => ((b.toNat : Nat) : Int) := by
    rw [sb_data, List.map_map]; rfl
  show ((strOfNums ((sb s).map fun n => ((n : Nat) : Int))).data).toList = _
  rw [h]
  simp [strOfNums]
  conv => rhs; rw [← List.map_id s.data.toList]
  apply List.map_congr_left
  intro b _
  show UInt8.ofNat ((b.toNat : Nat) : Int).toNat = b
  rw [Int.toNat_natCast, UInt8.ofNat_toNat]
theorem strCells_sb (s : ByteArray) : Lib.strCells s = byts (sb s) := by
  rw [sb_data]
  simp only [byts, List.map_map, Lib.strCells]
  rfl
theorem byts_append (l m : List Nat) : byts l ++ byts m = byts (l ++ m) := by simp [byts]

end Go.Proofs.Ytalinhjalnndhaa
