/- The contract of maps.Clone at a map: laid by the kit at this seat. -/
import Derived.Shelf.SlMaps.Clone
import Derived.Ground.SlmcProg
import Derived.Test.YtacfdnjdjgdbcaaDoorProg
namespace Go.Proofs
open Go.Shelf
def Tryd.cloneT_ren : Go.Shelf.Ren := ⟨fun | 5 => 21 | 7 => 36 | n => n, fun | 23 => 50 | 25 => 24 | 3 => 62 | 4 => 4 | 20 => 20 | n => n, fun | n => n⟩
theorem Tryd.cloneT : Go.Proofs.SlLaysW.n5 Tryd.prog Tryd.cloneT_ren := {
  mixed := by kernel_rfl
  f5 := ⟨Tryd.f21.name, by decide, Tryd.func21.trans (congrArg some (by kernel_rfl))⟩
  f7 := Tryd.func36.trans (congrArg some (by kernel_rfl))
  t4 := Tryd.underlying4
  a4 := Tryd.isAgg4
  z4 := Tryd.sizeOf4
  v4 := Tryd.zeroValue4
  t20 := Tryd.underlying20
  a20 := Tryd.isAgg20
  z20 := Tryd.sizeOf20
  v20 := Tryd.zeroValue20
  t23 := Tryd.underlying50
  a23 := Tryd.isAgg50
  z23 := Tryd.sizeOf50
  v23 := Tryd.zeroValue50 }
end Go.Proofs
