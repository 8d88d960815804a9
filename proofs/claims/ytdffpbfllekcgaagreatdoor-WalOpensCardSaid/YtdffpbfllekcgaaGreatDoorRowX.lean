/- What a row over the library's variables gives, and what it wants. -/
import Derived.Test.YtdffpbfllekcgaaGreatDoorCards
import Derived.Test.YtdffpbfllekcgaaGreatDoorTie
import Derived.Test.YtdffpbfllekcgaaGreatDoorLexB
import Derived.ProofKit
import Derived.OpenShut
import Derived.ShutString
import Derived.Below
import Derived.JoinedCond
import Derived.Deep.DeepHandedRow
import Derived.Deep.DeepWitnessRowRef
import Derived.Lib.LaidTab
import Derived.LaidSub
import Derived.Lay
import Derived.Shelf.Vars
import Derived.Stop.LaidErr
namespace Go.Proofs.YtdffpbfllekcgaaGreatDoor
set_option maxRecDepth 100000
open Go.ChangeShapes Go.WideShapes Go.ChangeAt Go.RowKit

theorem own : ownKnob Tryz.prog.godebug = none := by kernel_rfl
theorem errStar : "*" ++ "errors.errorString" = "*errors.errorString" := by decide
theorem errRow : ∀ u, Tryz.prog.typeName? 3 u = some "*errors.errorString" → u = 173 := fun u h =>
  typeName_ptr_named (nm := "errors.errorString") (by rw [errStar]; kernel_rfl) (by kernel_rfl) (by decide) u (by rw [errStar]; exact h)
theorem libW_of {laid : List (String × DataW Unit)} {W : World} (hL : laidMetH Tryz.prog laid W) (hsh : W.ShapedOpen Tryz.prog)
    (h1 : laid.filter (fun x => x.1 == "strconv.ErrSyntax") = [("strconv.ErrSyntax", Rows.laid_strconv_ErrSyntax)] := by rfl) (h2 : laid.filter (fun x => x.1 == "strconv.ErrRange") = [("strconv.ErrRange", Rows.laid_strconv_ErrRange)] := by rfl) : LibW W := by
  have k1 := hL.filter (fun x => x.1 == "strconv.ErrSyntax")
  have k2 := hL.filter (fun x => x.1 == "strconv.ErrRange")
  rw [h1, MakeChecks.laidMetH_plain _ _ _ (by kernel_rfl)] at k1
  rw [h2, MakeChecks.laidMetH_plain _ _ _ (by kernel_rfl)] at k2
  have g1 : Tryz.prog.globalNamed "strconv.ErrSyntax" = some 1 := by kernel_rfl
  have g2 : Tryz.prog.globalNamed "strconv.ErrRange" = some 2 := by kernel_rfl
  obtain ⟨a, s, hv, _⟩ := laid_sentinel k1 g1 (ti := 85) (by kernel_rfl) Tryz.underlying85 errRow Tryz.underlying173 Tryz.underlying175 rfl rfl Tryz.underlying9 (by kernel_rfl) (by kernel_rfl)
  obtain ⟨b, s2, hv2, _⟩ := laid_sentinel k2 g2 (ti := 85) (by kernel_rfl) Tryz.underlying85 errRow Tryz.underlying173 Tryz.underlying175 rfl rfl Tryz.underlying9 (by kernel_rfl) (by kernel_rfl)
  have _ := hsh
  exact ⟨⟨_, World.var?_cell g1 hv 0, .inr ⟨_, _, rfl⟩⟩, ⟨_, World.var?_cell g2 hv2 0, .inr ⟨_, _, rfl⟩⟩⟩
end Go.Proofs.YtdffpbfllekcgaaGreatDoor
