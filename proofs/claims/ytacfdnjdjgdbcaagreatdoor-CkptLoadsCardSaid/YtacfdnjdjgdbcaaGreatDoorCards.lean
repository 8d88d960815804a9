/-
  DERIVED. GIVEN WITH THE SEED: THE CARDS: each row of YtacfdnjdjgdbcaaGreatDoorRows.lean that lists a variable, with what it lists TIED to the program's text (the seventh form; the later family's looks); each row that meets fmt, with fmt's text TOLD by the authors' own Lean function (tested against real Go, not proved from fmt's source: count such statements apart). THE CARD IS WHAT COUNTS. Prove the row's statement (the work); the ties are given (YtacfdnjdjgdbcaaGreatDoorTie.lean); close each card by the builder's one call (the guide's Derived/Test/ToyasCard.lean, 'card_holds'). Laid BY PROGRAM, IN A SANDBOX (cutbox-door.mjs). By AI agents, Wed Nov 11 2026. No macro, syntax, notation, axiom, sorry.
-/
import Derived.Test.YtacfdnjdjgdbcaaGreatDoorRows
import GoSem.ClaimSeven
namespace Go.Proofs.YtacfdnjdjgdbcaaGreatDoor
namespace Rows

/-- THE TIED CARD OF 'ordeallaw22.TableReads'. -/
def tableReadsCard : Claim7 := { stood := { row := tableReadsRow, standIns := [], harness := (true, "022a3b28d6f823742f8699cfbb2f24f4bec9db0bcca1124fc09777e87fe8aa88"), looks := true }, kinds := [], alts := [], laidByText := true, laidKinds := [.data], laidTests := true, laidLooks := .later }
def TableReadsCardSaid : Prop := Claim7.holds Tryz.pinned (.plain (OpenSpec.ofChange tableReadsSpec)) tableReadsCard

/-- THE TIED CARD OF 'ordeallaw23.CkptLoads'. -/
def ckptLoadsCard : Claim7 := { stood := { row := ckptLoadsRow, standIns := [], harness := (true, "022a3b28d6f823742f8699cfbb2f24f4bec9db0bcca1124fc09777e87fe8aa88"), looks := true }, kinds := [], alts := [], laidByText := true, laidKinds := [.data], laidTests := true, laidLooks := .later }
def CkptLoadsCardSaid : Prop := Claim7.holds Tryz.pinned (.plain (OpenSpec.ofChange ckptLoadsSpec)) ckptLoadsCard

/-- THE SECOND FORM's CARD OF 'ordeallaw22.TableReads'. -/
def tableReadsUptoCard : Claim7 := { stood := { row := tableReadsUptoRow, standIns := [], harness := (true, "022a3b28d6f823742f8699cfbb2f24f4bec9db0bcca1124fc09777e87fe8aa88"), looks := true }, kinds := [], alts := [], laidByText := true, laidKinds := [.data], laidTests := true, laidLooks := .later }
def TableReadsUptoCardSaid : Prop := Claim7.holds Tryz.pinned (.plain (OpenSpec.upto tableReadsSpec)) tableReadsUptoCard

/-- THE SECOND FORM's CARD OF 'ordeallaw23.CkptLoads'. -/
def ckptLoadsUptoCard : Claim7 := { stood := { row := ckptLoadsUptoRow, standIns := [], harness := (true, "022a3b28d6f823742f8699cfbb2f24f4bec9db0bcca1124fc09777e87fe8aa88"), looks := true }, kinds := [], alts := [], laidByText := true, laidKinds := [.data], laidTests := true, laidLooks := .later }
def CkptLoadsUptoCardSaid : Prop := Claim7.holds Tryz.pinned (.plain (OpenSpec.upto ckptLoadsSpec)) ckptLoadsUptoCard
end Rows
end Go.Proofs.YtacfdnjdjgdbcaaGreatDoor
