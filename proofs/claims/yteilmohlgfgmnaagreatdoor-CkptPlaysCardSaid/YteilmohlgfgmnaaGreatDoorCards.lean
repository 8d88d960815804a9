/-
  DERIVED. GIVEN WITH THE SEED: THE CARDS: each row of YteilmohlgfgmnaaGreatDoorRows.lean that lists a variable, with what it lists TIED to the program's text (the seventh form; the later family's looks); each row that meets fmt, with fmt's text TOLD by the authors' own Lean function (tested against real Go, not proved from fmt's source: count such statements apart). THE CARD IS WHAT COUNTS. Prove the row's statement (the work); the ties are given (YteilmohlgfgmnaaGreatDoorTie.lean); close each card by the builder's one call (the guide's Derived/Test/ToyasCard.lean, 'card_holds'). Laid BY PROGRAM, IN A SANDBOX (cutbox-door.mjs). By AI agents, Wed Nov 11 2026. No macro, syntax, notation, axiom, sorry.
-/
import Derived.Test.YteilmohlgfgmnaaGreatDoorRows
import GoSem.ClaimSeven
namespace Go.Proofs.YteilmohlgfgmnaaGreatDoor
namespace Rows

/-- THE TIED CARD OF 'ordeallaw22.TableReads'. -/
def tableReadsCard : Claim7 := { stood := { row := tableReadsRow, standIns := [], harness := (true, "38623afd05f5b80810fcfd482bd924f7914c1ed81f7b4219c0f10ac366f0e4da"), looks := true }, kinds := [], alts := [], laidByText := true, laidKinds := [.data], laidTests := true, laidLooks := .later }
def TableReadsCardSaid : Prop := Claim7.holds Tryz.pinned (.plain (OpenSpec.ofChange tableReadsSpec)) tableReadsCard

/-- THE TIED CARD OF 'ordeallaw23.CkptLoads'. -/
def ckptLoadsCard : Claim7 := { stood := { row := ckptLoadsRow, standIns := [], harness := (true, "38623afd05f5b80810fcfd482bd924f7914c1ed81f7b4219c0f10ac366f0e4da"), looks := true }, kinds := [], alts := [], laidByText := true, laidKinds := [.data], laidTests := true, laidLooks := .later }
def CkptLoadsCardSaid : Prop := Claim7.holds Tryz.pinned (.plain (OpenSpec.ofChange ckptLoadsSpec)) ckptLoadsCard

/-- THE TIED CARD OF 'ordeallaw23.CkptPlays'. -/
def ckptPlaysCard : Claim7 := { stood := { row := ckptPlaysRow, standIns := [], harness := (true, "38623afd05f5b80810fcfd482bd924f7914c1ed81f7b4219c0f10ac366f0e4da"), looks := true }, kinds := [], alts := [], laidByText := true, laidKinds := [.data], laidTests := true, laidLooks := .later }
def CkptPlaysCardSaid : Prop := Claim7.holds Tryz.pinned (.plain (OpenSpec.ofChange ckptPlaysSpec)) ckptPlaysCard

/-- THE TIED CARD OF 'ordeallaw23.CkptCrash'. -/
def ckptCrashCard : Claim7 := { stood := { row := ckptCrashRow, standIns := [], harness := (true, "38623afd05f5b80810fcfd482bd924f7914c1ed81f7b4219c0f10ac366f0e4da"), looks := true }, kinds := [], alts := [], laidByText := true, laidKinds := [.data], laidTests := true, laidLooks := .later }
def CkptCrashCardSaid : Prop := Claim7.holds Tryz.pinned (.plain (OpenSpec.ofChange ckptCrashSpec)) ckptCrashCard

/-- THE TIED CARD OF 'ordeallaw23.CkptFull'. -/
def ckptFullCard : Claim7 := { stood := { row := ckptFullRow, standIns := [], harness := (true, "38623afd05f5b80810fcfd482bd924f7914c1ed81f7b4219c0f10ac366f0e4da"), looks := true }, kinds := [], alts := [], laidByText := true, laidKinds := [.data], laidTests := true, laidLooks := .later }
def CkptFullCardSaid : Prop := Claim7.holds Tryz.pinned (.plain (OpenSpec.ofChange ckptFullSpec)) ckptFullCard

/-- THE SECOND FORM's CARD OF 'ordeallaw22.TableReads'. -/
def tableReadsUptoCard : Claim7 := { stood := { row := tableReadsUptoRow, standIns := [], harness := (true, "38623afd05f5b80810fcfd482bd924f7914c1ed81f7b4219c0f10ac366f0e4da"), looks := true }, kinds := [], alts := [], laidByText := true, laidKinds := [.data], laidTests := true, laidLooks := .later }
def TableReadsUptoCardSaid : Prop := Claim7.holds Tryz.pinned (.plain (OpenSpec.upto tableReadsSpec)) tableReadsUptoCard

/-- THE SECOND FORM's CARD OF 'ordeallaw23.CkptLoads'. -/
def ckptLoadsUptoCard : Claim7 := { stood := { row := ckptLoadsUptoRow, standIns := [], harness := (true, "38623afd05f5b80810fcfd482bd924f7914c1ed81f7b4219c0f10ac366f0e4da"), looks := true }, kinds := [], alts := [], laidByText := true, laidKinds := [.data], laidTests := true, laidLooks := .later }
def CkptLoadsUptoCardSaid : Prop := Claim7.holds Tryz.pinned (.plain (OpenSpec.upto ckptLoadsSpec)) ckptLoadsUptoCard

/-- THE SECOND FORM's CARD OF 'ordeallaw23.CkptPlays'. -/
def ckptPlaysUptoCard : Claim7 := { stood := { row := ckptPlaysUptoRow, standIns := [], harness := (true, "38623afd05f5b80810fcfd482bd924f7914c1ed81f7b4219c0f10ac366f0e4da"), looks := true }, kinds := [], alts := [], laidByText := true, laidKinds := [.data], laidTests := true, laidLooks := .later }
def CkptPlaysUptoCardSaid : Prop := Claim7.holds Tryz.pinned (.plain (OpenSpec.upto ckptPlaysSpec)) ckptPlaysUptoCard

/-- THE SECOND FORM's CARD OF 'ordeallaw23.CkptCrash'. -/
def ckptCrashUptoCard : Claim7 := { stood := { row := ckptCrashUptoRow, standIns := [], harness := (true, "38623afd05f5b80810fcfd482bd924f7914c1ed81f7b4219c0f10ac366f0e4da"), looks := true }, kinds := [], alts := [], laidByText := true, laidKinds := [.data], laidTests := true, laidLooks := .later }
def CkptCrashUptoCardSaid : Prop := Claim7.holds Tryz.pinned (.plain (OpenSpec.upto ckptCrashSpec)) ckptCrashUptoCard

/-- THE SECOND FORM's CARD OF 'ordeallaw23.CkptFull'. -/
def ckptFullUptoCard : Claim7 := { stood := { row := ckptFullUptoRow, standIns := [], harness := (true, "38623afd05f5b80810fcfd482bd924f7914c1ed81f7b4219c0f10ac366f0e4da"), looks := true }, kinds := [], alts := [], laidByText := true, laidKinds := [.data], laidTests := true, laidLooks := .later }
def CkptFullUptoCardSaid : Prop := Claim7.holds Tryz.pinned (.plain (OpenSpec.upto ckptFullSpec)) ckptFullUptoCard
end Rows
end Go.Proofs.YteilmohlgfgmnaaGreatDoor
