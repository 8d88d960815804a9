/-
  DERIVED. GIVEN WITH THE SEED: THE CARDS: each row of YtinhddggbckmpaaGreatDoorRows.lean that lists a variable, with what it lists TIED to the program's text (the seventh form; the later family's looks); each row that meets fmt, with fmt's text TOLD by the authors' own Lean function (tested against real Go, not proved from fmt's source: count such statements apart). THE CARD IS WHAT COUNTS. Prove the row's statement (the work); the ties are given (YtinhddggbckmpaaGreatDoorTie.lean); close each card by the builder's one call (the guide's Derived/Test/ToyasCard.lean, 'card_holds'). Laid BY PROGRAM, IN A SANDBOX (cutbox-door.mjs). By AI agents, Wed Nov 11 2026. No macro, syntax, notation, axiom, sorry.
-/
import Derived.Test.YtinhddggbckmpaaGreatDoorRows
import GoSem.ClaimSeven
namespace Go.Proofs.YtinhddggbckmpaaGreatDoor
namespace Rows

/-- THE TIED CARD OF 'ordeallaw07.WalWhole'. -/
def walWholeCard : Claim7 := { stood := { row := walWholeRow, standIns := [], harness := (true, "1e4d353abe38b4a1096260ce8b48dee71d41b04da3ac8a0657927090780c7383"), looks := true }, kinds := [], alts := [], laidByText := true, laidKinds := [.data, .data, .data, .data, .sentinel, .sentinel], laidTests := true, laidLooks := .later }
def WalWholeCardSaid : Prop := Claim7.holds Tryz.pinned (.plain (OpenSpec.ofChange walWholeSpec)) walWholeCard

/-- THE TIED CARD OF 'ordeallaw07.WalCrash'. -/
def walCrashCard : Claim7 := { stood := { row := walCrashRow, standIns := [], harness := (true, "1e4d353abe38b4a1096260ce8b48dee71d41b04da3ac8a0657927090780c7383"), looks := true }, kinds := [], alts := [], laidByText := true, laidKinds := [.data, .data, .data, .data, .sentinel, .sentinel], laidTests := true, laidLooks := .later }
def WalCrashCardSaid : Prop := Claim7.holds Tryz.pinned (.plain (OpenSpec.ofChange walCrashSpec)) walCrashCard

/-- THE TIED CARD OF 'ordeallaw07.WalRetired'. -/
def walRetiredCard : Claim7 := { stood := { row := walRetiredRow, standIns := [], harness := (true, "1e4d353abe38b4a1096260ce8b48dee71d41b04da3ac8a0657927090780c7383"), looks := true }, kinds := [], alts := [], laidByText := true, laidKinds := [.data, .data, .data, .data, .sentinel, .sentinel], laidTests := true, laidLooks := .later }
def WalRetiredCardSaid : Prop := Claim7.holds Tryz.pinned (.plain (OpenSpec.ofChange walRetiredSpec)) walRetiredCard

/-- THE TIED CARD OF 'ordeallaw07.WalOpens'. -/
def walOpensCard : Claim7 := { stood := { row := walOpensRow, standIns := [], harness := (true, "1e4d353abe38b4a1096260ce8b48dee71d41b04da3ac8a0657927090780c7383"), looks := true }, kinds := [], alts := [], laidByText := true, laidKinds := [.data, .data, .data, .data, .sentinel, .sentinel], laidTests := true, laidLooks := .later }
def WalOpensCardSaid : Prop := Claim7.holds Tryz.pinned (.plain (OpenSpec.ofChange walOpensSpec)) walOpensCard

/-- THE TIED CARD OF 'ordeallaw07.WalPlays'. -/
def walPlaysCard : Claim7 := { stood := { row := walPlaysRow, standIns := [], harness := (true, "1e4d353abe38b4a1096260ce8b48dee71d41b04da3ac8a0657927090780c7383"), looks := true }, kinds := [], alts := [], laidByText := true, laidKinds := [.data, .data, .data, .data, .sentinel, .sentinel], laidTests := true, laidLooks := .later }
def WalPlaysCardSaid : Prop := Claim7.holds Tryz.pinned (.plain (OpenSpec.ofChange walPlaysSpec)) walPlaysCard

/-- THE TIED CARD OF 'ordealtop.OrdealLogged'. -/
def ordealLoggedCard : Claim7 := { stood := { row := ordealLoggedRow, standIns := [], harness := (true, "1e4d353abe38b4a1096260ce8b48dee71d41b04da3ac8a0657927090780c7383"), looks := true }, kinds := [], alts := [], laidByText := true, laidKinds := [.data, .data, .data, .data, .sentinel, .sentinel, .data], laidTests := true, laidLooks := .later }
def OrdealLoggedCardSaid : Prop := Claim7.holds Tryz.pinned (.plain (OpenSpec.ofChange ordealLoggedSpec)) ordealLoggedCard

/-- THE TIED CARD OF 'ordealtop.OrdealTwoLogs'. -/
def ordealTwoLogsCard : Claim7 := { stood := { row := ordealTwoLogsRow, standIns := [], harness := (true, "1e4d353abe38b4a1096260ce8b48dee71d41b04da3ac8a0657927090780c7383"), looks := true }, kinds := [], alts := [], laidByText := true, laidKinds := [.data, .data, .data, .data, .sentinel, .sentinel, .data], laidTests := true, laidLooks := .later }
def OrdealTwoLogsCardSaid : Prop := Claim7.holds Tryz.pinned (.plain (OpenSpec.ofChange ordealTwoLogsSpec)) ordealTwoLogsCard

/-- THE SECOND FORM's CARD OF 'ordeallaw07.WalWhole'. -/
def walWholeUptoCard : Claim7 := { stood := { row := walWholeUptoRow, standIns := [], harness := (true, "1e4d353abe38b4a1096260ce8b48dee71d41b04da3ac8a0657927090780c7383"), looks := true }, kinds := [], alts := [], laidByText := true, laidKinds := [.data, .data, .data, .data, .sentinel, .sentinel], laidTests := true, laidLooks := .later }
def WalWholeUptoCardSaid : Prop := Claim7.holds Tryz.pinned (.plain (OpenSpec.upto walWholeSpec)) walWholeUptoCard

/-- THE SECOND FORM's CARD OF 'ordeallaw07.WalCrash'. -/
def walCrashUptoCard : Claim7 := { stood := { row := walCrashUptoRow, standIns := [], harness := (true, "1e4d353abe38b4a1096260ce8b48dee71d41b04da3ac8a0657927090780c7383"), looks := true }, kinds := [], alts := [], laidByText := true, laidKinds := [.data, .data, .data, .data, .sentinel, .sentinel], laidTests := true, laidLooks := .later }
def WalCrashUptoCardSaid : Prop := Claim7.holds Tryz.pinned (.plain (OpenSpec.upto walCrashSpec)) walCrashUptoCard

/-- THE SECOND FORM's CARD OF 'ordeallaw07.WalRetired'. -/
def walRetiredUptoCard : Claim7 := { stood := { row := walRetiredUptoRow, standIns := [], harness := (true, "1e4d353abe38b4a1096260ce8b48dee71d41b04da3ac8a0657927090780c7383"), looks := true }, kinds := [], alts := [], laidByText := true, laidKinds := [.data, .data, .data, .data, .sentinel, .sentinel], laidTests := true, laidLooks := .later }
def WalRetiredUptoCardSaid : Prop := Claim7.holds Tryz.pinned (.plain (OpenSpec.upto walRetiredSpec)) walRetiredUptoCard

/-- THE SECOND FORM's CARD OF 'ordeallaw07.WalOpens'. -/
def walOpensUptoCard : Claim7 := { stood := { row := walOpensUptoRow, standIns := [], harness := (true, "1e4d353abe38b4a1096260ce8b48dee71d41b04da3ac8a0657927090780c7383"), looks := true }, kinds := [], alts := [], laidByText := true, laidKinds := [.data, .data, .data, .data, .sentinel, .sentinel], laidTests := true, laidLooks := .later }
def WalOpensUptoCardSaid : Prop := Claim7.holds Tryz.pinned (.plain (OpenSpec.upto walOpensSpec)) walOpensUptoCard

/-- THE SECOND FORM's CARD OF 'ordeallaw07.WalPlays'. -/
def walPlaysUptoCard : Claim7 := { stood := { row := walPlaysUptoRow, standIns := [], harness := (true, "1e4d353abe38b4a1096260ce8b48dee71d41b04da3ac8a0657927090780c7383"), looks := true }, kinds := [], alts := [], laidByText := true, laidKinds := [.data, .data, .data, .data, .sentinel, .sentinel], laidTests := true, laidLooks := .later }
def WalPlaysUptoCardSaid : Prop := Claim7.holds Tryz.pinned (.plain (OpenSpec.upto walPlaysSpec)) walPlaysUptoCard

/-- THE SECOND FORM's CARD OF 'ordealtop.OrdealLogged'. -/
def ordealLoggedUptoCard : Claim7 := { stood := { row := ordealLoggedUptoRow, standIns := [], harness := (true, "1e4d353abe38b4a1096260ce8b48dee71d41b04da3ac8a0657927090780c7383"), looks := true }, kinds := [], alts := [], laidByText := true, laidKinds := [.data, .data, .data, .data, .sentinel, .sentinel, .data], laidTests := true, laidLooks := .later }
def OrdealLoggedUptoCardSaid : Prop := Claim7.holds Tryz.pinned (.plain (OpenSpec.upto ordealLoggedSpec)) ordealLoggedUptoCard

/-- THE SECOND FORM's CARD OF 'ordealtop.OrdealTwoLogs'. -/
def ordealTwoLogsUptoCard : Claim7 := { stood := { row := ordealTwoLogsUptoRow, standIns := [], harness := (true, "1e4d353abe38b4a1096260ce8b48dee71d41b04da3ac8a0657927090780c7383"), looks := true }, kinds := [], alts := [], laidByText := true, laidKinds := [.data, .data, .data, .data, .sentinel, .sentinel, .data], laidTests := true, laidLooks := .later }
def OrdealTwoLogsUptoCardSaid : Prop := Claim7.holds Tryz.pinned (.plain (OpenSpec.upto ordealTwoLogsSpec)) ordealTwoLogsUptoCard
end Rows
end Go.Proofs.YtinhddggbckmpaaGreatDoor
