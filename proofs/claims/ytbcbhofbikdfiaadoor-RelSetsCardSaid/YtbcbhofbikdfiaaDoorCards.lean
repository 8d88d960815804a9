/-
  DERIVED. GIVEN WITH THE SEED: THE CARDS: each row of YtbcbhofbikdfiaaDoorRows.lean that lists a variable, with what it lists TIED to the program's text (the seventh form; the later family's looks); each row that meets fmt, with fmt's text TOLD by the authors' own Lean function (tested against real Go, not proved from fmt's source: count such statements apart). THE CARD IS WHAT COUNTS. Prove the row's statement (the work); the ties are given (YtbcbhofbikdfiaaDoorTie.lean); close each card by the builder's one call (the guide's Derived/Test/ToyasCard.lean, 'card_holds'). Laid BY PROGRAM, IN A SANDBOX (cutbox-door.mjs). By AI agents, Wed Nov 11 2026. No macro, syntax, notation, axiom, sorry.
-/
import Derived.Test.YtbcbhofbikdfiaaDoorRows
import GoSem.ClaimSeven
namespace Go.Proofs.YtbcbhofbikdfiaaDoor
namespace Rows

/-- THE TIED CARD OF 'ordeallaw16.RelPairs'. -/
def relPairsCard : Claim7 := { stood := { row := relPairsRow, standIns := [], harness := (true, "6bc3216efd2c6072303f57e68809f8c8d89b52c87afd4333e08c7a2bb2ae4b4e"), looks := false }, kinds := [], alts := [], laidByText := true, laidKinds := [.data], laidTests := true, laidLooks := .later }
def RelPairsCardSaid : Prop := Claim7.holds Tryd.pinned (.plain (OpenSpec.ofChange relPairsSpec)) relPairsCard

/-- THE TIED CARD OF 'ordeallaw16.RelSets'. -/
def relSetsCard : Claim7 := { stood := { row := relSetsRow, standIns := [], harness := (true, "6bc3216efd2c6072303f57e68809f8c8d89b52c87afd4333e08c7a2bb2ae4b4e"), looks := false }, kinds := [], alts := [], laidByText := true, laidKinds := [.data], laidTests := true, laidLooks := .later }
def RelSetsCardSaid : Prop := Claim7.holds Tryd.pinned (.plain (OpenSpec.ofChange relSetsSpec)) relSetsCard

/-- THE TIED CARD OF 'ordeallaw16.RelLaws'. -/
def relLawsCard : Claim7 := { stood := { row := relLawsRow, standIns := [], harness := (true, "6bc3216efd2c6072303f57e68809f8c8d89b52c87afd4333e08c7a2bb2ae4b4e"), looks := false }, kinds := [], alts := [], laidByText := true, laidKinds := [.data], laidTests := true, laidLooks := .later }
def RelLawsCardSaid : Prop := Claim7.holds Tryd.pinned (.plain (OpenSpec.ofChange relLawsSpec)) relLawsCard

/-- THE TIED CARD OF 'ordeallaw16.RelOrders'. -/
def relOrdersCard : Claim7 := { stood := { row := relOrdersRow, standIns := [], harness := (true, "6bc3216efd2c6072303f57e68809f8c8d89b52c87afd4333e08c7a2bb2ae4b4e"), looks := false }, kinds := [], alts := [], laidByText := true, laidKinds := [.data], laidTests := true, laidLooks := .later }
def RelOrdersCardSaid : Prop := Claim7.holds Tryd.pinned (.plain (OpenSpec.ofChange relOrdersSpec)) relOrdersCard

/-- THE SECOND FORM's CARD OF 'ordeallaw16.RelPairs'. -/
def relPairsUptoCard : Claim7 := { stood := { row := relPairsUptoRow, standIns := [], harness := (true, "6bc3216efd2c6072303f57e68809f8c8d89b52c87afd4333e08c7a2bb2ae4b4e"), looks := false }, kinds := [], alts := [], laidByText := true, laidKinds := [.data], laidTests := true, laidLooks := .later }
def RelPairsUptoCardSaid : Prop := Claim7.holds Tryd.pinned (.plain (OpenSpec.upto relPairsSpec)) relPairsUptoCard

/-- THE SECOND FORM's CARD OF 'ordeallaw16.RelSets'. -/
def relSetsUptoCard : Claim7 := { stood := { row := relSetsUptoRow, standIns := [], harness := (true, "6bc3216efd2c6072303f57e68809f8c8d89b52c87afd4333e08c7a2bb2ae4b4e"), looks := false }, kinds := [], alts := [], laidByText := true, laidKinds := [.data], laidTests := true, laidLooks := .later }
def RelSetsUptoCardSaid : Prop := Claim7.holds Tryd.pinned (.plain (OpenSpec.upto relSetsSpec)) relSetsUptoCard

/-- THE SECOND FORM's CARD OF 'ordeallaw16.RelLaws'. -/
def relLawsUptoCard : Claim7 := { stood := { row := relLawsUptoRow, standIns := [], harness := (true, "6bc3216efd2c6072303f57e68809f8c8d89b52c87afd4333e08c7a2bb2ae4b4e"), looks := false }, kinds := [], alts := [], laidByText := true, laidKinds := [.data], laidTests := true, laidLooks := .later }
def RelLawsUptoCardSaid : Prop := Claim7.holds Tryd.pinned (.plain (OpenSpec.upto relLawsSpec)) relLawsUptoCard

/-- THE SECOND FORM's CARD OF 'ordeallaw16.RelOrders'. -/
def relOrdersUptoCard : Claim7 := { stood := { row := relOrdersUptoRow, standIns := [], harness := (true, "6bc3216efd2c6072303f57e68809f8c8d89b52c87afd4333e08c7a2bb2ae4b4e"), looks := false }, kinds := [], alts := [], laidByText := true, laidKinds := [.data], laidTests := true, laidLooks := .later }
def RelOrdersUptoCardSaid : Prop := Claim7.holds Tryd.pinned (.plain (OpenSpec.upto relOrdersSpec)) relOrdersUptoCard
end Rows
end Go.Proofs.YtbcbhofbikdfiaaDoor
