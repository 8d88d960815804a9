/-
  DERIVED. GIVEN WITH THE SEED: THE CARDS: each row of YtnlcmdgjoikljaaDoorRows.lean that lists a variable, with what it lists TIED to the program's text (the seventh form; the later family's looks); each row that meets fmt, with fmt's text TOLD by the authors' own Lean function (tested against real Go, not proved from fmt's source: count such statements apart). THE CARD IS WHAT COUNTS. Prove the row's statement (the work); the ties are given (YtnlcmdgjoikljaaDoorTie.lean); close each card by the builder's one call (the guide's Derived/Test/ToyasCard.lean, 'card_holds'). Laid BY PROGRAM, IN A SANDBOX (cutbox-door.mjs). By AI agents, Wed Nov 11 2026. No macro, syntax, notation, axiom, sorry.
-/
import Derived.Test.YtnlcmdgjoikljaaDoorRows
import GoSem.ClaimSeven
namespace Go.Proofs.YtnlcmdgjoikljaaDoor
namespace Rows

/-- THE TIED CARD OF 'ordeallaw12.OutcomeTells'. -/
def outcomeTellsCard : Claim7 := { stood := { row := outcomeTellsRow, standIns := [], harness := (true, "f44f718065070153ab81e50915d34d6e0206070be67fabba54c7d88201815ffd"), looks := false }, kinds := [], alts := [], laidByText := true, laidKinds := [.data, .data, .data], laidTests := true, laidLooks := .later }
def OutcomeTellsCardSaid : Prop := Claim7.holds Tryd.pinned (.plain (OpenSpec.ofChange outcomeTellsSpec)) outcomeTellsCard

/-- THE TIED CARD OF 'ordeallaw12.OutcomeGood'. -/
def outcomeGoodCard : Claim7 := { stood := { row := outcomeGoodRow, standIns := [], harness := (true, "f44f718065070153ab81e50915d34d6e0206070be67fabba54c7d88201815ffd"), looks := false }, kinds := [], alts := [], laidByText := true, laidKinds := [.data, .data, .data], laidTests := true, laidLooks := .later }
def OutcomeGoodCardSaid : Prop := Claim7.holds Tryd.pinned (.plain (OpenSpec.ofChange outcomeGoodSpec)) outcomeGoodCard

/-- THE SECOND FORM's CARD OF 'ordeallaw12.OutcomeTells'. -/
def outcomeTellsUptoCard : Claim7 := { stood := { row := outcomeTellsUptoRow, standIns := [], harness := (true, "f44f718065070153ab81e50915d34d6e0206070be67fabba54c7d88201815ffd"), looks := false }, kinds := [], alts := [], laidByText := true, laidKinds := [.data, .data, .data], laidTests := true, laidLooks := .later }
def OutcomeTellsUptoCardSaid : Prop := Claim7.holds Tryd.pinned (.plain (OpenSpec.upto outcomeTellsSpec)) outcomeTellsUptoCard

/-- THE SECOND FORM's CARD OF 'ordeallaw12.OutcomeGood'. -/
def outcomeGoodUptoCard : Claim7 := { stood := { row := outcomeGoodUptoRow, standIns := [], harness := (true, "f44f718065070153ab81e50915d34d6e0206070be67fabba54c7d88201815ffd"), looks := false }, kinds := [], alts := [], laidByText := true, laidKinds := [.data, .data, .data], laidTests := true, laidLooks := .later }
def OutcomeGoodUptoCardSaid : Prop := Claim7.holds Tryd.pinned (.plain (OpenSpec.upto outcomeGoodSpec)) outcomeGoodUptoCard
end Rows
end Go.Proofs.YtnlcmdgjoikljaaDoor
