/-
  DERIVED. GIVEN WITH THE SEED: THE CARDS: each row of YtakepblcedbimaaDoorRows.lean that lists a variable, with what it lists TIED to the program's text (the seventh form; the later family's looks); each row that meets fmt, with fmt's text TOLD by the authors' own Lean function (tested against real Go, not proved from fmt's source: count such statements apart). THE CARD IS WHAT COUNTS. Prove the row's statement (the work); the ties are given (YtakepblcedbimaaDoorTie.lean); close each card by the builder's one call (the guide's Derived/Test/ToyasCard.lean, 'card_holds'). Laid BY PROGRAM, IN A SANDBOX (cutbox-door.mjs). By AI agents, Wed Nov 11 2026. No macro, syntax, notation, axiom, sorry.
-/
import Derived.Test.YtakepblcedbimaaDoorRows
import GoSem.ClaimSeven
namespace Go.Proofs.YtakepblcedbimaaDoor
namespace Rows

/-- THE TIED CARD OF 'ordeallaw03.ShaSums'. -/
def shaSumsCard : Claim7 := { stood := { row := shaSumsRow, standIns := [], harness := (true, "91dbee8ffca63f6edb52d9bcd930e5d71f4bc0c2206aa87a461a9b475ce03735"), looks := false }, kinds := [], alts := [], laidByText := true, laidKinds := [.data], laidTests := true, laidLooks := .later }
def ShaSumsCardSaid : Prop := Claim7.holds Tryd.pinned (.plain (OpenSpec.ofChange shaSumsSpec)) shaSumsCard

/-- THE TIED CARD OF 'ordeallaw03.ShaTexts'. -/
def shaTextsCard : Claim7 := { stood := { row := shaTextsRow, standIns := [], harness := (true, "91dbee8ffca63f6edb52d9bcd930e5d71f4bc0c2206aa87a461a9b475ce03735"), looks := false }, kinds := [], alts := [], laidByText := true, laidKinds := [.data], laidTests := true, laidLooks := .later }
def ShaTextsCardSaid : Prop := Claim7.holds Tryd.pinned (.plain (OpenSpec.ofChange shaTextsSpec)) shaTextsCard

/-- THE TIED CARD OF 'ordeallaw03.ShaBack'. -/
def shaBackCard : Claim7 := { stood := { row := shaBackRow, standIns := [], harness := (true, "91dbee8ffca63f6edb52d9bcd930e5d71f4bc0c2206aa87a461a9b475ce03735"), looks := false }, kinds := [], alts := [], laidByText := true, laidKinds := [.data], laidTests := true, laidLooks := .later }
def ShaBackCardSaid : Prop := Claim7.holds Tryd.pinned (.plain (OpenSpec.ofChange shaBackSpec)) shaBackCard

/-- THE TIED CARD OF 'ordeallaw03.ShaParts'. -/
def shaPartsCard : Claim7 := { stood := { row := shaPartsRow, standIns := [], harness := (true, "91dbee8ffca63f6edb52d9bcd930e5d71f4bc0c2206aa87a461a9b475ce03735"), looks := false }, kinds := [], alts := [], laidByText := true, laidKinds := [.data], laidTests := true, laidLooks := .later }
def ShaPartsCardSaid : Prop := Claim7.holds Tryd.pinned (.plain (OpenSpec.ofChange shaPartsSpec)) shaPartsCard

/-- THE TIED CARD OF 'ordealtop.OrdealSealed'. -/
def ordealSealedCard : Claim7 := { stood := { row := ordealSealedRow, standIns := [], harness := (true, "91dbee8ffca63f6edb52d9bcd930e5d71f4bc0c2206aa87a461a9b475ce03735"), looks := false }, kinds := [], alts := [], laidByText := true, laidKinds := [.data, .data, .data], laidTests := true, laidLooks := .later }
def OrdealSealedCardSaid : Prop := Claim7.holds Tryd.pinned (.plain (OpenSpec.ofChange ordealSealedSpec)) ordealSealedCard

/-- THE TIED CARD OF 'ordealtop.OrdealDigits'. -/
def ordealDigitsCard : Claim7 := { stood := { row := ordealDigitsRow, standIns := [], harness := (true, "91dbee8ffca63f6edb52d9bcd930e5d71f4bc0c2206aa87a461a9b475ce03735"), looks := false }, kinds := [], alts := [], laidByText := true, laidKinds := [.data, .data, .data], laidTests := true, laidLooks := .later }
def OrdealDigitsCardSaid : Prop := Claim7.holds Tryd.pinned (.plain (OpenSpec.ofChange ordealDigitsSpec)) ordealDigitsCard

/-- THE SECOND FORM's CARD OF 'ordeallaw03.ShaSums'. -/
def shaSumsUptoCard : Claim7 := { stood := { row := shaSumsUptoRow, standIns := [], harness := (true, "91dbee8ffca63f6edb52d9bcd930e5d71f4bc0c2206aa87a461a9b475ce03735"), looks := false }, kinds := [], alts := [], laidByText := true, laidKinds := [.data], laidTests := true, laidLooks := .later }
def ShaSumsUptoCardSaid : Prop := Claim7.holds Tryd.pinned (.plain (OpenSpec.upto shaSumsSpec)) shaSumsUptoCard

/-- THE SECOND FORM's CARD OF 'ordeallaw03.ShaTexts'. -/
def shaTextsUptoCard : Claim7 := { stood := { row := shaTextsUptoRow, standIns := [], harness := (true, "91dbee8ffca63f6edb52d9bcd930e5d71f4bc0c2206aa87a461a9b475ce03735"), looks := false }, kinds := [], alts := [], laidByText := true, laidKinds := [.data], laidTests := true, laidLooks := .later }
def ShaTextsUptoCardSaid : Prop := Claim7.holds Tryd.pinned (.plain (OpenSpec.upto shaTextsSpec)) shaTextsUptoCard

/-- THE SECOND FORM's CARD OF 'ordeallaw03.ShaBack'. -/
def shaBackUptoCard : Claim7 := { stood := { row := shaBackUptoRow, standIns := [], harness := (true, "91dbee8ffca63f6edb52d9bcd930e5d71f4bc0c2206aa87a461a9b475ce03735"), looks := false }, kinds := [], alts := [], laidByText := true, laidKinds := [.data], laidTests := true, laidLooks := .later }
def ShaBackUptoCardSaid : Prop := Claim7.holds Tryd.pinned (.plain (OpenSpec.upto shaBackSpec)) shaBackUptoCard

/-- THE SECOND FORM's CARD OF 'ordeallaw03.ShaParts'. -/
def shaPartsUptoCard : Claim7 := { stood := { row := shaPartsUptoRow, standIns := [], harness := (true, "91dbee8ffca63f6edb52d9bcd930e5d71f4bc0c2206aa87a461a9b475ce03735"), looks := false }, kinds := [], alts := [], laidByText := true, laidKinds := [.data], laidTests := true, laidLooks := .later }
def ShaPartsUptoCardSaid : Prop := Claim7.holds Tryd.pinned (.plain (OpenSpec.upto shaPartsSpec)) shaPartsUptoCard

/-- THE SECOND FORM's CARD OF 'ordealtop.OrdealSealed'. -/
def ordealSealedUptoCard : Claim7 := { stood := { row := ordealSealedUptoRow, standIns := [], harness := (true, "91dbee8ffca63f6edb52d9bcd930e5d71f4bc0c2206aa87a461a9b475ce03735"), looks := false }, kinds := [], alts := [], laidByText := true, laidKinds := [.data, .data, .data], laidTests := true, laidLooks := .later }
def OrdealSealedUptoCardSaid : Prop := Claim7.holds Tryd.pinned (.plain (OpenSpec.upto ordealSealedSpec)) ordealSealedUptoCard

/-- THE SECOND FORM's CARD OF 'ordealtop.OrdealDigits'. -/
def ordealDigitsUptoCard : Claim7 := { stood := { row := ordealDigitsUptoRow, standIns := [], harness := (true, "91dbee8ffca63f6edb52d9bcd930e5d71f4bc0c2206aa87a461a9b475ce03735"), looks := false }, kinds := [], alts := [], laidByText := true, laidKinds := [.data, .data, .data], laidTests := true, laidLooks := .later }
def OrdealDigitsUptoCardSaid : Prop := Claim7.holds Tryd.pinned (.plain (OpenSpec.upto ordealDigitsSpec)) ordealDigitsUptoCard
end Rows
end Go.Proofs.YtakepblcedbimaaDoor
