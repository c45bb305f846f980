/-
  DERIVED. GIVEN WITH THE SEED: THE CARDS: each row of YtinekngddmeljaaDoorRows.lean that lists a variable, with what it lists TIED to the program's text (the seventh form; the later family's looks); each row that meets fmt, with fmt's text TOLD by the authors' own Lean function (tested against real Go, not proved from fmt's source: count such statements apart). THE CARD IS WHAT COUNTS. Prove the row's statement (the work); the ties are given (YtinekngddmeljaaDoorTie.lean); close each card by the builder's one call (the guide's Derived/Test/ToyasCard.lean, 'card_holds'). Laid BY PROGRAM, IN A SANDBOX (cutbox-door.mjs). By AI agents, Wed Nov 11 2026. No macro, syntax, notation, axiom, sorry.
-/
import Derived.Test.YtinekngddmeljaaDoorRows
import GoSem.ClaimSeven
namespace Go.Proofs.YtinekngddmeljaaDoor
namespace Rows

/-- THE TIED CARD OF 'tarmaclaw07.NumberTexts'. -/
def numberTextsCard : Claim7 := { stood := { row := numberTextsRow, standIns := [], harness := (true, "f8b78fd8ead75ab59a3c75c733ab796424ca1dd58c7dc8022796b554c3fd6aa7"), looks := false }, kinds := [], alts := [], laidByText := true, laidKinds := [.data, .data, .data], laidTests := true, laidLooks := .later }
def NumberTextsCardSaid : Prop := Claim7.holds Tryd.pinned (.plain (OpenSpec.ofChange numberTextsSpec)) numberTextsCard

/-- THE TIED CARD OF 'tarmaclaw07.NumberParses'. -/
def numberParsesCard : Claim7 := { stood := { row := numberParsesRow, standIns := [], harness := (true, "f8b78fd8ead75ab59a3c75c733ab796424ca1dd58c7dc8022796b554c3fd6aa7"), looks := false }, kinds := [], alts := [], laidByText := true, laidKinds := [.data, .data, .data], laidTests := true, laidLooks := .later }
def NumberParsesCardSaid : Prop := Claim7.holds Tryd.pinned (.plain (OpenSpec.ofChange numberParsesSpec)) numberParsesCard

/-- THE TIED CARD OF 'tarmaclaw07.NumberBack'. -/
def numberBackCard : Claim7 := { stood := { row := numberBackRow, standIns := [], harness := (true, "f8b78fd8ead75ab59a3c75c733ab796424ca1dd58c7dc8022796b554c3fd6aa7"), looks := false }, kinds := [], alts := [], laidByText := true, laidKinds := [.data, .data, .data], laidTests := true, laidLooks := .later }
def NumberBackCardSaid : Prop := Claim7.holds Tryd.pinned (.plain (OpenSpec.ofChange numberBackSpec)) numberBackCard

/-- THE TIED CARD OF 'tarmaclaw07.NumberTold'. -/
def numberToldCard : Claim7 := { stood := { row := numberToldRow, standIns := [], harness := (true, "f8b78fd8ead75ab59a3c75c733ab796424ca1dd58c7dc8022796b554c3fd6aa7"), looks := false }, kinds := [], alts := [], laidByText := true, laidKinds := [.data, .data, .data], laidTests := true, laidLooks := .later }
def NumberToldCardSaid : Prop := Claim7.holds Tryd.pinned (.plain (OpenSpec.ofChange numberToldSpec)) numberToldCard

/-- THE TIED CARD OF 'tarmaclaw07.NumberKnown'. -/
def numberKnownCard : Claim7 := { stood := { row := numberKnownRow, standIns := [], harness := (true, "f8b78fd8ead75ab59a3c75c733ab796424ca1dd58c7dc8022796b554c3fd6aa7"), looks := false }, kinds := [], alts := [], laidByText := true, laidKinds := [.data, .data, .data], laidTests := true, laidLooks := .later }
def NumberKnownCardSaid : Prop := Claim7.holds Tryd.pinned (.plain (OpenSpec.ofChange numberKnownSpec)) numberKnownCard

/-- THE TIED CARD OF 'tarmaclaw07.NumberNext'. -/
def numberNextCard : Claim7 := { stood := { row := numberNextRow, standIns := [], harness := (true, "f8b78fd8ead75ab59a3c75c733ab796424ca1dd58c7dc8022796b554c3fd6aa7"), looks := false }, kinds := [], alts := [], laidByText := true, laidKinds := [.data, .data, .data], laidTests := true, laidLooks := .later }
def NumberNextCardSaid : Prop := Claim7.holds Tryd.pinned (.plain (OpenSpec.ofChange numberNextSpec)) numberNextCard

/-- THE SECOND FORM's CARD OF 'tarmaclaw07.NumberTexts'. -/
def numberTextsUptoCard : Claim7 := { stood := { row := numberTextsUptoRow, standIns := [], harness := (true, "f8b78fd8ead75ab59a3c75c733ab796424ca1dd58c7dc8022796b554c3fd6aa7"), looks := false }, kinds := [], alts := [], laidByText := true, laidKinds := [.data, .data, .data], laidTests := true, laidLooks := .later }
def NumberTextsUptoCardSaid : Prop := Claim7.holds Tryd.pinned (.plain (OpenSpec.upto numberTextsSpec)) numberTextsUptoCard

/-- THE SECOND FORM's CARD OF 'tarmaclaw07.NumberParses'. -/
def numberParsesUptoCard : Claim7 := { stood := { row := numberParsesUptoRow, standIns := [], harness := (true, "f8b78fd8ead75ab59a3c75c733ab796424ca1dd58c7dc8022796b554c3fd6aa7"), looks := false }, kinds := [], alts := [], laidByText := true, laidKinds := [.data, .data, .data], laidTests := true, laidLooks := .later }
def NumberParsesUptoCardSaid : Prop := Claim7.holds Tryd.pinned (.plain (OpenSpec.upto numberParsesSpec)) numberParsesUptoCard

/-- THE SECOND FORM's CARD OF 'tarmaclaw07.NumberBack'. -/
def numberBackUptoCard : Claim7 := { stood := { row := numberBackUptoRow, standIns := [], harness := (true, "f8b78fd8ead75ab59a3c75c733ab796424ca1dd58c7dc8022796b554c3fd6aa7"), looks := false }, kinds := [], alts := [], laidByText := true, laidKinds := [.data, .data, .data], laidTests := true, laidLooks := .later }
def NumberBackUptoCardSaid : Prop := Claim7.holds Tryd.pinned (.plain (OpenSpec.upto numberBackSpec)) numberBackUptoCard

/-- THE SECOND FORM's CARD OF 'tarmaclaw07.NumberTold'. -/
def numberToldUptoCard : Claim7 := { stood := { row := numberToldUptoRow, standIns := [], harness := (true, "f8b78fd8ead75ab59a3c75c733ab796424ca1dd58c7dc8022796b554c3fd6aa7"), looks := false }, kinds := [], alts := [], laidByText := true, laidKinds := [.data, .data, .data], laidTests := true, laidLooks := .later }
def NumberToldUptoCardSaid : Prop := Claim7.holds Tryd.pinned (.plain (OpenSpec.upto numberToldSpec)) numberToldUptoCard

/-- THE SECOND FORM's CARD OF 'tarmaclaw07.NumberKnown'. -/
def numberKnownUptoCard : Claim7 := { stood := { row := numberKnownUptoRow, standIns := [], harness := (true, "f8b78fd8ead75ab59a3c75c733ab796424ca1dd58c7dc8022796b554c3fd6aa7"), looks := false }, kinds := [], alts := [], laidByText := true, laidKinds := [.data, .data, .data], laidTests := true, laidLooks := .later }
def NumberKnownUptoCardSaid : Prop := Claim7.holds Tryd.pinned (.plain (OpenSpec.upto numberKnownSpec)) numberKnownUptoCard

/-- THE SECOND FORM's CARD OF 'tarmaclaw07.NumberNext'. -/
def numberNextUptoCard : Claim7 := { stood := { row := numberNextUptoRow, standIns := [], harness := (true, "f8b78fd8ead75ab59a3c75c733ab796424ca1dd58c7dc8022796b554c3fd6aa7"), looks := false }, kinds := [], alts := [], laidByText := true, laidKinds := [.data, .data, .data], laidTests := true, laidLooks := .later }
def NumberNextUptoCardSaid : Prop := Claim7.holds Tryd.pinned (.plain (OpenSpec.upto numberNextSpec)) numberNextUptoCard
end Rows
end Go.Proofs.YtinekngddmeljaaDoor
