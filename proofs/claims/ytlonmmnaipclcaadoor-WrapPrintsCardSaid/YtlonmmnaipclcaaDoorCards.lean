/-
  DERIVED. GIVEN WITH THE SEED: THE CARDS: each row of YtlonmmnaipclcaaDoorRows.lean that lists a variable, with what it lists TIED to the program's text (the seventh form; the later family's looks); each row that meets fmt, with fmt's text TOLD by the authors' own Lean function (tested against real Go, not proved from fmt's source: count such statements apart). THE CARD IS WHAT COUNTS. Prove the row's statement (the work); the ties are given (YtlonmmnaipclcaaDoorTie.lean); close each card by the builder's one call (the guide's Derived/Test/ToyasCard.lean, 'card_holds'). Laid BY PROGRAM, IN A SANDBOX (cutbox-door.mjs). By AI agents, Wed Nov 11 2026. No macro, syntax, notation, axiom, sorry.
-/
import Derived.Test.YtlonmmnaipclcaaDoorRows
import GoSem.ClaimSeven
namespace Go.Proofs.YtlonmmnaipclcaaDoor
namespace Rows

/-- THE TIED CARD OF 'tarmaclaw04.WrapParses'. -/
def wrapParsesCard : Claim7 := { stood := { row := wrapParsesRow, standIns := [], harness := (true, "230df499f664ff97861d8dab6518a5abaa69a15753fd0a42edd1b21614c82ba4"), looks := false }, kinds := [], alts := [], laidByText := true, laidKinds := [.data, .data, .data], laidTests := true, laidLooks := .later }
def WrapParsesCardSaid : Prop := Claim7.holds Tryd.pinned (.plain (OpenSpec.ofChange wrapParsesSpec)) wrapParsesCard

/-- THE TIED CARD OF 'tarmaclaw04.WrapPrints'. -/
def wrapPrintsCard : Claim7 := { stood := { row := wrapPrintsRow, standIns := [], harness := (true, "230df499f664ff97861d8dab6518a5abaa69a15753fd0a42edd1b21614c82ba4"), looks := false }, kinds := [], alts := [], laidByText := true, laidKinds := [.data, .data, .data], laidTests := true, laidLooks := .later }
def WrapPrintsCardSaid : Prop := Claim7.holds Tryd.pinned (.plain (OpenSpec.ofChange wrapPrintsSpec)) wrapPrintsCard

/-- THE TIED CARD OF 'tarmaclaw04.WrapCounts'. -/
def wrapCountsCard : Claim7 := { stood := { row := wrapCountsRow, standIns := [], harness := (true, "230df499f664ff97861d8dab6518a5abaa69a15753fd0a42edd1b21614c82ba4"), looks := false }, kinds := [], alts := [], laidByText := true, laidKinds := [.data, .data, .data], laidTests := true, laidLooks := .later }
def WrapCountsCardSaid : Prop := Claim7.holds Tryd.pinned (.plain (OpenSpec.ofChange wrapCountsSpec)) wrapCountsCard

/-- THE SECOND FORM's CARD OF 'tarmaclaw04.WrapParses'. -/
def wrapParsesUptoCard : Claim7 := { stood := { row := wrapParsesUptoRow, standIns := [], harness := (true, "230df499f664ff97861d8dab6518a5abaa69a15753fd0a42edd1b21614c82ba4"), looks := false }, kinds := [], alts := [], laidByText := true, laidKinds := [.data, .data, .data], laidTests := true, laidLooks := .later }
def WrapParsesUptoCardSaid : Prop := Claim7.holds Tryd.pinned (.plain (OpenSpec.upto wrapParsesSpec)) wrapParsesUptoCard

/-- THE SECOND FORM's CARD OF 'tarmaclaw04.WrapPrints'. -/
def wrapPrintsUptoCard : Claim7 := { stood := { row := wrapPrintsUptoRow, standIns := [], harness := (true, "230df499f664ff97861d8dab6518a5abaa69a15753fd0a42edd1b21614c82ba4"), looks := false }, kinds := [], alts := [], laidByText := true, laidKinds := [.data, .data, .data], laidTests := true, laidLooks := .later }
def WrapPrintsUptoCardSaid : Prop := Claim7.holds Tryd.pinned (.plain (OpenSpec.upto wrapPrintsSpec)) wrapPrintsUptoCard

/-- THE SECOND FORM's CARD OF 'tarmaclaw04.WrapCounts'. -/
def wrapCountsUptoCard : Claim7 := { stood := { row := wrapCountsUptoRow, standIns := [], harness := (true, "230df499f664ff97861d8dab6518a5abaa69a15753fd0a42edd1b21614c82ba4"), looks := false }, kinds := [], alts := [], laidByText := true, laidKinds := [.data, .data, .data], laidTests := true, laidLooks := .later }
def WrapCountsUptoCardSaid : Prop := Claim7.holds Tryd.pinned (.plain (OpenSpec.upto wrapCountsSpec)) wrapCountsUptoCard
end Rows
end Go.Proofs.YtlonmmnaipclcaaDoor
