/-
  DERIVED. GIVEN WITH THE SEED: THE CARDS: each row of YtklhppkmoddmkabGreatDoorRows.lean that lists a variable, with what it lists TIED to the program's text (the seventh form; the later family's looks); each row that meets fmt, with fmt's text TOLD by the authors' own Lean function (tested against real Go, not proved from fmt's source: count such statements apart). THE CARD IS WHAT COUNTS. Prove the row's statement (the work); the ties are given (YtklhppkmoddmkabGreatDoorTie.lean); close each card by the builder's one call (the guide's Derived/Test/ToyasCard.lean, 'card_holds'). Laid BY PROGRAM, IN A SANDBOX (cutbox-door.mjs). By AI agents, Wed Nov 11 2026. No macro, syntax, notation, axiom, sorry.
-/
import Derived.Test.YtklhppkmoddmkabGreatDoorRows
import GoSem.ClaimSeven
namespace Go.Proofs.YtklhppkmoddmkabGreatDoor
namespace Rows

/-- THE TIED CARD OF 'tarmaclaw11.SealForged'. -/
def sealForgedCard : Claim7 := { stood := { row := sealForgedRow, standIns := [], harness := (true, "76fe62d7e1d499754863cb359901e7d193a96f17c5a6e85deaa8ef173e766e51"), looks := true }, kinds := [], alts := [], laidByText := true, laidKinds := [.data, .data, .data, .sentinel, .sentinel, .data, .data], laidTests := true, laidLooks := .later }
def SealForgedCardSaid : Prop := Claim7.holds Tryz.pinned (.plain (OpenSpec.ofChange sealForgedSpec)) sealForgedCard

/-- THE TIED CARD OF 'tarmaclaw11.SealRings'. -/
def sealRingsCard : Claim7 := { stood := { row := sealRingsRow, standIns := [], harness := (true, "76fe62d7e1d499754863cb359901e7d193a96f17c5a6e85deaa8ef173e766e51"), looks := true }, kinds := [], alts := [], laidByText := true, laidKinds := [.data, .data, .data, .sentinel, .sentinel, .data, .data], laidTests := true, laidLooks := .later }
def SealRingsCardSaid : Prop := Claim7.holds Tryz.pinned (.plain (OpenSpec.ofChange sealRingsSpec)) sealRingsCard

/-- THE SECOND FORM's CARD OF 'tarmaclaw11.SealForged'. -/
def sealForgedUptoCard : Claim7 := { stood := { row := sealForgedUptoRow, standIns := [], harness := (true, "76fe62d7e1d499754863cb359901e7d193a96f17c5a6e85deaa8ef173e766e51"), looks := true }, kinds := [], alts := [], laidByText := true, laidKinds := [.data, .data, .data, .sentinel, .sentinel, .data, .data], laidTests := true, laidLooks := .later }
def SealForgedUptoCardSaid : Prop := Claim7.holds Tryz.pinned (.plain (OpenSpec.upto sealForgedSpec)) sealForgedUptoCard

/-- THE SECOND FORM's CARD OF 'tarmaclaw11.SealRings'. -/
def sealRingsUptoCard : Claim7 := { stood := { row := sealRingsUptoRow, standIns := [], harness := (true, "76fe62d7e1d499754863cb359901e7d193a96f17c5a6e85deaa8ef173e766e51"), looks := true }, kinds := [], alts := [], laidByText := true, laidKinds := [.data, .data, .data, .sentinel, .sentinel, .data, .data], laidTests := true, laidLooks := .later }
def SealRingsUptoCardSaid : Prop := Claim7.holds Tryz.pinned (.plain (OpenSpec.upto sealRingsSpec)) sealRingsUptoCard
end Rows
end Go.Proofs.YtklhppkmoddmkabGreatDoor
