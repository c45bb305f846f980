/-
  No cell of these rows narrows 'for every input' (looked for: loops, veiled, ifaces, maps, wideKeys, modest, calm, conditions, laid).
  DERIVED. THE GIVEN ROWS OF THIS SEAT. 5 by the template 'for every input the law returns true; each argument reads behind the call as it read before'; 0 by the template 'total and deterministic' (their statements: YtpapcilffkpjjaaTotals.lean).
  GIVEN WITH THE SEED: the statements are not yours to turn. If you find one false, say at which input.
  Laid BY PROGRAM, IN A SANDBOX (cutbox-rows.mjs): the forced cells as the released guide's own fill.sh prints them over the translation e2adfaa7ce371f35… (all of the seat's roots in one cut). By AI agents, Wed Nov 11 2026. No macro, syntax, notation, axiom, sorry.
-/
import Derived.Test.YtpapcilffkpjjaaChecked
import GoSem.Claim
import GoSem.ClaimJoined
import GoSem.ClaimMapViews
import Derived.JoinedTies
import Derived.KernelRfl
namespace Go.Proofs.Ytpapcilffkpjjaa
/- THE CELL 'sum', in the pinned program and in every row, IS THE sha256 OF THE DUMP (.gsa) THAT YtpapcilffkpjjaaProg.lean LOADS. Nothing in Lean hashes anything: it is a label: what it is worth is what the hold of that sum in a sandbox is worth. -/
noncomputable def Try.pinned : Pinned := { name := "ytpapcilffkpjjaa", sum := "e2adfaa7ce371f356b663c250349d451118d78c46ce3e54b4cd55d64504a6a16", checked := Try.checked }
namespace Rows
def none {H : Type} : Left H := { results := [], args := [] }

/-- 'tarmaclaw09.TicketGives': WHATEVER THE INPUT: true; the input reads as it did. -/
def ticketGivesSpec : ChangeSpec := { name := "ticketGives", fn := fun _ => fun
  | [d1, d2, d3, d4, d5] => { results := [.lit (.bool true)], args := [d1, d2, d3, d4, d5] }
  | _ => none }
def ticketGivesRow : OpenClaim := { program := "ytpapcilffkpjjaa", sum := "e2adfaa7ce371f356b663c250349d451118d78c46ce3e54b4cd55d64504a6a16", func := "tarmac/tarmaclaw09.TicketGives", spec := "ticketGives", unfollowed := true, recurses := true, named := ["math/bits.divideError", "math/bits.overflowError"], apart := false }
def TicketGivesSaid : Prop := ticketGivesRow.holds Try.pinned (OpenSpec.ofChange ticketGivesSpec)

/-- ITS FALSE NEIGHBOUR: 'it returns false'. Refute it at one input. -/
def ticketGivesWrong : ChangeSpec := { name := "ticketGives", fn := fun _ => fun
  | [d1, d2, d3, d4, d5] => { results := [.lit (.bool false)], args := [d1, d2, d3, d4, d5] }
  | _ => none }
def TicketGivesWrongFalsely : Prop := ticketGivesRow.holds Try.pinned (OpenSpec.ofChange ticketGivesWrong)

/-- 'tarmaclaw09.TicketWhole': WHATEVER THE INPUT: true; the input reads as it did. -/
def ticketWholeSpec : ChangeSpec := { name := "ticketWhole", fn := fun _ => fun
  | [d1, d2, d3, d4] => { results := [.lit (.bool true)], args := [d1, d2, d3, d4] }
  | _ => none }
def ticketWholeRow : OpenClaim := { program := "ytpapcilffkpjjaa", sum := "e2adfaa7ce371f356b663c250349d451118d78c46ce3e54b4cd55d64504a6a16", func := "tarmac/tarmaclaw09.TicketWhole", spec := "ticketWhole", unfollowed := true, recurses := true, named := ["math/bits.divideError", "math/bits.overflowError"], apart := false }
def TicketWholeSaid : Prop := ticketWholeRow.holds Try.pinned (OpenSpec.ofChange ticketWholeSpec)

/-- ITS FALSE NEIGHBOUR: 'it returns false'. Refute it at one input. -/
def ticketWholeWrong : ChangeSpec := { name := "ticketWhole", fn := fun _ => fun
  | [d1, d2, d3, d4] => { results := [.lit (.bool false)], args := [d1, d2, d3, d4] }
  | _ => none }
def TicketWholeWrongFalsely : Prop := ticketWholeRow.holds Try.pinned (OpenSpec.ofChange ticketWholeWrong)

/-- 'tarmaclaw09.TicketPrice': WHATEVER THE INPUT: true; the input reads as it did. -/
def ticketPriceSpec : ChangeSpec := { name := "ticketPrice", fn := fun _ => fun
  | [d1, d2, d3] => { results := [.lit (.bool true)], args := [d1, d2, d3] }
  | _ => none }
def ticketPriceRow : OpenClaim := { program := "ytpapcilffkpjjaa", sum := "e2adfaa7ce371f356b663c250349d451118d78c46ce3e54b4cd55d64504a6a16", func := "tarmac/tarmaclaw09.TicketPrice", spec := "ticketPrice", unfollowed := true, recurses := true, named := ["math/bits.divideError", "math/bits.overflowError"], apart := false }
def TicketPriceSaid : Prop := ticketPriceRow.holds Try.pinned (OpenSpec.ofChange ticketPriceSpec)

/-- ITS FALSE NEIGHBOUR: 'it returns false'. Refute it at one input. -/
def ticketPriceWrong : ChangeSpec := { name := "ticketPrice", fn := fun _ => fun
  | [d1, d2, d3] => { results := [.lit (.bool false)], args := [d1, d2, d3] }
  | _ => none }
def TicketPriceWrongFalsely : Prop := ticketPriceRow.holds Try.pinned (OpenSpec.ofChange ticketPriceWrong)

/-- 'tarmaclaw09.TicketAlone': WHATEVER THE INPUT: true; the input reads as it did. -/
def ticketAloneSpec : ChangeSpec := { name := "ticketAlone", fn := fun _ => fun
  | [d1, d2, d3, d4, d5] => { results := [.lit (.bool true)], args := [d1, d2, d3, d4, d5] }
  | _ => none }
def ticketAloneRow : OpenClaim := { program := "ytpapcilffkpjjaa", sum := "e2adfaa7ce371f356b663c250349d451118d78c46ce3e54b4cd55d64504a6a16", func := "tarmac/tarmaclaw09.TicketAlone", spec := "ticketAlone", unfollowed := true, recurses := true, named := ["math/bits.divideError", "math/bits.overflowError"], apart := false }
def TicketAloneSaid : Prop := ticketAloneRow.holds Try.pinned (OpenSpec.ofChange ticketAloneSpec)

/-- ITS FALSE NEIGHBOUR: 'it returns false'. Refute it at one input. -/
def ticketAloneWrong : ChangeSpec := { name := "ticketAlone", fn := fun _ => fun
  | [d1, d2, d3, d4, d5] => { results := [.lit (.bool false)], args := [d1, d2, d3, d4, d5] }
  | _ => none }
def TicketAloneWrongFalsely : Prop := ticketAloneRow.holds Try.pinned (OpenSpec.ofChange ticketAloneWrong)

/-- 'tarmaclaw09.TicketTaxes': WHATEVER THE INPUT: true; the input reads as it did. -/
def ticketTaxesSpec : ChangeSpec := { name := "ticketTaxes", fn := fun _ => fun
  | [d1, d2, d3, d4] => { results := [.lit (.bool true)], args := [d1, d2, d3, d4] }
  | _ => none }
def ticketTaxesRow : OpenClaim := { program := "ytpapcilffkpjjaa", sum := "e2adfaa7ce371f356b663c250349d451118d78c46ce3e54b4cd55d64504a6a16", func := "tarmac/tarmaclaw09.TicketTaxes", spec := "ticketTaxes", unfollowed := true, recurses := true, named := ["math/bits.divideError", "math/bits.overflowError"], apart := false }
def TicketTaxesSaid : Prop := ticketTaxesRow.holds Try.pinned (OpenSpec.ofChange ticketTaxesSpec)

/-- ITS FALSE NEIGHBOUR: 'it returns false'. Refute it at one input. -/
def ticketTaxesWrong : ChangeSpec := { name := "ticketTaxes", fn := fun _ => fun
  | [d1, d2, d3, d4] => { results := [.lit (.bool false)], args := [d1, d2, d3, d4] }
  | _ => none }
def TicketTaxesWrongFalsely : Prop := ticketTaxesRow.holds Try.pinned (OpenSpec.ofChange ticketTaxesWrong)

/- THE SECOND FORM. 'bulk': how many values and letters a reading holds, each counted each time it is reached (what is shared counts as often as it is met; a slice's spare places count too). A statement '..UptoSaid' is the law's where the arguments, and the package variables that the reading takes, are together of bulk at most 1048576: NARROWER than '..Said'. Prove '..Said' where nothing that the law and all that it calls make is longer than what came in: it says more and counts as full. Else prove '..UptoSaid'. A law counts once. -/
mutual
def uptoBulk {H : Type} : DataW H → Nat
  | .lit (.string bytes) => bytes.length + 1
  | .lit _ => 1
  | .nil => 1
  | .ptr d => uptoBulk d + 1
  | .slice elems spare => uptoBulkAll elems + uptoBulkAll spare + 1
  | .agg parts => uptoBulkAll parts + 1
  | .iface _ d => uptoBulk d + 1
  | .map entries => uptoBulkEntries entries + 1
  | .held _ => 1
def uptoBulkAll {H : Type} : List (DataW H) → Nat
  | [] => 0
  | d :: r => uptoBulk d + uptoBulkAll r
def uptoBulkEntries {H : Type} : List (Lit × DataW H) → Nat
  | [] => 0
  | x :: r => uptoBulkEntry x + uptoBulkEntries r
def uptoBulkEntry {H : Type} : Lit × DataW H → Nat
  | (.string bytes, d) => bytes.length + uptoBulk d + 1
  | (_, d) => uptoBulk d + 1
 end
def uptoSmall : (H : Type) → List (DataW H) → Bool := fun _ ds => decide (uptoBulkAll ds ≤ 1048576)
def OpenSpec.upto (s : _root_.Go.ChangeSpec) : _root_.Go.OpenSpec := { _root_.Go.OpenSpec.ofChange s with cond := some uptoSmall }

/-- 'tarmaclaw09.TicketGives', WHERE WHAT IT READS IS OF BULK AT MOST 1048576: true; the input reads as it did. -/
def ticketGivesUptoRow : OpenClaim := { program := "ytpapcilffkpjjaa", sum := "e2adfaa7ce371f356b663c250349d451118d78c46ce3e54b4cd55d64504a6a16", func := "tarmac/tarmaclaw09.TicketGives", spec := "ticketGives", unfollowed := true, recurses := true, named := ["math/bits.divideError", "math/bits.overflowError"], apart := false, narrowed := true }
def TicketGivesUptoSaid : Prop := ticketGivesUptoRow.holds Try.pinned (OpenSpec.upto ticketGivesSpec)

/-- 'tarmaclaw09.TicketWhole', WHERE WHAT IT READS IS OF BULK AT MOST 1048576: true; the input reads as it did. -/
def ticketWholeUptoRow : OpenClaim := { program := "ytpapcilffkpjjaa", sum := "e2adfaa7ce371f356b663c250349d451118d78c46ce3e54b4cd55d64504a6a16", func := "tarmac/tarmaclaw09.TicketWhole", spec := "ticketWhole", unfollowed := true, recurses := true, named := ["math/bits.divideError", "math/bits.overflowError"], apart := false, narrowed := true }
def TicketWholeUptoSaid : Prop := ticketWholeUptoRow.holds Try.pinned (OpenSpec.upto ticketWholeSpec)

/-- 'tarmaclaw09.TicketPrice', WHERE WHAT IT READS IS OF BULK AT MOST 1048576: true; the input reads as it did. -/
def ticketPriceUptoRow : OpenClaim := { program := "ytpapcilffkpjjaa", sum := "e2adfaa7ce371f356b663c250349d451118d78c46ce3e54b4cd55d64504a6a16", func := "tarmac/tarmaclaw09.TicketPrice", spec := "ticketPrice", unfollowed := true, recurses := true, named := ["math/bits.divideError", "math/bits.overflowError"], apart := false, narrowed := true }
def TicketPriceUptoSaid : Prop := ticketPriceUptoRow.holds Try.pinned (OpenSpec.upto ticketPriceSpec)

/-- 'tarmaclaw09.TicketAlone', WHERE WHAT IT READS IS OF BULK AT MOST 1048576: true; the input reads as it did. -/
def ticketAloneUptoRow : OpenClaim := { program := "ytpapcilffkpjjaa", sum := "e2adfaa7ce371f356b663c250349d451118d78c46ce3e54b4cd55d64504a6a16", func := "tarmac/tarmaclaw09.TicketAlone", spec := "ticketAlone", unfollowed := true, recurses := true, named := ["math/bits.divideError", "math/bits.overflowError"], apart := false, narrowed := true }
def TicketAloneUptoSaid : Prop := ticketAloneUptoRow.holds Try.pinned (OpenSpec.upto ticketAloneSpec)

/-- 'tarmaclaw09.TicketTaxes', WHERE WHAT IT READS IS OF BULK AT MOST 1048576: true; the input reads as it did. -/
def ticketTaxesUptoRow : OpenClaim := { program := "ytpapcilffkpjjaa", sum := "e2adfaa7ce371f356b663c250349d451118d78c46ce3e54b4cd55d64504a6a16", func := "tarmac/tarmaclaw09.TicketTaxes", spec := "ticketTaxes", unfollowed := true, recurses := true, named := ["math/bits.divideError", "math/bits.overflowError"], apart := false, narrowed := true }
def TicketTaxesUptoSaid : Prop := ticketTaxesUptoRow.holds Try.pinned (OpenSpec.upto ticketTaxesSpec)

end Rows
end Go.Proofs.Ytpapcilffkpjjaa
