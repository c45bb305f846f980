/-
  No cell of these rows narrows 'for every input' (looked for: loops, veiled, ifaces, maps, wideKeys, modest, calm, conditions, laid).
  DERIVED. THE GIVEN ROWS OF THIS SEAT. 5 by the template 'for every input the law returns true; each argument reads behind the call as it read before'; 0 by the template 'total and deterministic' (their statements: YthjaiianbcfiaaaTotals.lean).
  GIVEN WITH THE SEED: the statements are not yours to turn. If you find one false, say at which input.
  Laid BY PROGRAM, IN A SANDBOX (cutbox-rows.mjs): the forced cells as the released guide's own fill.sh prints them over the translation 51dd2f40e77760a3… (all of the seat's roots in one cut). By AI agents, Wed Nov 11 2026. No macro, syntax, notation, axiom, sorry.
-/
import Derived.Test.YthjaiianbcfiaaaChecked
import GoSem.Claim
import GoSem.ClaimJoined
import GoSem.ClaimMapViews
import Derived.JoinedTies
import Derived.KernelRfl
namespace Go.Proofs.Ythjaiianbcfiaaa
/- THE CELL 'sum', in the pinned program and in every row, IS THE sha256 OF THE DUMP (.gsa) THAT YthjaiianbcfiaaaProg.lean LOADS. Nothing in Lean hashes anything: it is a label: what it is worth is what the hold of that sum in a sandbox is worth. -/
noncomputable def Try.pinned : Pinned := { name := "ythjaiianbcfiaaa", sum := "51dd2f40e77760a36a651cb6fea8c020ccf00891a0160ec965a29b46a2accb7f", checked := Try.checked }
namespace Rows
def none {H : Type} : Left H := { results := [], args := [] }

/-- 'tarmaclaw06.ProrateTells': WHATEVER THE INPUT: true; the input reads as it did. -/
def prorateTellsSpec : ChangeSpec := { name := "prorateTells", fn := fun _ => fun
  | [d1, d2, d3] => { results := [.lit (.bool true)], args := [d1, d2, d3] }
  | _ => none }
def prorateTellsRow : OpenClaim := { program := "ythjaiianbcfiaaa", sum := "51dd2f40e77760a36a651cb6fea8c020ccf00891a0160ec965a29b46a2accb7f", func := "tarmac/tarmaclaw06.ProrateTells", spec := "prorateTells", unfollowed := true, recurses := true, named := ["math/bits.divideError", "math/bits.overflowError"], apart := false }
def ProrateTellsSaid : Prop := prorateTellsRow.holds Try.pinned (OpenSpec.ofChange prorateTellsSpec)

/-- ITS FALSE NEIGHBOUR: 'it returns false'. Refute it at one input. -/
def prorateTellsWrong : ChangeSpec := { name := "prorateTells", fn := fun _ => fun
  | [d1, d2, d3] => { results := [.lit (.bool false)], args := [d1, d2, d3] }
  | _ => none }
def ProrateTellsWrongFalsely : Prop := prorateTellsRow.holds Try.pinned (OpenSpec.ofChange prorateTellsWrong)

/-- 'tarmaclaw06.ProrateWhole': WHATEVER THE INPUT: true; the input reads as it did. -/
def prorateWholeSpec : ChangeSpec := { name := "prorateWhole", fn := fun _ => fun
  | [d1, d2] => { results := [.lit (.bool true)], args := [d1, d2] }
  | _ => none }
def prorateWholeRow : OpenClaim := { program := "ythjaiianbcfiaaa", sum := "51dd2f40e77760a36a651cb6fea8c020ccf00891a0160ec965a29b46a2accb7f", func := "tarmac/tarmaclaw06.ProrateWhole", spec := "prorateWhole", unfollowed := true, recurses := true, named := ["math/bits.divideError", "math/bits.overflowError"], apart := false }
def ProrateWholeSaid : Prop := prorateWholeRow.holds Try.pinned (OpenSpec.ofChange prorateWholeSpec)

/-- ITS FALSE NEIGHBOUR: 'it returns false'. Refute it at one input. -/
def prorateWholeWrong : ChangeSpec := { name := "prorateWhole", fn := fun _ => fun
  | [d1, d2] => { results := [.lit (.bool false)], args := [d1, d2] }
  | _ => none }
def ProrateWholeWrongFalsely : Prop := prorateWholeRow.holds Try.pinned (OpenSpec.ofChange prorateWholeWrong)

/-- 'tarmaclaw06.ProrateTimes': WHATEVER THE INPUT: true; the input reads as it did. -/
def prorateTimesSpec : ChangeSpec := { name := "prorateTimes", fn := fun _ => fun
  | [d1, d2, d3] => { results := [.lit (.bool true)], args := [d1, d2, d3] }
  | _ => none }
def prorateTimesRow : OpenClaim := { program := "ythjaiianbcfiaaa", sum := "51dd2f40e77760a36a651cb6fea8c020ccf00891a0160ec965a29b46a2accb7f", func := "tarmac/tarmaclaw06.ProrateTimes", spec := "prorateTimes", unfollowed := true, recurses := true, named := ["math/bits.divideError", "math/bits.overflowError"], apart := false }
def ProrateTimesSaid : Prop := prorateTimesRow.holds Try.pinned (OpenSpec.ofChange prorateTimesSpec)

/-- ITS FALSE NEIGHBOUR: 'it returns false'. Refute it at one input. -/
def prorateTimesWrong : ChangeSpec := { name := "prorateTimes", fn := fun _ => fun
  | [d1, d2, d3] => { results := [.lit (.bool false)], args := [d1, d2, d3] }
  | _ => none }
def ProrateTimesWrongFalsely : Prop := prorateTimesRow.holds Try.pinned (OpenSpec.ofChange prorateTimesWrong)

/-- 'tarmaclaw06.ProrateEqual': WHATEVER THE INPUT: true; the input reads as it did. -/
def prorateEqualSpec : ChangeSpec := { name := "prorateEqual", fn := fun _ => fun
  | [d1, d2, d3] => { results := [.lit (.bool true)], args := [d1, d2, d3] }
  | _ => none }
def prorateEqualRow : OpenClaim := { program := "ythjaiianbcfiaaa", sum := "51dd2f40e77760a36a651cb6fea8c020ccf00891a0160ec965a29b46a2accb7f", func := "tarmac/tarmaclaw06.ProrateEqual", spec := "prorateEqual", unfollowed := true, recurses := true, named := ["math/bits.divideError", "math/bits.overflowError"], apart := false }
def ProrateEqualSaid : Prop := prorateEqualRow.holds Try.pinned (OpenSpec.ofChange prorateEqualSpec)

/-- ITS FALSE NEIGHBOUR: 'it returns false'. Refute it at one input. -/
def prorateEqualWrong : ChangeSpec := { name := "prorateEqual", fn := fun _ => fun
  | [d1, d2, d3] => { results := [.lit (.bool false)], args := [d1, d2, d3] }
  | _ => none }
def ProrateEqualWrongFalsely : Prop := prorateEqualRow.holds Try.pinned (OpenSpec.ofChange prorateEqualWrong)

/-- 'tarmaclaw06.ProrateExact': WHATEVER THE INPUT: true; the input reads as it did. -/
def prorateExactSpec : ChangeSpec := { name := "prorateExact", fn := fun _ => fun
  | [d1, d2] => { results := [.lit (.bool true)], args := [d1, d2] }
  | _ => none }
def prorateExactRow : OpenClaim := { program := "ythjaiianbcfiaaa", sum := "51dd2f40e77760a36a651cb6fea8c020ccf00891a0160ec965a29b46a2accb7f", func := "tarmac/tarmaclaw06.ProrateExact", spec := "prorateExact", unfollowed := true, recurses := true, named := ["math/bits.divideError", "math/bits.overflowError"], apart := false }
def ProrateExactSaid : Prop := prorateExactRow.holds Try.pinned (OpenSpec.ofChange prorateExactSpec)

/-- ITS FALSE NEIGHBOUR: 'it returns false'. Refute it at one input. -/
def prorateExactWrong : ChangeSpec := { name := "prorateExact", fn := fun _ => fun
  | [d1, d2] => { results := [.lit (.bool false)], args := [d1, d2] }
  | _ => none }
def ProrateExactWrongFalsely : Prop := prorateExactRow.holds Try.pinned (OpenSpec.ofChange prorateExactWrong)

/- THE SECOND FORM. 'bulk': how many values and letters a reading holds, each counted each time it is reached (what is shared counts as often as it is met; a slice's spare places count too). A statement '..UptoSaid' is the law's where the arguments, and the package variables that the reading takes, are together of bulk at most 1048576: NARROWER than '..Said'. Prove '..Said' where nothing that the law and all that it calls make is longer than what came in: it says more and counts as full. Else prove '..UptoSaid'. A law counts once. -/
mutual
def uptoBulk {H : Type} : DataW H → Nat
  | .lit (.string bytes) => bytes.length + 1
  | .lit _ => 1
  | .nil => 1
  | .ptr d => uptoBulk d + 1
  | .slice elems spare => uptoBulkAll elems + uptoBulkAll spare + 1
  | .agg parts => uptoBulkAll parts + 1
  | .iface _ d => uptoBulk d + 1
  | .map entries => uptoBulkEntries entries + 1
  | .held _ => 1
def uptoBulkAll {H : Type} : List (DataW H) → Nat
  | [] => 0
  | d :: r => uptoBulk d + uptoBulkAll r
def uptoBulkEntries {H : Type} : List (Lit × DataW H) → Nat
  | [] => 0
  | x :: r => uptoBulkEntry x + uptoBulkEntries r
def uptoBulkEntry {H : Type} : Lit × DataW H → Nat
  | (.string bytes, d) => bytes.length + uptoBulk d + 1
  | (_, d) => uptoBulk d + 1
 end
def uptoSmall : (H : Type) → List (DataW H) → Bool := fun _ ds => decide (uptoBulkAll ds ≤ 1048576)
def OpenSpec.upto (s : _root_.Go.ChangeSpec) : _root_.Go.OpenSpec := { _root_.Go.OpenSpec.ofChange s with cond := some uptoSmall }

/-- 'tarmaclaw06.ProrateTells', WHERE WHAT IT READS IS OF BULK AT MOST 1048576: true; the input reads as it did. -/
def prorateTellsUptoRow : OpenClaim := { program := "ythjaiianbcfiaaa", sum := "51dd2f40e77760a36a651cb6fea8c020ccf00891a0160ec965a29b46a2accb7f", func := "tarmac/tarmaclaw06.ProrateTells", spec := "prorateTells", unfollowed := true, recurses := true, named := ["math/bits.divideError", "math/bits.overflowError"], apart := false, narrowed := true }
def ProrateTellsUptoSaid : Prop := prorateTellsUptoRow.holds Try.pinned (OpenSpec.upto prorateTellsSpec)

/-- 'tarmaclaw06.ProrateWhole', WHERE WHAT IT READS IS OF BULK AT MOST 1048576: true; the input reads as it did. -/
def prorateWholeUptoRow : OpenClaim := { program := "ythjaiianbcfiaaa", sum := "51dd2f40e77760a36a651cb6fea8c020ccf00891a0160ec965a29b46a2accb7f", func := "tarmac/tarmaclaw06.ProrateWhole", spec := "prorateWhole", unfollowed := true, recurses := true, named := ["math/bits.divideError", "math/bits.overflowError"], apart := false, narrowed := true }
def ProrateWholeUptoSaid : Prop := prorateWholeUptoRow.holds Try.pinned (OpenSpec.upto prorateWholeSpec)

/-- 'tarmaclaw06.ProrateTimes', WHERE WHAT IT READS IS OF BULK AT MOST 1048576: true; the input reads as it did. -/
def prorateTimesUptoRow : OpenClaim := { program := "ythjaiianbcfiaaa", sum := "51dd2f40e77760a36a651cb6fea8c020ccf00891a0160ec965a29b46a2accb7f", func := "tarmac/tarmaclaw06.ProrateTimes", spec := "prorateTimes", unfollowed := true, recurses := true, named := ["math/bits.divideError", "math/bits.overflowError"], apart := false, narrowed := true }
def ProrateTimesUptoSaid : Prop := prorateTimesUptoRow.holds Try.pinned (OpenSpec.upto prorateTimesSpec)

/-- 'tarmaclaw06.ProrateEqual', WHERE WHAT IT READS IS OF BULK AT MOST 1048576: true; the input reads as it did. -/
def prorateEqualUptoRow : OpenClaim := { program := "ythjaiianbcfiaaa", sum := "51dd2f40e77760a36a651cb6fea8c020ccf00891a0160ec965a29b46a2accb7f", func := "tarmac/tarmaclaw06.ProrateEqual", spec := "prorateEqual", unfollowed := true, recurses := true, named := ["math/bits.divideError", "math/bits.overflowError"], apart := false, narrowed := true }
def ProrateEqualUptoSaid : Prop := prorateEqualUptoRow.holds Try.pinned (OpenSpec.upto prorateEqualSpec)

/-- 'tarmaclaw06.ProrateExact', WHERE WHAT IT READS IS OF BULK AT MOST 1048576: true; the input reads as it did. -/
def prorateExactUptoRow : OpenClaim := { program := "ythjaiianbcfiaaa", sum := "51dd2f40e77760a36a651cb6fea8c020ccf00891a0160ec965a29b46a2accb7f", func := "tarmac/tarmaclaw06.ProrateExact", spec := "prorateExact", unfollowed := true, recurses := true, named := ["math/bits.divideError", "math/bits.overflowError"], apart := false, narrowed := true }
def ProrateExactUptoSaid : Prop := prorateExactUptoRow.holds Try.pinned (OpenSpec.upto prorateExactSpec)

end Rows
end Go.Proofs.Ythjaiianbcfiaaa
