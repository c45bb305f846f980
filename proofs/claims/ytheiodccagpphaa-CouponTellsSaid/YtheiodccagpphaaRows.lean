/-
  No cell of these rows narrows 'for every input' (looked for: loops, veiled, ifaces, maps, wideKeys, modest, calm, conditions, laid).
  DERIVED. THE GIVEN ROWS OF THIS SEAT. 3 by the template 'for every input the law returns true; each argument reads behind the call as it read before'; 0 by the template 'total and deterministic' (their statements: YtheiodccagpphaaTotals.lean).
  GIVEN WITH THE SEED: the statements are not yours to turn. If you find one false, say at which input.
  Laid BY PROGRAM, IN A SANDBOX (cutbox-rows.mjs): the forced cells as the released guide's own fill.sh prints them over the translation 7854231507d34059… (all of the seat's roots in one cut). By AI agents, Wed Nov 11 2026. No macro, syntax, notation, axiom, sorry.
-/
import Derived.Test.YtheiodccagpphaaChecked
import GoSem.Claim
import GoSem.ClaimJoined
import GoSem.ClaimMapViews
import Derived.JoinedTies
import Derived.KernelRfl
namespace Go.Proofs.Ytheiodccagpphaa
/- THE CELL 'sum', in the pinned program and in every row, IS THE sha256 OF THE DUMP (.gsa) THAT YtheiodccagpphaaProg.lean LOADS. Nothing in Lean hashes anything: it is a label: what it is worth is what the hold of that sum in a sandbox is worth. -/
noncomputable def Try.pinned : Pinned := { name := "ytheiodccagpphaa", sum := "7854231507d340595879f961d5b209299e8a5ede63f9e01957ca214a15c104d0", checked := Try.checked }
namespace Rows
def none {H : Type} : Left H := { results := [], args := [] }

/-- 'tarmaclaw08.CouponTells': WHATEVER THE INPUT: true; the input reads as it did. -/
def couponTellsSpec : ChangeSpec := { name := "couponTells", fn := fun _ => fun
  | [d1, d2] => { results := [.lit (.bool true)], args := [d1, d2] }
  | _ => none }
def couponTellsRow : OpenClaim := { program := "ytheiodccagpphaa", sum := "7854231507d340595879f961d5b209299e8a5ede63f9e01957ca214a15c104d0", func := "tarmac/tarmaclaw08.CouponTells", spec := "couponTells", plainKeys := false, apart := false }
def CouponTellsSaid : Prop := couponTellsRow.holds Try.pinned (OpenSpec.ofChange couponTellsSpec)

/-- ITS FALSE NEIGHBOUR: 'it returns false'. Refute it at one input. -/
def couponTellsWrong : ChangeSpec := { name := "couponTells", fn := fun _ => fun
  | [d1, d2] => { results := [.lit (.bool false)], args := [d1, d2] }
  | _ => none }
def CouponTellsWrongFalsely : Prop := couponTellsRow.holds Try.pinned (OpenSpec.ofChange couponTellsWrong)

/-- 'tarmaclaw08.CouponOnce': WHATEVER THE INPUT: true; the input reads as it did. -/
def couponOnceSpec : ChangeSpec := { name := "couponOnce", fn := fun _ => fun
  | [d] => { results := [.lit (.bool true)], args := [d] }
  | _ => none }
def couponOnceRow : OpenClaim := { program := "ytheiodccagpphaa", sum := "7854231507d340595879f961d5b209299e8a5ede63f9e01957ca214a15c104d0", func := "tarmac/tarmaclaw08.CouponOnce", spec := "couponOnce", plainKeys := false, apart := false }
def CouponOnceSaid : Prop := couponOnceRow.holds Try.pinned (OpenSpec.ofChange couponOnceSpec)

/-- ITS FALSE NEIGHBOUR: 'it returns false'. Refute it at one input. -/
def couponOnceWrong : ChangeSpec := { name := "couponOnce", fn := fun _ => fun
  | [d] => { results := [.lit (.bool false)], args := [d] }
  | _ => none }
def CouponOnceWrongFalsely : Prop := couponOnceRow.holds Try.pinned (OpenSpec.ofChange couponOnceWrong)

/-- 'tarmaclaw08.CouponTexts': WHATEVER THE INPUT: true; the input reads as it did. -/
def couponTextsSpec : ChangeSpec := { name := "couponTexts", fn := fun _ => fun
  | [d1, d2] => { results := [.lit (.bool true)], args := [d1, d2] }
  | _ => none }
def couponTextsRow : OpenClaim := { program := "ytheiodccagpphaa", sum := "7854231507d340595879f961d5b209299e8a5ede63f9e01957ca214a15c104d0", func := "tarmac/tarmaclaw08.CouponTexts", spec := "couponTexts", plainKeys := false, apart := false }
def CouponTextsSaid : Prop := couponTextsRow.holds Try.pinned (OpenSpec.ofChange couponTextsSpec)

/-- ITS FALSE NEIGHBOUR: 'it returns false'. Refute it at one input. -/
def couponTextsWrong : ChangeSpec := { name := "couponTexts", fn := fun _ => fun
  | [d1, d2] => { results := [.lit (.bool false)], args := [d1, d2] }
  | _ => none }
def CouponTextsWrongFalsely : Prop := couponTextsRow.holds Try.pinned (OpenSpec.ofChange couponTextsWrong)

/- THE SECOND FORM. 'bulk': how many values and letters a reading holds, each counted each time it is reached (what is shared counts as often as it is met; a slice's spare places count too). A statement '..UptoSaid' is the law's where the arguments, and the package variables that the reading takes, are together of bulk at most 1048576: NARROWER than '..Said'. Prove '..Said' where nothing that the law and all that it calls make is longer than what came in: it says more and counts as full. Else prove '..UptoSaid'. A law counts once. -/
mutual
def uptoBulk {H : Type} : DataW H → Nat
  | .lit (.string bytes) => bytes.length + 1
  | .lit _ => 1
  | .nil => 1
  | .ptr d => uptoBulk d + 1
  | .slice elems spare => uptoBulkAll elems + uptoBulkAll spare + 1
  | .agg parts => uptoBulkAll parts + 1
  | .iface _ d => uptoBulk d + 1
  | .map entries => uptoBulkEntries entries + 1
  | .held _ => 1
def uptoBulkAll {H : Type} : List (DataW H) → Nat
  | [] => 0
  | d :: r => uptoBulk d + uptoBulkAll r
def uptoBulkEntries {H : Type} : List (Lit × DataW H) → Nat
  | [] => 0
  | x :: r => uptoBulkEntry x + uptoBulkEntries r
def uptoBulkEntry {H : Type} : Lit × DataW H → Nat
  | (.string bytes, d) => bytes.length + uptoBulk d + 1
  | (_, d) => uptoBulk d + 1
 end
def uptoSmall : (H : Type) → List (DataW H) → Bool := fun _ ds => decide (uptoBulkAll ds ≤ 1048576)
def OpenSpec.upto (s : _root_.Go.ChangeSpec) : _root_.Go.OpenSpec := { _root_.Go.OpenSpec.ofChange s with cond := some uptoSmall }

/-- 'tarmaclaw08.CouponTells', WHERE WHAT IT READS IS OF BULK AT MOST 1048576: true; the input reads as it did. -/
def couponTellsUptoRow : OpenClaim := { program := "ytheiodccagpphaa", sum := "7854231507d340595879f961d5b209299e8a5ede63f9e01957ca214a15c104d0", func := "tarmac/tarmaclaw08.CouponTells", spec := "couponTells", plainKeys := false, apart := false, narrowed := true }
def CouponTellsUptoSaid : Prop := couponTellsUptoRow.holds Try.pinned (OpenSpec.upto couponTellsSpec)

/-- 'tarmaclaw08.CouponOnce', WHERE WHAT IT READS IS OF BULK AT MOST 1048576: true; the input reads as it did. -/
def couponOnceUptoRow : OpenClaim := { program := "ytheiodccagpphaa", sum := "7854231507d340595879f961d5b209299e8a5ede63f9e01957ca214a15c104d0", func := "tarmac/tarmaclaw08.CouponOnce", spec := "couponOnce", plainKeys := false, apart := false, narrowed := true }
def CouponOnceUptoSaid : Prop := couponOnceUptoRow.holds Try.pinned (OpenSpec.upto couponOnceSpec)

/-- 'tarmaclaw08.CouponTexts', WHERE WHAT IT READS IS OF BULK AT MOST 1048576: true; the input reads as it did. -/
def couponTextsUptoRow : OpenClaim := { program := "ytheiodccagpphaa", sum := "7854231507d340595879f961d5b209299e8a5ede63f9e01957ca214a15c104d0", func := "tarmac/tarmaclaw08.CouponTexts", spec := "couponTexts", plainKeys := false, apart := false, narrowed := true }
def CouponTextsUptoSaid : Prop := couponTextsUptoRow.holds Try.pinned (OpenSpec.upto couponTextsSpec)

end Rows
end Go.Proofs.Ytheiodccagpphaa
