/- The plain model of interchanges: head, tail, and what is between. -/
import Derived.Test.YtjlifjgljejabaaGreatDoorWrapPure
namespace Go.Wrap
open Go.Edi
def headV (s : Sg) : Option (Nat × Nat × Nat) :=
  if s.tag = [85, 78, 66] then (match s.els with
    | [[a], [b], [c]] => (match numL 7 a, numL 7 b, numL 18446744073709551615 c with
      | some x, some y, some z => some (x, y, z)
      | _, _, _ => none)
    | _ => none) else none
def tailV (s : Sg) : Option (Nat × Nat) :=
  if s.tag = [85, 78, 90] then (match s.els with
    | [[a], [b]] => (match numL 18446744073709551615 a, numL 18446744073709551615 b with
      | some x, some y => some (x, y)
      | _, _ => none)
    | _ => none) else none
/-- an interchange: from, to, ref, the segments between -/
structure Wr where
  from_ : Nat
  to_ : Nat
  ref : Nat
  segs : List Sg
def Wr.nil : Wr := ⟨0, 0, 0, []⟩
def openL (l : List Sg) : Wr × Nat :=
  if l.length < 2 then (.nil, 40) else
  match headV (l.getD 0 ⟨[], []⟩), tailV (l.getD (l.length - 1) ⟨[], []⟩) with
  | some (f, t, r), some (c, a) => if c = l.length - 2 then (if a = r then (⟨f, t, r, (l.take (l.length - 1)).drop 1⟩, 0) else (.nil, 42)) else (.nil, 41)
  | _, _ => (.nil, 40)
def wparseL (t : Tx) : Wr × Nat := if (parseL t).2.2 = 0 then openL (parseL t).1 else (.nil, (parseL t).2.2)
end Go.Wrap
