/- An int that came in. -/
import Derived.Test.YtjdfdihopgceoaaCdOpen
namespace Go.Proofs.Ytjdfdihopgceoaa.Cd
open Go.ChangeShapes Go.WideShapes Go.ChangeAt Go.RowKit Go.ChangeMaps Go.Deep Go.Dk Go.Jn Go.Cod
set_option maxRecDepth 100000 in
theorem open_int' {H : Type} {enc : TypeId × Value → H} {W : World} {r : Reach} {b0 base : Nat} {held : Bool} {sp : Nat → Bool} {v : Value} {d : DataW H} {p : List MemPlace} (hv : Value.okWide Try.prog W r b0 3 v) (h : DataW.Trod enc Try.prog W base sp held 3 v d p) :
    ∃ a : Int, v = .int .i64 a ∧ Wf .i64 a := by
  obtain ⟨a, e, _, _, w0⟩ := open_int Try.underlying3 hv h
  exact ⟨a, e, w0⟩
end Go.Proofs.Ytjdfdihopgceoaa.Cd
