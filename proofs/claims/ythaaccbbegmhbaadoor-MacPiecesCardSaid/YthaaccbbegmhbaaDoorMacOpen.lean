/- Slices of bytes that came in, of whatever number: as bytes in memory. -/
import Derived.Test.YthaaccbbegmhbaaDoorShaOpen
import Derived.Test.YthaaccbbegmhbaaDoorShaApp
namespace Go.Proofs.YthaaccbbegmhbaaDoor
open Go.ChangeShapes Go.WideShapes Go.ChangeAt Go.RowKit Go.Sha

theorem open_byt {H : Type} {enc : TypeId × Value → H} {W : World} {r : Reach} {b0 base : Nat} {held : Bool} {v : Value} {d : DataW H} {p : List MemPlace}
    (hv : Value.okWide Tryd.prog W r b0 22 v) (h : DataW.Trod enc Tryd.prog W base (fun _ => true) held 22 v d p) :
    ∃ (q : Option Addr) (n c : Nat) (l : List Nat), v = .slice q n c ∧ n = l.length ∧ Lt 256 l ∧ c ≤ maxLen ∧ Byt W W.heap.size v l := by
  rcases open_bytes hv h with ⟨z, e0⟩ | ⟨blk, o, cap, l, e0, l1, l2, l3, l4, l5⟩
  · exact ⟨z, 0, 0, [], e0, rfl, fun x hx => by simp at hx, by unfold maxLen; omega, z, 0, e0, by simp, fun h => by simp at h⟩
  · exact ⟨some ⟨blk, o, none⟩, l.length, cap, l, e0, rfl, l3, l2, some ⟨blk, o, none⟩, cap, e0, l1, fun _ => ⟨blk, o, rfl, by omega, l4, l5⟩⟩
end Go.Proofs.YthaaccbbegmhbaaDoor
