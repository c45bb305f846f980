/- What the money rows' cards lean on: slices of int64 and of uint16 that came in. -/
import Derived.Test.YtpapcilffkpjjaaRows
import Derived.Test.YtpapcilffkpjjaaMoneyW
import Derived.ProofKit
import Derived.OpenShut
import Derived.JoinedOf
import Derived.ChangeMaps5
namespace Go.Proofs.Ytpapcilffkpjjaa
open Go.ChangeShapes Go.WideShapes Go.ChangeAt Go.RowKit Go.Money Go.ChangeMaps

theorem own : ownKnob Try.prog.godebug = none := by kernel_rfl
theorem laidOut : laidOutB Try.prog = true := by kernel_rfl
theorem cellsI64 : Try.prog.cellsOf 2 = 1 := by kernel_rfl
theorem cellsU16 : Try.prog.cellsOf 55 = 1 := by kernel_rfl
theorem add_none (b o i : Nat) : (⟨b, o, none⟩ : Addr).add i = ⟨b, o + i, none⟩ := Addr.add_mid b o i
/-- a slice of numbers in memory, in a block below the ones that the call makes -/
structure Nums (W : World) (k : IntKind) (p : Option Addr) (l : List Int) : Prop where
  at_ : 0 < l.length → ∃ b o, p = some ⟨b, o, none⟩ ∧ b < W.heap.size ∧ ∀ j, j < l.length → W.cell? ⟨b, o + j, none⟩ = some (.int k (l.getD j 0))
set_option maxRecDepth 100000 in
theorem open_nums {H : Type} {enc : TypeId × Value → H} {W : World} {r : Reach} {b0 base : Nat} {held : Bool} {v : Value} {d : DataW H} {p : List MemPlace} {t e : TypeId} {k : IntKind}
    (ht : Try.prog.underlying t = some (.slice e)) (he : Try.prog.underlying e = some (.int k)) (hcl : Try.prog.cellsOf e = 1)
    (hv : Value.okWide Try.prog W r b0 t v) (h : DataW.Trod enc Try.prog W base (fun _ => true) held t v d p) :
    ∃ (pc : Option Addr) (l : List Int) (cap : Nat), v = .slice pc l.length cap ∧ l.length ≤ cap ∧ cap ≤ maxLen ∧ Nums W k pc l ∧ ∀ x ∈ l, (Lit.int k x).wf = true := by
  obtain ⟨a0, len, cap, rfl⟩ := okWide_slice ht hv
  obtain ⟨fuel, hf⟩ := h
  rcases open_ints ht he hcl hf with ⟨hcs, _⟩ | ⟨a, len', cap', zs, hcs, _, hl, hm, hz, _, hcell, hwz⟩
  · simp [Value.cells] at hcs
    obtain ⟨rfl, rfl, rfl⟩ := hcs
    exact ⟨none, [], 0, rfl, Nat.le_refl _, by unfold maxLen; omega, ⟨fun h => absurd h (by simp)⟩, fun x hx => by simp at hx⟩
  · simp [Value.cells] at hcs
    obtain ⟨rfl, rfl, rfl⟩ := hcs
    simp only [if_true] at hz
    refine ⟨some a, zs.take len, cap, by simp; omega, by simp; omega, hm, ⟨fun hp => ?_⟩, fun x hx => hwz x (List.mem_of_mem_take hx)⟩
    have hp' : 0 < len := by simp at hp; omega
    obtain ⟨blk, o, spot⟩ := a
    have c0 := hcell 0 (by omega)
    have hspot : spot = none := by simpa [Addr.add] using World.cell?_spot c0
    subst hspot
    refine ⟨blk, o, rfl, ?_, fun j hj => ?_⟩
    · have := block_lt_of_cell c0
      simpa [add_none] using this
    · have hj' : j < len := by simp at hj; omega
      have := hcell j (by omega)
      rw [add_none] at this
      rw [this]
      have e : (zs.take len).getD j 0 = zs.getD j 0 := by
        rw [List.getD_eq_getElem?_getD, List.getElem?_take, if_pos hj', List.getD_eq_getElem?_getD]
      rw [e]
end Go.Proofs.Ytpapcilffkpjjaa
