/- Slices of bytes and of ints that came in, opened. -/
import Derived.Test.YthaaccbbegmhbaaDoorShaLift
import Derived.Test.YthaaccbbegmhbaaDoorShaKit
namespace Go.Proofs.YthaaccbbegmhbaaDoor
open Go.ChangeShapes Go.WideShapes Go.ChangeAt Go.RowKit Go.Sha

theorem cells3 : Tryd.prog.cellsOf 3 = 1 := by kernel_rfl
theorem add_none (b o i : Nat) : (⟨b, o, none⟩ : Addr).add i = ⟨b, o + i, none⟩ := Addr.add_mid b o i
/-- a slice of bytes that came in: of no room at all, or its bytes lie in memory -/
theorem open_bytes {H : Type} {enc : TypeId × Value → H} {W : World} {r : Reach} {b0 base : Nat} {held : Bool} {v : Value} {d : DataW H} {p : List MemPlace}
    (hv : Value.okWide Tryd.prog W r b0 22 v) (h : DataW.Trod enc Tryd.prog W base (fun _ => true) held 22 v d p) :
    (∃ q, v = .slice q 0 0) ∨ ∃ (blk o cap : Nat) (l : List Nat), v = .slice (some ⟨blk, o, none⟩) l.length cap ∧ l.length ≤ cap ∧ cap ≤ maxLen ∧ Lt 256 l ∧ blk < W.heap.size ∧ ∀ j, j < l.length → W.cell? ⟨blk, o + j, none⟩ = some (.int .u8 (at0 l j : Nat)) := by
  obtain ⟨a0, len, cap, rfl⟩ := okWide_slice Tryd.underlying22 hv
  obtain ⟨fuel, hf⟩ := h
  rcases open_ints Tryd.underlying22 Tryd.underlying5 cells5 hf with ⟨hcs, _⟩ | ⟨a, len', cap', zs, hcs, _, hl, hm, hz, _, hcell, hwz⟩
  · simp [Value.cells] at hcs
    obtain ⟨rfl, rfl, rfl⟩ := hcs
    exact Or.inl ⟨none, rfl⟩
  · simp [Value.cells] at hcs
    obtain ⟨rfl, rfl, rfl⟩ := hcs
    simp only [if_true] at hz
    by_cases hc : cap = 0
    · obtain rfl : len = 0 := by omega
      subst hc
      exact Or.inl ⟨some a, rfl⟩
    · obtain ⟨blk, o, spot⟩ := a
      have c0 := hcell 0 (by omega)
      have hspot : spot = none := by simpa [Addr.add] using World.cell?_spot c0
      subst hspot
      have hb : blk < W.heap.size := by
        have := block_lt_of_cell c0
        simpa [add_none] using this
      have hwf : ∀ j, j < zs.length → 0 ≤ zs.getD j 0 ∧ zs.getD j 0 ≤ 255 := fun j hj => by
        rw [List.getD_eq_getElem?_getD, List.getElem?_eq_getElem hj]
        exact bounds_u8 (hwz _ (List.getElem_mem hj))
      refine Or.inr ⟨blk, o, cap, (zs.take len).map Int.toNat, by simp; omega, by simp; omega, hm, ?_, hb, fun j hj => ?_⟩
      · intro x hx
        simp only [List.mem_map] at hx
        obtain ⟨z, hz1, rfl⟩ := hx
        have := bounds_u8 (hwz z (List.mem_of_mem_take hz1))
        omega
      · have hj' : j < len := by simp at hj; omega
        have := hcell j (by omega)
        rw [add_none] at this
        rw [this]
        have hw := hwf j (by omega)
        have e : at0 ((zs.take len).map Int.toNat) j = (zs.getD j 0).toNat := by
          unfold at0
          rw [List.getD_eq_getElem?_getD, List.getElem?_map, List.getElem?_take, if_pos hj', List.getD_eq_getElem?_getD, List.getElem?_eq_getElem (show j < zs.length by omega)]
          rfl
        rw [e, show (((zs.getD j 0).toNat : Nat) : Int) = zs.getD j 0 by omega]
/-- a slice of ints that came in -/
theorem open_cuts {H : Type} {enc : TypeId × Value → H} {W : World} {r : Reach} {b0 base : Nat} {held : Bool} {v : Value} {d : DataW H} {p : List MemPlace}
    (hv : Value.okWide Tryd.prog W r b0 35 v) (h : DataW.Trod enc Tryd.prog W base (fun _ => true) held 35 v d p) :
    ∃ (pc : Option Addr) (cs : List Int) (capc : Nat), v = .slice pc cs.length capc ∧ cs.length ≤ capc ∧ capc ≤ maxLen ∧ Ints W pc cs ∧ ∀ j, -9223372036854775808 ≤ cs.getD j 0 ∧ cs.getD j 0 ≤ 9223372036854775807 := by
  obtain ⟨a0, len, cap, rfl⟩ := okWide_slice Tryd.underlying35 hv
  obtain ⟨fuel, hf⟩ := h
  rcases open_ints Tryd.underlying35 Tryd.underlying3 cells3 hf with ⟨hcs, _⟩ | ⟨a, len', cap', zs, hcs, _, hl, hm, hz, _, hcell, hwz⟩
  · simp [Value.cells] at hcs
    obtain ⟨rfl, rfl, rfl⟩ := hcs
    exact ⟨none, [], 0, rfl, by decide, by unfold maxLen; omega, fun h => by simp at h, fun j => by simp⟩
  · simp [Value.cells] at hcs
    obtain ⟨rfl, rfl, rfl⟩ := hcs
    simp only [if_true] at hz
    have hlen : (zs.take len).length = len := by simp; omega
    refine ⟨some a, zs.take len, cap, by rw [hlen], by rw [hlen]; exact hl, hm, fun h0 => ?_, fun j => ?_⟩
    · rw [hlen] at h0
      obtain ⟨blk, o, spot⟩ := a
      have c0 := hcell 0 (by omega)
      have hspot : spot = none := by simpa [Addr.add] using World.cell?_spot c0
      subst hspot
      have hb : blk < W.heap.size := by
        have := block_lt_of_cell c0
        simpa [add_none] using this
      refine ⟨blk, o, rfl, hb, fun j hj => ?_⟩
      rw [hlen] at hj
      have := hcell j (by omega)
      rw [add_none] at this
      rw [this, List.getD_eq_getElem?_getD, List.getD_eq_getElem?_getD, List.getElem?_take, if_pos hj]
    · rw [List.getD_eq_getElem?_getD]
      exact range_i64 (fun n hn => hwz n (List.mem_of_mem_take hn)) j

end Go.Proofs.YthaaccbbegmhbaaDoor
