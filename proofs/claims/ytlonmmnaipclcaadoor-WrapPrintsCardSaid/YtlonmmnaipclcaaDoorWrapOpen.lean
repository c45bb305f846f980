/- An interchange that came in, opened; what the rows' condition on the laid tables gives; a start that meets it. -/
import Derived.Test.YtlonmmnaipclcaaDoorEdiOpen
import Derived.Test.YtlonmmnaipclcaaDoorCards
import Derived.Test.YtlonmmnaipclcaaDoorTie
import Derived.Test.YtlonmmnaipclcaaDoorWrapF
import Derived.Test.YtlonmmnaipclcaaDoorWrapO
import Derived.LaidMore
import Derived.Stop.Joined
import Derived.Stop.LaidErr
import Derived.Lib.LaidTab
import Derived.SevenTiedAt
namespace Go.Proofs.YtlonmmnaipclcaaDoor
open Go.ChangeShapes Go.WideShapes Go.ChangeAt Go.RowKit Go.Edi Go.Wrap

theorem gP : Tryd.prog.globalNamed "internal/strconv.uint64pow10" = some 0 := by kernel_rfl
theorem tP : (Tryd.prog.globals[0]?).map (·.type) = some 108 := by kernel_rfl
theorem cellsU64 : Tryd.prog.cellsOf 22 = 1 := by kernel_rfl
theorem cellsU8 : Tryd.prog.cellsOf 5 = 1 := by kernel_rfl
theorem cellsSegs : Tryd.prog.cellsOf 23 = 1 := by kernel_rfl
theorem cellsWrap : Tryd.prog.cellsOf 25 = 4 := by kernel_rfl
theorem cellsA20 : Tryd.prog.cellsOf 108 = 20 := by kernel_rfl
abbrev laid3 : List (String × DataW Unit) := [("math/bits.deBruijn32tab", Rows.laid_math_bits_deBruijn32tab), ("math/bits.deBruijn64tab", Rows.laid_math_bits_deBruijn64tab), ("internal/strconv.uint64pow10", Rows.laid_internal_strconv_uint64pow10)]
theorem dP : (Rows.laid_internal_strconv_uint64pow10 : DataW Unit) = Lib.tabData .u64 Lib.pow10Tab := by kernel_rfl
theorem tab_of_laid {W : World} (h : laidMetH Tryd.prog laid3 W) : Tab W.heap.size W := by
  rw [MakeChecks.laidMetH_plain _ _ _ (by kernel_rfl)] at h
  have hP : laidMet Tryd.prog [("internal/strconv.uint64pow10", Lib.tabData .u64 Lib.pow10Tab)] W := by rw [← dP]; exact h.tail.tail
  exact Lib.tabBelow_of_tabIs (Lib.tabIs_of_head gP tP Tryd.underlying108 Tryd.underlying22 cellsU64 cellsA20 hP)
theorem door_met (os : Os) (args : Array Value) : laidMetH Tryd.prog laid3 ((World.doorLaid Tryd.prog 400 os).forCall (fun _ _ => 0) ⟨#[], args, []⟩).memory :=
  laidMetH_of_parts3 (fuel := 8) (laidMet_of_run' 8 (by kernel_rfl) (by kernel_rfl)) (by kernel_rfl) (by kernel_rfl)
theorem wrapU : ∃ f0 f1 f2 f3 : Field, Tryd.prog.underlying 25 = some (.struct #[f0, f1, f2, f3]) ∧ f0.offset = 0 ∧ f1.offset = 1 ∧ f2.offset = 2 ∧ f3.offset = 3 ∧ f0.type = 5 ∧ f1.type = 5 ∧ f2.type = 22 ∧ f3.type = 23 :=
  ⟨_, _, _, _, Tryd.underlying25, rfl, rfl, rfl, rfl, rfl, rfl, rfl, rfl⟩
set_option maxRecDepth 100000 in
theorem open_wrap {H : Type} {enc : TypeId × Value → H} {W : World} {base : Nat} {sp : Nat → Bool} {held : Bool} {r : Reach} {b0 : Nat} {v : Value} {d : DataW H} {p : List MemPlace}
    (hv : Value.okWide Tryd.prog W r b0 25 v) (h : DataW.Trod enc Tryd.prog W base sp held 25 v d p) :
    ∃ (f t r : Nat) (va : Value) (l : List Sg), v = .agg (wrV f t r va) ∧ f < 256 ∧ t < 256 ∧ r < 18446744073709551616 ∧ SegsF W (· < W.heap.size) va l := by
  obtain ⟨f0, f1, f2, f3, hu, o0, o1, o2, o3, t0, t1, t2, t3⟩ := wrapU
  simp only [Value.okWide, hu] at hv
  obtain ⟨cs, rfl, hsz, _⟩ := hv
  rw [cellsWrap] at hsz
  obtain ⟨fuel, hf⟩ := h
  obtain ⟨xs, n, _, _, _, hn, hel⟩ := DataW.trod_struct hu hf
  obtain ⟨c0, c1, c2, c3, rfl⟩ : ∃ c0 c1 c2 c3, cs = #[c0, c1, c2, c3] := by
    match cs, hsz with
    | ⟨[a, b, c, d]⟩, _ => exact ⟨a, b, c, d, rfl⟩
  have e0 := hel 0 f0 rfl
  have e1 := hel 1 f1 rfl
  have e2 := hel 2 f2 rfl
  have e3 := hel 3 f3 rfl
  rw [t0, o0, cellsU8, List.getElem?_eq_getElem (by rw [hn]; show _ < 4; omega)] at e0
  rw [t1, o1, cellsU8, List.getElem?_eq_getElem (by rw [hn]; show _ < 4; omega)] at e1
  rw [t2, o2, cellsU64, List.getElem?_eq_getElem (by rw [hn]; show _ < 4; omega)] at e2
  rw [t3, o3, cellsSegs, List.getElem?_eq_getElem (by rw [hn]; show _ < 4; omega)] at e3
  obtain ⟨n0, g0, _, w0⟩ := DataW.trod_int Tryd.underlying5 e0
  obtain ⟨n1, g1, _, w1⟩ := DataW.trod_int Tryd.underlying5 e1
  obtain ⟨n2, g2, _, w2⟩ := DataW.trod_int Tryd.underlying22 e2
  obtain ⟨l, hl⟩ := open_segs0 (v := c3) e3
  have b0 := bounds_u8 w0
  have b1 := bounds_u8 w1
  have b2 := bounds_u64 w2
  have q0 : c0 = .int .u8 n0 := by simpa [Value.cells] using g0
  have q1 : c1 = .int .u8 n1 := by simpa [Value.cells] using g1
  have q2 : c2 = .int .u64 n2 := by simpa [Value.cells] using g2
  refine ⟨n0.toNat, n1.toNat, n2.toNat, c3, l, ?_, by omega, by omega, by omega, hl⟩
  rw [q0, q1, q2]
  show Value.agg _ = Value.agg #[.int .u8 ((n0.toNat : Nat) : Int), .int .u8 ((n1.toNat : Nat) : Int), .int .u64 ((n2.toNat : Nat) : Int), c3]
  rw [show ((n0.toNat : Nat) : Int) = n0 by omega, show ((n1.toNat : Nat) : Int) = n1 by omega, show ((n2.toNat : Nat) : Int) = n2 by omega]
end Go.Proofs.YtlonmmnaipclcaaDoor
