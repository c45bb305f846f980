/- A ticket that came in, opened; what the rows' condition on the laid tables gives; a start that meets it. -/
import Derived.Test.YtinekngddmeljaaDoorRows
import Derived.Test.YtinekngddmeljaaDoorCards
import Derived.Test.YtinekngddmeljaaDoorTie
import Derived.Test.YtinekngddmeljaaDoorNuL
import Derived.ProofKit
import Derived.OpenShut
import Derived.LaidMore
import Derived.Stop.Joined
import Derived.Stop.LaidErr
import Derived.Lib.LaidTab
import Derived.SevenTiedAt
namespace Go.Proofs.YtinekngddmeljaaDoor
open Go.ChangeShapes Go.WideShapes Go.ChangeAt Go.RowKit Go.Number

theorem own : ownKnob Tryd.prog.godebug = none := by kernel_rfl
theorem laidOut : laidOutB Tryd.prog = true := by kernel_rfl
theorem str_of (s : ByteArray) : str s.data.toList = .string s := by simp
theorem gP : Tryd.prog.globalNamed "internal/strconv.uint64pow10" = some 0 := by kernel_rfl
theorem tP : (Tryd.prog.globals[0]?).map (·.type) = some 78 := by kernel_rfl
theorem cellsU64 : Tryd.prog.cellsOf 22 = 1 := by kernel_rfl
theorem cellsU8 : Tryd.prog.cellsOf 5 = 1 := by kernel_rfl
theorem cellsTk : Tryd.prog.cellsOf 24 = 2 := by kernel_rfl
theorem cellsA20 : Tryd.prog.cellsOf 78 = 20 := by kernel_rfl
abbrev laid3 : List (String × DataW Unit) := [("math/bits.deBruijn32tab", Rows.laid_math_bits_deBruijn32tab), ("math/bits.deBruijn64tab", Rows.laid_math_bits_deBruijn64tab), ("internal/strconv.uint64pow10", Rows.laid_internal_strconv_uint64pow10)]
theorem dP : (Rows.laid_internal_strconv_uint64pow10 : DataW Unit) = Lib.tabData .u64 Lib.pow10Tab := by kernel_rfl
theorem tab_of_laid {W : World} (h : laidMetH Tryd.prog laid3 W) : Tab W.heap.size W := by
  rw [MakeChecks.laidMetH_plain _ _ _ (by kernel_rfl)] at h
  have hP : laidMet Tryd.prog [("internal/strconv.uint64pow10", Lib.tabData .u64 Lib.pow10Tab)] W := by rw [← dP]; exact h.tail.tail
  exact Lib.tabBelow_of_tabIs (Lib.tabIs_of_head gP tP Tryd.underlying78 Tryd.underlying22 cellsU64 cellsA20 hP)
theorem door_met (os : Os) (args : Array Value) : laidMetH Tryd.prog laid3 ((World.doorLaid Tryd.prog 400 os).forCall (fun _ _ => 0) ⟨#[], args, []⟩).memory :=
  laidMetH_of_parts3 (fuel := 8) (laidMet_of_run' 8 (by kernel_rfl) (by kernel_rfl)) (by kernel_rfl) (by kernel_rfl)
theorem bounds_u8 {n : Int} (h : (Lit.int .u8 n).wf = true) : 0 ≤ n ∧ n < 256 := by
  simp [Lit.wf, IntKind.min, IntKind.max, IntKind.signed, IntKind.bits] at h
  omega
theorem bounds_u64 {n : Int} (h : (Lit.int .u64 n).wf = true) : 0 ≤ n ∧ n < 18446744073709551616 := by
  simp [Lit.wf, IntKind.min, IntKind.max, IntKind.signed, IntKind.bits] at h
  omega
theorem bounds_i64 {n : Int} (h : (Lit.int .i64 n).wf = true) : -9223372036854775808 ≤ n ∧ n < 9223372036854775808 := by
  simp [Lit.wf, IntKind.min, IntKind.max, IntKind.signed, IntKind.bits] at h
  omega
theorem tkU : ∃ f0 f1 : Field, Tryd.prog.underlying 24 = some (.struct #[f0, f1]) ∧ f0.offset = 0 ∧ f1.offset = 1 ∧ f0.type = 5 ∧ f1.type = 22 :=
  ⟨_, _, Tryd.underlying24, rfl, rfl, rfl, rfl⟩
set_option maxRecDepth 100000 in
theorem open_ticket {H : Type} {enc : TypeId × Value → H} {W : World} {base : Nat} {sp : Nat → Bool} {held : Bool} {r : Reach} {b0 : Nat} {v : Value} {d : DataW H} {p : List MemPlace}
    (hv : Value.okWide Tryd.prog W r b0 24 v) (h : DataW.Trod enc Tryd.prog W base sp held 24 v d p) :
    ∃ (c s : Nat), v = .agg (tkV c s) ∧ c < 256 ∧ s < 18446744073709551616 := by
  obtain ⟨f0, f1, hu, o0, o1, t0, t1⟩ := tkU
  simp only [Value.okWide, hu] at hv
  obtain ⟨cs, rfl, hsz, _⟩ := hv
  rw [cellsTk] at hsz
  obtain ⟨fuel, hf⟩ := h
  obtain ⟨xs, n, _, _, _, hn, hel⟩ := DataW.trod_struct hu hf
  obtain ⟨c0, c1, rfl⟩ : ∃ c0 c1, cs = #[c0, c1] := by
    match cs, hsz with
    | ⟨[a, b]⟩, _ => exact ⟨a, b, rfl⟩
  have e0 := hel 0 f0 rfl
  have e1 := hel 1 f1 rfl
  rw [t0, o0, cellsU8, List.getElem?_eq_getElem (by rw [hn]; show _ < 2; omega)] at e0
  rw [t1, o1, cellsU64, List.getElem?_eq_getElem (by rw [hn]; show _ < 2; omega)] at e1
  obtain ⟨n0, g0, _, w0⟩ := DataW.trod_int Tryd.underlying5 e0
  obtain ⟨n1, g1, _, w1⟩ := DataW.trod_int Tryd.underlying22 e1
  have b0 := bounds_u8 w0
  have b1 := bounds_u64 w1
  have q0 : c0 = .int .u8 n0 := by simpa [Value.cells] using g0
  have q1 : c1 = .int .u64 n1 := by simpa [Value.cells] using g1
  refine ⟨n0.toNat, n1.toNat, ?_, by omega, by omega⟩
  rw [q0, q1]
  show Value.agg _ = Value.agg #[.int .u8 ((n0.toNat : Nat) : Int), .int .u64 ((n1.toNat : Nat) : Int)]
  rw [show ((n0.toNat : Nat) : Int) = n0 by omega, show ((n1.toNat : Nat) : Int) = n1 by omega]
end Go.Proofs.YtinekngddmeljaaDoor
