/- The statements' tells, and the walks of NumberTexts and NumberParses. -/
import Derived.Test.YtinekngddmeljaaDoorNuR3
namespace Go.Proofs.YtinekngddmeljaaDoor
open Go.RowKit Go.Shelf Go.Number

abbrev exT : Tx := [48, 48, 49, 48, 48, 48, 48, 48, 48, 48, 48, 48, 49, 53]
theorem ex_text : textL 1 1 = (exT, 0) := by kernel_rfl
theorem ex_parse : parseL exT = (1, 1, 0) := by kernel_rfl
set_option maxRecDepth 100000 in
set_option maxHeartbeats 1600000 in
theorem tells_any (B : Nat) (w : World) (htab : Tab B w) (hB : B ≤ w.heap.size) : Calls Tryd.prog 11 #[] w fun e w' => e = .returned (.bool true) ∧ Below w.heap.size w w' := by
  have H1 := Lib.hid (show Calls Tryd.prog 9 #[.agg #[.int .u8 1, .int .u64 1]] w (fun e w' => e = .returned (.tuple #[.string { data := #[48, 48, 49, 48, 48, 48, 48, 48, 48, 48, 48, 48, 49, 53] }, .int .i64 0]) ∧ Below w.heap.size w w') by
    have := text_any 1 1 (by decide) B w htab hB
    rw [ex_text] at this
    exact this)
  have H2 := Lib.hid (fun W => show Calls Tryd.prog 12 #[.string { data := #[48, 48, 49, 48, 48, 48, 48, 48, 48, 48, 48, 48, 49, 53] }] W (fun e w' => e = .returned (.tuple #[.agg #[.int .u8 1, .int .u64 1], .int .i64 0]) ∧ Below W.heap.size W w') by
    have := parse_any exT W
    unfold paV at this
    rw [ex_parse] at this
    exact this)
  clear htab hB
  go_enter Tryd.func11, Tryd.ntmps11
  go_wp2_with first
    | (go_at_call 9; refine (H1.out).mono ?_; rintro e w1 ⟨rfl, hb1⟩; have HB1 := Lib.hid hb1; clear hb1)
    | (go_at_call 12; refine (H2.out _).mono ?_; rintro e w2 ⟨rfl, hb2⟩; have HB2 := Lib.hid (HB1.out.trans (hb2.mono HB1.out.size)); clear hb2)
  go_ret
  exact ⟨rfl, HB2.out.alloc HB2.out.size _⟩
end Go.Proofs.YtinekngddmeljaaDoor
