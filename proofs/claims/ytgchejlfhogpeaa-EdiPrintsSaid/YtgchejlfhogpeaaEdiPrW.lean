/- The walk of EdiPrints: Print answers as the document's own Print. -/
import Derived.Test.YtgchejlfhogpeaaEdiRp
import Derived.Test.YtgchejlfhogpeaaEdiOwW
import Derived.Test.YtgchejlfhogpeaaEdiRd
import Derived.Test.YtgchejlfhogpeaaEdiSm
import Derived.Test.YtgchejlfhogpeaaEdiHv
import Derived.Test.YtgchejlfhogpeaaEdiSn
namespace Go.Proofs.Ytgchejlfhogpeaa
open Go.RowKit Go.Edi

set_option maxRecDepth 100000 in
set_option maxHeartbeats 6400000 in
theorem prints_walk (l : List Sg) (v : Value) (w : World) (hv : SegsF w (· < w.heap.size) v l) :
    Calls Try.prog 3 #[v] w fun e w' => e = .returned (.bool true) ∧ Below w.heap.size w w' := by
  have HV := Lib.hid hv
  have HH := Lib.hid (heavy_any l v w hv)
  clear hv
  go_enter Try.func3, Try.ntmps3
  go_wp2_with (go_at_call 6; refine (HH.out).mono ?_)
  rintro e w1 hh
  obtain ⟨⟨r, rfl, hli⟩, hb1⟩ := hh
  have HB1 := Lib.hid hb1
  clear hb1
  cases r with
  | true =>
    go_wp2
    go_ret
    exact ⟨rfl, HB1.out⟩
  | false =>
    have HLI := Lib.hid (hli rfl)
    clear hli
    have HOW := Lib.hid (own_any l v w1 (HV.out.later HB1.out) HLI.out.small)
    go_wp2_with (go_at_call 7; refine (HOW.out).mono ?_)
    rintro e w2 ⟨⟨vo, F, rfl, ho⟩, hb2⟩
    have HO := Lib.hid ho.segs
    have HB2 := Lib.hid (HB1.out.trans (hb2.mono HB1.out.size))
    obtain ⟨po, capo, rfl⟩ := segs_slice HO.out
    clear ho hb2
    have HPR := Lib.hid (print_any l _ w2 HO.out HLI.out.sane)
    go_wp2_with (go_at_call 8; refine (HPR.out).mono ?_)
    rintro e w3 ⟨rfl, hb3⟩
    have HO3 := Lib.hid (HO.out.later hb3)
    have HB3 := Lib.hid (HB2.out.trans (hb3.mono HB2.out.size))
    clear hb3
    have HRP := Lib.hid (rprint_any l v w3 (HV.out.later HB3.out) HLI.out)
    go_wp2_with (go_at_call 9; refine (HRP.out).mono ?_)
    rintro e w4 ⟨rfl, hb4⟩
    have HO4 := Lib.hid (HO3.out.later hb4)
    have HB4 := Lib.hid (HB3.out.trans (hb4.mono HB3.out.size))
    clear hb4
    have HSM := Lib.hid (same_any l _ v w4 HO4.out (HV.out.later HB4.out) HLI.out.sane)
    generalize printL l = r at *
    go_wp2_with (go_at_call 10; refine (HSM.out).mono ?_)
    rintro e w5 ⟨rfl, hb5⟩
    have HB5 := Lib.hid (HB4.out.trans (hb5.mono HB4.out.size))
    clear hb5
    have HRD := Lib.hid (reads_any w5)
    go_wp2_with (go_at_call 11; refine (HRD.out).mono ?_)
    first | rintro e w7 rfl hb7 | rintro e w7 ⟨rfl, hb7⟩
    have HB7 := Lib.hid (HB5.out.trans (hb7.mono HB5.out.size))
    clear hb7
    go_wp2
    go_ret
    exact ⟨rfl, HB7.out⟩
end Go.Proofs.Ytgchejlfhogpeaa
