/- The walks of CouponTells and CouponTexts; the known ways. -/
import Derived.Test.YtheiodccagpphaaCpR
namespace Go.Proofs.Ytheiodccagpphaa
open Go.RowKit Go.Coupon

set_option maxRecDepth 100000 in
theorem cpwakes_any (w : World) : Calls Try.prog 15 #[] w fun e w' => e = .returned (.bool true) ∧ Below w.heap.size w w' := by
  have H1 := Lib.hid (fun W => next_any 1 9 (by decide) (by decide) W)
  have H2 := Lib.hid (fun W => next_any 1 12 (by decide) (by decide) W)
  have H3 := Lib.hid (fun W => over_any 5 (by decide) W)
  have H4 := Lib.hid (fun W => text_any 4 (by decide) W)
  go_enter Try.func15, Try.ntmps15
  go_wp2_with fail
  go_at_call 6
  refine (H1.out _).mono ?_
  rintro e w1 ⟨rfl, hb1⟩
  have HB1 := Lib.hid hb1
  clear hb1
  go_wp2_with fail
  go_at_call 6
  refine (H2.out _).mono ?_
  rintro e w2 ⟨rfl, hb2⟩
  have HB2 := Lib.hid (HB1.out.trans (hb2.mono HB1.out.size))
  clear hb2
  go_wp2_with (first | (go_at_call 8; refine (H3.out _).mono ?_; rintro e w3 ⟨rfl, rfl⟩) | (go_at_call 13; refine (H4.out _).mono ?_; rintro e w3 ⟨rfl, rfl⟩))
  all_goals go_ret
  all_goals exact ⟨ret_bool (by first | rfl | decide), HB2.out⟩
set_option maxRecDepth 100000 in
set_option maxHeartbeats 1600000 in
theorem cptells_any (s c : Nat) (hs : s < 256) (hc : c < 256) (w : World) : Calls Try.prog 3 #[.int .u8 (s : Int), .int .u8 (c : Int)] w fun e w' => e = .returned (.bool true) ∧ Below w.heap.size w w' := by
  have H1 := Lib.hid (fun W => next_any s c hs hc W)
  have H2 := Lib.hid (fun W => rnext_any s c hs W)
  have H3 := Lib.hid (fun W => over_any s hs W)
  have H4 := Lib.hid (fun W => rover_any s hs W)
  have H5 := Lib.hid (fun W => free_any s W)
  have H6 := Lib.hid (fun W => is_any s hs W)
  have H7 := Lib.hid (fun W => ris_any s hs W)
  have H8 := Lib.hid (fun W => text_any s hs W)
  have H9 := Lib.hid (fun W => rtext_any s hs W)
  have HX := Lib.hid (fun W => cpwakes_any W)
  clear hs hc
  generalize nextL s c = p at *
  obtain ⟨t, er⟩ := p
  generalize overL s = bo at *
  generalize isS s = bi at *
  generalize (⟨(signL s).toArray⟩ : ByteArray) = tx at *
  go_enter Try.func3, Try.ntmps3
  go_wp2_with fail
  go_at_call 6
  refine (H1.out _).mono ?_
  rintro e w1 ⟨rfl, hb1⟩
  have HB1 := Lib.hid hb1
  clear hb1
  go_wp2_with (first | (go_at_call 7; refine (H2.out _).mono ?_; rintro e w3 ⟨rfl, rfl⟩) | (go_at_call 8; refine (H3.out _).mono ?_; rintro e w3 ⟨rfl, rfl⟩) | (go_at_call 9; refine (H4.out _).mono ?_; rintro e w3 ⟨rfl, rfl⟩) | (go_at_call 10; refine (H5.out _).mono ?_; rintro e w3 ⟨rfl, rfl⟩) | (go_at_call 11; refine (H6.out _).mono ?_; rintro e w3 ⟨rfl, rfl⟩) | (go_at_call 12; refine (H7.out _).mono ?_; rintro e w3 ⟨rfl, rfl⟩) | (go_at_call 13; refine (H8.out _).mono ?_; rintro e w3 ⟨rfl, rfl⟩) | (go_at_call 14; refine (H9.out _).mono ?_; rintro e w3 ⟨rfl, rfl⟩) | (go_at_call 15; refine (HX.out _).mono ?_; rintro e w4 ⟨rfl, hb4⟩))
  all_goals go_ret
  all_goals exact ⟨ret_bool (by first | rfl | (simp [*]; done)), HB1.out.trans (hb4.mono HB1.out.size)⟩
end Go.Proofs.Ytheiodccagpphaa
