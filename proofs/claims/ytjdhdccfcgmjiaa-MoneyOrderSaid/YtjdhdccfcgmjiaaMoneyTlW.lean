/- The statements' wakes, and the walk of MoneyTells. -/
import Derived.Test.YtjdhdccfcgmjiaaMoneyQr
namespace Go.Proofs.Ytjdhdccfcgmjiaa
open Go.RowKit Go.Money

set_option maxRecDepth 100000 in
set_option maxHeartbeats 1600000 in
theorem mnwakes_any (w : World) : Calls Try.prog 18 #[] w fun e w' => e = .returned (.bool true) ∧ Below w.heap.size w w' := by
  have H1 := Lib.hid (fun w => show Calls Try.prog 8 #[iv 2, iv 3] w (fun e w' => e = .returned (.tuple #[iv 5, iv 0]) ∧ w = w') from add_any 2 3 w)
  have H2 := Lib.hid (fun w => show Calls Try.prog 8 #[iv 1125899906842624, iv 1] w (fun e w' => e = .returned (.tuple #[iv 0, iv 7]) ∧ w = w') from add_any 1125899906842624 1 w)
  have H3 := Lib.hid (fun w => show Calls Try.prog 16 #[iv 10, iv 1, iv 3] w (fun e w' => e = .returned (.tuple #[iv 3, iv 1, iv 0]) ∧ Below w.heap.size w w') from part_any 10 1 3 w)
  go_enter Try.func18, Try.ntmps18
  go_wp2_with fail
  refine (H1.out _).mono ?_
  rintro e w' ⟨rfl, rfl⟩
  go_wp2_with fail
  refine (H2.out _).mono ?_
  rintro e w' ⟨rfl, rfl⟩
  go_wp2_with fail
  refine (H3.out _).mono ?_
  rintro e w' ⟨rfl, hb⟩
  have HB := Lib.hid hb
  clear hb
  go_wp2_with fail
  go_ret
  exact ⟨rfl, HB.out⟩
set_option maxRecDepth 100000 in
set_option maxHeartbeats 1600000 in
theorem mntells_any (a b c : Int) (w : World) (ha : i64 a) (hb : i64 b) : Calls Try.prog 3 #[iv a, iv b, iv c] w fun e w' => e = .returned (.bool true) ∧ Below w.heap.size w w' := by
  have HA := Lib.hid ha
  have HB := Lib.hid hb
  clear ha hb
  go_enter Try.func3, Try.ntmps3
  go_wp2_with first
    | (go_at_call 8; refine (add_any _ _ _).mono ?_; rintro e w' ⟨rfl, rfl⟩)
    | (go_at_call 9; refine (radd_any _ _ _).mono ?_; rintro e w' ⟨rfl, rfl⟩)
    | (go_at_call 10; refine (sub_any _ _ _ HB.out).mono ?_; rintro e w' ⟨rfl, rfl⟩)
    | (go_at_call 11; refine (rsub_any _ _ _).mono ?_; rintro e w' ⟨rfl, rfl⟩)
    | (go_at_call 12; refine (check_any _ _).mono ?_; rintro e w' ⟨rfl, rfl⟩)
    | (go_at_call 13; refine (rcheck_any _ _).mono ?_; rintro e w' ⟨rfl, rfl⟩)
    | (go_at_call 14; refine (mul_any _ _ _ HA.out HB.out).mono ?_; rintro e w' ⟨rfl, rfl⟩)
    | (go_at_call 15; refine (rmul_any _ _ _ HB.out).mono ?_; rintro e w' ⟨rfl, rfl⟩)
    | (go_at_call 16; refine (part_any _ _ _ _).mono ?_; rintro e w1 ⟨rfl, hb1⟩)
    | (go_at_call 17; refine (rpart_any _ _ _ _).mono ?_; rintro e w' ⟨rfl, rfl⟩)
    | (go_at_call 18; refine (mnwakes_any _).mono ?_; rintro e w2 ⟨rfl, hb2⟩)
  go_ret
  exact ⟨rfl, hb1.trans (hb2.mono hb1.size)⟩
end Go.Proofs.Ytjdhdccfcgmjiaa
