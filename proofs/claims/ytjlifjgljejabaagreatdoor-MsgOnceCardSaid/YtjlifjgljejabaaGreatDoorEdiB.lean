/- Contracts of edi's questions about one byte, over the translated program. -/
import Derived.Test.YtjlifjgljejabaaGreatDoorProg
import Derived.Test.YtjlifjgljejabaaGreatDoorEdiPure2
import Derived.WalkKit
import Derived.Outline
import Derived.KernelRfl
import Derived.Deep.QuietTactic
import Derived.BigQuiet
import Derived.BigRegion
import Derived.RegionTactic
import Derived.StillTailTactics
import Derived.Laws.Rows
import Derived.Deep.MidRow
import Derived.Lib.Hide
import Derived.Deep.Light
import Derived.WalkSmall
import Derived.Test.YtjlifjgljejabaaGreatDoorEdiShelf
namespace Go.Proofs.YtjlifjgljejabaaGreatDoor
open Go.RowKit Go.Edi

theorem ret_bool {a b : Bool} (h : a = b) : Ending.returned (.bool a) = .returned (.bool b) := by rw [h]
/-- a byte as a value -/
abbrev by8 (c : UInt8) : Value := .int .u8 ((c.toNat : Nat) : Int)
theorem le8 (a c : UInt8) : (decide (a ≤ c)) = decide ((a.toNat : Int) ≤ (c.toNat : Int)) := by
  rw [decide_eq_decide, UInt8.le_iff_toNat_le]; omega
theorem eq8 (a c : UInt8) : (c == a) = decide ((c.toNat : Int) = (a.toNat : Int)) := by
  rw [Bool.eq_iff_iff, beq_iff_eq, decide_eq_true_eq, ← UInt8.toNat_inj]; omega
theorem eq8' (a c : UInt8) : (c = a) ↔ ((c.toNat : Int) = (a.toNat : Int)) := by
  rw [← UInt8.toNat_inj]; omega
theorem tgc_int (c : UInt8) : tgc c = ((decide (65 ≤ (c.toNat : Int)) && decide ((c.toNat : Int) ≤ 90)) || (decide (48 ≤ (c.toNat : Int)) && decide ((c.toNat : Int) ≤ 57))) := by
  unfold tgc; rw [le8, le8, le8, le8]; rfl
theorem pln_int (c : UInt8) : pln c = (decide (32 ≤ (c.toNat : Int)) && decide ((c.toNat : Int) ≤ 126)) := by
  unfold pln; rw [le8, le8]; rfl
theorem sgn_int (c : UInt8) : sgn c = (((decide ((c.toNat : Int) = 43) || decide ((c.toNat : Int) = 58)) || decide ((c.toNat : Int) = 39)) || decide ((c.toNat : Int) = 63)) := by
  unfold sgn; rw [eq8, eq8, eq8, eq8]; rfl
set_option maxRecDepth 100000 in
theorem isOfTag_any (c : UInt8) (w : World) : Calls Tryz.prog 114 #[by8 c] w fun e w' => e = .returned (.bool (tgc c)) ∧ w = w' := by
  rw [tgc_int, show by8 c = .int .u8 (c.toNat : Int) from rfl]
  generalize (c.toNat : Int) = x
  go_enter Tryz.func114, Tryz.ntmps114
  go_wp2
  all_goals go_ret
  all_goals exact ⟨ret_bool (by first | rfl | (simp [*]; done) | (simp [*]; omega) | (simp at *; omega)), rfl⟩
set_option maxRecDepth 100000 in
theorem isPlain_any (c : UInt8) (w : World) : Calls Tryz.prog 115 #[by8 c] w fun e w' => e = .returned (.bool (pln c)) ∧ w = w' := by
  rw [pln_int, show by8 c = .int .u8 (c.toNat : Int) from rfl]
  generalize (c.toNat : Int) = x
  go_enter Tryz.func115, Tryz.ntmps115
  go_wp2
  all_goals go_ret
  all_goals exact ⟨ret_bool (by first | rfl | (simp [*]; done) | (simp [*]; omega) | (simp at *; omega)), rfl⟩
set_option maxRecDepth 100000 in
theorem isSign_any (c : UInt8) (w : World) : Calls Tryz.prog 151 #[by8 c] w fun e w' => e = .returned (.bool (sgn c)) ∧ w = w' := by
  go_enter Tryz.func151, Tryz.ntmps151
  go_wp2_with (go_at_call 164; refine (Tryz.strings_IndexByte _ _ _).mono ?_; rintro e w' ⟨rfl, rfl⟩)
  go_ret
  refine ⟨ret_bool ?_, rfl⟩
  unfold sgn
  simp only [Lib.indexByte]
  by_cases h1 : c = 43
  · subst h1; decide
  by_cases h2 : c = 58
  · subst h2; decide
  by_cases h3 : c = 39
  · subst h3; decide
  by_cases h4 : c = 63
  · subst h4; decide
  have e1 : ((43 : UInt8) == c) = false := by simpa using fun e => h1 e.symm
  have e2 : ((58 : UInt8) == c) = false := by simpa using fun e => h2 e.symm
  have e3 : ((39 : UInt8) == c) = false := by simpa using fun e => h3 e.symm
  have e4 : ((63 : UInt8) == c) = false := by simpa using fun e => h4 e.symm
  simp [h1, h2, h3, h4, e1, e2, e3, e4]
end Go.Proofs.YtjlifjgljejabaaGreatDoor
