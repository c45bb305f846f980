/- Contracts of money's small functions and of the document's own: may an amount be; sums and differences. -/
import Derived.Test.YtpapcilffkpjjaaProg
import Derived.Test.YtpapcilffkpjjaaMoneyPure
import Derived.WalkKit
import Derived.Outline
import Derived.KernelRfl
import Derived.Deep.QuietTactic
import Derived.BigQuiet
import Derived.BigRegion
import Derived.RegionTactic
import Derived.StillTailTactics
import Derived.Laws.Rows
import Derived.Deep.MidRow
import Derived.Lib.Hide
import Derived.Deep.Light
import Derived.WalkSmall
namespace Go.Proofs.Ytpapcilffkpjjaa
open Go.RowKit Go.Money

theorem ret_bool {a b : Bool} (h : a = b) : Ending.returned (.bool a) = .returned (.bool b) := by rw [h]
abbrev iv (a : Int) : Value := .int .i64 a
abbrev pv (r : Option Int) : Value := .tuple #[.int .i64 (pairV r).1, .int .i64 (pairV r).2]
abbrev tv (r : Option (Int × Int)) : Value := .tuple #[.int .i64 (tripV r).1, .int .i64 (tripV r).2.1, .int .i64 (tripV r).2.2]
theorem may_any (a : Int) (w : World) : Calls Try.prog 26 #[iv a] w fun e w' => e = .returned (.bool (may a)) ∧ w = w' := by
  unfold may
  go_enter Try.func26, Try.ntmps26
  go_wp2
  all_goals go_ret
  all_goals exact ⟨by congr 2; first | rfl | (simp [*]; done) | (simp [*]; omega) | (simp at *; omega), rfl⟩
theorem check_any (a : Int) (w : World) : Calls Try.prog 18 #[iv a] w fun e w' => e = .returned (iv (chk a)) ∧ w = w' := by
  cases h : may a
  · have h' := h
    rw [may_no] at h'
    have : chk a = 7 := by simp [chk, h]
    rw [this]
    clear this h
    rcases h' with h | h
    all_goals
      go_enter Try.func18, Try.ntmps18
      go_wp2
      go_ret
      exact ⟨rfl, rfl⟩
  · have h' := h
    rw [may_iff] at h'
    obtain ⟨h1, h2⟩ := h'
    have : chk a = 0 := by simp [chk, h]
    rw [this]
    clear this h
    go_enter Try.func18, Try.ntmps18
    go_wp2
    go_ret
    exact ⟨rfl, rfl⟩
theorem together_any (a b : Int) (w : World) (ha : may a = true) (hb : may b = true) : Calls Try.prog 41 #[iv a, iv b] w fun e w' => e = .returned (.bool (may (a + b))) ∧ w = w' := by
  rw [may_iff] at ha hb
  obtain ⟨a1, a2⟩ := ha
  obtain ⟨b1, b2⟩ := hb
  by_cases hb0 : b < 0
  all_goals
    go_enter Try.func41, Try.ntmps41
    go_wp2
    go_ret
    refine ⟨ret_bool ?_, rfl⟩
    rw [Bool.eq_iff_iff, may_iff, decide_eq_true_eq]
    omega
theorem addO_some {a b : Int} (h : (may a && may b && may (a + b)) = true) : addO a b = some (a + b) := by unfold addO; rw [if_pos h]
theorem addO_none {a b : Int} (h : (may a && may b && may (a + b)) = false) : addO a b = none := by unfold addO; rw [h]; rfl
theorem chk_t {a : Int} (h : may a = true) : chk a = 0 := by simp [chk, h]
theorem chk_f {a : Int} (h : may a = false) : chk a = 7 := by simp [chk, h]
theorem add_any (a b : Int) (w : World) : Calls Try.prog 31 #[iv a, iv b] w fun e w' => e = .returned (pv (addO a b)) ∧ w = w' := by
  cases ha : may a
  · rw [addO_none (by rw [ha]; rfl)]
    have ca := chk_f ha
    go_enter Try.func31, Try.ntmps31
    go_wp2_with (go_at_call 18; refine (check_any _ _).mono ?_; rintro e w' ⟨rfl, rfl⟩; simp only [ca])
    go_ret2
    exact ⟨rfl, rfl⟩
  have ca := chk_t ha
  cases hb : may b
  · rw [addO_none (by rw [ha, hb]; rfl)]
    have cb := chk_f hb
    go_enter Try.func31, Try.ntmps31
    go_wp2_with (go_at_call 18; refine (check_any _ _).mono ?_; rintro e w' ⟨rfl, rfl⟩; simp only [ca, cb])
    go_ret2
    exact ⟨rfl, rfl⟩
  have cb := chk_t hb
  cases hs : may (a + b)
  · rw [addO_none (by rw [ha, hb, hs]; rfl)]
    go_enter Try.func31, Try.ntmps31
    go_wp2_with first | (go_at_call 18; refine (check_any _ _).mono ?_; rintro e w' ⟨rfl, rfl⟩; simp only [ca, cb]) | (go_at_call 41; refine (together_any a b _ ha hb).mono ?_; rw [hs]; rintro e w' ⟨rfl, rfl⟩)
    go_ret2
    exact ⟨rfl, rfl⟩
  · rw [addO_some (by rw [ha, hb, hs]; rfl)]
    have hs' := hs
    rw [may_iff] at hs'
    obtain ⟨h1, h2⟩ := hs'
    go_enter Try.func31, Try.ntmps31
    go_wp2_with first | (go_at_call 18; refine (check_any _ _).mono ?_; rintro e w' ⟨rfl, rfl⟩; simp only [ca, cb]) | (go_at_call 41; refine (together_any a b _ ha hb).mono ?_; rw [hs]; rintro e w' ⟨rfl, rfl⟩)
    go_ret2
    exact ⟨rfl, rfl⟩
end Go.Proofs.Ytpapcilffkpjjaa
