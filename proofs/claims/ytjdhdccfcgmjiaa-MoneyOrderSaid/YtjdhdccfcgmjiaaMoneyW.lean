/- Contracts of money's small functions and of the document's own: may an amount be; sums and differences. -/
import Derived.Test.YtjdhdccfcgmjiaaProg
import Derived.Test.YtjdhdccfcgmjiaaMoneyPure
import Derived.WalkKit
import Derived.Outline
import Derived.KernelRfl
import Derived.Deep.QuietTactic
import Derived.BigQuiet
import Derived.BigRegion
import Derived.RegionTactic
import Derived.StillTailTactics
import Derived.Laws.Rows
import Derived.Deep.MidRow
import Derived.Lib.Hide
import Derived.Deep.Light
import Derived.WalkSmall
namespace Go.Proofs.Ytjdhdccfcgmjiaa
open Go.RowKit Go.Money

theorem ret_bool {a b : Bool} (h : a = b) : Ending.returned (.bool a) = .returned (.bool b) := by rw [h]
abbrev iv (a : Int) : Value := .int .i64 a
abbrev pv (r : Option Int) : Value := .tuple #[.int .i64 (pairV r).1, .int .i64 (pairV r).2]
abbrev tv (r : Option (Int × Int)) : Value := .tuple #[.int .i64 (tripV r).1, .int .i64 (tripV r).2.1, .int .i64 (tripV r).2.2]
theorem may_any (a : Int) (w : World) : Calls Try.prog 22 #[iv a] w fun e w' => e = .returned (.bool (may a)) ∧ w = w' := by
  unfold may
  go_enter Try.func22, Try.ntmps22
  go_wp2
  all_goals go_ret
  all_goals exact ⟨by congr 2; first | rfl | (simp [*]; done) | (simp [*]; omega) | (simp at *; omega), rfl⟩
theorem check_any (a : Int) (w : World) : Calls Try.prog 12 #[iv a] w fun e w' => e = .returned (iv (chk a)) ∧ w = w' := by
  cases h : may a
  · have h' := h
    rw [may_no] at h'
    have : chk a = 7 := by simp [chk, h]
    rw [this]
    clear this h
    rcases h' with h | h
    all_goals
      go_enter Try.func12, Try.ntmps12
      go_wp2
      go_ret
      exact ⟨rfl, rfl⟩
  · have h' := h
    rw [may_iff] at h'
    obtain ⟨h1, h2⟩ := h'
    have : chk a = 0 := by simp [chk, h]
    rw [this]
    clear this h
    go_enter Try.func12, Try.ntmps12
    go_wp2
    go_ret
    exact ⟨rfl, rfl⟩
theorem rcheck_any (a : Int) (w : World) : Calls Try.prog 13 #[iv a] w fun e w' => e = .returned (iv (chk a)) ∧ w = w' := by
  unfold chk
  cases h : may a
  all_goals
    simp only [if_true, Bool.false_eq_true, if_false]
    go_enter Try.func13, Try.ntmps13
    go_wp2_with (go_at_call 22; refine (may_any _ _).mono ?_; rw [h]; rintro e w' ⟨rfl, rfl⟩)
    go_ret
    exact ⟨rfl, rfl⟩
theorem together_any (a b : Int) (w : World) (ha : may a = true) (hb : may b = true) : Calls Try.prog 21 #[iv a, iv b] w fun e w' => e = .returned (.bool (may (a + b))) ∧ w = w' := by
  rw [may_iff] at ha hb
  obtain ⟨a1, a2⟩ := ha
  obtain ⟨b1, b2⟩ := hb
  by_cases hb0 : b < 0
  all_goals
    go_enter Try.func21, Try.ntmps21
    go_wp2
    go_ret
    refine ⟨ret_bool ?_, rfl⟩
    rw [Bool.eq_iff_iff, may_iff, decide_eq_true_eq]
    omega
theorem addO_some {a b : Int} (h : (may a && may b && may (a + b)) = true) : addO a b = some (a + b) := by unfold addO; rw [if_pos h]
theorem addO_none {a b : Int} (h : (may a && may b && may (a + b)) = false) : addO a b = none := by unfold addO; rw [h]; rfl
theorem chk_t {a : Int} (h : may a = true) : chk a = 0 := by simp [chk, h]
theorem chk_f {a : Int} (h : may a = false) : chk a = 7 := by simp [chk, h]
theorem add_any (a b : Int) (w : World) : Calls Try.prog 8 #[iv a, iv b] w fun e w' => e = .returned (pv (addO a b)) ∧ w = w' := by
  cases ha : may a
  · rw [addO_none (by rw [ha]; rfl)]
    have ca := chk_f ha
    go_enter Try.func8, Try.ntmps8
    go_wp2_with (go_at_call 12; refine (check_any _ _).mono ?_; rintro e w' ⟨rfl, rfl⟩; simp only [ca])
    go_ret2
    exact ⟨rfl, rfl⟩
  have ca := chk_t ha
  cases hb : may b
  · rw [addO_none (by rw [ha, hb]; rfl)]
    have cb := chk_f hb
    go_enter Try.func8, Try.ntmps8
    go_wp2_with (go_at_call 12; refine (check_any _ _).mono ?_; rintro e w' ⟨rfl, rfl⟩; simp only [ca, cb])
    go_ret2
    exact ⟨rfl, rfl⟩
  have cb := chk_t hb
  cases hs : may (a + b)
  · rw [addO_none (by rw [ha, hb, hs]; rfl)]
    go_enter Try.func8, Try.ntmps8
    go_wp2_with first | (go_at_call 12; refine (check_any _ _).mono ?_; rintro e w' ⟨rfl, rfl⟩; simp only [ca, cb]) | (go_at_call 21; refine (together_any a b _ ha hb).mono ?_; rw [hs]; rintro e w' ⟨rfl, rfl⟩)
    go_ret2
    exact ⟨rfl, rfl⟩
  · rw [addO_some (by rw [ha, hb, hs]; rfl)]
    have hs' := hs
    rw [may_iff] at hs'
    obtain ⟨h1, h2⟩ := hs'
    go_enter Try.func8, Try.ntmps8
    go_wp2_with first | (go_at_call 12; refine (check_any _ _).mono ?_; rintro e w' ⟨rfl, rfl⟩; simp only [ca, cb]) | (go_at_call 21; refine (together_any a b _ ha hb).mono ?_; rw [hs]; rintro e w' ⟨rfl, rfl⟩)
    go_ret2
    exact ⟨rfl, rfl⟩
theorem radd_any (a b : Int) (w : World) : Calls Try.prog 9 #[iv a, iv b] w fun e w' => e = .returned (pv (addO a b)) ∧ w = w' := by
  cases ha : may a
  · rw [addO_none (by rw [ha]; rfl)]
    go_enter Try.func9, Try.ntmps9
    go_wp2_with (go_at_call 22; refine (may_any _ _).mono ?_; rintro e w' ⟨rfl, rfl⟩; simp only [ha])
    go_ret2
    exact ⟨rfl, rfl⟩
  have a3 := ha
  rw [may_iff] at a3
  obtain ⟨a1, a2⟩ := a3
  cases hb : may b
  · rw [addO_none (by rw [ha, hb]; rfl)]
    go_enter Try.func9, Try.ntmps9
    go_wp2_with (go_at_call 22; refine (may_any _ _).mono ?_; rintro e w' ⟨rfl, rfl⟩; simp only [ha, hb])
    go_ret2
    exact ⟨rfl, rfl⟩
  have b3 := hb
  rw [may_iff] at b3
  obtain ⟨b1, b2⟩ := b3
  cases hs : may (a + b)
  · rw [addO_none (by rw [ha, hb, hs]; rfl)]
    go_enter Try.func9, Try.ntmps9
    go_wp2_with (go_at_call 22; refine (may_any _ _).mono ?_; rintro e w' ⟨rfl, rfl⟩; simp only [ha, hb, hs])
    go_ret2
    exact ⟨rfl, rfl⟩
  · rw [addO_some (by rw [ha, hb, hs]; rfl)]
    go_enter Try.func9, Try.ntmps9
    go_wp2_with (go_at_call 22; refine (may_any _ _).mono ?_; rintro e w' ⟨rfl, rfl⟩; simp only [ha, hb, hs])
    go_ret2
    exact ⟨rfl, rfl⟩
theorem subO_some {a b : Int} (h : (may a && may b && may (a - b)) = true) : subO a b = some (a - b) := by unfold subO; rw [if_pos h]
theorem subO_none {a b : Int} (h : (may a && may b && may (a - b)) = false) : subO a b = none := by unfold subO; rw [h]; rfl
theorem rsub_any (a b : Int) (w : World) : Calls Try.prog 11 #[iv a, iv b] w fun e w' => e = .returned (pv (subO a b)) ∧ w = w' := by
  cases ha : may a
  · rw [subO_none (by rw [ha]; rfl)]
    go_enter Try.func11, Try.ntmps11
    go_wp2_with (go_at_call 22; refine (may_any _ _).mono ?_; rintro e w' ⟨rfl, rfl⟩; simp only [ha])
    go_ret2
    exact ⟨rfl, rfl⟩
  have a3 := ha
  rw [may_iff] at a3
  obtain ⟨a1, a2⟩ := a3
  cases hb : may b
  · rw [subO_none (by rw [ha, hb]; rfl)]
    go_enter Try.func11, Try.ntmps11
    go_wp2_with (go_at_call 22; refine (may_any _ _).mono ?_; rintro e w' ⟨rfl, rfl⟩; simp only [ha, hb])
    go_ret2
    exact ⟨rfl, rfl⟩
  have b3 := hb
  rw [may_iff] at b3
  obtain ⟨b1, b2⟩ := b3
  cases hs : may (a - b)
  · rw [subO_none (by rw [ha, hb, hs]; rfl)]
    go_enter Try.func11, Try.ntmps11
    go_wp2_with (go_at_call 22; refine (may_any _ _).mono ?_; rintro e w' ⟨rfl, rfl⟩; simp only [ha, hb, hs])
    go_ret2
    exact ⟨rfl, rfl⟩
  · rw [subO_some (by rw [ha, hb, hs]; rfl)]
    go_enter Try.func11, Try.ntmps11
    go_wp2_with (go_at_call 22; refine (may_any _ _).mono ?_; rintro e w' ⟨rfl, rfl⟩; simp only [ha, hb, hs])
    go_ret2
    exact ⟨rfl, rfl⟩
theorem sub_any (a b : Int) (w : World) (hb : i64 b) : Calls Try.prog 10 #[iv a, iv b] w fun e w' => e = .returned (pv (subO a b)) ∧ w = w' := by
  obtain ⟨b1, b2⟩ := hb
  by_cases hm : b = -9223372036854775808
  · subst hm
    have e1 : addO a (wrap64 9223372036854775808) = none := addO_none (by rw [show may (wrap64 9223372036854775808) = false by unfold wrap64; decide]; simp)
    have e2 : subO a (-9223372036854775808) = none := subO_none (by rw [show may (-9223372036854775808) = false from by decide]; simp)
    go_enter Try.func10, Try.ntmps10
    go_wp2_with (go_at_call 8; refine (add_any _ _ _).mono ?_; rintro e w' ⟨rfl, rfl⟩)
    go_ret2
    exact ⟨by rw [e2]; rfl, rfl⟩
  · rw [sub_add]
    go_enter Try.func10, Try.ntmps10
    go_wp2_with (go_at_call 8; refine (add_any _ _ _).mono ?_; rintro e w' ⟨rfl, rfl⟩)
    go_ret2
    exact ⟨rfl, rfl⟩
end Go.Proofs.Ytjdhdccfcgmjiaa
