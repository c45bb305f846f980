/- Contracts of multiples: money's Mul and the document's, by doublings. -/
import Derived.Test.YtjdhdccfcgmjiaaMoneyW
import Derived.Laws.Shifts
namespace Go.Proofs.Ytjdhdccfcgmjiaa
open Go.RowKit Go.Money

theorem size_any (a : Int) (w : World) (ha : i64 a) : Calls Try.prog 23 #[iv a] w fun e w' => e = .returned (.int .u64 (a.natAbs : Int)) ∧ w = w' := by
  obtain ⟨h1, h2⟩ := ha
  by_cases h : a < 0
  · have e : (a.natAbs : Int) = - a := by omega
    rw [e]
    have h3 : IntKind.u64.wrap a = a + 18446744073709551616 := by rw [IntKind.wrap_u64]; omega
    have h4 : IntKind.u64.wrap (-(a + 18446744073709551616)) = -a := by rw [IntKind.wrap_u64]; omega
    go_enter Try.func23, Try.ntmps23
    go_wp2
    go_ret
    refine ⟨?_, rfl⟩
    rfl
  · have e : (a.natAbs : Int) = a := by omega
    rw [e]
    go_enter Try.func23, Try.ntmps23
    go_wp2
    go_ret
    exact ⟨rfl, rfl⟩
theorem mulO_some {a b : Int} (h : (may a && may (a * b)) = true) : mulO a b = some (a * b) := by unfold mulO; rw [if_pos h]
theorem mulO_none {a b : Int} (h : (may a && may (a * b)) = false) : mulO a b = none := by unfold mulO; rw [h]; rfl
theorem may_abs (x : Int) : may x = true ↔ x.natAbs ≤ 1125899906842624 := by rw [may_iff]; omega
theorem quo_lt {A N : Nat} (h : 0 < A) : 1125899906842624 / (A : Int) < (N : Int) ↔ 1125899906842624 < A * N := by
  rw [show (1125899906842624 : Int) / (A : Int) = ((1125899906842624 / A : Nat) : Int) from by simp]
  rw [Int.ofNat_lt, Nat.div_lt_iff_lt_mul h, Nat.mul_comm]
set_option maxRecDepth 100000 in
set_option maxHeartbeats 1600000 in
theorem mul_any (a b : Int) (w : World) (ha : i64 a) (hb : i64 b) : Calls Try.prog 14 #[iv a, iv b] w fun e w' => e = .returned (pv (mulO a b)) ∧ w = w' := by
  cases hm : may a
  · rw [mulO_none (by rw [hm]; rfl)]
    have ca := chk_f hm
    go_enter Try.func14, Try.ntmps14
    go_wp2_with (go_at_call 12; refine (check_any _ _).mono ?_; rintro e w' ⟨rfl, rfl⟩; simp only [ca])
    go_ret2
    exact ⟨rfl, rfl⟩
  have ca := chk_t hm
  by_cases h0 : a = 0
  · subst h0
    rw [mulO_some (by rw [Int.zero_mul]; rfl)]
    go_enter Try.func14, Try.ntmps14
    go_wp2_with (go_at_call 12; refine (check_any _ _).mono ?_; rintro e w' ⟨rfl, rfl⟩; simp only [ca])
    go_ret2
    exact ⟨by rw [Int.zero_mul]; rfl, rfl⟩
  have hA : 0 < a.natAbs := by omega
  have hA1 : (1 : Int) ≤ (a.natAbs : Int) := by omega
  have hA2 : (a.natAbs : Int) ≤ 1125899906842624 := by have := (may_abs a).1 hm; omega
  have hq := quo_lt (N := b.natAbs) hA
  have hN2 : (b.natAbs : Int) ≤ 9223372036854775808 := by obtain ⟨h1, h2⟩ := hb; omega
  rw [← Int.natAbs_mul] at hq
  have hd0 : (0 : Int) ≤ 1125899906842624 / (a.natAbs : Int) := Int.ediv_nonneg (by omega) (by omega)
  have hd1 : 1125899906842624 / (a.natAbs : Int) ≤ 1125899906842624 := Int.ediv_le_self _ (by omega)
  have HA := Lib.hid ha
  have HB := Lib.hid hb
  obtain ⟨A, hAe⟩ : ∃ A, A = (a.natAbs : Int) := ⟨_, rfl⟩
  obtain ⟨B, hBe⟩ : ∃ B, B = (b.natAbs : Int) := ⟨_, rfl⟩
  cases hs : may (a * b)
  · rw [mulO_none (by rw [hm, hs]; rfl)]
    have hlt : 1125899906842624 / (a.natAbs : Int) < (b.natAbs : Int) := hq.2 (by have := may_abs (a * b); rw [hs] at this; simp at this; omega)
    rw [← hAe, ← hBe] at hlt
    rw [← hAe] at hd0 hd1 hA1 hA2
    rw [← hBe] at hN2
    have EA := Lib.hid hAe
    have EB := Lib.hid hBe
    clear hq ha hb hs hAe hBe
    generalize hQ : 1125899906842624 / A = Q at *
    go_enter Try.func14, Try.ntmps14
    go_wp2_with first | (go_at_call 12; refine (check_any _ _).mono ?_; rintro e w' ⟨rfl, rfl⟩; simp only [ca]) | (go_at_call 23; refine (size_any _ _ (by first | exact HA.out | exact HB.out)).mono ?_; rintro e w' ⟨rfl, rfl⟩; first | rw [← EA.out] | rw [← EB.out])
    go_ret2
    exact ⟨rfl, rfl⟩
  · rw [mulO_some (by rw [hm, hs]; rfl)]
    have hlt : (b.natAbs : Int) ≤ 1125899906842624 / (a.natAbs : Int) := by have := may_abs (a * b); rw [hs] at this; simp at this; omega
    rw [may_iff] at hs
    obtain ⟨h1, h2⟩ := hs
    rw [← hAe, ← hBe] at hlt
    rw [← hAe] at hd0 hd1 hA1 hA2
    rw [← hBe] at hN2
    have EA := Lib.hid hAe
    have EB := Lib.hid hBe
    clear hq ha hb hAe hBe
    generalize hQ : 1125899906842624 / A = Q at *
    go_enter Try.func14, Try.ntmps14
    go_wp2_with first | (go_at_call 12; refine (check_any _ _).mono ?_; rintro e w' ⟨rfl, rfl⟩; simp only [ca]) | (go_at_call 23; refine (size_any _ _ (by first | exact HA.out | exact HB.out)).mono ?_; rintro e w' ⟨rfl, rfl⟩; first | rw [← EA.out] | rw [← EB.out])
    go_ret2
    exact ⟨rfl, rfl⟩
end Go.Proofs.Ytjdhdccfcgmjiaa
