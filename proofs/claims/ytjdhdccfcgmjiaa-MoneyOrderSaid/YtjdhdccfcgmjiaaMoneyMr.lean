/- Contract of the document's own multiple, by doublings. -/
import Derived.Test.YtjdhdccfcgmjiaaMoneyM
namespace Go.Proofs.Ytjdhdccfcgmjiaa
open Go.RowKit Go.Money

/-- the numbers of the doublings: 2^50 .. 1, 0 -/
def dbl (j : Nat) : Nat := 2 ^ j / 2
theorem dbl_zero : dbl 0 = 0 := rfl
theorem dbl_half (j : Nat) : dbl (j + 1) / 2 = dbl j := by
  unfold dbl; rw [Nat.pow_succ, Nat.mul_div_cancel _ (by decide)]
theorem dbl_pow (j : Nat) : dbl (j + 1) = 2 ^ j := by unfold dbl; rw [Nat.pow_succ, Nat.mul_div_cancel _ (by decide)]
theorem dbl_le (j : Nat) (h : j ≤ 51) : dbl j ≤ 1125899906842624 := by
  have : 2 ^ j ≤ 2 ^ 51 := Nat.pow_le_pow_right (by decide) h
  have e : (2 : Nat) ^ 51 = 2251799813685248 := by decide
  unfold dbl; omega
theorem dbl_step (n j : Nat) : n / dbl (j + 1) = 2 * (n / 2 ^ (j + 1)) + n / dbl (j + 1) % 2 := by
  rw [dbl_pow, Nat.pow_succ, ← Nat.div_div_eq_div_mul]; omega
theorem div_le_abs (a : Int) (n k : Nat) (h : 1125899906842624 < (a * ((n / k : Nat) : Int)).natAbs) : may (a * (n : Int)) = false := by
  rw [← Bool.not_eq_true, may_abs]
  rw [Int.natAbs_mul] at h ⊢
  have h1 : n / k ≤ n := Nat.div_le_self _ _
  have h2 : a.natAbs * (n / k) ≤ a.natAbs * n := Nat.mul_le_mul_left _ h1
  simp only [Int.natAbs_natCast] at h ⊢
  omega
theorem dbl_alg0 {c y : Int} {m q : Nat} (hy : y = c * (m : Int)) (hq : q = 2 * m + 0) : y * 2 = c * (q : Int) := by
  subst hy hq; push_cast; grind
theorem dbl_alg1 {c y : Int} {m q : Nat} (hy : y = c * (m : Int)) (hq : q = 2 * m + 1) : y * 2 + c = c * (q : Int) := by
  subst hy hq; push_cast; grind
/-- what the loop answers at its end -/
def mulP (a : Int) (n : Nat) : Option Int := if may (a * (n : Int)) then some (a * (n : Int)) else none
set_option maxRecDepth 100000 in
set_option maxHeartbeats 1600000 in
theorem rmul_any (a b : Int) (w : World) (hb : i64 b) : Calls Try.prog 15 #[iv a, iv b] w fun e w' => e = .returned (pv (mulO a b)) ∧ w = w' := by
  cases hm : may a
  · rw [mulO_none (by rw [hm]; rfl)]
    go_enter Try.func15, Try.ntmps15
    go_wp2_with (go_at_call 22; refine (may_any _ _).mono ?_; rintro e w' ⟨rfl, rfl⟩; simp only [hm])
    go_ret2
    exact ⟨rfl, rfl⟩
  by_cases h0 : a = 0
  · subst h0
    rw [mulO_some (by rw [Int.zero_mul]; rfl), Int.zero_mul]
    go_enter Try.func15, Try.ntmps15
    go_wp2_with (go_at_call 22; refine (may_any _ _).mono ?_; rintro e w' ⟨rfl, rfl⟩; simp only [hm])
    go_ret2
    exact ⟨rfl, rfl⟩
  by_cases h1 : b = 0
  · subst h1
    rw [mulO_some (by rw [hm, Int.mul_zero]; rfl), Int.mul_zero]
    go_enter Try.func15, Try.ntmps15
    go_wp2_with (go_at_call 22; refine (may_any _ _).mono ?_; rintro e w' ⟨rfl, rfl⟩; simp only [hm])
    go_ret2
    exact ⟨rfl, rfl⟩
  have z1 : (a == 0) = false := by simpa using h0
  have z2 : (b == 0) = false := by simpa using h1
  have hbig : (b < -1125899906842624 ∨ 1125899906842624 < b) → mulO a b = none := by
    intro h
    apply mulO_none
    rw [hm, Bool.true_and, ← Bool.not_eq_true, may_abs, Int.natAbs_mul]
    have : 1 * b.natAbs ≤ a.natAbs * b.natAbs := Nat.mul_le_mul_right _ (by omega)
    omega
  by_cases h2 : b < -1125899906842624
  · rw [hbig (Or.inl h2)]
    clear hbig
    go_enter Try.func15, Try.ntmps15
    go_wp2_with (go_at_call 22; refine (may_any _ _).mono ?_; rintro e w' ⟨rfl, rfl⟩; simp only [hm])
    go_ret2
    exact ⟨rfl, rfl⟩
  by_cases h3 : 1125899906842624 < b
  · rw [hbig (Or.inr h3)]
    clear hbig
    go_enter Try.func15, Try.ntmps15
    go_wp2_with (go_at_call 22; refine (may_any _ _).mono ?_; rintro e w' ⟨rfl, rfl⟩; simp only [hm])
    go_ret2
    exact ⟨rfl, rfl⟩
  clear hbig
  have hma := hm
  rw [may_iff] at hma
  obtain ⟨a1, a2⟩ := hma
  obtain ⟨n, hn⟩ : ∃ n, n = b.natAbs := ⟨_, rfl⟩
  have hn1 : (n : Int) ≤ 1125899906842624 := by omega
  have hn0 : (0 : Int) ≤ (n : Int) := Int.natCast_nonneg _
  have hlast : (n / 2 ^ 51 : Nat) = 0 := by
    rw [Nat.div_eq_of_lt]
    have e : (2 : Nat) ^ 51 = 2251799813685248 := by decide
    omega
  have HLAST := Lib.hid hlast
  clear hlast
  by_cases hneg : b < 0
  · obtain rfl : b = -(n : Int) := by omega
    rw [show mulO a (-(n : Int)) = mulP (-a) n by
      unfold mulO mulP
      rw [hm, Bool.true_and, Int.mul_neg, Int.neg_mul]]
    clear hn h0
    go_enter Try.func15, Try.ntmps15
    go_wp2_with (go_at_call 22; refine (may_any _ _).mono ?_; rintro e w' ⟨rfl, rfl⟩; simp only [hm])
    go_loopw [6, 7] (fun o k wr => ∃ (j : Nat) (y : Int), k = .int .i64 (dbl j : Int) ∧ j ≤ 51 ∧ o = .int .i64 y ∧ Hid (y = (-a) * ((n / 2 ^ j : Nat) : Int)) ∧ -3377699720527872 ≤ y ∧ y ≤ 3377699720527872 ∧ w = wr) (fun _ k _ => (intOf k).toNat)
    case atStart => exact ⟨51, 0, rfl, by omega, rfl, by show (0 : Int) = _; rw [HLAST.out]; simp, by omega, by omega, rfl⟩
    case round =>
      obtain ⟨j, y, rfl, hj, rfl, hy, y1, y2, rfl⟩ := hrel
      have HY := Lib.hid hy.out
      clear hy
      cases j with
      | zero =>
        have hp : mulP (-a) n = (if may y then some y else none) := by
          have e : y = (-a) * (n : Int) := by rw [HY.out]; simp
          unfold mulP
          rw [e]
        have HPP := Lib.hid hp
        rw [dbl_zero]
        clear hp
        cases hmy : may y
        all_goals
          go_wp2_with (go_at_call 22; refine (may_any _ _).mono ?_; rintro e w' ⟨rfl, rfl⟩; simp only [hmy])
          go_ret2
          exact ⟨by rw [HPP.out, hmy]; rfl, rfl⟩
      | succ j =>
        have hd0 : (1 : Int) ≤ (dbl (j + 1) : Int) := by rw [dbl_pow]; have := Nat.two_pow_pos j; omega
        have hd1 : (dbl (j + 1) : Int) ≤ 1125899906842624 := by have := dbl_le (j + 1) hj; omega
        have HS := Lib.hid (dbl_step n j)
        have HH := Lib.hid (dbl_half j)
        have HP := Lib.hid (dbl_pow j)
        have HJ := Lib.hid (div_le_abs (-a) n (2 ^ (j + 1)))
        generalize dbl (j + 1) = k at *
        by_cases hbig : 1125899906842624 < y
        · have hn : mulP (-a) n = none := by unfold mulP; rw [HJ.out (by rw [← HY.out]; omega)]; rfl
          have HN := Lib.hid hn
          clear hn
          go_wp2
          go_ret2
          exact ⟨by rw [HN.out]; rfl, rfl⟩
        by_cases hsml : y < -1125899906842624
        · have hn : mulP (-a) n = none := by unfold mulP; rw [HJ.out (by rw [← HY.out]; omega)]; rfl
          have HN := Lib.hid hn
          clear hn
          go_wp2
          go_ret2
          exact ⟨by rw [HN.out]; rfl, rfl⟩
        obtain ⟨q, hq⟩ : ∃ q, q = n / k := ⟨_, rfl⟩
        have hq2 : (n : Int) / (k : Int) = (q : Int) := by rw [hq]; simp
        have hq0 : (0 : Int) ≤ (q : Int) := Int.natCast_nonneg _
        have hq1 : (q : Int) ≤ 1125899906842624 := by have : n / k ≤ n := Nat.div_le_self _ _; omega
        have HQ := Lib.hid hq
        clear hq
        have two : (q : Int) % 2 = 0 ∨ (q : Int) % 2 = 1 := by omega
        rcases two with hpar | hpar
        all_goals
          go_wp2
          case roundEnd =>
            go_roundw
            case rel => exact ⟨j, _, by first | rfl | (rw [← HH.out]; rfl), by omega, rfl, by
              show _ = (-a) * ((n / 2 ^ j : Nat) : Int)
              rw [← HP.out, ← HQ.out]
              have e := HS.out
              rw [← HQ.out] at e
              have e2 : q = 2 * (n / 2 ^ (j + 1)) + 0 ∨ q = 2 * (n / 2 ^ (j + 1)) + 1 := by omega
              have hy := HY.out
              generalize n / 2 ^ (j + 1) = m at *
              rcases e2 with e2 | e2
              · first | (exfalso; omega) | exact dbl_alg0 hy e2
              · first | (exfalso; omega) | exact dbl_alg1 hy e2, by omega, by omega, trivial⟩
            case measure => simp [intOf]; omega
  · obtain rfl : b = (n : Int) := by omega
    rw [show mulO a ((n : Int)) = mulP a n by
      unfold mulO mulP
      rw [hm, Bool.true_and]]
    clear hn h0
    go_enter Try.func15, Try.ntmps15
    go_wp2_with (go_at_call 22; refine (may_any _ _).mono ?_; rintro e w' ⟨rfl, rfl⟩; simp only [hm])
    go_loopw [6, 7] (fun o k wr => ∃ (j : Nat) (y : Int), k = .int .i64 (dbl j : Int) ∧ j ≤ 51 ∧ o = .int .i64 y ∧ Hid (y = a * ((n / 2 ^ j : Nat) : Int)) ∧ -3377699720527872 ≤ y ∧ y ≤ 3377699720527872 ∧ w = wr) (fun _ k _ => (intOf k).toNat)
    case atStart => exact ⟨51, 0, rfl, by omega, rfl, by show (0 : Int) = _; rw [HLAST.out]; simp, by omega, by omega, rfl⟩
    case round =>
      obtain ⟨j, y, rfl, hj, rfl, hy, y1, y2, rfl⟩ := hrel
      have HY := Lib.hid hy.out
      clear hy
      cases j with
      | zero =>
        have hp : mulP a n = (if may y then some y else none) := by
          have e : y = a * (n : Int) := by rw [HY.out]; simp
          unfold mulP
          rw [e]
        have HPP := Lib.hid hp
        rw [dbl_zero]
        clear hp
        cases hmy : may y
        all_goals
          go_wp2_with (go_at_call 22; refine (may_any _ _).mono ?_; rintro e w' ⟨rfl, rfl⟩; simp only [hmy])
          go_ret2
          exact ⟨by rw [HPP.out, hmy]; rfl, rfl⟩
      | succ j =>
        have hd0 : (1 : Int) ≤ (dbl (j + 1) : Int) := by rw [dbl_pow]; have := Nat.two_pow_pos j; omega
        have hd1 : (dbl (j + 1) : Int) ≤ 1125899906842624 := by have := dbl_le (j + 1) hj; omega
        have HS := Lib.hid (dbl_step n j)
        have HH := Lib.hid (dbl_half j)
        have HP := Lib.hid (dbl_pow j)
        have HJ := Lib.hid (div_le_abs a n (2 ^ (j + 1)))
        generalize dbl (j + 1) = k at *
        by_cases hbig : 1125899906842624 < y
        · have hn : mulP a n = none := by unfold mulP; rw [HJ.out (by rw [← HY.out]; omega)]; rfl
          have HN := Lib.hid hn
          clear hn
          go_wp2
          go_ret2
          exact ⟨by rw [HN.out]; rfl, rfl⟩
        by_cases hsml : y < -1125899906842624
        · have hn : mulP a n = none := by unfold mulP; rw [HJ.out (by rw [← HY.out]; omega)]; rfl
          have HN := Lib.hid hn
          clear hn
          go_wp2
          go_ret2
          exact ⟨by rw [HN.out]; rfl, rfl⟩
        obtain ⟨q, hq⟩ : ∃ q, q = n / k := ⟨_, rfl⟩
        have hq2 : (n : Int) / (k : Int) = (q : Int) := by rw [hq]; simp
        have hq0 : (0 : Int) ≤ (q : Int) := Int.natCast_nonneg _
        have hq1 : (q : Int) ≤ 1125899906842624 := by have : n / k ≤ n := Nat.div_le_self _ _; omega
        have HQ := Lib.hid hq
        clear hq
        have two : (q : Int) % 2 = 0 ∨ (q : Int) % 2 = 1 := by omega
        rcases two with hpar | hpar
        all_goals
          go_wp2
          case roundEnd =>
            go_roundw
            case rel => exact ⟨j, _, by first | rfl | (rw [← HH.out]; rfl), by omega, rfl, by
              show _ = a * ((n / 2 ^ j : Nat) : Int)
              rw [← HP.out, ← HQ.out]
              have e := HS.out
              rw [← HQ.out] at e
              have e2 : q = 2 * (n / 2 ^ (j + 1)) + 0 ∨ q = 2 * (n / 2 ^ (j + 1)) + 1 := by omega
              have hy := HY.out
              generalize n / 2 ^ (j + 1) = m at *
              rcases e2 with e2 | e2
              · first | (exfalso; omega) | exact dbl_alg0 hy e2
              · first | (exfalso; omega) | exact dbl_alg1 hy e2, by omega, by omega, trivial⟩
            case measure => simp [intOf]; omega
end Go.Proofs.Ytjdhdccfcgmjiaa
