/- Contract of the document's own Part: long division, bit by bit. -/
import Derived.Test.YthjaiianbcfiaaaMoneyQ
namespace Go.Proofs.Ythjaiianbcfiaaa
open Go.RowKit Go.Money

set_option maxRecDepth 100000 in
set_option maxHeartbeats 1600000 in
theorem rpart_bad (a n d : Int) (w : World) (h : partB a n d) : Calls Try.prog 19 #[iv a, iv n, iv d] w fun e w' => e = .returned (tv none) ∧ w = w' := by
  by_cases h1 : a < 0
  · go_enter Try.func19, Try.ntmps19
    go_wp2
    go_ret3
    exact ⟨rfl, rfl⟩
  by_cases h2 : 1125899906842624 < a
  · have hc : may a = false := (may_no a).2 (Or.inr h2)
    go_enter Try.func19, Try.ntmps19
    go_wp2_with (go_at_call 18; refine (may_any _ _).mono ?_; rintro e w' ⟨rfl, rfl⟩; simp only [hc])
    go_ret3
    exact ⟨rfl, rfl⟩
  have hc : may a = true := (may_iff a).2 ⟨by omega, by omega⟩
  by_cases h3 : n < 0
  · clear h2 h
    go_enter Try.func19, Try.ntmps19
    go_wp2_with (go_at_call 18; refine (may_any _ _).mono ?_; rintro e w' ⟨rfl, rfl⟩; simp only [hc])
    go_ret3
    exact ⟨rfl, rfl⟩
  by_cases h4 : d < 1
  · clear h2 h
    go_enter Try.func19, Try.ntmps19
    go_wp2_with (go_at_call 18; refine (may_any _ _).mono ?_; rintro e w' ⟨rfl, rfl⟩; simp only [hc])
    go_ret3
    exact ⟨rfl, rfl⟩
  by_cases h5 : d < n
  · clear h2 h
    go_enter Try.func19, Try.ntmps19
    go_wp2_with (go_at_call 18; refine (may_any _ _).mono ?_; rintro e w' ⟨rfl, rfl⟩; simp only [hc])
    go_ret3
    exact ⟨rfl, rfl⟩
  have h6 : 1099511627776 < d := by unfold partB at h; omega
  clear h2 h
  go_enter Try.func19, Try.ntmps19
  go_wp2_with (go_at_call 18; refine (may_any _ _).mono ?_; rintro e w' ⟨rfl, rfl⟩; simp only [hc])
  go_ret3
  exact ⟨rfl, rfl⟩
/-- one round of the division: what came, with the next bit -/
theorem bit_step (A j : Nat) : A / 2 ^ j = 2 * (A / 2 ^ (j + 1)) + A / 2 ^ j % 2 := by
  rw [Nat.pow_succ, ← Nat.div_div_eq_div_mul]; omega
theorem top_zero {A : Nat} (h : A ≤ 1125899906842624) : A / 2 ^ 51 = 0 := by
  rw [Nat.div_eq_of_lt]
  have e : (2 : Nat) ^ 51 = 2251799813685248 := by decide
  omega
theorem bit_and (A i : Nat) (h : A ≤ 1125899906842624) : bits .and .i64 ((A : Int) / 2 ^ i) 1 = ((A / 2 ^ i % 2 : Nat) : Int) := by
  have e : (A : Int) / 2 ^ i = ((A / 2 ^ i : Nat) : Int) := by simp
  have hle : A / 2 ^ i ≤ A := Nat.div_le_self _ _
  rw [e]
  generalize A / 2 ^ i = x at *
  have := bits_mask .i64 63 (by decide) (fun n h0 h1 => by rw [IntKind.wrap_i64]; have e : (2 : Int) ^ 63 = 9223372036854775808 := by decide
                                                           omega) 1 (by decide) (x : Int) (by omega) (by have e : (2 : Int) ^ 63 = 9223372036854775808 := by decide
                                                                                                         omega)
  rw [show (2 : Int) ^ 1 - 1 = 1 from rfl] at this
  rw [this]
  omega
theorem bit_alg0 {Q R D : Int} {m x N : Nat} (h : Q * D + R = ((m * N : Nat) : Int)) (hx : x = 2 * m) : Q * 2 * D + R * 2 = ((x * N : Nat) : Int) := by
  subst hx
  rw [Int.natCast_mul] at h ⊢
  push_cast
  grind
theorem bit_alg1 {Q R D : Int} {m x N : Nat} (h : Q * D + R = ((m * N : Nat) : Int)) (hx : x = 2 * m + 1) : Q * 2 * D + (R * 2 + (N : Int)) = ((x * N : Nat) : Int) := by
  subst hx
  rw [Int.natCast_mul] at h ⊢
  push_cast
  grind
theorem q_bound {Q R T A D : Int} (h : Q * D + R = T) (hR : 0 ≤ R) (hD : 1 ≤ D) (hT : T ≤ A * D) : Q ≤ A := by
  have h1 : Q * D ≤ A * D := by omega
  exact Int.le_of_mul_le_mul_right h1 (by omega)
theorem div_end {Q R : Int} {M D : Nat} (hD : 1 ≤ D) (hR : 0 ≤ R) (hR2 : R < (D : Int)) (h : Q * (D : Int) + R = ((M : Nat) : Int)) : Q = ((M / D : Nat) : Int) ∧ R = ((M % D : Nat) : Int) := by
  rw [Int.natCast_ediv, Int.natCast_emod, ← h]
  rw [Int.add_comm, Int.add_mul_ediv_right _ _ (by omega), Int.add_mul_emod_self_right, Int.ediv_eq_zero_of_lt hR hR2, Int.emod_eq_of_lt hR hR2]
  exact ⟨by omega, rfl⟩
set_option maxRecDepth 100000 in
set_option maxHeartbeats 1600000 in
theorem rpart_some (A N D : Nat) (w : World) (hA : (A : Int) ≤ 1125899906842624) (hN : (N : Int) ≤ (D : Int)) (hD : (1 : Int) ≤ (D : Int)) (hD2 : (D : Int) ≤ 1099511627776) :
    Calls Try.prog 19 #[iv (A : Int), iv (N : Int), iv (D : Int)] w fun e w' => e = .returned (.tuple #[iv ((A * N / D : Nat) : Int), iv ((A * N % D : Nat) : Int), iv 0]) ∧ w = w' := by
  have zA : (0 : Int) ≤ (A : Int) := Int.natCast_nonneg _
  have zN : (0 : Int) ≤ (N : Int) := Int.natCast_nonneg _
  have hc : may (A : Int) = true := (may_iff _).2 ⟨by omega, hA⟩
  have HT := Lib.hid (top_zero (A := A) (by omega))
  have hdn : decide (D < N) = false := decide_eq_false (by omega)
  go_enter Try.func19, Try.ntmps19
  go_wp2_with (go_at_call 18; refine (may_any _ _).mono ?_; rintro e w' ⟨rfl, rfl⟩; simp only [hc])
  go_loopw [9, 10, 11] (fun q r k wr => ∃ (j : Nat) (Q R K : Int), k = .int .i64 K ∧ q = .int .i64 Q ∧ r = .int .i64 R ∧ Hid (K = (j : Int) - 1) ∧ Hid (Q * (D : Int) + R = ((A / 2 ^ j * N : Nat) : Int)) ∧ -1 ≤ K ∧ K ≤ 50 ∧ 0 ≤ Q ∧ Q ≤ 1125899906842624 ∧ 0 ≤ R ∧ R + 1 ≤ D ∧ w = wr) (fun _ _ k _ => (intOf k + 1).toNat)
  case atStart => exact ⟨51, 0, 0, 50, rfl, rfl, rfl, rfl, by show (0 : Int) * (D : Int) + 0 = _; rw [HT.out]; simp, by omega, by omega, by omega, by omega, by omega, by omega, rfl⟩
  case round =>
    obtain ⟨j, Q, R, K, rfl, rfl, rfl, hK, hQ, k1, k2, q1, q2, r1, r2, rfl⟩ := hrel
    have HK := Lib.hid hK.out
    have HQ := Lib.hid hQ.out
    clear hK hQ
    by_cases hk : K < 0
    · have hj : j = 0 := by have := HK.out; omega
      have hf : Q = ((A * N / D : Nat) : Int) ∧ R = ((A * N % D : Nat) : Int) := by
        refine div_end (by omega) r1 (by omega) ?_
        have := HQ.out
        rw [hj] at this
        rw [this]
        simp
      have HF := Lib.hid hf
      clear hf hj
      go_wp2
      go_ret3
      refine ⟨?_, rfl⟩
      rw [← HF.out.1, ← HF.out.2]
      rfl
    · have hk0 : 0 ≤ K := by omega
      obtain ⟨i, hi⟩ : ∃ i, j = i + 1 := ⟨j - 1, by have := HK.out; omega⟩
      have hKi : K = (i : Int) := by have := HK.out; omega
      have hT0 := HQ.out
      rw [hi] at hT0
      have hstep := bit_step A i
      have hb : bits .and .i64 ((A : Int) / 2 ^ K.toNat) 1 = ((A / 2 ^ i % 2 : Nat) : Int) := by
        rw [hKi, Int.toNat_natCast]; exact bit_and A i (by omega)
      have hTA : A / 2 ^ i * N ≤ A * D := Nat.mul_le_mul (Nat.div_le_self _ _) (by omega)
      have two : A / 2 ^ i % 2 = 0 ∨ A / 2 ^ i % 2 = 1 := by omega
      obtain ⟨T, hT⟩ : ∃ T : Int, T = ((A / 2 ^ i * N : Nat) : Int) := ⟨_, rfl⟩
      have hTA2 : T ≤ (A : Int) * (D : Int) := by rw [hT, ← Int.natCast_mul]; omega
      have HTA := Lib.hid hTA2
      have HKI := Lib.hid hKi
      have HTT := Lib.hid hT
      have HZ : Hid (A / 2 ^ i % 2 = 0 → Q * 2 * (D : Int) + R * 2 = T) := fun h0 => by
        rw [hT]; exact bit_alg0 hT0 (by omega)
      have HO : Hid (A / 2 ^ i % 2 = 1 → Q * 2 * (D : Int) + (R * 2 + (N : Int)) = T) := fun h1 => by
        rw [hT]; exact bit_alg1 hT0 (by omega)
      clear hT0 hstep hTA hTA2 hT hKi hi
      rcases two with h | h
      all_goals
        rw [h] at hb
        have HH := Lib.hid h
        clear h
        go_wp2
        go_loopw [9, 10] (fun q r wr => ∃ (Q R : Int), q = .int .i64 Q ∧ r = .int .i64 R ∧ Hid (Q * (D : Int) + R = T) ∧ 0 ≤ Q ∧ Q ≤ 2251799813685248 ∧ 0 ≤ R ∧ R ≤ 3298534883328 ∧ w = wr) (fun _ r _ => (intOf r).toNat)
        case atStart => first
          | exact ⟨_, _, rfl, rfl, HZ.out HH.out, by omega, by omega, by omega, by omega, rfl⟩
          | exact ⟨_, _, rfl, rfl, HO.out HH.out, by omega, by omega, by omega, by omega, rfl⟩
        case round =>
          obtain ⟨Q3, R3, rfl, rfl, h3, q3, q4, r3, r4, rfl⟩ := hrel
          have H3 := Lib.hid h3.out
          clear h3
          by_cases hlt : R3 < (D : Int)
          · have hq5 : Q3 ≤ (A : Int) := q_bound H3.out r3 hD HTA.out
            go_wp2
            all_goals
              go_roundw
              case rel => exact ⟨i, Q3, R3, _, rfl, rfl, rfl, (by have := HKI.out; show _ = _; omega), (by show _ = _; rw [H3.out, HTT.out]), by omega, by omega, by omega, by omega, by omega, by omega, trivial⟩
              case measure => have := HKI.out; simp [intOf]; omega
          · have hq5 : Q3 + 1 ≤ (A : Int) := q_bound (R := R3 - D) (by have := H3.out; rw [Int.add_mul]; omega) (by omega) hD HTA.out
            go_wp2
            all_goals
              go_roundw
              case rel => exact ⟨_, _, rfl, rfl, (by have := H3.out; show _ = _; rw [Int.add_mul]; omega), by omega, by omega, by omega, by omega, trivial⟩
              case measure => simp [intOf]; omega
theorem rpart_any (a n d : Int) (w : World) : Calls Try.prog 19 #[iv a, iv n, iv d] w fun e w' => e = .returned (tv (partO a n d)) ∧ w = w' := by
  cases hp : partC a n d
  · rw [part_none hp]
    have hb : partB a n d := by
      apply Classical.byContradiction
      intro hn
      rw [(partC_iff a n d).2 hn] at hp
      cases hp
    exact rpart_bad a n d w hb
  · have hb := (partC_iff a n d).1 hp
    unfold partB at hb
    obtain ⟨A, rfl⟩ : ∃ A : Nat, a = A := ⟨a.toNat, by omega⟩
    obtain ⟨N, rfl⟩ : ∃ N : Nat, n = N := ⟨n.toNat, by omega⟩
    obtain ⟨D, rfl⟩ : ∃ D : Nat, d = D := ⟨d.toNat, by omega⟩
    refine (rpart_some A N D w (by omega) (by omega) (by omega) (by omega)).mono ?_
    rintro e w' ⟨rfl, rfl⟩
    refine ⟨?_, rfl⟩
    have e1 : ((A * N / D : Nat) : Int) = (A : Int) * (N : Int) / (D : Int) := by rw [Int.natCast_ediv, Int.natCast_mul]
    have e2 : ((A * N % D : Nat) : Int) = (A : Int) * (N : Int) % (D : Int) := by rw [Int.natCast_emod, Int.natCast_mul]
    rw [e1, e2]
    unfold partO
    rw [hp]
    rfl
end Go.Proofs.Ythjaiianbcfiaaa
