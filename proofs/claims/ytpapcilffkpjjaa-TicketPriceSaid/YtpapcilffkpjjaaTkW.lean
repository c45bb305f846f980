/- Contracts of ticket's small functions. -/
import Derived.Test.YtpapcilffkpjjaaTkPure
import Derived.Test.YtpapcilffkpjjaaMoneyAp
namespace Go.Proofs.Ytpapcilffkpjjaa
open Go.RowKit Go.Money Go.Tick

abbrev str (t : List UInt8) : Value := .string ⟨t.toArray⟩
abbrev gvV (v p : Int) : Value := .tuple #[iv (giveL v p).1, iv (giveL v p).2]
theorem ret_gv {v p a b : Int} (h : giveL v p = (a, b)) : Ending.returned (.tuple #[iv a, iv b]) = .returned (gvV v p) := by unfold gvV; rw [h]
theorem give_any (v p : Int) (hv : v ≤ 9223372036854775807) (w : World) : Calls Try.prog 10 #[iv v, iv p] w fun e w' => e = .returned (gvV v p) ∧ w = w' := by
  by_cases h : v < 0
  · have e : giveL v p = (0, 0) := by unfold giveL; rw [if_pos (.inl h)]
    go_enter Try.func10, Try.ntmps10
    go_wp2
    go_ret2
    exact ⟨ret_gv e, rfl⟩
  by_cases h2 : p < 0
  · have e : giveL v p = (0, 0) := by unfold giveL; rw [if_pos (.inr h2)]
    go_enter Try.func10, Try.ntmps10
    go_wp2
    go_ret2
    exact ⟨ret_gv e, rfl⟩
  by_cases h3 : v < p
  · have e : giveL v p = (0, v) := by unfold giveL; rw [if_neg (by omega), if_pos h3]
    have hm : min v p = v := by omega
    have d0 : v - v = 0 := by omega
    go_enter Try.func10, Try.ntmps10
    go_wp2
    go_ret2
    exact ⟨ret_gv e, rfl⟩
  · have e : giveL v p = (v - p, p) := by unfold giveL; rw [if_neg (by omega), if_neg h3]
    have hm : min v p = p := by omega
    have d1 : v - p ≤ 9223372036854775807 := by omega
    have d0 : 0 ≤ v - p := by omega
    go_enter Try.func10, Try.ntmps10
    go_wp2
    go_ret2
    exact ⟨ret_gv e, rfl⟩
theorem rgive_any (v p : Int) (hv : v ≤ 9223372036854775807) (w : World) : Calls Try.prog 11 #[iv v, iv p] w fun e w' => e = .returned (gvV v p) ∧ w = w' := by
  by_cases h : v < 0
  · have e : giveL v p = (0, 0) := by unfold giveL; rw [if_pos (.inl h)]
    go_enter Try.func11, Try.ntmps11
    go_wp2
    go_ret2
    exact ⟨ret_gv e, rfl⟩
  by_cases h2 : p < 0
  · have e : giveL v p = (0, 0) := by unfold giveL; rw [if_pos (.inr h2)]
    go_enter Try.func11, Try.ntmps11
    go_wp2
    go_ret2
    exact ⟨ret_gv e, rfl⟩
  by_cases h3 : v < p
  · have e : giveL v p = (0, v) := by unfold giveL; rw [if_neg (by omega), if_pos h3]
    go_enter Try.func11, Try.ntmps11
    go_wp2
    go_ret2
    exact ⟨ret_gv e, rfl⟩
  · have e : giveL v p = (v - p, p) := by unfold giveL; rw [if_neg (by omega), if_neg h3]
    have hm : min v p = p := by omega
    have d1 : v - p ≤ 9223372036854775807 := by omega
    have d0 : 0 ≤ v - p := by omega
    go_enter Try.func11, Try.ntmps11
    go_wp2
    go_ret2
    exact ⟨ret_gv e, rfl⟩
theorem is_any (s : Nat) (hs : s < 256) (w : World) : Calls Try.prog 23 #[.int .u8 (s : Int)] w fun e w' => e = .returned (.bool (isS s)) ∧ w = w' := by
  have e : isS s = (decide ((1 : Int) ≤ (s : Int)) && decide ((s : Int) ≤ 7)) := by
    unfold isS; rw [Bool.eq_iff_iff]; simp only [Bool.and_eq_true, decide_eq_true_eq]; omega
  rw [e]
  clear e
  have h1 : (0 : Int) ≤ (s : Int) := Int.natCast_nonneg _
  have h2 : (s : Int) ≤ 255 := by omega
  clear hs
  generalize (s : Int) = x at *
  go_enter Try.func23, Try.ntmps23
  go_wp2
  all_goals go_ret
  all_goals exact ⟨ret_bool (by first | rfl | (simp [*]; done) | (simp [*]; omega) | (simp at *; omega)), rfl⟩
theorem ris_any (s : Nat) (hs : s < 256) (w : World) : Calls Try.prog 25 #[.int .u8 (s : Int)] w fun e w' => e = .returned (.bool (isS s)) ∧ w = w' := by
  have e : isS s = (decide ((1 : Int) ≤ (s : Int)) && decide ((s : Int) ≤ 7)) := by
    unfold isS; rw [Bool.eq_iff_iff]; simp only [Bool.and_eq_true, decide_eq_true_eq]; omega
  rw [e]
  clear e
  have h1 : (0 : Int) ≤ (s : Int) := Int.natCast_nonneg _
  have h2 : (s : Int) ≤ 255 := by omega
  clear hs
  generalize (s : Int) = x at *
  go_enter Try.func25, Try.ntmps25
  go_wp2
  all_goals go_ret
  all_goals exact ⟨ret_bool (by first | rfl | (simp [*]; done) | (simp [*]; omega) | (simp at *; omega)), rfl⟩
theorem worth_any (s : Nat) (w : World) : Calls Try.prog 24 #[.int .u8 (s : Int)] w fun e w' => e = .returned (.bool (wthB s)) ∧ w = w' := by
  by_cases h5 : s = 5
  · subst h5
    go_enter Try.func24, Try.ntmps24
    go_wp2
    go_ret
    exact ⟨rfl, rfl⟩
  by_cases h6 : s = 6
  · subst h6
    go_enter Try.func24, Try.ntmps24
    go_wp2
    go_ret
    exact ⟨rfl, rfl⟩
  by_cases h7 : s = 7
  · subst h7
    go_enter Try.func24, Try.ntmps24
    go_wp2
    go_ret
    exact ⟨rfl, rfl⟩
  have e : wthB s = true := by simp [wthB, h5, h6, h7]
  rw [e]
  have n5 : ((s : Int) == 5) = false := by rw [beq_eq_false_iff_ne]; omega
  have n6 : ((s : Int) == 6) = false := by rw [beq_eq_false_iff_ne]; omega
  have n7 : ((s : Int) == 7) = false := by rw [beq_eq_false_iff_ne]; omega
  clear h5 h6 h7 e
  generalize (s : Int) = x at *
  go_enter Try.func24, Try.ntmps24
  go_wp2
  go_ret
  exact ⟨rfl, rfl⟩
theorem amount_any (a : Int) (w : World) : Calls Try.prog 50 #[iv a] w fun e w' => e = .returned (.bool (amtB a)) ∧ w = w' := by
  have HC := Lib.hid (check_any a)
  by_cases h0 : 0 ≤ a
  · cases hm : may a
    · have e : amtB a = false := by unfold amtB; rw [hm, Bool.and_false]
      rw [chk_f hm] at HC
      rw [e]
      clear e hm
      go_enter Try.func50, Try.ntmps50
      go_wp2_with (go_at_call 18; refine (HC.out _).mono ?_; rintro e w' ⟨rfl, rfl⟩)
      go_ret
      exact ⟨rfl, rfl⟩
    · have e : amtB a = true := by unfold amtB; rw [hm, decide_eq_true h0]; rfl
      rw [chk_t hm] at HC
      rw [e]
      clear e hm
      go_enter Try.func50, Try.ntmps50
      go_wp2_with (go_at_call 18; refine (HC.out _).mono ?_; rintro e w' ⟨rfl, rfl⟩)
      go_ret
      exact ⟨rfl, rfl⟩
  · have e : amtB a = false := by unfold amtB; rw [decide_eq_false h0]; rfl
    rw [e]
    clear e
    go_enter Try.func50, Try.ntmps50
    go_wp2
    go_ret
    exact ⟨rfl, rfl⟩
theorem letter_any (c : UInt8) (w : World) : Calls Try.prog 67 #[.int .u8 (c.toNat : Int)] w fun e w' => e = .returned (.bool (isL c)) ∧ w = w' := by
  have e : isL c = (decide ((65 : Int) ≤ (c.toNat : Int)) && decide ((c.toNat : Int) ≤ 90)) := by
    unfold isL; rw [Bool.eq_iff_iff]; simp only [Bool.and_eq_true, decide_eq_true_eq]; omega
  rw [e]
  clear e
  generalize (c.toNat : Int) = x at *
  go_enter Try.func67, Try.ntmps67
  go_wp2
  all_goals go_ret
  all_goals exact ⟨ret_bool (by first | rfl | (simp [*]; done) | (simp [*]; omega) | (simp at *; omega)), rfl⟩
theorem sign_any (c : UInt8) (w : World) : Calls Try.prog 66 #[.int .u8 (c.toNat : Int)] w fun e w' => e = .returned (.bool (isN c)) ∧ w = w' := by
  have HL := Lib.hid (fun w => letter_any c w)
  have e : isN c = (isL c || ((c.toNat : Int) == 32) || ((c.toNat : Int) == 47)) := by
    unfold isN
    congr 1
    · congr 1
      rw [Bool.eq_iff_iff]; simp only [decide_eq_true_eq, beq_iff_eq]; omega
    · rw [Bool.eq_iff_iff]; simp only [decide_eq_true_eq, beq_iff_eq]; omega
  rw [e]
  clear e
  generalize (c.toNat : Int) = x at *
  generalize isL c = b at *
  cases b
  all_goals
    go_enter Try.func66, Try.ntmps66
    go_wp2_with (go_at_call 67; refine (HL.out _).mono ?_; rintro e w' ⟨rfl, rfl⟩)
    all_goals go_ret
    all_goals exact ⟨ret_bool (by first | rfl | (simp [*]; done)), rfl⟩
theorem ticket_any (c s : Nat) (n : Int) (hc : c < 256) (w : World) : Calls Try.prog 27 #[.agg #[.int .u8 (c : Int), .int .u64 (s : Int)], iv n] w fun e w' => e = .returned (.bool (tkB c s n)) ∧ Below w.heap.size w w' := by
  have e : tkB c s n = (decide ((c : Int) < n) && decide ((1 : Int) ≤ (s : Int)) && decide ((s : Int) ≤ 9999999999)) := by
    unfold tkB; rw [Bool.eq_iff_iff]; simp only [Bool.and_eq_true, decide_eq_true_eq]; omega
  rw [e]
  clear e
  have c0 : (0 : Int) ≤ (c : Int) := Int.natCast_nonneg _
  have c1 : (c : Int) ≤ 255 := by omega
  clear hc
  generalize (s : Int) = x at *
  generalize (c : Int) = y at *
  by_cases h1 : y < n
  · by_cases h2 : (1 : Int) ≤ x
    · by_cases h3 : x ≤ 9999999999
      · go_enter Try.func27, Try.ntmps27
        go_wp2
        go_ret
        exact ⟨ret_bool (by simp [*]), (Below.refl _ _).alloc (Nat.le_refl _) _⟩
      · go_enter Try.func27, Try.ntmps27
        go_wp2
        go_ret
        exact ⟨ret_bool (by simp; omega), (Below.refl _ _).alloc (Nat.le_refl _) _⟩
    · go_enter Try.func27, Try.ntmps27
      go_wp2
      go_ret
      exact ⟨ret_bool (by simp; omega), (Below.refl _ _).alloc (Nat.le_refl _) _⟩
  · go_enter Try.func27, Try.ntmps27
    go_wp2
    go_ret
    exact ⟨ret_bool (by simp; omega), (Below.refl _ _).alloc (Nat.le_refl _) _⟩
end Go.Proofs.Ytpapcilffkpjjaa
