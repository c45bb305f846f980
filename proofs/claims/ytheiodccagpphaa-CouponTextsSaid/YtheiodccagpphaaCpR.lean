/- Contracts: what a status is, its sign; the document's own answers. -/
import Derived.Test.YtheiodccagpphaaCpN
namespace Go.Proofs.Ytheiodccagpphaa
open Go.RowKit Go.Coupon
open Go.Maps (Keyed)

theorem ret_str {a b : ByteArray} (h : a = b) : Ending.returned (.string a) = .returned (.string b) := by rw [h]
def overL (s : Nat) : Bool := decide (4 ≤ s) && decide (s ≤ 7)
/-- a status' sign, as bytes -/
def signL (s : Nat) : List UInt8 := if isS s then ([79, 67, 66, 70, 86, 82, 69].drop (s - 1)).take 1 else []
theorem ris_any (s : Nat) (hs : s < 256) (w : World) : Calls Try.prog 12 #[.int .u8 (s : Int)] w fun e w' => e = .returned (.bool (isS s)) ∧ w = w' := by
  have e : isS s = (decide ((1 : Int) ≤ (s : Int)) && decide ((s : Int) ≤ 7)) := by
    unfold isS; rw [Bool.eq_iff_iff]; simp only [Bool.and_eq_true, decide_eq_true_eq]; omega
  rw [e]
  clear e
  have h1 : (0 : Int) ≤ (s : Int) := Int.natCast_nonneg _
  have h2 : (s : Int) ≤ 255 := by omega
  clear hs
  generalize (s : Int) = x at *
  go_enter Try.func12, Try.ntmps12
  go_wp2
  all_goals go_ret
  all_goals exact ⟨ret_bool (by first | rfl | (simp [*]; done) | (simp [*]; omega) | (simp at *; omega)), rfl⟩
theorem rover_any (s : Nat) (hs : s < 256) (w : World) : Calls Try.prog 9 #[.int .u8 (s : Int)] w fun e w' => e = .returned (.bool (overL s)) ∧ w = w' := by
  have e : overL s = (decide ((4 : Int) ≤ (s : Int)) && decide ((s : Int) ≤ 7)) := by
    unfold overL; rw [Bool.eq_iff_iff]; simp only [Bool.and_eq_true, decide_eq_true_eq]; omega
  rw [e]
  clear e
  have h1 : (0 : Int) ≤ (s : Int) := Int.natCast_nonneg _
  have h2 : (s : Int) ≤ 255 := by omega
  clear hs
  generalize (s : Int) = x at *
  go_enter Try.func9, Try.ntmps9
  go_wp2
  all_goals go_ret
  all_goals exact ⟨ret_bool (by first | rfl | (simp [*]; done) | (simp [*]; omega) | (simp at *; omega)), rfl⟩
theorem over_any (s : Nat) (hs : s < 256) (w : World) : Calls Try.prog 8 #[.int .u8 (s : Int)] w fun e w' => e = .returned (.bool (overL s)) ∧ w = w' := by
  have e : overL s = (decide ((4 : Int) ≤ (s : Int)) && decide ((s : Int) ≤ 7)) := by
    unfold overL; rw [Bool.eq_iff_iff]; simp only [Bool.and_eq_true, decide_eq_true_eq]; omega
  rw [e]
  clear e
  have h1 : (0 : Int) ≤ (s : Int) := Int.natCast_nonneg _
  have h2 : (s : Int) ≤ 255 := by omega
  clear hs
  generalize (s : Int) = x at *
  go_enter Try.func8, Try.ntmps8
  go_wp2
  all_goals go_ret
  all_goals exact ⟨ret_bool (by first | rfl | (simp [*]; done) | (simp [*]; omega) | (simp at *; omega)), rfl⟩
theorem free_any (s : Nat) (w : World) : Calls Try.prog 10 #[.int .u8 (s : Int)] w fun e w' => e = .returned (.bool ((s : Int) == 1)) ∧ w = w' := by
  generalize (s : Int) = x at *
  go_enter Try.func10, Try.ntmps10
  go_wp2
  all_goals go_ret
  all_goals exact ⟨rfl, rfl⟩
set_option maxRecDepth 100000 in
theorem text_any (s : Nat) (hs : s < 256) (w : World) : Calls Try.prog 13 #[.int .u8 (s : Int)] w fun e w' => e = .returned (.string ⟨(signL s).toArray⟩) ∧ w = w' := by
  have HI := Lib.hid (fun W => is_any s hs W)
  by_cases hS : isS s = true
  · rw [hS] at HI
    rcases isS_cases hS with rfl | rfl | rfl | rfl | rfl | rfl | rfl
    all_goals
      clear hs hS
      go_enter Try.func13, Try.ntmps13
      go_wp2_with (go_at_call 11; refine (HI.out _).mono ?_; rintro e w2 ⟨rfl, rfl⟩)
      go_ret
      exact ⟨ret_str rfl, rfl⟩
  · have hS' : isS s = false := by simpa using hS
    rw [hS'] at HI
    have e : signL s = [] := by unfold signL; simp [hS']
    rw [e]
    clear hS hS' hs e
    go_enter Try.func13, Try.ntmps13
    go_wp2_with (go_at_call 11; refine (HI.out _).mono ?_; rintro e w2 ⟨rfl, rfl⟩)
    go_ret
    exact ⟨ret_str rfl, rfl⟩
set_option maxRecDepth 100000 in
theorem rtext_any (s : Nat) (hs : s < 256) (w : World) : Calls Try.prog 14 #[.int .u8 (s : Int)] w fun e w' => e = .returned (.string ⟨(signL s).toArray⟩) ∧ w = w' := by
  have HI := Lib.hid (fun W => ris_any s hs W)
  by_cases hS : isS s = true
  · rw [hS] at HI
    rcases isS_cases hS with rfl | rfl | rfl | rfl | rfl | rfl | rfl
    all_goals
      clear hs hS
      go_enter Try.func14, Try.ntmps14
      go_wp2_with (go_at_call 12; refine (HI.out _).mono ?_; rintro e w2 ⟨rfl, rfl⟩)
      go_ret
      exact ⟨ret_str rfl, rfl⟩
  · have hS' : isS s = false := by simpa using hS
    rw [hS'] at HI
    have e : signL s = [] := by unfold signL; simp [hS']
    rw [e]
    clear hS hS' hs e
    go_enter Try.func14, Try.ntmps14
    go_wp2_with (go_at_call 12; refine (HI.out _).mono ?_; rintro e w2 ⟨rfl, rfl⟩)
    go_ret
    exact ⟨ret_str rfl, rfl⟩
set_option maxRecDepth 100000 in
theorem rcmd_any (c : Nat) (w : World) : Calls Try.prog 18 #[.int .u8 (c : Int)] w fun e w' => e = .returned (.bool (isC c)) ∧ w = w' := by
  by_cases hC : isC c = true
  · rcases isC_cases hC with rfl | rfl | rfl | rfl | rfl | rfl | rfl
    all_goals
      clear hC
      go_enter Try.func18, Try.ntmps18
      go_wp2
      go_ret
      exact ⟨ret_bool rfl, rfl⟩
  · have hC' : isC c = false := by simpa using hC
    rw [hC']
    have hne : ∀ k : Nat, isC k = true → ((c : Int) == (k : Int)) = false := fun k hk => by
      simp only [beq_eq_false_iff_ne, ne_eq, Int.natCast_inj]; rintro rfl; exact hC hk
    have n1 : ((c : Int) == 9) = false := hne 9 (by decide)
    have n2 : ((c : Int) == 10) = false := hne 10 (by decide)
    have n3 : ((c : Int) == 11) = false := hne 11 (by decide)
    have n4 : ((c : Int) == 12) = false := hne 12 (by decide)
    have n5 : ((c : Int) == 3) = false := hne 3 (by decide)
    have n6 : ((c : Int) == 4) = false := hne 4 (by decide)
    have n7 : ((c : Int) == 5) = false := hne 5 (by decide)
    clear hC hC' hne
    generalize (c : Int) = x at *
    go_enter Try.func18, Try.ntmps18
    go_wp2
    all_goals go_ret
    all_goals exact ⟨ret_bool (by first | rfl | (simp [*]; done)), rfl⟩
set_option maxRecDepth 100000 in
theorem rnext_any (s c : Nat) (hs : s < 256) (w : World) :
    Calls Try.prog 7 #[.int .u8 (s : Int), .int .u8 (c : Int)] w fun e w' => e = .returned (.tuple #[.int .u8 ((nextL s c).1 : Int), .int .i64 ((nextL s c).2 : Int)]) ∧ w = w' := by
  have HI := Lib.hid (fun W => ris_any s hs W)
  have HC := Lib.hid (fun W => rcmd_any c W)
  clear hs
  by_cases hS : isS s = true
  · by_cases hC : isC c = true
    · rw [hS] at HI
      rw [hC] at HC
      rcases isS_cases hS with rfl | rfl | rfl | rfl | rfl | rfl | rfl <;> rcases isC_cases hC with rfl | rfl | rfl | rfl | rfl | rfl | rfl
      all_goals
        clear hC hS
        go_enter Try.func7, Try.ntmps7
        go_wp2_with (first | (go_at_call 12; refine (HI.out _).mono ?_; rintro e w2 ⟨rfl, rfl⟩) | (go_at_call 18; refine (HC.out _).mono ?_; rintro e w2 ⟨rfl, rfl⟩))
        go_ret2
        exact ⟨rfl, rfl⟩
    · have hC' : isC c = false := by simpa using hC
      rw [next_arg (.inr hC')]
      rw [hS] at HI
      rw [hC'] at HC
      clear hS hC hC'
      go_enter Try.func7, Try.ntmps7
      go_wp2_with (first | (go_at_call 12; refine (HI.out _).mono ?_; rintro e w2 ⟨rfl, rfl⟩) | (go_at_call 18; refine (HC.out _).mono ?_; rintro e w2 ⟨rfl, rfl⟩))
      go_ret2
      exact ⟨rfl, rfl⟩
  · have hS' : isS s = false := by simpa using hS
    rw [next_arg (.inl hS')]
    rw [hS'] at HI
    clear hS hS'
    go_enter Try.func7, Try.ntmps7
    go_wp2_with (first | (go_at_call 12; refine (HI.out _).mono ?_; rintro e w2 ⟨rfl, rfl⟩) | (go_at_call 18; refine (HC.out _).mono ?_; rintro e w2 ⟨rfl, rfl⟩))
    go_ret2
    exact ⟨rfl, rfl⟩
end Go.Proofs.Ytheiodccagpphaa
