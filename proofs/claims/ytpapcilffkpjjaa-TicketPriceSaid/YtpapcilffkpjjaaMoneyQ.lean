/- Contract of money's Part. -/
import Derived.Test.YtpapcilffkpjjaaMoneyP
import Derived.OwnWalk
namespace Go.Proofs.Ytpapcilffkpjjaa
open Go.RowKit Go.Money

theorem below_drewN {B : Nat} {a w : World} (h : Below B a w) (m : Nat) : Below B a (w.drewN m) := ⟨h.os, h.tape, h.output, h.size, h.block⟩
theorem part_none {a n d : Int} (h : partC a n d = false) : partO a n d = none := by unfold partO; rw [h]; rfl
theorem part_hi {A N D hi lo : Nat} (hA : A ≤ 1125899906842624) (hN : N ≤ D) (hD : 1 ≤ D) (h : hi * 18446744073709551616 + lo = A * N) : hi < D := by
  have h1 : A * N ≤ 1125899906842624 * D := Nat.mul_le_mul hA hN
  omega
theorem part_whole {A N D : Nat} (hN : N ≤ D) (hD : 1 ≤ D) : A * N / D ≤ A := by
  have h1 : A * N ≤ A * D := Nat.mul_le_mul_left _ hN
  calc A * N / D ≤ A * D / D := Nat.div_le_div_right h1
    _ = A := Nat.mul_div_cancel _ hD
/-- the word of two halves -/
def wd (h l : Nat) : Nat := h * 4294967296 + l
theorem wd_eq (h l : Nat) : wd h l = h * 4294967296 + l := rfl
attribute [irreducible] wd
theorem word_q (h l : Nat) (w : World) (hh : (h : Int) ≤ 4294967295) (hl : (l : Int) ≤ 4294967295) : Calls Try.prog 61 #[.int .u32 (h : Int), .int .u32 (l : Int)] w fun e w' => e = .returned (.int .u64 ((wd h l : Nat) : Int)) ∧ ∃ m, w' = w.drewN m :=
  (word_any h l w hh hl).mono (by rintro e w' ⟨rfl, rfl⟩; exact ⟨by rw [wd_eq], 0, by rw [World.drewN_zero]⟩)
set_option maxRecDepth 100000 in
set_option maxHeartbeats 1600000 in
theorem part_some (A N D : Nat) (w : World) (hA : (A : Int) ≤ 1125899906842624) (hN : (N : Int) ≤ (D : Int)) (hD : (1 : Int) ≤ (D : Int)) (hD2 : (D : Int) ≤ 1099511627776) :
    Calls Try.prog 37 #[iv (A : Int), iv (N : Int), iv (D : Int)] w fun e w' => e = .returned (.tuple #[iv ((A * N / D : Nat) : Int), iv ((A * N % D : Nat) : Int), iv 0]) ∧ Below w.heap.size w w' := by
  have zA : (0 : Int) ≤ (A : Int) := Int.natCast_nonneg _
  have zN : (0 : Int) ≤ (N : Int) := Int.natCast_nonneg _
  have hc : chk (A : Int) = 0 := chk_t ((may_iff _).2 ⟨by omega, hA⟩)
  have bw := part_whole (A := A) (N := N) (D := D) (by omega) (by omega)
  have br : A * N % D < D := Nat.mod_lt _ (by omega)
  have q1 : ((A * N / D : Nat) : Int) ≤ 1125899906842624 := by omega
  have q2 : (0 : Int) ≤ ((A * N / D : Nat) : Int) := Int.natCast_nonneg _
  have r1 : ((A * N % D : Nat) : Int) ≤ 1125899906842624 := by omega
  have r2 : (0 : Int) ≤ ((A * N % D : Nat) : Int) := Int.natCast_nonneg _
  have HP := Lib.hid (fun w => product_any A N w (by omega) (by omega))
  have HD := Lib.hid (fun (p0 p1 p2 p3 : Nat) w (g0 : p0 ≤ 4294967295) (g1 : p1 ≤ 4294967295) (g2 : p2 ≤ 4294967295) (g3 : p3 ≤ 4294967295) (h : (p3 * 4294967296 + p2) * 18446744073709551616 + (p1 * 4294967296 + p0) = A * N) => by
    have := div64_any (p3 * 4294967296 + p2) (p1 * 4294967296 + p0) D w (part_hi (by omega) (by omega) (by omega) h) (by omega) (by omega)
    rw [h, ← wd_eq, ← wd_eq] at this
    exact this)
  clear bw br
  generalize A * N / D = Q at *
  generalize A * N % D = R at *
  go_enter Try.func37, Try.ntmps37
  go_wp2_with first | (go_at_call 18; refine (check_any _ _).mono ?_; rintro e w' ⟨rfl, rfl⟩; simp only [hc]) | fail
  refine (HP.out _).mono ?_
  rintro e w1 ⟨⟨p0, p1, p2, p3, rfl, g0, g1, g2, g3, hp⟩, hb1⟩
  have HD1 := Lib.hid (fun w => HD.out p0 p1 p2 p3 w g0 g1 g2 g3 hp)
  have g0' : (p0 : Int) ≤ 4294967295 := by omega
  have g1' : (p1 : Int) ≤ 4294967295 := by omega
  have g2' : (p2 : Int) ≤ 4294967295 := by omega
  have g3' : (p3 : Int) ≤ 4294967295 := by omega
  have HB1 := Lib.hid hb1
  clear hp hb1 g0 g1 g2 g3
  have HX := Lib.hid (show (w1.alloc (.cells #[.int .u32 (p0 : Int), .int .u32 (p1 : Int), .int .u32 (p2 : Int), .int .u32 (p3 : Int)] 92)).heap[w1.heap.size]? = _ from heap_last _ _ _ rfl)
  have HB2 := Lib.hid (HB1.out.alloc HB1.out.size (.cells #[.int .u32 (p0 : Int), .int .u32 (p1 : Int), .int .u32 (p2 : Int), .int .u32 (p3 : Int)] 92))
  go_wp2_with fail
  generalize w1.alloc (.cells #[.int .u32 (p0 : Int), .int .u32 (p1 : Int), .int .u32 (p2 : Int), .int .u32 (p3 : Int)] 92) = w2 at *
  have c0 : w2.cell? ⟨w1.heap.size, 0, none⟩ = some (.int .u32 (p0 : Int)) := cell_of_row _ _ 0 _ _ _ HX.out
  have c1 : w2.cell? ⟨w1.heap.size, 1, none⟩ = some (.int .u32 (p1 : Int)) := cell_of_row _ _ 1 _ _ _ HX.out
  have c2 : w2.cell? ⟨w1.heap.size, 2, none⟩ = some (.int .u32 (p2 : Int)) := cell_of_row _ _ 2 _ _ _ HX.out
  have c3 : w2.cell? ⟨w1.heap.size, 3, none⟩ = some (.int .u32 (p3 : Int)) := cell_of_row _ _ 3 _ _ _ HX.out
  go_quiet (first | (go_at_call 61; exact Calls.quiet_of (word_q _ _ _ (by first | exact g3' | exact g1') (by first | exact g2' | exact g0'))) | (go_at_call 60; exact Calls.quiet_of (HD1.out _)))
  go_wp2
  go_ret3
  exact ⟨rfl, below_drewN HB2.out nq⟩
/-- the six things that may not be, in their order -/
def partB (a n d : Int) : Prop := a < 0 ∨ 1125899906842624 < a ∨ n < 0 ∨ d < 1 ∨ d < n ∨ 1099511627776 < d
theorem partC_iff (a n d : Int) : partC a n d = true ↔ ¬ partB a n d := by
  unfold partC partB
  simp only [Bool.and_eq_true, decide_eq_true_eq, may_iff]
  omega
set_option maxRecDepth 100000 in
set_option maxHeartbeats 1600000 in
theorem part_bad (a n d : Int) (w : World) (h : partB a n d) : Calls Try.prog 37 #[iv a, iv n, iv d] w fun e w' => e = .returned (tv none) ∧ w = w' := by
  by_cases h1 : a < 0
  · go_enter Try.func37, Try.ntmps37
    go_wp2
    go_ret3
    exact ⟨rfl, rfl⟩
  by_cases h2 : 1125899906842624 < a
  · have hc : chk a = 7 := chk_f ((may_no a).2 (Or.inr h2))
    go_enter Try.func37, Try.ntmps37
    go_wp2_with (go_at_call 18; refine (check_any _ _).mono ?_; rintro e w' ⟨rfl, rfl⟩; simp only [hc])
    go_ret3
    exact ⟨rfl, rfl⟩
  have hc : chk a = 0 := chk_t ((may_iff a).2 ⟨by omega, by omega⟩)
  by_cases h3 : n < 0
  · clear h2 h
    go_enter Try.func37, Try.ntmps37
    go_wp2_with (go_at_call 18; refine (check_any _ _).mono ?_; rintro e w' ⟨rfl, rfl⟩; simp only [hc])
    go_ret3
    exact ⟨rfl, rfl⟩
  by_cases h4 : d < 1
  · clear h2 h
    go_enter Try.func37, Try.ntmps37
    go_wp2_with (go_at_call 18; refine (check_any _ _).mono ?_; rintro e w' ⟨rfl, rfl⟩; simp only [hc])
    go_ret3
    exact ⟨rfl, rfl⟩
  by_cases h5 : d < n
  · clear h2 h
    go_enter Try.func37, Try.ntmps37
    go_wp2_with (go_at_call 18; refine (check_any _ _).mono ?_; rintro e w' ⟨rfl, rfl⟩; simp only [hc])
    go_ret3
    exact ⟨rfl, rfl⟩
  have h6 : 1099511627776 < d := by unfold partB at h; omega
  clear h2 h
  go_enter Try.func37, Try.ntmps37
  go_wp2_with (go_at_call 18; refine (check_any _ _).mono ?_; rintro e w' ⟨rfl, rfl⟩; simp only [hc])
  go_ret3
  exact ⟨rfl, rfl⟩
theorem part_any (a n d : Int) (w : World) : Calls Try.prog 37 #[iv a, iv n, iv d] w fun e w' => e = .returned (tv (partO a n d)) ∧ Below w.heap.size w w' := by
  cases hp : partC a n d
  · rw [part_none hp]
    have hb : partB a n d := by
      apply Classical.byContradiction
      intro hn
      rw [(partC_iff a n d).2 hn] at hp
      cases hp
    refine (part_bad a n d w hb).mono ?_
    rintro e w' ⟨rfl, rfl⟩
    exact ⟨rfl, Below.refl _ _⟩
  · have hb := (partC_iff a n d).1 hp
    unfold partB at hb
    obtain ⟨A, rfl⟩ : ∃ A : Nat, a = A := ⟨a.toNat, by omega⟩
    obtain ⟨N, rfl⟩ : ∃ N : Nat, n = N := ⟨n.toNat, by omega⟩
    obtain ⟨D, rfl⟩ : ∃ D : Nat, d = D := ⟨d.toNat, by omega⟩
    refine (part_some A N D w (by omega) (by omega) (by omega) (by omega)).mono ?_
    rintro e w' ⟨rfl, hbl⟩
    refine ⟨?_, hbl⟩
    have e1 : ((A * N / D : Nat) : Int) = (A : Int) * (N : Int) / (D : Int) := by rw [Int.natCast_ediv, Int.natCast_mul]
    have e2 : ((A * N % D : Nat) : Int) = (A : Int) * (N : Int) % (D : Int) := by rw [Int.natCast_emod, Int.natCast_mul]
    rw [e1, e2]
    unfold partO
    rw [hp]
    rfl
end Go.Proofs.Ytpapcilffkpjjaa
