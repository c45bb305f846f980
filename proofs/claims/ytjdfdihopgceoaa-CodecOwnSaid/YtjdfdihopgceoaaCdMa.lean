/- Contracts: the document's empty, May. (Written by tools/cd-may.py.) -/
import Derived.Test.YtjdfdihopgceoaaCdX
namespace Go.Proofs.Ytjdfdihopgceoaa.Cd
open Go.RowKit Go.Shelf Go.Dk Go.Jn Go.Cod

set_option maxRecDepth 100000 in
set_option maxHeartbeats 3200000 in
theorem empty_any (k c s p : Int) (name : By) (lp tp : Option Addr) (ll lc tl tc : Nat) (fare pen am : Int) (w : World) (hl : ll ≤ 1000000) (ht : tl ≤ 1000000) :
    Calls Try.prog 30 #[.agg #[.int .u8 k, .int .u8 c, .int .u64 s, .int .u8 p, str name, .slice lp ll lc, .int .i64 fare, .slice tp tl tc, .int .i64 pen, .int .i64 am]] w fun e w' => e = .returned (.bool (decide (NoCmd k c s p name ll tl fare pen am))) ∧ Below w.heap.size w w' := by
  have HB := Lib.hid (fun (o o2 : Obj) => ((Below.refl w.heap.size w).alloc (Nat.le_refl _) o).alloc (by simp) o2)
  have hbe := beq_empty name
  have l0 : (0 : Int) ≤ (ll : Int) := Int.natCast_nonneg _
  have l1 : (ll : Int) ≤ 1000000 := by omega
  have t0 : (0 : Int) ≤ (tl : Int) := Int.natCast_nonneg _
  have t1 : (tl : Int) ≤ 1000000 := by omega
  by_cases c0 : k = 0
  case neg =>
    have b0 : (k == 0) = false := by simpa using c0
    go_enter Try.func30, Try.ntmps30
    go_wp2
    all_goals go_ret
    all_goals refine ⟨?_, HB.out _ _⟩
    all_goals rw [decide_eq_false (fun h => c0 h.1)]
    all_goals (first | rfl | (simp; done) | (simp_all; done) | skip)
  by_cases c1 : c = 0 ∧ s = 0
  case neg =>
    have hq := eql_tk c 0 s 0
    rw [decide_eq_false c1] at hq
    go_enter Try.func30, Try.ntmps30
    go_wp2
    all_goals go_ret
    all_goals refine ⟨?_, HB.out _ _⟩
    all_goals rw [decide_eq_false (fun h => c1 h.2.1)]
    all_goals (first | rfl | (simp; done) | (simp_all; done) | skip)
  have hq := eql_tk c 0 s 0
  rw [decide_eq_true c1] at hq
  by_cases c2 : p = 0
  case neg =>
    have b2 : (p == 0) = false := by simpa using c2
    go_enter Try.func30, Try.ntmps30
    go_wp2
    all_goals go_ret
    all_goals refine ⟨?_, HB.out _ _⟩
    all_goals rw [decide_eq_false (fun h => c2 h.2.2.1)]
    all_goals (first | rfl | (simp; done) | (simp_all; done) | skip)
  by_cases c3 : am = 0
  case neg =>
    have b3 : (am == 0) = false := by simpa using c3
    go_enter Try.func30, Try.ntmps30
    go_wp2
    all_goals go_ret
    all_goals refine ⟨?_, HB.out _ _⟩
    all_goals rw [decide_eq_false (fun h => c3 h.2.2.2.2)]
    all_goals (first | rfl | (simp; done) | (simp_all; done) | skip)
  by_cases c4 : name = []
  case neg =>
    rw [decide_eq_false c4] at hbe
    go_enter Try.func30, Try.ntmps30
    go_wp2
    all_goals go_ret
    all_goals refine ⟨?_, HB.out _ _⟩
    all_goals rw [decide_eq_false (fun h => c4 h.2.2.2.1.1)]
    all_goals (first | rfl | (simp; done) | (simp_all; done) | skip)
  rw [decide_eq_true c4] at hbe
  by_cases c5 : ll = 0
  case neg =>
    have d5 : ¬ (ll : Int) = 0 := by omega
    go_enter Try.func30, Try.ntmps30
    go_wp2
    all_goals go_ret
    all_goals refine ⟨?_, HB.out _ _⟩
    all_goals rw [decide_eq_false (fun h => c5 h.2.2.2.1.2.1)]
    all_goals (first | rfl | (simp; done) | (simp_all; done) | skip)
  have d5 : (ll : Int) = 0 := by omega
  by_cases c6 : fare = 0
  case neg =>
    have b6 : (fare == 0) = false := by simpa using c6
    go_enter Try.func30, Try.ntmps30
    go_wp2
    all_goals go_ret
    all_goals refine ⟨?_, HB.out _ _⟩
    all_goals rw [decide_eq_false (fun h => c6 h.2.2.2.1.2.2.1)]
    all_goals (first | rfl | (simp; done) | (simp_all; done) | skip)
  by_cases c7 : tl = 0
  case neg =>
    have d7 : ¬ (tl : Int) = 0 := by omega
    go_enter Try.func30, Try.ntmps30
    go_wp2
    all_goals go_ret
    all_goals refine ⟨?_, HB.out _ _⟩
    all_goals rw [decide_eq_false (fun h => c7 h.2.2.2.1.2.2.2.1)]
    all_goals (first | rfl | (simp; done) | (simp_all; done) | skip)
  have d7 : (tl : Int) = 0 := by omega
  by_cases c8 : pen = 0
  case neg =>
    have b8 : (pen == 0) = false := by simpa using c8
    go_enter Try.func30, Try.ntmps30
    go_wp2
    all_goals go_ret
    all_goals refine ⟨?_, HB.out _ _⟩
    all_goals rw [decide_eq_false (fun h => c8 h.2.2.2.1.2.2.2.2)]
    all_goals (first | rfl | (simp; done) | (simp_all; done) | skip)
  go_enter Try.func30, Try.ntmps30
  go_wp2
  all_goals go_ret
  all_goals refine ⟨?_, HB.out _ _⟩
  all_goals rw [decide_eq_true ⟨c0, c1, c2, ⟨c4, c5, c6, c7, c8⟩, c3⟩]
  all_goals (first | rfl | (simp; done) | (simp_all; done) | skip)
end Go.Proofs.Ytjdfdihopgceoaa.Cd
