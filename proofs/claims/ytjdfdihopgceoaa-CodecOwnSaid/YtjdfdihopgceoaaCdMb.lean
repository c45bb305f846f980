/- Contracts: isNoSale, isNoCommand, mayBe. (Written by tools/cd-mb.py.) -/
import Derived.Test.YtjdfdihopgceoaaCdEq
namespace Go.Proofs.Ytjdfdihopgceoaa.Cd
open Go.RowKit Go.Shelf Go.Dk Go.Jn Go.Cod

theorem beq_empty (a : By) : ((tx a).toList == (⟨#[]⟩ : ByteArray).toList) = decide (a = []) := by
  rw [tx_list, show (⟨#[]⟩ : ByteArray).toList = [] by rw [ByteArray.toList_eq]]
  cases a <;> simp
set_option maxRecDepth 100000 in
set_option maxHeartbeats 3200000 in
theorem noSale_any (name : By) (lp tp : Option Addr) (ll lc tl tc : Nat) (fare pen : Int) (w : World) (hl : ll ≤ 1000000) (ht : tl ≤ 1000000) :
    Calls Try.prog 46 #[.agg #[str name, .slice lp ll lc, .int .i64 fare, .slice tp tl tc, .int .i64 pen]] w fun e w' => e = .returned (.bool (decide (name = [] ∧ ll = 0 ∧ fare = 0 ∧ tl = 0 ∧ pen = 0))) ∧ Below w.heap.size w w' := by
  have HB := Lib.hid (fun o : Obj => (Below.refl w.heap.size w).alloc (Nat.le_refl _) o)
  have hbe := beq_empty name
  have l0 : (0 : Int) ≤ (ll : Int) := Int.natCast_nonneg _
  have l1 : (ll : Int) ≤ 1000000 := by omega
  have t0 : (0 : Int) ≤ (tl : Int) := Int.natCast_nonneg _
  have t1 : (tl : Int) ≤ 1000000 := by omega
  by_cases c0 : name = []
  case neg =>
    rw [decide_eq_false c0] at hbe
    go_enter Try.func46, Try.ntmps46
    go_wp2
    all_goals go_ret
    all_goals refine ⟨?_, HB.out _⟩
    all_goals rw [decide_eq_false (fun h => c0 h.1)]
    all_goals (first | rfl | (simp; done) | (simp_all; done) | skip)
  rw [decide_eq_true c0] at hbe
  by_cases c1 : ll = 0
  case neg =>
    have bc1 : ((ll : Int) == 0) = false := by simp; omega
    go_enter Try.func46, Try.ntmps46
    go_wp2
    all_goals go_ret
    all_goals refine ⟨?_, HB.out _⟩
    all_goals rw [decide_eq_false (fun h => c1 h.2.1)]
    all_goals (first | rfl | (simp; done) | (simp_all; done) | skip)
  have bc1 : ((ll : Int) == 0) = true := by simp; omega
  by_cases c2 : fare = 0
  case neg =>
    have bc2 : (fare == 0) = false := by simp; omega
    go_enter Try.func46, Try.ntmps46
    go_wp2
    all_goals go_ret
    all_goals refine ⟨?_, HB.out _⟩
    all_goals rw [decide_eq_false (fun h => c2 h.2.2.1)]
    all_goals (first | rfl | (simp; done) | (simp_all; done) | skip)
  have bc2 : (fare == 0) = true := by simp; omega
  by_cases c3 : tl = 0
  case neg =>
    have bc3 : ((tl : Int) == 0) = false := by simp; omega
    go_enter Try.func46, Try.ntmps46
    go_wp2
    all_goals go_ret
    all_goals refine ⟨?_, HB.out _⟩
    all_goals rw [decide_eq_false (fun h => c3 h.2.2.2.1)]
    all_goals (first | rfl | (simp; done) | (simp_all; done) | skip)
  have bc3 : ((tl : Int) == 0) = true := by simp; omega
  by_cases c4 : pen = 0
  case neg =>
    have bc4 : (pen == 0) = false := by simp; omega
    go_enter Try.func46, Try.ntmps46
    go_wp2
    all_goals go_ret
    all_goals refine ⟨?_, HB.out _⟩
    all_goals rw [decide_eq_false (fun h => c4 h.2.2.2.2)]
    all_goals (first | rfl | (simp; done) | (simp_all; done) | skip)
  have bc4 : (pen == 0) = true := by simp; omega
  go_enter Try.func46, Try.ntmps46
  go_wp2
  all_goals go_ret
  all_goals refine ⟨?_, HB.out _⟩
  all_goals rw [decide_eq_true ⟨c0, c1, c2, c3, c4⟩]
  all_goals (first | rfl | (simp; done) | (simp_all; done) | skip)
abbrev NoSale (name : By) (ll tl : Nat) (fare pen : Int) : Prop := name = [] ∧ ll = 0 ∧ fare = 0 ∧ tl = 0 ∧ pen = 0
abbrev NoCmd (k c s p : Int) (name : By) (ll tl : Nat) (fare pen am : Int) : Prop := k = 0 ∧ (c = 0 ∧ s = 0) ∧ p = 0 ∧ NoSale name ll tl fare pen ∧ am = 0
set_option maxRecDepth 100000 in
set_option maxHeartbeats 3200000 in
theorem noCmd_any (k c s p : Int) (name : By) (lp tp : Option Addr) (ll lc tl tc : Nat) (fare pen am : Int) (w : World) (hl : ll ≤ 1000000) (ht : tl ≤ 1000000) :
    Calls Try.prog 31 #[.agg #[.int .u8 k, .int .u8 c, .int .u64 s, .int .u8 p, str name, .slice lp ll lc, .int .i64 fare, .slice tp tl tc, .int .i64 pen, .int .i64 am]] w fun e w' => e = .returned (.bool (decide (NoCmd k c s p name ll tl fare pen am))) ∧ Below w.heap.size w w' := by
  have HB := Lib.hid (fun o : Obj => (Below.refl w.heap.size w).alloc (Nat.le_refl _) o)
  have HS := Lib.hid (fun w => noSale_any name lp tp ll lc tl tc fare pen w hl ht)
  have HB2 := Lib.hid (fun (o : Obj) (w' : World) (h : Below (w.alloc o).heap.size (w.alloc o) w') => ((Below.refl w.heap.size w).alloc (Nat.le_refl _) o).trans (h.mono (by simp)))
  by_cases c0 : k = 0
  case neg =>
    go_enter Try.func31, Try.ntmps31
    go_wp2
    all_goals go_ret
    all_goals refine ⟨?_, HB.out _⟩
    all_goals rw [decide_eq_false (fun h => c0 h.1)]
    all_goals (first | rfl | (simp; done) | (simp_all; done) | skip)
  by_cases c1 : (c = 0 ∧ s = 0)
  case neg =>
    have hq := eql_tk c 0 s 0
    rw [decide_eq_false c1] at hq
    go_enter Try.func31, Try.ntmps31
    go_wp2
    all_goals go_ret
    all_goals refine ⟨?_, HB.out _⟩
    all_goals rw [decide_eq_false (fun h => c1 h.2.1)]
    all_goals (first | rfl | (simp; done) | (simp_all; done) | skip)
  have hq := eql_tk c 0 s 0
  rw [decide_eq_true c1] at hq
  by_cases c2 : p = 0
  case neg =>
    go_enter Try.func31, Try.ntmps31
    go_wp2
    all_goals go_ret
    all_goals refine ⟨?_, HB.out _⟩
    all_goals rw [decide_eq_false (fun h => c2 h.2.2.1)]
    all_goals (first | rfl | (simp; done) | (simp_all; done) | skip)
  by_cases c3 : NoSale name ll tl fare pen
  case neg =>
    go_enter Try.func31, Try.ntmps31
    go_wp2_with fail
    refine (HS.out _).mono ?_
    rintro e w2 ⟨rfl, hb2⟩
    have HX := Lib.hid (HB2.out _ _ hb2)
    clear hb2
    rw [decide_eq_false c3]
    go_wp2
    all_goals go_ret
    all_goals refine ⟨?_, HX.out⟩
    all_goals rw [decide_eq_false (fun h => c3 h.2.2.2.1)]
    all_goals (first | rfl | (simp; done) | (simp_all; done) | skip)
  have C3 := Lib.hid c3
  clear c3
  by_cases c4 : am = 0
  case neg =>
    go_enter Try.func31, Try.ntmps31
    go_wp2_with fail
    refine (HS.out _).mono ?_
    rintro e w2 ⟨rfl, hb2⟩
    have hc4 := (hb2.block w.heap.size (by simp)).trans (heap_last w _ w.heap.size rfl)
    have c4c := cell_of_arr hc4 9
    simp only [List.getElem?_toArray, List.getElem?_cons_zero, List.getElem?_cons_succ] at c4c
    have HX := Lib.hid (HB2.out _ _ hb2)
    clear hb2 hc4
    rw [decide_eq_true C3.out]
    go_wp2
    all_goals go_ret
    all_goals refine ⟨?_, HX.out⟩
    all_goals rw [decide_eq_false (fun h => c4 h.2.2.2.2)]
    all_goals (first | rfl | (simp; done) | (simp_all; done) | skip)
  go_enter Try.func31, Try.ntmps31
  go_wp2_with fail
  refine (HS.out _).mono ?_
  rintro e w2 ⟨rfl, hb2⟩
  have hc4 := (hb2.block w.heap.size (by simp)).trans (heap_last w _ w.heap.size rfl)
  have c4c := cell_of_arr hc4 9
  simp only [List.getElem?_toArray, List.getElem?_cons_zero, List.getElem?_cons_succ] at c4c
  have HX := Lib.hid (HB2.out _ _ hb2)
  clear hb2 hc4
  rw [decide_eq_true C3.out]
  go_wp2
  all_goals go_ret
  all_goals refine ⟨?_, HX.out⟩
  all_goals rw [decide_eq_true ⟨c0, c1, c2, C3.out, c4⟩]
  all_goals (first | rfl | (simp; done) | (simp_all; done) | skip)
end Go.Proofs.Ytjdfdihopgceoaa.Cd
