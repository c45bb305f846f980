/- Contract: the document's May. (Written by tools/cd-mc.py.) -/
import Derived.Test.YtjdfdihopgceoaaCdMa
namespace Go.Proofs.Ytjdfdihopgceoaa.Cd
open Go.RowKit Go.Shelf Go.Dk Go.Jn Go.Cod

set_option maxRecDepth 100000 in
set_option maxHeartbeats 6400000 in
theorem may_1 (k c s p : Int) (name : By) (lp tp : Option Addr) (ll lc tl tc : Nat) (fare pen am frm num g0 g1 g2 g3 g4 g5 g6 g7 g8 g9 g10 g11 : Int) (w : World) (hl : ll ≤ 1000000) (ht : tl ≤ 1000000) :
    Calls Try.prog 18 #[.agg #[.int .u8 1, .int .u8 k, .int .u8 c, .int .u64 s, .int .u8 p, str name, .slice lp ll lc, .int .i64 fare, .slice tp tl tc, .int .i64 pen, .int .i64 am, .int .u8 frm, .int .u64 num, .int .u8 g0, .int .u8 g1, .int .u64 g2, .int .u8 g3, .int .u8 g4, .int .u16 g5, .int .u32 g6, .int .i64 g7, .int .u8 g8, .int .u32 g9, .int .i64 g10, .int .i64 g11]] w
      fun e w' => e = .returned (.bool (decide (frm = 0 ∧ num = 0 ∧ Msg0 g0 g1 g2 g3 g4 g5 g6 g7 g8 g9 g10 g11))) ∧ Below w.heap.size w w' := by
  have HB2 := Lib.hid (fun (o : Obj) (w' : World) (h : Below (w.alloc o).heap.size (w.alloc o) w') => ((Below.refl w.heap.size w).alloc (Nat.le_refl _) o).trans (h.mono (by simp)))
  have HB := Lib.hid (fun o : Obj => (Below.refl w.heap.size w).alloc (Nat.le_refl _) o)
  by_cases c0 : frm = 0
  case neg =>
    have b0 : (frm == 0) = false := by simpa using c0
    go_enter Try.func18, Try.ntmps18
    go_wp2
    all_goals go_ret
    all_goals refine ⟨?_, HB.out _⟩
    all_goals rw [decide_eq_false (fun h => c0 h.1)]
    all_goals (first | rfl | (simp; done) | (simp_all; done) | skip)
  by_cases c1 : num = 0
  case neg =>
    have b1 : (num == 0) = false := by simpa using c1
    go_enter Try.func18, Try.ntmps18
    go_wp2
    all_goals go_ret
    all_goals refine ⟨?_, HB.out _⟩
    all_goals rw [decide_eq_false (fun h => c1 h.2.1)]
    all_goals (first | rfl | (simp; done) | (simp_all; done) | skip)
  by_cases c2 : Msg0 g0 g1 g2 g3 g4 g5 g6 g7 g8 g9 g10 g11
  case neg =>
    have hq := eql_msg g0 0 g1 0 g2 0 g3 0 g4 0 g5 0 g6 0 g7 0 g8 0 g9 0 g10 0 g11 0
    rw [decide_eq_false c2] at hq
    go_enter Try.func18, Try.ntmps18
    go_wp2
    all_goals go_ret
    all_goals refine ⟨?_, HB.out _⟩
    all_goals rw [decide_eq_false (fun h => c2 h.2.2)]
    all_goals (first | rfl | (simp; done) | (simp_all; done) | skip)
  have C2 := Lib.hid c2
  clear c2
  have hq := eql_msg g0 0 g1 0 g2 0 g3 0 g4 0 g5 0 g6 0 g7 0 g8 0 g9 0 g10 0 g11 0
  rw [decide_eq_true C2.out] at hq
  go_enter Try.func18, Try.ntmps18
  go_wp2
  all_goals go_ret
  all_goals refine ⟨?_, HB.out _⟩
  all_goals rw [decide_eq_true ⟨c0, c1, C2.out⟩]
  all_goals (first | rfl | (simp; done) | (simp_all; done) | skip)
set_option maxRecDepth 100000 in
set_option maxHeartbeats 6400000 in
theorem may_2 (k c s p : Int) (name : By) (lp tp : Option Addr) (ll lc tl tc : Nat) (fare pen am frm num g0 g1 g2 g3 g4 g5 g6 g7 g8 g9 g10 g11 : Int) (w : World) (hl : ll ≤ 1000000) (ht : tl ≤ 1000000) :
    Calls Try.prog 18 #[.agg #[.int .u8 2, .int .u8 k, .int .u8 c, .int .u64 s, .int .u8 p, str name, .slice lp ll lc, .int .i64 fare, .slice tp tl tc, .int .i64 pen, .int .i64 am, .int .u8 frm, .int .u64 num, .int .u8 g0, .int .u8 g1, .int .u64 g2, .int .u8 g3, .int .u8 g4, .int .u16 g5, .int .u32 g6, .int .i64 g7, .int .u8 g8, .int .u32 g9, .int .i64 g10, .int .i64 g11]] w
      fun e w' => e = .returned (.bool (decide (NoCmd k c s p name ll tl fare pen am))) ∧ Below w.heap.size w w' := by
  have HB2 := Lib.hid (fun (o : Obj) (w' : World) (h : Below (w.alloc o).heap.size (w.alloc o) w') => ((Below.refl w.heap.size w).alloc (Nat.le_refl _) o).trans (h.mono (by simp)))
  have HS := Lib.hid (fun w => empty_any k c s p name lp tp ll lc tl tc fare pen am w hl ht)
  by_cases c3 : NoCmd k c s p name ll tl fare pen am
  case neg =>
    go_enter Try.func18, Try.ntmps18
    go_wp2_with fail
    refine (HS.out _).mono ?_
    rintro e w2 ⟨rfl, hb2⟩
    have hc4 := (hb2.block w.heap.size (by simp)).trans (heap_last w _ w.heap.size rfl)
    have x11 := cell_of_arr hc4 11
    have x12 := cell_of_arr hc4 12
    have x13 := cell_of_arr hc4 13
    have x14 := cell_of_arr hc4 14
    have x15 := cell_of_arr hc4 15
    have x16 := cell_of_arr hc4 16
    have x17 := cell_of_arr hc4 17
    have x18 := cell_of_arr hc4 18
    have x19 := cell_of_arr hc4 19
    have x20 := cell_of_arr hc4 20
    have x21 := cell_of_arr hc4 21
    have x22 := cell_of_arr hc4 22
    have x23 := cell_of_arr hc4 23
    have x24 := cell_of_arr hc4 24
    simp only [List.getElem?_toArray, List.getElem?_cons_zero, List.getElem?_cons_succ] at x11 x12 x13 x14 x15 x16 x17 x18 x19 x20 x21 x22 x23 x24
    have HX := Lib.hid (HB2.out _ _ hb2)
    clear hb2 hc4
    rw [decide_eq_false c3]
    go_wp2
    all_goals go_ret
    all_goals refine ⟨?_, HX.out⟩
    all_goals (first | rfl | (simp; done) | (simp_all; done) | skip)
  have C3 := Lib.hid c3
  clear c3
  go_enter Try.func18, Try.ntmps18
  go_wp2_with fail
  refine (HS.out _).mono ?_
  rintro e w2 ⟨rfl, hb2⟩
  have hc4 := (hb2.block w.heap.size (by simp)).trans (heap_last w _ w.heap.size rfl)
  have x11 := cell_of_arr hc4 11
  have x12 := cell_of_arr hc4 12
  have x13 := cell_of_arr hc4 13
  have x14 := cell_of_arr hc4 14
  have x15 := cell_of_arr hc4 15
  have x16 := cell_of_arr hc4 16
  have x17 := cell_of_arr hc4 17
  have x18 := cell_of_arr hc4 18
  have x19 := cell_of_arr hc4 19
  have x20 := cell_of_arr hc4 20
  have x21 := cell_of_arr hc4 21
  have x22 := cell_of_arr hc4 22
  have x23 := cell_of_arr hc4 23
  have x24 := cell_of_arr hc4 24
  simp only [List.getElem?_toArray, List.getElem?_cons_zero, List.getElem?_cons_succ] at x11 x12 x13 x14 x15 x16 x17 x18 x19 x20 x21 x22 x23 x24
  have HX := Lib.hid (HB2.out _ _ hb2)
  clear hb2 hc4
  rw [decide_eq_true C3.out]
  go_wp2
  all_goals go_ret
  all_goals refine ⟨?_, HX.out⟩
  all_goals try rw [decide_eq_true C3.out]
  all_goals (first | rfl | (simp; done) | (simp_all; done) | skip)
set_option maxRecDepth 100000 in
set_option maxHeartbeats 6400000 in
theorem may_3 (k c s p : Int) (name : By) (lp tp : Option Addr) (ll lc tl tc : Nat) (fare pen am frm num g0 g1 g2 g3 g4 g5 g6 g7 g8 g9 g10 g11 : Int) (w : World) (hl : ll ≤ 1000000) (ht : tl ≤ 1000000) :
    Calls Try.prog 18 #[.agg #[.int .u8 3, .int .u8 k, .int .u8 c, .int .u64 s, .int .u8 p, str name, .slice lp ll lc, .int .i64 fare, .slice tp tl tc, .int .i64 pen, .int .i64 am, .int .u8 frm, .int .u64 num, .int .u8 g0, .int .u8 g1, .int .u64 g2, .int .u8 g3, .int .u8 g4, .int .u16 g5, .int .u32 g6, .int .i64 g7, .int .u8 g8, .int .u32 g9, .int .i64 g10, .int .i64 g11]] w
      fun e w' => e = .returned (.bool (decide (NoCmd k c s p name ll tl fare pen am ∧ Msg0 g0 g1 g2 g3 g4 g5 g6 g7 g8 g9 g10 g11))) ∧ Below w.heap.size w w' := by
  have HB2 := Lib.hid (fun (o : Obj) (w' : World) (h : Below (w.alloc o).heap.size (w.alloc o) w') => ((Below.refl w.heap.size w).alloc (Nat.le_refl _) o).trans (h.mono (by simp)))
  have HS := Lib.hid (fun w => empty_any k c s p name lp tp ll lc tl tc fare pen am w hl ht)
  by_cases c3 : NoCmd k c s p name ll tl fare pen am
  case neg =>
    go_enter Try.func18, Try.ntmps18
    go_wp2_with fail
    refine (HS.out _).mono ?_
    rintro e w2 ⟨rfl, hb2⟩
    have hc4 := (hb2.block w.heap.size (by simp)).trans (heap_last w _ w.heap.size rfl)
    have x11 := cell_of_arr hc4 11
    have x12 := cell_of_arr hc4 12
    have x13 := cell_of_arr hc4 13
    have x14 := cell_of_arr hc4 14
    have x15 := cell_of_arr hc4 15
    have x16 := cell_of_arr hc4 16
    have x17 := cell_of_arr hc4 17
    have x18 := cell_of_arr hc4 18
    have x19 := cell_of_arr hc4 19
    have x20 := cell_of_arr hc4 20
    have x21 := cell_of_arr hc4 21
    have x22 := cell_of_arr hc4 22
    have x23 := cell_of_arr hc4 23
    have x24 := cell_of_arr hc4 24
    simp only [List.getElem?_toArray, List.getElem?_cons_zero, List.getElem?_cons_succ] at x11 x12 x13 x14 x15 x16 x17 x18 x19 x20 x21 x22 x23 x24
    have HX := Lib.hid (HB2.out _ _ hb2)
    clear hb2 hc4
    rw [decide_eq_false c3]
    go_wp2
    all_goals go_ret
    all_goals refine ⟨?_, HX.out⟩
    all_goals rw [decide_eq_false (fun h => c3 h.1)]
    all_goals (first | rfl | (simp; done) | (simp_all; done) | skip)
  have C3 := Lib.hid c3
  clear c3
  by_cases c2 : Msg0 g0 g1 g2 g3 g4 g5 g6 g7 g8 g9 g10 g11
  case neg =>
    have hq := eql_msg g0 0 g1 0 g2 0 g3 0 g4 0 g5 0 g6 0 g7 0 g8 0 g9 0 g10 0 g11 0
    rw [decide_eq_false c2] at hq
    go_enter Try.func18, Try.ntmps18
    go_wp2_with fail
    refine (HS.out _).mono ?_
    rintro e w2 ⟨rfl, hb2⟩
    have hc4 := (hb2.block w.heap.size (by simp)).trans (heap_last w _ w.heap.size rfl)
    have x11 := cell_of_arr hc4 11
    have x12 := cell_of_arr hc4 12
    have x13 := cell_of_arr hc4 13
    have x14 := cell_of_arr hc4 14
    have x15 := cell_of_arr hc4 15
    have x16 := cell_of_arr hc4 16
    have x17 := cell_of_arr hc4 17
    have x18 := cell_of_arr hc4 18
    have x19 := cell_of_arr hc4 19
    have x20 := cell_of_arr hc4 20
    have x21 := cell_of_arr hc4 21
    have x22 := cell_of_arr hc4 22
    have x23 := cell_of_arr hc4 23
    have x24 := cell_of_arr hc4 24
    simp only [List.getElem?_toArray, List.getElem?_cons_zero, List.getElem?_cons_succ] at x11 x12 x13 x14 x15 x16 x17 x18 x19 x20 x21 x22 x23 x24
    have HX := Lib.hid (HB2.out _ _ hb2)
    clear hb2 hc4
    rw [decide_eq_true C3.out]
    go_wp2
    all_goals go_ret
    all_goals refine ⟨?_, HX.out⟩
    all_goals rw [decide_eq_false (fun h => c2 h.2)]
    all_goals (first | rfl | (simp; done) | (simp_all; done) | skip)
  have C2 := Lib.hid c2
  clear c2
  have hq := eql_msg g0 0 g1 0 g2 0 g3 0 g4 0 g5 0 g6 0 g7 0 g8 0 g9 0 g10 0 g11 0
  rw [decide_eq_true C2.out] at hq
  go_enter Try.func18, Try.ntmps18
  go_wp2_with fail
  refine (HS.out _).mono ?_
  rintro e w2 ⟨rfl, hb2⟩
  have hc4 := (hb2.block w.heap.size (by simp)).trans (heap_last w _ w.heap.size rfl)
  have x11 := cell_of_arr hc4 11
  have x12 := cell_of_arr hc4 12
  have x13 := cell_of_arr hc4 13
  have x14 := cell_of_arr hc4 14
  have x15 := cell_of_arr hc4 15
  have x16 := cell_of_arr hc4 16
  have x17 := cell_of_arr hc4 17
  have x18 := cell_of_arr hc4 18
  have x19 := cell_of_arr hc4 19
  have x20 := cell_of_arr hc4 20
  have x21 := cell_of_arr hc4 21
  have x22 := cell_of_arr hc4 22
  have x23 := cell_of_arr hc4 23
  have x24 := cell_of_arr hc4 24
  simp only [List.getElem?_toArray, List.getElem?_cons_zero, List.getElem?_cons_succ] at x11 x12 x13 x14 x15 x16 x17 x18 x19 x20 x21 x22 x23 x24
  have HX := Lib.hid (HB2.out _ _ hb2)
  clear hb2 hc4
  rw [decide_eq_true C3.out]
  go_wp2
  all_goals go_ret
  all_goals refine ⟨?_, HX.out⟩
  all_goals rw [decide_eq_true ⟨C3.out, C2.out⟩]
  all_goals (first | rfl | (simp; done) | (simp_all; done) | skip)
set_option maxRecDepth 100000 in
set_option maxHeartbeats 6400000 in
theorem may_no (k c s p : Int) (name : By) (lp tp : Option Addr) (ll lc tl tc : Nat) (fare pen am frm num g0 g1 g2 g3 g4 g5 g6 g7 g8 g9 g10 g11 : Int) (w : World) (hl : ll ≤ 1000000) (ht : tl ≤ 1000000) (x : Int) (h1 : ¬ x = 1) (h2 : ¬ x = 2) (h3 : ¬ x = 3) :
    Calls Try.prog 18 #[.agg #[.int .u8 x, .int .u8 k, .int .u8 c, .int .u64 s, .int .u8 p, str name, .slice lp ll lc, .int .i64 fare, .slice tp tl tc, .int .i64 pen, .int .i64 am, .int .u8 frm, .int .u64 num, .int .u8 g0, .int .u8 g1, .int .u64 g2, .int .u8 g3, .int .u8 g4, .int .u16 g5, .int .u32 g6, .int .i64 g7, .int .u8 g8, .int .u32 g9, .int .i64 g10, .int .i64 g11]] w
      fun e w' => e = .returned (.bool (false)) ∧ Below w.heap.size w w' := by
  have HB2 := Lib.hid (fun (o : Obj) (w' : World) (h : Below (w.alloc o).heap.size (w.alloc o) w') => ((Below.refl w.heap.size w).alloc (Nat.le_refl _) o).trans (h.mono (by simp)))
  have HB := Lib.hid (fun o : Obj => (Below.refl w.heap.size w).alloc (Nat.le_refl _) o)
  clear HB2
  go_enter Try.func18, Try.ntmps18
  go_wp2
  go_ret
  exact ⟨rfl, HB.out _⟩
end Go.Proofs.Ytjdfdihopgceoaa.Cd
