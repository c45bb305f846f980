/- The walks of MoneyBack, the second half. -/
import Derived.Test.YtjdhdccfcgmjiaaMoneyBkW
namespace Go.Proofs.Ytjdhdccfcgmjiaa
open Go.RowKit Go.Money

set_option maxRecDepth 100000 in
set_option maxHeartbeats 3200000 in
theorem mnback_p2_n (a b n : Int) (w : World) (HA : Hid (i64 a)) (HB : Hid (i64 b)) (HN : Hid (i64 n))
    (EA : Hid (addO a b = some (a + b))) (EC : Hid (addO b a = some (a + b))) (EB : Hid (subO (a + b) b = some a)) (KS : Hid (chk (a + b) = 0))
    (EP : Hid (mulO a n = none))
    (s1 : 0 < a) (s2 : b ≤ 0)  :
    Calls Try.prog 5 #[iv a, iv b, iv n] w fun e w' => e = .returned (.bool true) ∧ Below w.heap.size w w' := by
  go_enter Try.func5, Try.ntmps5
  go_wp2_with first
    | (go_at_call 8; refine (add_any _ _ _).mono ?_; rintro e w' ⟨rfl, rfl⟩; (first | rw [EA.out] | rw [EC.out]); simp only [pv, pairV])
    | (go_at_call 10; refine (sub_any _ _ _ HB.out).mono ?_; rintro e w' ⟨rfl, rfl⟩; rw [EB.out]; simp only [pv, pairV])
    | (go_at_call 12; refine (check_any _ _).mono ?_; rintro e w' ⟨rfl, rfl⟩; first | rw [KS.out])
    | (go_at_call 14; refine (mul_any _ _ _ HA.out (by first | exact HN.out)).mono ?_; rintro e w' ⟨rfl, rfl⟩; (first | rw [EP.out]); simp only [pv, pairV])
    | (go_at_call 18; refine (mnwakes_any _).mono ?_; rintro e w2 ⟨rfl, hb2⟩)
  go_ret
  exact ⟨rfl, hb2⟩
set_option maxRecDepth 100000 in
set_option maxHeartbeats 3200000 in
theorem mnback_p2_m1 (a b n : Int) (w : World) (HA : Hid (i64 a)) (HB : Hid (i64 b)) (HN : Hid (i64 n))
    (EA : Hid (addO a b = some (a + b))) (EC : Hid (addO b a = some (a + b))) (EB : Hid (subO (a + b) b = some a)) (KS : Hid (chk (a + b) = 0))
    (P U D h g : Int) (hh : n.tdiv 2 = h) (h1 : -9223372036854775808 ≤ h) (h2 : h ≤ 9223372036854775807) (hg : n - h = g) (g1 : -9223372036854775808 ≤ g) (g2 : g ≤ 9223372036854775807) (HH : Hid (i64 h)) (HG : Hid (i64 g)) (EP : Hid (mulO a n = some P)) (EU : Hid (mulO a h = some U)) (ED : Hid (mulO a g = some D)) (ES : Hid (addO U D = some P)) (KP : Hid (chk P = 0))
    (s1 : 0 < a) (s2 : b ≤ 0) (m1 : 0 < a) (m2 : 0 < n) (m3 : 0 < P) (k1 : (P == 0) = false) (k2 : (a == 0) = false) (k3 : (n == 0) = false) :
    Calls Try.prog 5 #[iv a, iv b, iv n] w fun e w' => e = .returned (.bool true) ∧ Below w.heap.size w w' := by
  go_enter Try.func5, Try.ntmps5
  go_wp2_with first
    | (go_at_call 8; refine (add_any _ _ _).mono ?_; rintro e w' ⟨rfl, rfl⟩; (first | rw [EA.out] | rw [EC.out] | rw [ES.out]); simp only [pv, pairV])
    | (go_at_call 10; refine (sub_any _ _ _ HB.out).mono ?_; rintro e w' ⟨rfl, rfl⟩; rw [EB.out]; simp only [pv, pairV])
    | (go_at_call 12; refine (check_any _ _).mono ?_; rintro e w' ⟨rfl, rfl⟩; first | rw [KS.out] | rw [KP.out])
    | (go_at_call 14; refine (mul_any _ _ _ HA.out (by first | exact HN.out | exact HH.out | exact HG.out)).mono ?_; rintro e w' ⟨rfl, rfl⟩; (first | rw [EP.out] | rw [EU.out] | rw [ED.out]); simp only [pv, pairV])
    | (go_at_call 18; refine (mnwakes_any _).mono ?_; rintro e w2 ⟨rfl, hb2⟩)
  go_ret
  exact ⟨rfl, hb2⟩
set_option maxRecDepth 100000 in
set_option maxHeartbeats 3200000 in
theorem mnback_p2_m2 (a b n : Int) (w : World) (HA : Hid (i64 a)) (HB : Hid (i64 b)) (HN : Hid (i64 n))
    (EA : Hid (addO a b = some (a + b))) (EC : Hid (addO b a = some (a + b))) (EB : Hid (subO (a + b) b = some a)) (KS : Hid (chk (a + b) = 0))
    (P U D h g : Int) (hh : n.tdiv 2 = h) (h1 : -9223372036854775808 ≤ h) (h2 : h ≤ 9223372036854775807) (hg : n - h = g) (g1 : -9223372036854775808 ≤ g) (g2 : g ≤ 9223372036854775807) (HH : Hid (i64 h)) (HG : Hid (i64 g)) (EP : Hid (mulO a n = some P)) (EU : Hid (mulO a h = some U)) (ED : Hid (mulO a g = some D)) (ES : Hid (addO U D = some P)) (KP : Hid (chk P = 0))
    (s1 : 0 < a) (s2 : b ≤ 0) (m1 : 0 < a) (m2 : n < 0) (m3 : P < 0) (k1 : (P == 0) = false) (k2 : (a == 0) = false) (k3 : (n == 0) = false) :
    Calls Try.prog 5 #[iv a, iv b, iv n] w fun e w' => e = .returned (.bool true) ∧ Below w.heap.size w w' := by
  go_enter Try.func5, Try.ntmps5
  go_wp2_with first
    | (go_at_call 8; refine (add_any _ _ _).mono ?_; rintro e w' ⟨rfl, rfl⟩; (first | rw [EA.out] | rw [EC.out] | rw [ES.out]); simp only [pv, pairV])
    | (go_at_call 10; refine (sub_any _ _ _ HB.out).mono ?_; rintro e w' ⟨rfl, rfl⟩; rw [EB.out]; simp only [pv, pairV])
    | (go_at_call 12; refine (check_any _ _).mono ?_; rintro e w' ⟨rfl, rfl⟩; first | rw [KS.out] | rw [KP.out])
    | (go_at_call 14; refine (mul_any _ _ _ HA.out (by first | exact HN.out | exact HH.out | exact HG.out)).mono ?_; rintro e w' ⟨rfl, rfl⟩; (first | rw [EP.out] | rw [EU.out] | rw [ED.out]); simp only [pv, pairV])
    | (go_at_call 18; refine (mnwakes_any _).mono ?_; rintro e w2 ⟨rfl, hb2⟩)
  go_ret
  exact ⟨rfl, hb2⟩
set_option maxRecDepth 100000 in
set_option maxHeartbeats 3200000 in
theorem mnback_p2_m5 (a b n : Int) (w : World) (HA : Hid (i64 a)) (HB : Hid (i64 b)) (HN : Hid (i64 n))
    (EA : Hid (addO a b = some (a + b))) (EC : Hid (addO b a = some (a + b))) (EB : Hid (subO (a + b) b = some a)) (KS : Hid (chk (a + b) = 0))
    (P U D h g : Int) (hh : n.tdiv 2 = h) (h1 : -9223372036854775808 ≤ h) (h2 : h ≤ 9223372036854775807) (hg : n - h = g) (g1 : -9223372036854775808 ≤ g) (g2 : g ≤ 9223372036854775807) (HH : Hid (i64 h)) (HG : Hid (i64 g)) (EP : Hid (mulO a n = some P)) (EU : Hid (mulO a h = some U)) (ED : Hid (mulO a g = some D)) (ES : Hid (addO U D = some P)) (KP : Hid (chk P = 0))
    (s1 : 0 < a) (s2 : b ≤ 0) (k1 : (P == 0) = true) (k2 : (a == 0) = false) (k3 : (n == 0) = true) :
    Calls Try.prog 5 #[iv a, iv b, iv n] w fun e w' => e = .returned (.bool true) ∧ Below w.heap.size w w' := by
  go_enter Try.func5, Try.ntmps5
  go_wp2_with first
    | (go_at_call 8; refine (add_any _ _ _).mono ?_; rintro e w' ⟨rfl, rfl⟩; (first | rw [EA.out] | rw [EC.out] | rw [ES.out]); simp only [pv, pairV])
    | (go_at_call 10; refine (sub_any _ _ _ HB.out).mono ?_; rintro e w' ⟨rfl, rfl⟩; rw [EB.out]; simp only [pv, pairV])
    | (go_at_call 12; refine (check_any _ _).mono ?_; rintro e w' ⟨rfl, rfl⟩; first | rw [KS.out] | rw [KP.out])
    | (go_at_call 14; refine (mul_any _ _ _ HA.out (by first | exact HN.out | exact HH.out | exact HG.out)).mono ?_; rintro e w' ⟨rfl, rfl⟩; (first | rw [EP.out] | rw [EU.out] | rw [ED.out]); simp only [pv, pairV])
    | (go_at_call 18; refine (mnwakes_any _).mono ?_; rintro e w2 ⟨rfl, hb2⟩)
  go_ret
  exact ⟨rfl, hb2⟩
set_option maxRecDepth 100000 in
set_option maxHeartbeats 3200000 in
theorem mnback_p3_n (a b n : Int) (w : World) (HA : Hid (i64 a)) (HB : Hid (i64 b)) (HN : Hid (i64 n))
    (EA : Hid (addO a b = some (a + b))) (EC : Hid (addO b a = some (a + b))) (EB : Hid (subO (a + b) b = some a)) (KS : Hid (chk (a + b) = 0))
    (EP : Hid (mulO a n = none))
    (s1 : 0 ≤ a) (s2 : a ≤ 0)  :
    Calls Try.prog 5 #[iv a, iv b, iv n] w fun e w' => e = .returned (.bool true) ∧ Below w.heap.size w w' := by
  go_enter Try.func5, Try.ntmps5
  go_wp2_with first
    | (go_at_call 8; refine (add_any _ _ _).mono ?_; rintro e w' ⟨rfl, rfl⟩; (first | rw [EA.out] | rw [EC.out]); simp only [pv, pairV])
    | (go_at_call 10; refine (sub_any _ _ _ HB.out).mono ?_; rintro e w' ⟨rfl, rfl⟩; rw [EB.out]; simp only [pv, pairV])
    | (go_at_call 12; refine (check_any _ _).mono ?_; rintro e w' ⟨rfl, rfl⟩; first | rw [KS.out])
    | (go_at_call 14; refine (mul_any _ _ _ HA.out (by first | exact HN.out)).mono ?_; rintro e w' ⟨rfl, rfl⟩; (first | rw [EP.out]); simp only [pv, pairV])
    | (go_at_call 18; refine (mnwakes_any _).mono ?_; rintro e w2 ⟨rfl, hb2⟩)
  go_ret
  exact ⟨rfl, hb2⟩
set_option maxRecDepth 100000 in
set_option maxHeartbeats 3200000 in
theorem mnback_p3_m6 (a b n : Int) (w : World) (HA : Hid (i64 a)) (HB : Hid (i64 b)) (HN : Hid (i64 n))
    (EA : Hid (addO a b = some (a + b))) (EC : Hid (addO b a = some (a + b))) (EB : Hid (subO (a + b) b = some a)) (KS : Hid (chk (a + b) = 0))
    (P U D h g : Int) (hh : n.tdiv 2 = h) (h1 : -9223372036854775808 ≤ h) (h2 : h ≤ 9223372036854775807) (hg : n - h = g) (g1 : -9223372036854775808 ≤ g) (g2 : g ≤ 9223372036854775807) (HH : Hid (i64 h)) (HG : Hid (i64 g)) (EP : Hid (mulO a n = some P)) (EU : Hid (mulO a h = some U)) (ED : Hid (mulO a g = some D)) (ES : Hid (addO U D = some P)) (KP : Hid (chk P = 0))
    (s1 : 0 ≤ a) (s2 : a ≤ 0) (k1 : (P == 0) = true) (k2 : (a == 0) = true) :
    Calls Try.prog 5 #[iv a, iv b, iv n] w fun e w' => e = .returned (.bool true) ∧ Below w.heap.size w w' := by
  go_enter Try.func5, Try.ntmps5
  go_wp2_with first
    | (go_at_call 8; refine (add_any _ _ _).mono ?_; rintro e w' ⟨rfl, rfl⟩; (first | rw [EA.out] | rw [EC.out] | rw [ES.out]); simp only [pv, pairV])
    | (go_at_call 10; refine (sub_any _ _ _ HB.out).mono ?_; rintro e w' ⟨rfl, rfl⟩; rw [EB.out]; simp only [pv, pairV])
    | (go_at_call 12; refine (check_any _ _).mono ?_; rintro e w' ⟨rfl, rfl⟩; first | rw [KS.out] | rw [KP.out])
    | (go_at_call 14; refine (mul_any _ _ _ HA.out (by first | exact HN.out | exact HH.out | exact HG.out)).mono ?_; rintro e w' ⟨rfl, rfl⟩; (first | rw [EP.out] | rw [EU.out] | rw [ED.out]); simp only [pv, pairV])
    | (go_at_call 18; refine (mnwakes_any _).mono ?_; rintro e w2 ⟨rfl, hb2⟩)
  go_ret
  exact ⟨rfl, hb2⟩
set_option maxRecDepth 100000 in
set_option maxHeartbeats 3200000 in
theorem mnback_p4_n (a b n : Int) (w : World) (HA : Hid (i64 a)) (HB : Hid (i64 b)) (HN : Hid (i64 n))
    (EA : Hid (addO a b = some (a + b))) (EC : Hid (addO b a = some (a + b))) (EB : Hid (subO (a + b) b = some a)) (KS : Hid (chk (a + b) = 0))
    (EP : Hid (mulO a n = none))
    (s1 : a < 0) (s2 : b < 0)  :
    Calls Try.prog 5 #[iv a, iv b, iv n] w fun e w' => e = .returned (.bool true) ∧ Below w.heap.size w w' := by
  go_enter Try.func5, Try.ntmps5
  go_wp2_with first
    | (go_at_call 8; refine (add_any _ _ _).mono ?_; rintro e w' ⟨rfl, rfl⟩; (first | rw [EA.out] | rw [EC.out]); simp only [pv, pairV])
    | (go_at_call 10; refine (sub_any _ _ _ HB.out).mono ?_; rintro e w' ⟨rfl, rfl⟩; rw [EB.out]; simp only [pv, pairV])
    | (go_at_call 12; refine (check_any _ _).mono ?_; rintro e w' ⟨rfl, rfl⟩; first | rw [KS.out])
    | (go_at_call 14; refine (mul_any _ _ _ HA.out (by first | exact HN.out)).mono ?_; rintro e w' ⟨rfl, rfl⟩; (first | rw [EP.out]); simp only [pv, pairV])
    | (go_at_call 18; refine (mnwakes_any _).mono ?_; rintro e w2 ⟨rfl, hb2⟩)
  go_ret
  exact ⟨rfl, hb2⟩
set_option maxRecDepth 100000 in
set_option maxHeartbeats 3200000 in
theorem mnback_p4_m3 (a b n : Int) (w : World) (HA : Hid (i64 a)) (HB : Hid (i64 b)) (HN : Hid (i64 n))
    (EA : Hid (addO a b = some (a + b))) (EC : Hid (addO b a = some (a + b))) (EB : Hid (subO (a + b) b = some a)) (KS : Hid (chk (a + b) = 0))
    (P U D h g : Int) (hh : n.tdiv 2 = h) (h1 : -9223372036854775808 ≤ h) (h2 : h ≤ 9223372036854775807) (hg : n - h = g) (g1 : -9223372036854775808 ≤ g) (g2 : g ≤ 9223372036854775807) (HH : Hid (i64 h)) (HG : Hid (i64 g)) (EP : Hid (mulO a n = some P)) (EU : Hid (mulO a h = some U)) (ED : Hid (mulO a g = some D)) (ES : Hid (addO U D = some P)) (KP : Hid (chk P = 0))
    (s1 : a < 0) (s2 : b < 0) (m1 : a < 0) (m2 : 0 < n) (m3 : P < 0) (k1 : (P == 0) = false) (k2 : (a == 0) = false) (k3 : (n == 0) = false) :
    Calls Try.prog 5 #[iv a, iv b, iv n] w fun e w' => e = .returned (.bool true) ∧ Below w.heap.size w w' := by
  go_enter Try.func5, Try.ntmps5
  go_wp2_with first
    | (go_at_call 8; refine (add_any _ _ _).mono ?_; rintro e w' ⟨rfl, rfl⟩; (first | rw [EA.out] | rw [EC.out] | rw [ES.out]); simp only [pv, pairV])
    | (go_at_call 10; refine (sub_any _ _ _ HB.out).mono ?_; rintro e w' ⟨rfl, rfl⟩; rw [EB.out]; simp only [pv, pairV])
    | (go_at_call 12; refine (check_any _ _).mono ?_; rintro e w' ⟨rfl, rfl⟩; first | rw [KS.out] | rw [KP.out])
    | (go_at_call 14; refine (mul_any _ _ _ HA.out (by first | exact HN.out | exact HH.out | exact HG.out)).mono ?_; rintro e w' ⟨rfl, rfl⟩; (first | rw [EP.out] | rw [EU.out] | rw [ED.out]); simp only [pv, pairV])
    | (go_at_call 18; refine (mnwakes_any _).mono ?_; rintro e w2 ⟨rfl, hb2⟩)
  go_ret
  exact ⟨rfl, hb2⟩
set_option maxRecDepth 100000 in
set_option maxHeartbeats 3200000 in
theorem mnback_p4_m4 (a b n : Int) (w : World) (HA : Hid (i64 a)) (HB : Hid (i64 b)) (HN : Hid (i64 n))
    (EA : Hid (addO a b = some (a + b))) (EC : Hid (addO b a = some (a + b))) (EB : Hid (subO (a + b) b = some a)) (KS : Hid (chk (a + b) = 0))
    (P U D h g : Int) (hh : n.tdiv 2 = h) (h1 : -9223372036854775808 ≤ h) (h2 : h ≤ 9223372036854775807) (hg : n - h = g) (g1 : -9223372036854775808 ≤ g) (g2 : g ≤ 9223372036854775807) (HH : Hid (i64 h)) (HG : Hid (i64 g)) (EP : Hid (mulO a n = some P)) (EU : Hid (mulO a h = some U)) (ED : Hid (mulO a g = some D)) (ES : Hid (addO U D = some P)) (KP : Hid (chk P = 0))
    (s1 : a < 0) (s2 : b < 0) (m1 : a < 0) (m2 : n < 0) (m3 : 0 < P) (k1 : (P == 0) = false) (k2 : (a == 0) = false) (k3 : (n == 0) = false) :
    Calls Try.prog 5 #[iv a, iv b, iv n] w fun e w' => e = .returned (.bool true) ∧ Below w.heap.size w w' := by
  go_enter Try.func5, Try.ntmps5
  go_wp2_with first
    | (go_at_call 8; refine (add_any _ _ _).mono ?_; rintro e w' ⟨rfl, rfl⟩; (first | rw [EA.out] | rw [EC.out] | rw [ES.out]); simp only [pv, pairV])
    | (go_at_call 10; refine (sub_any _ _ _ HB.out).mono ?_; rintro e w' ⟨rfl, rfl⟩; rw [EB.out]; simp only [pv, pairV])
    | (go_at_call 12; refine (check_any _ _).mono ?_; rintro e w' ⟨rfl, rfl⟩; first | rw [KS.out] | rw [KP.out])
    | (go_at_call 14; refine (mul_any _ _ _ HA.out (by first | exact HN.out | exact HH.out | exact HG.out)).mono ?_; rintro e w' ⟨rfl, rfl⟩; (first | rw [EP.out] | rw [EU.out] | rw [ED.out]); simp only [pv, pairV])
    | (go_at_call 18; refine (mnwakes_any _).mono ?_; rintro e w2 ⟨rfl, hb2⟩)
  go_ret
  exact ⟨rfl, hb2⟩
set_option maxRecDepth 100000 in
set_option maxHeartbeats 3200000 in
theorem mnback_p4_m5 (a b n : Int) (w : World) (HA : Hid (i64 a)) (HB : Hid (i64 b)) (HN : Hid (i64 n))
    (EA : Hid (addO a b = some (a + b))) (EC : Hid (addO b a = some (a + b))) (EB : Hid (subO (a + b) b = some a)) (KS : Hid (chk (a + b) = 0))
    (P U D h g : Int) (hh : n.tdiv 2 = h) (h1 : -9223372036854775808 ≤ h) (h2 : h ≤ 9223372036854775807) (hg : n - h = g) (g1 : -9223372036854775808 ≤ g) (g2 : g ≤ 9223372036854775807) (HH : Hid (i64 h)) (HG : Hid (i64 g)) (EP : Hid (mulO a n = some P)) (EU : Hid (mulO a h = some U)) (ED : Hid (mulO a g = some D)) (ES : Hid (addO U D = some P)) (KP : Hid (chk P = 0))
    (s1 : a < 0) (s2 : b < 0) (k1 : (P == 0) = true) (k2 : (a == 0) = false) (k3 : (n == 0) = true) :
    Calls Try.prog 5 #[iv a, iv b, iv n] w fun e w' => e = .returned (.bool true) ∧ Below w.heap.size w w' := by
  go_enter Try.func5, Try.ntmps5
  go_wp2_with first
    | (go_at_call 8; refine (add_any _ _ _).mono ?_; rintro e w' ⟨rfl, rfl⟩; (first | rw [EA.out] | rw [EC.out] | rw [ES.out]); simp only [pv, pairV])
    | (go_at_call 10; refine (sub_any _ _ _ HB.out).mono ?_; rintro e w' ⟨rfl, rfl⟩; rw [EB.out]; simp only [pv, pairV])
    | (go_at_call 12; refine (check_any _ _).mono ?_; rintro e w' ⟨rfl, rfl⟩; first | rw [KS.out] | rw [KP.out])
    | (go_at_call 14; refine (mul_any _ _ _ HA.out (by first | exact HN.out | exact HH.out | exact HG.out)).mono ?_; rintro e w' ⟨rfl, rfl⟩; (first | rw [EP.out] | rw [EU.out] | rw [ED.out]); simp only [pv, pairV])
    | (go_at_call 18; refine (mnwakes_any _).mono ?_; rintro e w2 ⟨rfl, hb2⟩)
  go_ret
  exact ⟨rfl, hb2⟩
set_option maxRecDepth 100000 in
set_option maxHeartbeats 3200000 in
theorem mnback_p5_n (a b n : Int) (w : World) (HA : Hid (i64 a)) (HB : Hid (i64 b)) (HN : Hid (i64 n))
    (EA : Hid (addO a b = some (a + b))) (EC : Hid (addO b a = some (a + b))) (EB : Hid (subO (a + b) b = some a)) (KS : Hid (chk (a + b) = 0))
    (EP : Hid (mulO a n = none))
    (s1 : a < 0) (s2 : 0 ≤ b)  :
    Calls Try.prog 5 #[iv a, iv b, iv n] w fun e w' => e = .returned (.bool true) ∧ Below w.heap.size w w' := by
  go_enter Try.func5, Try.ntmps5
  go_wp2_with first
    | (go_at_call 8; refine (add_any _ _ _).mono ?_; rintro e w' ⟨rfl, rfl⟩; (first | rw [EA.out] | rw [EC.out]); simp only [pv, pairV])
    | (go_at_call 10; refine (sub_any _ _ _ HB.out).mono ?_; rintro e w' ⟨rfl, rfl⟩; rw [EB.out]; simp only [pv, pairV])
    | (go_at_call 12; refine (check_any _ _).mono ?_; rintro e w' ⟨rfl, rfl⟩; first | rw [KS.out])
    | (go_at_call 14; refine (mul_any _ _ _ HA.out (by first | exact HN.out)).mono ?_; rintro e w' ⟨rfl, rfl⟩; (first | rw [EP.out]); simp only [pv, pairV])
    | (go_at_call 18; refine (mnwakes_any _).mono ?_; rintro e w2 ⟨rfl, hb2⟩)
  go_ret
  exact ⟨rfl, hb2⟩
set_option maxRecDepth 100000 in
set_option maxHeartbeats 3200000 in
theorem mnback_p5_m3 (a b n : Int) (w : World) (HA : Hid (i64 a)) (HB : Hid (i64 b)) (HN : Hid (i64 n))
    (EA : Hid (addO a b = some (a + b))) (EC : Hid (addO b a = some (a + b))) (EB : Hid (subO (a + b) b = some a)) (KS : Hid (chk (a + b) = 0))
    (P U D h g : Int) (hh : n.tdiv 2 = h) (h1 : -9223372036854775808 ≤ h) (h2 : h ≤ 9223372036854775807) (hg : n - h = g) (g1 : -9223372036854775808 ≤ g) (g2 : g ≤ 9223372036854775807) (HH : Hid (i64 h)) (HG : Hid (i64 g)) (EP : Hid (mulO a n = some P)) (EU : Hid (mulO a h = some U)) (ED : Hid (mulO a g = some D)) (ES : Hid (addO U D = some P)) (KP : Hid (chk P = 0))
    (s1 : a < 0) (s2 : 0 ≤ b) (m1 : a < 0) (m2 : 0 < n) (m3 : P < 0) (k1 : (P == 0) = false) (k2 : (a == 0) = false) (k3 : (n == 0) = false) :
    Calls Try.prog 5 #[iv a, iv b, iv n] w fun e w' => e = .returned (.bool true) ∧ Below w.heap.size w w' := by
  go_enter Try.func5, Try.ntmps5
  go_wp2_with first
    | (go_at_call 8; refine (add_any _ _ _).mono ?_; rintro e w' ⟨rfl, rfl⟩; (first | rw [EA.out] | rw [EC.out] | rw [ES.out]); simp only [pv, pairV])
    | (go_at_call 10; refine (sub_any _ _ _ HB.out).mono ?_; rintro e w' ⟨rfl, rfl⟩; rw [EB.out]; simp only [pv, pairV])
    | (go_at_call 12; refine (check_any _ _).mono ?_; rintro e w' ⟨rfl, rfl⟩; first | rw [KS.out] | rw [KP.out])
    | (go_at_call 14; refine (mul_any _ _ _ HA.out (by first | exact HN.out | exact HH.out | exact HG.out)).mono ?_; rintro e w' ⟨rfl, rfl⟩; (first | rw [EP.out] | rw [EU.out] | rw [ED.out]); simp only [pv, pairV])
    | (go_at_call 18; refine (mnwakes_any _).mono ?_; rintro e w2 ⟨rfl, hb2⟩)
  go_ret
  exact ⟨rfl, hb2⟩
set_option maxRecDepth 100000 in
set_option maxHeartbeats 3200000 in
theorem mnback_p5_m4 (a b n : Int) (w : World) (HA : Hid (i64 a)) (HB : Hid (i64 b)) (HN : Hid (i64 n))
    (EA : Hid (addO a b = some (a + b))) (EC : Hid (addO b a = some (a + b))) (EB : Hid (subO (a + b) b = some a)) (KS : Hid (chk (a + b) = 0))
    (P U D h g : Int) (hh : n.tdiv 2 = h) (h1 : -9223372036854775808 ≤ h) (h2 : h ≤ 9223372036854775807) (hg : n - h = g) (g1 : -9223372036854775808 ≤ g) (g2 : g ≤ 9223372036854775807) (HH : Hid (i64 h)) (HG : Hid (i64 g)) (EP : Hid (mulO a n = some P)) (EU : Hid (mulO a h = some U)) (ED : Hid (mulO a g = some D)) (ES : Hid (addO U D = some P)) (KP : Hid (chk P = 0))
    (s1 : a < 0) (s2 : 0 ≤ b) (m1 : a < 0) (m2 : n < 0) (m3 : 0 < P) (k1 : (P == 0) = false) (k2 : (a == 0) = false) (k3 : (n == 0) = false) :
    Calls Try.prog 5 #[iv a, iv b, iv n] w fun e w' => e = .returned (.bool true) ∧ Below w.heap.size w w' := by
  go_enter Try.func5, Try.ntmps5
  go_wp2_with first
    | (go_at_call 8; refine (add_any _ _ _).mono ?_; rintro e w' ⟨rfl, rfl⟩; (first | rw [EA.out] | rw [EC.out] | rw [ES.out]); simp only [pv, pairV])
    | (go_at_call 10; refine (sub_any _ _ _ HB.out).mono ?_; rintro e w' ⟨rfl, rfl⟩; rw [EB.out]; simp only [pv, pairV])
    | (go_at_call 12; refine (check_any _ _).mono ?_; rintro e w' ⟨rfl, rfl⟩; first | rw [KS.out] | rw [KP.out])
    | (go_at_call 14; refine (mul_any _ _ _ HA.out (by first | exact HN.out | exact HH.out | exact HG.out)).mono ?_; rintro e w' ⟨rfl, rfl⟩; (first | rw [EP.out] | rw [EU.out] | rw [ED.out]); simp only [pv, pairV])
    | (go_at_call 18; refine (mnwakes_any _).mono ?_; rintro e w2 ⟨rfl, hb2⟩)
  go_ret
  exact ⟨rfl, hb2⟩
set_option maxRecDepth 100000 in
set_option maxHeartbeats 3200000 in
theorem mnback_p5_m5 (a b n : Int) (w : World) (HA : Hid (i64 a)) (HB : Hid (i64 b)) (HN : Hid (i64 n))
    (EA : Hid (addO a b = some (a + b))) (EC : Hid (addO b a = some (a + b))) (EB : Hid (subO (a + b) b = some a)) (KS : Hid (chk (a + b) = 0))
    (P U D h g : Int) (hh : n.tdiv 2 = h) (h1 : -9223372036854775808 ≤ h) (h2 : h ≤ 9223372036854775807) (hg : n - h = g) (g1 : -9223372036854775808 ≤ g) (g2 : g ≤ 9223372036854775807) (HH : Hid (i64 h)) (HG : Hid (i64 g)) (EP : Hid (mulO a n = some P)) (EU : Hid (mulO a h = some U)) (ED : Hid (mulO a g = some D)) (ES : Hid (addO U D = some P)) (KP : Hid (chk P = 0))
    (s1 : a < 0) (s2 : 0 ≤ b) (k1 : (P == 0) = true) (k2 : (a == 0) = false) (k3 : (n == 0) = true) :
    Calls Try.prog 5 #[iv a, iv b, iv n] w fun e w' => e = .returned (.bool true) ∧ Below w.heap.size w w' := by
  go_enter Try.func5, Try.ntmps5
  go_wp2_with first
    | (go_at_call 8; refine (add_any _ _ _).mono ?_; rintro e w' ⟨rfl, rfl⟩; (first | rw [EA.out] | rw [EC.out] | rw [ES.out]); simp only [pv, pairV])
    | (go_at_call 10; refine (sub_any _ _ _ HB.out).mono ?_; rintro e w' ⟨rfl, rfl⟩; rw [EB.out]; simp only [pv, pairV])
    | (go_at_call 12; refine (check_any _ _).mono ?_; rintro e w' ⟨rfl, rfl⟩; first | rw [KS.out] | rw [KP.out])
    | (go_at_call 14; refine (mul_any _ _ _ HA.out (by first | exact HN.out | exact HH.out | exact HG.out)).mono ?_; rintro e w' ⟨rfl, rfl⟩; (first | rw [EP.out] | rw [EU.out] | rw [ED.out]); simp only [pv, pairV])
    | (go_at_call 18; refine (mnwakes_any _).mono ?_; rintro e w2 ⟨rfl, hb2⟩)
  go_ret
  exact ⟨rfl, hb2⟩
end Go.Proofs.Ytjdhdccfcgmjiaa
