/- The walk of ProrateWhole. -/
import Derived.Test.YthjaiianbcfiaaaPrAp
import Derived.Test.YthjaiianbcfiaaaPrF
namespace Go.Proofs.Ythjaiianbcfiaaa
open Go.Shelf Go.RowKit Go.Lib Go.Sort Go.Stb Go.Money Go.Pror

theorem sum_ints : ∀ (l : List Nat) (s : Nat), s + l.sum ≤ 1125899906842624 → sumO (s : Int) (ints l) = some (((s + l.sum : Nat) : Int))
  | [], s, _ => by simp [ints, sumO]
  | a :: l, s, h => by
    simp only [List.sum_cons] at h
    have ih := sum_ints l (s + a) (by omega)
    show sumO (s : Int) ((a : Int) :: ints l) = _
    simp only [sumO]
    rw [addO_some (by simp only [Bool.and_eq_true, may_iff]; omega)]
    simp only [List.sum_cons]
    rw [← Nat.add_assoc, ← ih]
    rfl
set_option maxRecDepth 100000 in
set_option maxHeartbeats 3200000 in
theorem prwhole_bad (t : Int) (ws : List Nat) (p : Option Addr) (cap : Nat) (w : World) (hN : Nums w .u32 p (ints ws)) (hw : ∀ x ∈ ws, x ≤ 4294967295) (hb : 64 < ws.length ∨ ws.sum = 0 ∨ t < 0 ∨ 1125899906842624 < t) :
    Calls Try.prog 4 #[.int .i64 t, .slice p ws.length cap] w fun e w' => e = .returned (.bool true) ∧ Below w.heap.size w w' := by
  by_cases h64 : (64 : Int) < (ws.length : Int)
  · clear hN hw hb
    go_enter Try.func4, Try.ntmps4
    go_wp2_with (go_at_call 8; refine (prwakes_any _).mono ?_; rintro e w2 ⟨rfl, hb2⟩)
    go_ret
    exact ⟨rfl, hb2⟩
  obtain ⟨c, hr, hc⟩ : ∃ c : Int, shareR t ws = ([], c) ∧ ¬ c = 0 := by
    by_cases h0 : ws.sum = 0
    · exact ⟨60, shareR_weight (by omega) h0, by decide⟩
    · exact ⟨7, shareR_over (by omega) h0 (by omega), by decide⟩
  have HS := Lib.hid (share_is hr p cap w hN hw)
  have hc2 : (c == 0) = false := by rw [beq_eq_false_iff_ne]; exact hc
  clear hN hw hb hr
  go_enter Try.func4, Try.ntmps4
  go_wp2_with fail
  refine (HS.out).mono ?_
  rintro e w3 ⟨q, c3, rfl, hc3, hn3, hb3⟩
  have HB3 := Lib.hid hb3
  clear hc3 hn3 hb3
  go_wp2_with (go_at_call 8; refine (prwakes_any _).mono ?_; rintro e w4 ⟨rfl, hb4⟩)
  go_ret
  exact ⟨rfl, HB3.out.trans (hb4.mono HB3.out.size)⟩
/-- what is told of one share -/
theorem one_share (A : Nat) (ws : List Nat) (h : 0 < ws.sum) (j : Nat) (hj : j < ws.length) (a x y z : Nat) (ha : ws.getD j 0 = a) (hx : A * a / ws.sum = x) (hy : A * a % ws.sum = y) (hz : (shareL A ws).getD j 0 = z) :
    (a = 0 ∧ x = 0 ∧ y = 0 ∧ z = 0) ∨ (a ≠ 0 ∧ y = 0 ∧ z = x) ∨ (a ≠ 0 ∧ y ≠ 0 ∧ z = x) ∨ (a ≠ 0 ∧ y ≠ 0 ∧ z = x + 1) := by
  have h1 := share_getD A ws j hj
  rw [ha, hx, hz] at h1
  have h2 := given_rest A ws h j hj
  rw [rests_getD A ws.sum ws j hj, ha, hy] at h2
  by_cases c : rank (restI A ws) j < left A ws
  · have := h2 c
    rw [if_pos c] at h1
    by_cases ca : a = 0
    · subst ca; simp at hy; omega
    · exact Or.inr (Or.inr (Or.inr ⟨ca, by omega, h1⟩))
  · rw [if_neg c, Nat.add_zero] at h1
    by_cases ca : a = 0
    · subst ca
      simp at hx hy
      exact Or.inl ⟨rfl, hx.symm, hy.symm, by omega⟩
    · by_cases cy : y = 0
      · exact Or.inr (Or.inl ⟨ca, cy, h1⟩)
      · exact Or.inr (Or.inr (Or.inl ⟨ca, cy, h1⟩))
end Go.Proofs.Ythjaiianbcfiaaa
