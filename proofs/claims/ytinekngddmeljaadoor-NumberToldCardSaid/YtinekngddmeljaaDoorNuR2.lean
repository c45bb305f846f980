/- Contracts of the document's own Text. -/
import Derived.Test.YtinekngddmeljaaDoorNuR
import Derived.Laws.Bits64
import Derived.Laws.BitsLemmas
namespace Go.Proofs.YtinekngddmeljaaDoor
open Go.RowKit Go.Shelf Go.Number

def GoodR (n k : Int) : Prop := ∃ n' k' : Nat, n = (n' : Int) ∧ k = (k' : Int) ∧ k' ≤ 10 ∧ n' < 18446744073709551616
theorem rpaddedI (n k : Int) (w : World) (h : GoodR n k) : Calls Tryd.prog 18 #[.int .u64 n, .int .i64 k] w fun e w' => e = .returned (str (padI n k)) ∧ w = w' := by
  obtain ⟨n', k', rfl, rfl, g1, g2⟩ := h
  exact rpadded_any n' k' g1 g2 w
set_option maxRecDepth 100000 in
set_option maxHeartbeats 6400000 in
theorem rtext_any (c s : Nat) (hc : c < 256) (w : World) :
    Calls Tryd.prog 10 #[.agg (tkV c s)] w fun e w' => e = .returned (.tuple #[str (textL c s).1, .int .i64 ((textL c s).2 : Nat)]) ∧ Below w.heap.size w w' := by
  have hc0 : (0 : Int) ≤ (c : Int) := Int.natCast_nonneg _
  have hc1 : (c : Int) < 256 := by omega
  have hs0 : (0 : Int) ≤ (s : Int) := Int.natCast_nonneg _
  obtain ⟨wb, hwb⟩ : ∃ wb, wb = w.alloc (.cells (tkV c s) 24) := ⟨_, rfl⟩
  have hbw : Below w.heap.size w wb := by rw [hwb]; exact (Below.refl _ _).alloc (Nat.le_refl _) _
  have hws : wb.heap.size = w.heap.size + 1 := by rw [hwb, size_a]
  have hb0 : wb.heap[w.heap.size]? = some (.cells (tkV c s) 24 (0, 0)) := by rw [hwb]; exact World.alloc_heap_new w _
  have CB : ∀ wz : World, Below wb.heap.size wb wz → wz.heap[w.heap.size]? = some (.cells (tkV c s) 24 (0, 0)) := fun wz hz => (hz.block _ (by rw [hws]; exact Nat.lt_succ_self _)).trans hb0
  have HCB := Lib.hid CB
  have HFIN := Lib.hid (show ∀ wz : World, Below wb.heap.size wb wz → Below w.heap.size w wz from fun wz hz => hbw.trans (hz.mono hbw.size))
  have HM := Lib.hid (rmay_any c s wb)
  by_cases hm : may c s
  · rw [text_in hm]
    have hdm : decide (may c s) = true := decide_eq_true hm
    have G3 : GoodR (c : Int) 3 := ⟨c, 3, rfl, rfl, by omega, by have := hm.1; omega⟩
    have G10 : GoodR (s : Int) 10 := ⟨s, 10, rfl, rfl, by omega, by have := hm.2.2; omega⟩
    have G1 : GoodR (chk (body c s) : Int) 1 := ⟨_, 1, rfl, rfl, by omega, by have := chk_lt (body c s); omega⟩
    have HP := Lib.hid rpaddedI
    have HL := Lib.hid (rleft_any (body c s) (body_all c s) (by rw [body_len]; omega))
    have ha1 : tx (padI (c : Int) 3) ++ tx (padI (s : Int) 10) = tx (body c s) := tx_app _ _
    have ha2 : tx (body c s) ++ tx (padI (chk (body c s) : Int) 1) = tx (full c s) := tx_app _ _
    have z3 : (tx (padI (c : Int) 3)).size = 3 := by rw [tx_size]; exact last_len _ _
    have z10 : (tx (padI (s : Int) 10)).size = 10 := by rw [tx_size]; exact last_len _ _
    have z13 : (tx (body c s)).size = 13 := by rw [tx_size, body_len]
    have z1 : (tx (padI (chk (body c s) : Int) 1)).size = 1 := by rw [tx_size]; exact last_len _ _
    have hk0 : (0 : Int) ≤ (chk (body c s) : Int) := Int.natCast_nonneg _
    have hk1 : (chk (body c s) : Int) < 7 := by have := chk_lt (body c s); omega
    clear hm hb0 hws hbw CB
    go_enter Tryd.func10, Tryd.ntmps10
    go_wp2_with (go_at_call 14; rw [← hwb]; refine (HM.out).mono ?_; rintro e w1 ⟨rfl, hb1⟩; simp only [hdm])
    have c0 : w1.cell? ⟨w.heap.size, 0, none⟩ = some (.int .u8 (c : Int)) := cell_of_arr (HCB.out _ hb1) 0
    have c1 : w1.cell? ⟨w.heap.size, 1, none⟩ = some (.int .u64 (s : Int)) := cell_of_arr (HCB.out _ hb1) 1
    have HB1 := Lib.hid hb1
    have hwc : IntKind.u64.wrap (c : Int) = (c : Int) := by rw [IntKind.wrap_u64]; omega
    clear hb1
    go_region_law
      (go_simp
       refine (HP.out _ _ _ (by first | exact G3 | exact G10)).mono ?_
       rintro e w' ⟨rfl, rfl⟩)
    all_goals
      go_wp2_with first
        | (go_at_call 19; refine (HL.out _).mono ?_; rintro e w' ⟨rfl, rfl⟩)
        | (go_at_call 18; refine (HP.out _ _ _ G1).mono ?_; rintro e w' ⟨rfl, rfl⟩)
      go_ret2
      exact ⟨rfl, HFIN.out _ (by first | exact HB1.out | exact HB1.out.drew)⟩
  · rw [text_out hm]
    have hdm : decide (may c s) = false := decide_eq_false hm
    clear hm hb0 hws hbw CB
    go_enter Tryd.func10, Tryd.ntmps10
    go_wp2_with (go_at_call 14; rw [← hwb]; refine (HM.out).mono ?_; rintro e w1 ⟨rfl, hb1⟩; simp only [hdm])
    go_ret2
    exact ⟨rfl, HFIN.out _ hb1⟩
end Go.Proofs.YtinekngddmeljaaDoor
