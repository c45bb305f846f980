/- The walk of MoneySums. -/
import Derived.Test.YtjdhdccfcgmjiaaMoneyAp
import Derived.Test.YtjdhdccfcgmjiaaMoneyTlW
namespace Go.Proofs.Ytjdhdccfcgmjiaa
open Go.RowKit Go.Money

set_option maxRecDepth 100000 in
set_option maxHeartbeats 1600000 in
theorem mnsums_any (l : List Int) (p : Option Addr) (cap : Nat) (w : World) (hN : Nums w .i64 p l) (hc : l.length ≤ cap) : Calls Try.prog 4 #[.slice p l.length cap] w fun e w' => e = .returned (.bool true) ∧ Below w.heap.size w w' := by
  by_cases h200 : (200 : Int) < (l.length : Int)
  · clear hN
    go_enter Try.func4, Try.ntmps4
    go_wp2_with (go_at_call 18; refine (mnwakes_any _).mono ?_; rintro e w2 ⟨rfl, hb2⟩)
    go_ret
    exact ⟨rfl, hb2⟩
  have HN := Lib.hid hN
  have HC := Lib.hid hc
  have h201 : l.length ≤ 200 := by omega
  have HM := Lib.hid (show l.length ≤ 1152921504606846976 by omega)
  have HL := Lib.hid h201
  clear hN hc h201
  go_enter Try.func4, Try.ntmps4
  have HR := Lib.hid (nums_row HN.out HC.out)
  have HL9 := Lib.hid (show 0 + l.length ≤ 1000000000 by have := HL.out; omega)
  go_wp2_with (at_builtin; refine wl_appF 30 2 (.int .i64 0) 1 8 par_i64 Try.underlying30 rfl (by decide) (by decide) w.heap.size (.slice none 0 0) 0 [] rfl (World.ownsRow_nil _ _ _ _) (.slice p l.length cap) _ l.length (l.map fun x => .int .i64 x) rfl HR.out (by simp) (one_i64 l) HL9.out (Nat.le_refl _) (fun v1 w1 ho hg _ => ?_))
  rw [Nat.zero_add, List.nil_append] at ho
  obtain ⟨p1, cap1, rfl, hc1, hn1⟩ := own_nums ho
  have HN1 := Lib.hid hn1
  have HB1 := Lib.hid (show Below w.heap.size w w1 from (Below.refl _ _).grown hg (Nat.le_refl _) (fun k hk => by cases hk))
  have HN2 := Lib.hid (HN.out.keep HB1.out)
  have hlz : (l.length : Int) ≤ 200 := by omega
  clear ho hc1 hn1 hg
  refine (sum_any l p1 cap1 w1 HN1.out HM.out).mono ?_
  rintro e w' ⟨rfl, rfl⟩
  go_wp2_with (go_at_call 20; refine (rsum_any l p cap _ HN2.out HM.out).mono ?_; rintro e w' ⟨rfl, rfl⟩)
  go_loopw [8] (fun i wr => ∃ (k : Nat), i = .int .i64 k ∧ k ≤ l.length ∧ Hid (∃ m, wr = w1.drewN m)) (fun i _ => l.length - (intOf i).toNat)
  case atStart => exact ⟨0, rfl, Nat.zero_le _, 0, (World.drewN_zero _).symm⟩
  case round =>
    obtain ⟨k, rfl, hk, hwr⟩ := hrel
    obtain ⟨m, rfl⟩ := hwr.out
    clear hwr
    by_cases hlt : (k : Int) < (l.length : Int)
    · have hkl : k < l.length := by omega
      have hk0 : (0 : Int) ≤ (k : Int) := Int.natCast_nonneg _
      obtain ⟨b, o, rfl, hb, hcell⟩ := HN2.out.cell hkl
      obtain ⟨b1, o1, rfl, hb1, hcell1⟩ := HN1.out.cell hkl
      have hcell' : (w1.drewN m).cell? ⟨b, o + k, none⟩ = some (.int .i64 (l.getD k 0)) := hcell
      have hcell1' : (w1.drewN m).cell? ⟨b1, o1 + k, none⟩ = some (.int .i64 (l.getD k 0)) := hcell1
      generalize l.getD k 0 = a at *
      go_wp2_with fail
      go_quiet (fail)
      go_wp2_with fail
      go_roundw
      case rel => exact ⟨k + 1, by go_num, by omega, _, rfl⟩
      case measure => simp [intOf]; omega
    · go_wp2_with (go_at_call 18; refine (mnwakes_any _).mono ?_; rintro e w2 ⟨rfl, hb2⟩)
      go_ret
      exact ⟨rfl, (below_drewN HB1.out m).trans (hb2.mono (below_drewN HB1.out m).size)⟩
end Go.Proofs.Ytjdhdccfcgmjiaa
