/- Contracts of cmp.Compare, of the closure that compares rests, and of byRest. -/
import Derived.Test.YtpapcilffkpjjaaPrPure
import Derived.Test.YtpapcilffkpjjaaPrSt
import Derived.Test.YtpapcilffkpjjaaMoneyAp
import Derived.Deep.OwnRows
namespace Go.Proofs.Ytpapcilffkpjjaa
open Go.Shelf Go.RowKit Go.Lib Go.Sort Go.Stb Go.Money Go.Pror

theorem nan_any (x : Int) (w : World) : Calls Try.prog 77 #[iv x] w fun e w' => e = .returned (.bool false) ∧ w = w' := by
  go_enter Try.func77, Try.ntmps77
  go_wp2
  go_ret
  first | exact ⟨rfl, rfl⟩ | exact ⟨by simp, rfl⟩
theorem cmp_any (x y : Int) (w : World) : Calls Try.prog 64 #[iv x, iv y] w fun e w' => e = .returned (iv (cmpI x y)) ∧ w = w' := by
  unfold cmpI
  by_cases h1 : x < y
  · rw [if_pos h1]
    go_enter Try.func64, Try.ntmps64
    go_wp2_with (go_at_call 77; refine (nan_any _ _).mono ?_; rintro e w' ⟨rfl, rfl⟩)
    go_ret
    exact ⟨rfl, rfl⟩
  · rw [if_neg h1]
    by_cases h2 : y < x
    · rw [if_pos h2]
      go_enter Try.func64, Try.ntmps64
      go_wp2_with (go_at_call 77; refine (nan_any _ _).mono ?_; rintro e w' ⟨rfl, rfl⟩)
      go_ret
      exact ⟨rfl, rfl⟩
    · rw [if_neg h2]
      go_enter Try.func64, Try.ntmps64
      go_wp2_with (go_at_call 77; refine (nan_any _ _).mono ?_; rintro e w' ⟨rfl, rfl⟩)
      go_ret
      exact ⟨rfl, rfl⟩
set_option maxRecDepth 100000 in
theorem less_any (l : List Int) (p : Option Addr) (cap bx : Nat) (x y : Nat) (w : World) (hx : x < l.length) (hy : y < l.length) (hb : w.cell? ⟨bx, 0, none⟩ = some (.slice p l.length cap)) (hN : Nums w .i64 p l) :
    Calls Try.prog 63 #[.int .i64 x, .int .i64 y, .pointer (some ⟨bx, 0, none⟩)] w fun e w' => e = .returned (iv (cmpI (l.getD y 0) (l.getD x 0))) ∧ ∃ q, w' = w.drewN q := by
  obtain ⟨b, o, rfl, _, cx⟩ := hN.cell hx
  obtain ⟨b', o', e, _, cy⟩ := hN.cell hy
  obtain ⟨rfl, rfl⟩ : b = b' ∧ o = o' := by simpa using e
  have lx : (x : Int) < (l.length : Int) := by omega
  have ly : (y : Int) < (l.length : Int) := by omega
  clear e hN hx hy
  generalize l.getD x 0 = a at *
  generalize l.getD y 0 = c at *
  have HC := Lib.hid (fun w : World => (cmp_any c a w).mono (R' := fun e w' => e = .returned (iv (cmpI c a)) ∧ ∃ q, w' = w.drewN q) (by rintro e w' ⟨rfl, rfl⟩; exact ⟨rfl, 0, by rw [World.drewN_zero]⟩))
  generalize cmpI c a = r at *
  go_enter Try.func63, Try.ntmps63
  go_wp2_with fail
  go_quiet ((go_at_call 64; exact Calls.quiet_of (HC.out _)))
  go_wp2
  go_ret
  exact ⟨rfl, nq, rfl⟩
end Go.Proofs.Ytpapcilffkpjjaa
