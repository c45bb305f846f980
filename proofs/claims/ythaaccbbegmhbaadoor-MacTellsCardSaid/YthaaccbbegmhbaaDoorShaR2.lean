/- Contracts of tarmacref01.turned and tarmacref01.constants over the translated program. -/
import Derived.Test.YthaaccbbegmhbaaDoorShaW9
import Derived.Test.YthaaccbbegmhbaaDoorShaPureR
namespace Go.Proofs.YthaaccbbegmhbaaDoor
open Go.RowKit Go.Sha

theorem rturned_any (x : Nat) (n : Nat) (w : World) (h1 : n ≤ 32) (hx : x < M) :
    Calls Tryd.prog 34 #[.int .u32 (x : Int), .int .i64 (n : Int)] w fun e w' => e = .returned (.int .u32 (rotr x n : Nat)) ∧ ∃ k, w' = w.drewN k := by
  have h0 : ¬ ((n : Int) < 0) := by omega
  have h2 : ¬ ((32 : Int) - (n : Int) < 0) := by omega
  have h3 : ((32 : Int) - (n : Int)).toNat = 32 - n := by omega
  have h4 : (0 : Int) ≤ 32 - (n : Int) := by omega
  have h5 : (32 : Int) - (n : Int) ≤ 9223372036854775807 := by omega
  go_enter Tryd.func34, Tryd.ntmps34
  go_wp2
  go_region
  go_wp2
  go_ret
  refine ⟨ret_int ?_, 1, rfl⟩
  rw [shrm, shlm, bor (shr_lt n hx) (mod_lt _)]
  rfl

@[local go_sem high, local simp high] theorem z49r (w : World) : (zeroValue 64).run Tryd.prog w = .ok (.agg (wv (zl 64))) w := by kernel_rfl
set_option maxRecDepth 100000 in
set_option maxHeartbeats 800000 in
theorem rconst_any (w : World) :
    Calls Tryd.prog 35 #[] w fun e w' => e = .returned (.agg (wv KON)) ∧ Below w.heap.size w w' := by
  go_enter Tryd.func35, Tryd.ntmps35
  go_wp2_with (first
    | ((with_reducible refine wl_build (dst := 1) (wv KON) ?_ ?_); (· kernel_rfl))
    | ((with_reducible refine wl_storeL (ty := 64) w.heap.size (wv KON) ?_ ?_ ?_ ?_ ?_ ?_ ?_); (· rfl); (· rfl); (· rfl); (· rw [wv_size, KON_len]; exact info49); (· rw [wv_size, wv_size, KON_len, zl_len]); (· exact wv_one _)))
  refine ret_row Tryd.results35 w.heap.size 64 (wv KON) (0, 0) 64 41 Tryd.underlying64 rfl ?_ ?_ rfl ⟨rfl, ?_⟩
  · exact heap_last _ _ _ rfl
  · rw [wv_size, KON_len]; exact info49
  · exact (Below.refl _ _).alloc (Nat.le_refl _) _
end Go.Proofs.YthaaccbbegmhbaaDoor
