/- Contracts of sha.turned and sha.spreadOf over the translated program. -/
import Derived.Test.YthaaccbbegmhbaaDoorProg
import Derived.Test.YthaaccbbegmhbaaDoorShaPure
import Derived.Test.YthaaccbbegmhbaaDoorShaLaws
import Derived.WalkKit
import Derived.Outline
import Derived.KernelRfl
import Derived.Deep.QuietTactic
import Derived.BigQuiet
import Derived.BigRegion
import Derived.RegionTactic
import Derived.StillTailTactics
import Derived.Laws.Rows
import Derived.Deep.MidRow
import Derived.Lib.Hide
import Derived.Deep.Light
import Derived.WalkSmall
namespace Go.Proofs.YthaaccbbegmhbaaDoor
open Go.RowKit Go.Sha

theorem ret_int {k : IntKind} {a b : Int} (h : a = b) : Ending.returned (.int k a) = .returned (.int k b) := by rw [h]

theorem turned_any (x : Nat) (n : Int) (w : World) (h0 : 0 ≤ n) (h1 : n ≤ 32) (hx : x < M) :
    Calls Tryd.prog 39 #[.int .u32 (x : Int), .int .u64 n] w fun e w' => e = .returned (.int .u32 (rotr x n.toNat : Nat)) ∧ w = w' := by
  obtain ⟨m, rfl⟩ := Int.eq_ofNat_of_zero_le h0
  go_enter Tryd.func39, Tryd.ntmps39
  go_wp2
  go_ret
  refine ⟨ret_int ?_, rfl⟩
  rw [shrm, shlm, bor (shr_lt m hx) (mod_lt _)]
  rfl

@[local go_sem high, local simp high] theorem z49 (w : World) : (zeroValue 64).run Tryd.prog w = .ok (.agg (wv (zl 64))) w := by kernel_rfl

theorem spr_wv (b : List Nat) (k x : Nat) (h : (if k < 16 then be b k else sch (spr b k) k) = x) : (wv (spr b k)).setIfInBounds k (.int .u32 (x : Int)) = wv (spr b (k + 1)) := by
  rw [wv_set, ← h, spr]

theorem info49 : (Tryd.prog.info? 64).map (·.size) = some 64 := by kernel_rfl
set_option maxRecDepth 100000 in
set_option maxHeartbeats 800000 in
theorem spread_any (b : List Nat) (w : World) (hs : b.length = 64) (hb : Lt 256 b) :
    Calls Tryd.prog 37 #[.agg (bv b)] w fun e w' => e = .returned (.agg (wv (spr b 64))) ∧ Below w.heap.size w w' := by
  have HS := Lib.hid hs; clear hs
  have HB := Lib.hid hb; clear hb
  go_enter Tryd.func37, Tryd.ntmps37
  go_wp2
  go_loopw [4, 10] (fun _ i wr => ∃ k n : Nat, k ≤ 16 ∧ i = .int .i64 k ∧ wr = (((w.alloc (.cells (bv b) 45)).alloc (.cells (wv (zl 64)) 64)).alloc (.cells (wv (spr b k)) 64)).drewN n) (fun _ i _ => 16 - (intOf i).toNat)
  case atStart => exact ⟨0, 0, Nat.zero_le _, rfl, by rw [spr_zero]; rfl⟩
  case round =>
    obtain ⟨k, n, hk, rfl, rfl⟩ := hrel
    by_cases hlt : k < 16
    · have g0 := bv_get b (4 * k) (by rw [HS.out]; omega)
      have g1 := bv_get b (4 * k + 1) (by rw [HS.out]; omega)
      have g2 := bv_get b (4 * k + 2) (by rw [HS.out]; omega)
      have g3 := bv_get b (4 * k + 3) (by rw [HS.out]; omega)
      have gk := wv_get (spr b k) k (by rw [spr_len]; omega)
      go_wp2
      go_region
      go_wp2
      go_roundw
      case rel =>
        go_light
        refine ⟨k + 1, n + 1, by omega, by go_num, ?_⟩
        rw [setCell_drewN, World.setCell_alloc_at _ _ _ _ _ (by simp), be_walk HB.out k, spr_wv b k _ (if_pos (by omega))]
      case measure => simp [intOf]; omega
    · go_wp2
      go_loopw [5, 6, 7, 8, 9] (fun i _ _ _ _ wr => ∃ k n : Nat, 16 ≤ k ∧ k ≤ 64 ∧ i = .int .i64 k ∧ wr = (((w.alloc (.cells (bv b) 45)).alloc (.cells (wv (zl 64)) 64)).alloc (.cells (wv (spr b k)) 64)).drewN n) (fun i _ _ _ _ _ => 64 - (intOf i).toNat)
      case atStart => exact ⟨k, n, by omega, by omega, by obtain rfl : k = 16 := (by omega); rfl, rfl⟩
      case round =>
        clear hk hlt
        obtain ⟨k, n, hk, hk2, rfl, rfl⟩ := hrel
        by_cases hlt : k < 64
        · have hk' : k - 15 < 64 := by omega
          have g0 := wv_get (spr b k) (k - 16) (by rw [spr_len]; omega)
          have g1 := wv_get (spr b k) (k - 15) (by rw [spr_len]; omega)
          have g2 := wv_get (spr b k) (k - 7) (by rw [spr_len]; omega)
          have g3 := wv_get (spr b k) (k - 2) (by rw [spr_len]; omega)
          have gk := wv_get (spr b k) k (by rw [spr_len]; omega)
          go_wp2
          go_quiet (fail)
          have l1 : at0 (spr b k) (k - 15) < M := (spr_lt HB.out k).getD (by decide) _
          have l2 : at0 (spr b k) (k - 2) < M := (spr_lt HB.out k).getD (by decide) _
          go_wp2_with (go_at_call 39; refine (turned_any _ _ _ (by decide) (by decide) (by assumption)).mono ?_; rintro e w' ⟨rfl, rfl⟩)
          go_region
          go_wp2
          go_roundw
          case rel =>
            go_light
            refine ⟨k + 1, n + nq + 1, by omega, by omega, by go_num, ?_⟩
            rw [setCell_drewN, World.setCell_alloc_at _ _ _ _ _ (by simp), sch_walk (spr_lt HB.out k), spr_wv b k _ (if_neg (by omega))]
          case measure => simp [intOf]; omega
        · have HK := Lib.hid (show k = 64 by omega)
          go_wp2_with (first
            | ((with_reducible refine wl_load (dst := 88) (w.heap.size + 1 + 1) 64 (wv (spr b k)) (0, 0) 64 41 Tryd.underlying64 ?_ ?_ ?_ ?_); (· rfl); (· exact heap_last _ _ _ (by simp)); (· rw [wv_size, spr_len]; exact info49))
            | ((with_reducible refine wl_store (ty := 64) (w.heap.size + 1) 64 (wv (zl 64)) (wv (spr b k)) ?_ ?_ ?_ ?_ ?_ ?_ ?_); (· rfl); (· rfl); (· exact (heap_prev _ _ _ (by simp)).trans (heap_last _ _ _ (by simp))); (· rw [wv_size, spr_len]; exact info49); (· rw [wv_size, wv_size, spr_len, zl_len]); (· exact wv_one _)))
          rw [setRow_drewN, setRow_alloc_past _ _ _ _ (by simp), setRow_alloc_at _ _ _ _ _ (by simp)]
          refine ret_row Tryd.results37 (w.heap.size + 1) 64 (wv (spr b k)) (0, 0) 64 41 Tryd.underlying64 rfl ?_ ?_ rfl ⟨by rw [HK.out], ?_⟩
          · exact (heap_prev _ _ _ (by simp)).trans (heap_last _ _ _ (by simp))
          · rw [wv_size, spr_len]; exact info49
          · exact below_drewN ((((Below.refl _ _).alloc (Nat.le_refl _) _).alloc (by simp) _).alloc (by simp; omega) _) _
end Go.Proofs.YthaaccbbegmhbaaDoor
