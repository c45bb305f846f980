/- Contract of sha.mix, over the translated program. -/
import Derived.Test.YthaaccbbegmhbaaDoorShaW2
namespace Go.Proofs.YthaaccbbegmhbaaDoor
open Go.RowKit Go.Sha

@[local go_sem high, local simp high] theorem z42 (w : World) : (zeroValue 57).run Tryd.prog w = .ok (.agg (wv (zl 8))) w := by kernel_rfl
@[local go_sem high, local simp high] theorem z49' (w : World) : (zeroValue 64).run Tryd.prog w = .ok (.agg (wv (zl 64))) w := by kernel_rfl
theorem info40 : (Tryd.prog.info? 45).map (·.size) = some 64 := by kernel_rfl

/-- what the package-level variables hold -/
def Gl (w : World) : Prop := (∃ t f, w.heap[0]? = some (.cells (wv BEG) t f)) ∧ (∃ t f, w.heap[1]? = some (.cells (wv KON) t f))
theorem Gl.size {w : World} (h : Gl w) : 1 < w.heap.size := by
  obtain ⟨_, t, f, h⟩ := h
  exact (Array.getElem?_eq_some_iff.1 h).1
theorem Gl.below {w w' : World} {B : Nat} (h : Gl w) (hB : 2 ≤ B) (hb : Below B w w') : Gl w' := by
  obtain ⟨⟨t, f, h0⟩, t', f', h1⟩ := h
  exact ⟨⟨t, f, (hb.block _ (by omega)).trans h0⟩, t', f', (hb.block _ (by omega)).trans h1⟩

set_option maxRecDepth 100000 in
set_option maxHeartbeats 800000 in
theorem mix_any (was b : List Nat) (w : World) (hw : was.length = 8) (hw1 : Lt M was) (hs : b.length = 64) (hb : Lt 256 b) (hG : Gl w) :
    Calls Tryd.prog 31 #[.agg (wv was), .agg (bv b)] w fun e w' => e = .returned (.agg (wv (mixL was b))) ∧ Below w.heap.size w w' := by
  have HW := Lib.hid hw; clear hw
  have HW1 := Lib.hid hw1; clear hw1
  have HS := Lib.hid hs; clear hs
  have HB := Lib.hid hb; clear hb
  have HG := Lib.hid hG; clear hG
  go_enter Tryd.func31, Tryd.ntmps31
  go_wp2_with (first
    | (go_at_call 37; with_reducible refine (spread_any _ _ HS.out HB.out).mono ?_)
    | ((with_reducible refine wl_load (dst := 10) (w.heap.size + 1) 45 (bv b) (0, 0) 64 5 Tryd.underlying45 ?_ ?_ ?_ ?_); (· rfl); (· exact (heap_prev _ _ _ (by simp)).trans (heap_last _ _ _ (by simp))); (· rw [bv_size, HS.out]; exact info40)))
  rintro e w1 ⟨rfl, hb1⟩
  have Hs1 : w.heap.size + 3 ≤ w1.heap.size := by have := hb1.size; simpa using this
  have HBel := Lib.hid (show Below w.heap.size w w1 from ((((Below.refl _ _).alloc (Nat.le_refl _) _).alloc (by simp) _).alloc (by simp; omega) _).trans (hb1.mono (by simp; omega)))
  have HQ0 := Lib.hid (show w1.heap[w.heap.size]? = some (.cells (wv was) 57 (0, 0)) from (hb1.block _ (by simp; omega)).trans ((heap_prev _ _ _ (by simp; omega)).trans ((heap_prev _ _ _ (by simp)).trans (heap_last _ _ _ rfl))))
  have HQ2 := Lib.hid (show w1.heap[w.heap.size + 1 + 1]? = some (.cells (wv (zl 8)) 57 (0, 0)) from (hb1.block _ (by simp)).trans (heap_last _ _ _ (by simp)))
  clear hb1
  go_wp2_with (first
    | ((with_reducible refine wl_storeL (ty := 64) w1.heap.size (wv (spr b 64)) ?_ ?_ ?_ ?_ ?_ ?_ ?_); (· rfl); (· rfl); (· rfl); (· rw [wv_size, spr_len]; exact info49); (· rw [wv_size, wv_size, spr_len, zl_len]); (· exact wv_one _))
    | ((with_reducible refine wl_load (dst := 12) w.heap.size 57 (wv was) (0, 0) 8 41 Tryd.underlying57 ?_ ?_ ?_ ?_); (· rfl); (· exact (heap_prev _ _ _ (by omega)).trans HQ0.out); (· rw [wv_size, HW.out]; exact info42))
    | ((with_reducible refine wl_storeL (ty := 57) (w1.heap.size + 1) (wv was) ?_ ?_ ?_ ?_ ?_ ?_ ?_); (· rfl); (· rfl); (· simp); (· rw [wv_size, HW.out]; exact info42); (· rw [wv_size, wv_size, HW.out, zl_len]); (· exact wv_one _)))
  go_loopw [8, 14] (fun _ i wr => ∃ k n : Nat, k ≤ 64 ∧ i = .int .i64 k ∧ wr = ((w1.alloc (.cells (wv (spr b 64)) 64)).alloc (.cells (wv (rds KON (spr b 64) was k)) 57)).drewN n) (fun _ i _ => 64 - (intOf i).toNat)
  case atStart => exact ⟨0, 0, Nat.zero_le _, rfl, by rw [rds_zero]; rfl⟩
  case round =>
    obtain ⟨k, n, hk, rfl, rfl⟩ := hrel
    by_cases hlt : k < 64
    · go_wp2_with fail
      obtain ⟨_, tc, fc, hc⟩ := HG.out
      refine (round_any (rds KON (spr b 64) was k) (spr b 64) KON (w1.heap.size + 1) w1.heap.size 64 tc (0, 0) fc k _ hlt (rds_len _ _ HW.out k) (rds_lt _ _ HW1.out k) (spr_len b 64) (spr_lt HB.out 64) KON_len KON_lt
        (by exact heap_last _ _ _ (by simp)) (by exact (heap_prev _ _ _ (by simp)).trans (heap_last _ _ _ rfl))
        (by exact (heap_prev _ _ _ (by simp; omega)).trans ((heap_prev _ _ _ (by omega)).trans ((HBel.out.block _ HG.out.size).trans hc)))).mono ?_
      rintro e w2 ⟨rfl, m, rfl⟩
      rw [setRow_drewN, setRow_alloc_at _ _ _ _ _ (by simp), ← rds_succ]
      clear hc
      go_wp2_with fail
      go_roundw
      case rel => exact ⟨k + 1, n + m, by omega, by go_num, rfl⟩
      case measure => simp [intOf]; omega
    · have HK := Lib.hid (show k = 64 by omega)
      go_wp2_with fail
      go_loopw [9, 21] (fun _ i wr => ∃ j n : Nat, j ≤ 8 ∧ i = .int .i64 j ∧ wr = ((w1.alloc (.cells (wv (spr b 64)) 64)).alloc (.cells (wv (fold was (rds KON (spr b 64) was k) j)) 57)).drewN n) (fun _ i _ => 8 - (intOf i).toNat)
      case atStart => exact ⟨0, n, Nat.zero_le _, rfl, by rw [fold_zero]⟩
      case round =>
        clear hk hlt
        obtain ⟨j, m, hj, rfl, rfl⟩ := hrel
        have Hs2 : w.heap.size < w1.heap.size := by omega
        by_cases hlt : j < 8
        · have c0 : w1.cell? ⟨w.heap.size, j, none⟩ = some (.int .u32 (at0 was j : Nat)) := (cell_of_row _ _ j _ _ _ HQ0.out).trans (wv_get was j (by rw [HW.out]; omega))
          have gk := wv_get (fold was (rds KON (spr b 64) was k) j) j (by rw [fold_len, rds_len _ _ HW.out]; omega)
          go_wp2
          go_region
          go_wp2
          go_roundw
          case rel =>
            go_light
            refine ⟨j + 1, m + 1, by omega, by go_num, ?_⟩
            rw [setCell_drewN, World.setCell_alloc_at _ _ _ _ _ (by simp), addm, wv_set, ← fold_succ]
          case measure => simp [intOf]; omega
        · have HJ := Lib.hid (show j = 8 by omega)
          go_wp2_with (first
            | ((with_reducible refine wl_load (dst := 33) (w1.heap.size + 1) 57 (wv (fold was (rds KON (spr b 64) was k) j)) (0, 0) 8 41 Tryd.underlying57 ?_ ?_ ?_ ?_); (· rfl); (· exact heap_last _ _ _ (by simp)); (· rw [wv_size, fold_len, rds_len _ _ HW.out]; exact info42))
            | ((with_reducible refine wl_store (ty := 57) (w.heap.size + 1 + 1) 57 (wv (zl 8)) (wv (fold was (rds KON (spr b 64) was k) j)) ?_ ?_ ?_ ?_ ?_ ?_ ?_); (· rfl); (· rfl); (· exact (heap_prev _ _ _ (by simp; omega)).trans ((heap_prev _ _ _ (by omega)).trans HQ2.out)); (· rw [wv_size, fold_len, rds_len _ _ HW.out]; exact info42); (· rw [wv_size, wv_size, fold_len, rds_len _ _ HW.out, zl_len]); (· exact wv_one _)))
          rw [setRow_drewN, setRow_alloc_past _ _ _ _ (by simp; omega), setRow_alloc_past _ _ _ _ (by omega)]
          have hh : (w1.setRow (w.heap.size + 1 + 1) (wv (fold was (rds KON (spr b 64) was k) j))).heap[w.heap.size + 1 + 1]? = some (.cells (wv (fold was (rds KON (spr b 64) was k) j)) 57 (0, 0)) := setRow_heap _ _ _ _ _ _ HQ2.out
          refine ret_row Tryd.results31 (w.heap.size + 1 + 1) 57 (wv (fold was (rds KON (spr b 64) was k) j)) (0, 0) 8 41 Tryd.underlying57 rfl ?_ ?_ rfl ⟨by rw [HK.out, HJ.out, mixL], ?_⟩
          · exact (heap_prev _ _ _ (by simp; omega)).trans ((heap_prev _ _ _ (by simp; omega)).trans hh)
          · rw [wv_size, fold_len, rds_len _ _ HW.out]; exact info42
          · exact below_drewN (((below_setRow' HBel.out (by omega) _).alloc (by simp; omega) _).alloc (by simp; omega) _) _
end Go.Proofs.YthaaccbbegmhbaaDoor
