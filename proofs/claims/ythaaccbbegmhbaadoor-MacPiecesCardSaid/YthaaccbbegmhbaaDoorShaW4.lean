/- Contracts of (*sha.Hash).waiting, sha.digestOf, sha.New, over the translated program. -/
import Derived.Test.YthaaccbbegmhbaaDoorShaW3
import Derived.Test.YthaaccbbegmhbaaDoorShaPure2
namespace Go.Proofs.YthaaccbbegmhbaaDoor
open Go.RowKit Go.Sha

@[local go_sem high, local simp high] theorem z25 (w : World) : (zeroValue 25).run Tryd.prog w = .ok (.agg (bv (zl 32))) w := by kernel_rfl
theorem info25 : (Tryd.prog.info? 25).map (·.size) = some 32 := by kernel_rfl

theorem waiting_any (g : Nat) (m r : List Nat) (c : Nat) (t : TypeId) (fr : Nat × Nat) (w : World) (hm : m.length = 8) (hr : r.length = 64) (hc : c < 1152921504606846976)
    (hg : w.heap[g]? = some (.cells (hv m r c) t fr)) :
    Calls Tryd.prog 30 #[.pointer (some ⟨g, 0, none⟩)] w fun e w' => e = .returned (.int .i64 ((c % 64 : Nat) : Int)) ∧ w = w' := by
  have c0 : w.cell? ⟨g, 72, none⟩ = some (.int .u64 (c : Int)) := (cell_of_row _ _ _ _ _ _ hg).trans (hv_count c hm hr)
  clear hg hm hr
  go_enter Tryd.func30, Tryd.ntmps30
  go_wp2
  go_ret
  exact ⟨ret_int (by simp), rfl⟩

set_option maxRecDepth 100000 in
set_option maxHeartbeats 800000 in
theorem digest_any (m : List Nat) (w : World) (hm : m.length = 8) (hm1 : Lt M m) :
    Calls Tryd.prog 33 #[.agg (wv m)] w fun e w' => e = .returned (.agg (bv (dig m))) ∧ Below w.heap.size w w' := by
  have HM := Lib.hid hm; clear hm
  have HM1 := Lib.hid hm1; clear hm1
  go_enter Tryd.func33, Tryd.ntmps33
  go_wp2
  go_loopw [4, 5] (fun _ i wr => ∃ k n : Nat, k ≤ 32 ∧ i = .int .i64 k ∧ wr = (((w.alloc (.cells (wv m) 57)).alloc (.cells (bv (zl 32)) 25)).alloc (.cells (bv (digTo m k)) 25)).drewN n) (fun _ i _ => 32 - (intOf i).toNat)
  case atStart => exact ⟨0, 0, Nat.zero_le _, rfl, by rw [digTo_zero]; rfl⟩
  case round =>
    obtain ⟨k, n, hk, rfl, rfl⟩ := hrel
    by_cases hlt : k < 32
    · have g0 := wv_get m (k / 4) (by rw [HM.out]; omega)
      have gk := bv_get (digTo m k) k (by rw [digTo_len]; omega)
      have h8 : 8 * (k % 4) ≤ 24 := by omega
      go_wp2
      go_roundw
      case rel =>
        go_light
        refine ⟨k + 1, n, by omega, by go_num, ?_⟩
        rw [setCell_drewN, World.setCell_alloc_at _ _ _ _ _ (by simp), dig_walk m k, bv_set, ← digTo_succ]
      case measure => simp [intOf]; omega
    · have HK := Lib.hid (show k = 32 by omega)
      go_wp2_with (first
        | ((with_reducible refine wl_load (dst := 21) (w.heap.size + 1 + 1) 25 (bv (digTo m k)) (0, 0) 32 5 Tryd.underlying25 ?_ ?_ ?_ ?_); (· rfl); (· exact heap_last _ _ _ (by simp)); (· rw [bv_size, digTo_len]; exact info25))
        | ((with_reducible refine wl_store (ty := 25) (w.heap.size + 1) 25 (bv (zl 32)) (bv (digTo m k)) ?_ ?_ ?_ ?_ ?_ ?_ ?_); (· rfl); (· rfl); (· exact (heap_prev _ _ _ (by simp)).trans (heap_last _ _ _ (by simp))); (· rw [bv_size, digTo_len]; exact info25); (· rw [bv_size, bv_size, digTo_len, zl_len]); (· exact bv_one _)))
      rw [setRow_drewN, setRow_alloc_past _ _ _ _ (by simp), setRow_alloc_at _ _ _ _ _ (by simp)]
      refine ret_row Tryd.results33 (w.heap.size + 1) 25 (bv (digTo m k)) (0, 0) 32 5 Tryd.underlying25 rfl ?_ ?_ rfl ⟨by rw [HK.out, dig], ?_⟩
      · exact (heap_prev _ _ _ (by simp)).trans (heap_last _ _ _ (by simp))
      · rw [bv_size, digTo_len]; exact info25
      · exact below_drewN ((((Below.refl _ _).alloc (Nat.le_refl _) _).alloc (by simp) _).alloc (by simp; omega) _) _

set_option maxRecDepth 100000 in
theorem new_any (w : World) (hG : Gl w) :
    Calls Tryd.prog 21 #[] w fun e w' => e = .returned (.pointer (some ⟨w.heap.size, 0, none⟩)) ∧ w' = w.alloc (.cells (hv BEG (zl 64) 0) 60) := by
  obtain ⟨⟨t, f, hb⟩, _⟩ := hG
  have HB := Lib.hid hb; clear hb
  go_enter Tryd.func21, Tryd.ntmps21
  go_wp2_with (first
    | ((with_reducible refine wl_load (dst := 1) 0 t (wv BEG) f 8 41 Tryd.underlying57 ?_ ?_ ?_ ?_); (· rfl); (· exact HB.out); (· rw [wv_size, BEG_len]; exact info42))
    | ((with_reducible refine wl_build (dst := 2) (hv BEG (zl 64) 0) ?_ ?_); (· kernel_rfl)))
  go_ret
  exact ⟨rfl, rfl⟩
end Go.Proofs.YthaaccbbegmhbaaDoor
