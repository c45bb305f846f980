/- Contracts of (*sha.Hash).fill, (*sha.Hash).Sum, sha.Of, and of both methods on no hash, over the translated program. -/
import Derived.Test.YthaaccbbegmhbaaDoorShaW5
import Derived.Test.YthaaccbbegmhbaaDoorShaPure4
namespace Go.Proofs.YthaaccbbegmhbaaDoor
open Go.RowKit Go.Sha

@[local go_sem high, local simp high] theorem z55 (w : World) : (zeroValue 70).run Tryd.prog w = .ok (.agg (bv (zl 72))) w := by kernel_rfl
@[local go_sem high, local simp high] theorem z25' (w : World) : (zeroValue 25).run Tryd.prog w = .ok (.agg (bv (zl 32))) w := by kernel_rfl

set_option maxRecDepth 100000 in
set_option maxHeartbeats 800000 in
theorem fill_any (g : Nat) (s : HS) (w : World) (ho : s.Ok) (hc : s.c + 72 < 1152921504606846976) (hG : Gl w) (hg2 : 2 ≤ g) (hg : w.heap[g]? = some (.cells s.cells 60 (0, 0))) :
    Calls Tryd.prog 32 #[.pointer (some ⟨g, 0, none⟩)] w fun e w' => e = .returned (.tuple #[]) ∧ w'.heap[g]? = some (.cells (putL s (pad s.c)).cells 60 (0, 0)) ∧ w.grownBy w' (some g) := by
  obtain ⟨m, r, c⟩ := s
  have hc' : c + 72 < 1152921504606846976 := hc
  have HO := Lib.hid ho; clear ho hc
  have HG := Lib.hid hG; clear hG
  have HA := Lib.hid hg; clear hg
  have hgs : g < w.heap.size := (Array.getElem?_eq_some_iff.1 HA.out).1
  have c72 : w.cell? ⟨g, 72, none⟩ = some (.int .u64 (c : Int)) := (cell_of_row _ _ _ _ _ _ HA.out).trans (hv_count c HO.out.m8 HO.out.r64)
  have g0 := bv_get (zl 72) 0 (by rw [zl_len]; decide)
  go_enter Tryd.func32, Tryd.ntmps32
  go_wp2_with fail
  refine (waiting_any g m r c 60 (0, 0) _ HO.out.m8 HO.out.r64 (by omega) (by exact (heap_prev _ _ _ hgs).trans HA.out)).mono ?_
  obtain ⟨q, hq⟩ : ∃ q, q = c % 64 := ⟨_, rfl⟩
  have hq64 : q < 64 := by omega
  rw [← hq]
  rintro e w1 ⟨rfl, rfl⟩
  have ez : (bv (zl 72)).setIfInBounds 0 (Value.int .u8 128) = bv (tlTo c 0) := by rw [tlTo_zero]; exact bv_set (zl 72) 0 128
  rw [ez]
  obtain ⟨z, hz⟩ : ∃ z, z = psize c := ⟨_, rfl⟩
  have hz1 : 9 ≤ z := by rw [hz]; exact psize_lo c
  have hz2 : z ≤ 72 := by rw [hz]; exact psize_hi c
  have hz3 : (z : Int) ≤ 72 := by omega
  have HZ := Lib.hid hz
  have HEZ := Lib.hid (show z = if 64 - q ≤ 8 then 64 - q + 64 else 64 - q by rw [hz, hq]; unfold psize; rfl)
  have HQ := Lib.hid hq
  clear hz hq ez g0
  by_cases h8 : 64 - q ≤ 8
  all_goals
    have hzi : (z : Int) = if 64 - q ≤ 8 then 64 - (q : Int) + 64 else 64 - (q : Int) := by
      rw [HEZ.out]; split <;> omega
    first | rw [if_pos h8] at hzi | rw [if_neg h8] at hzi
    have HZI := Lib.hid hzi
    clear hzi
    go_wp2_with fail
    rw [← HZI.out]
    go_loopw [5, 19] (fun _ i wr => ∃ k : Nat, k ≤ 8 ∧ i = .int .i64 k ∧ wr = w.alloc (.cells (bv (tlTo c k)) 70)) (fun _ i _ => 8 - (intOf i).toNat)
    case atStart => exact ⟨0, Nat.zero_le _, rfl, rfl⟩
    case round =>
      obtain ⟨k, hk, rfl, rfl⟩ := hrel
      by_cases hlt : k < 8
      · have gk := bv_get (tlTo c k) (z - 1 - k) (by rw [tlTo_len]; omega)
        go_wp2_with fail
        refine ⟨⟨k + 1, by omega, by go_num, ?_⟩, by simp [intOf]; omega⟩
        rw [tl_walk c k, bv_set, tlTo_succ, HZ.out]
      · have HK := Lib.hid (show k = 8 by omega)
        go_wp2_with fail
        refine (write_any g ⟨m, r, c⟩ (pad c) _ _ HO.out (pad_lt c) (by rw [pad_len]; have := psize_hi c; show c + psize c < _; omega) (by exact HG.out.below HG.out.size ((Below.refl _ _).alloc (Nat.le_refl _) _)) hg2 (by exact (heap_prev _ _ _ hgs).trans HA.out) ?_).mono ?_
        · refine ⟨some ⟨w.heap.size, 0, none⟩, 72, by rw [pad_len, HZ.out], by rw [pad_len, ← HZ.out]; exact hz2, fun _ => ⟨w.heap.size, 0, rfl, by omega, by simp, fun j hj => ?_⟩⟩
          rw [pad_len] at hj
          rw [pad_at c j hj, ← HK.out, Nat.zero_add, World.cell?_alloc_at _ _ _ _ rfl, bv_get _ _ (by rw [tlTo_len]; have := psize_hi c; omega)]
        · rintro e w2 ⟨rfl, hh, hgr⟩
          have HH2 := Lib.hid hh
          have HGR2 := Lib.hid hgr
          clear hh hgr
          go_wp2_with fail
          go_end0
          exact ⟨rfl, HH2.out, grown_trans (World.grownBy_alloc _ _ _) HGR2.out⟩

/-- a method of no hash -/
theorem write_nil (v : Value) (w : World) : Calls Tryd.prog 22 #[.pointer none, v] w fun e w' => e = .returned (.tuple #[]) ∧ w = w' := by
  go_enter Tryd.func22, Tryd.ntmps22
  go_wp2
  exact bodyPost_ret (results_none rfl _ _ _) rfl ⟨rfl, rfl⟩
theorem sum_nil (w : World) : Calls Tryd.prog 23 #[.pointer none] w fun e w' => e = .returned (.agg (bv (zl 32))) ∧ Below w.heap.size w w' := by
  go_enter Tryd.func23, Tryd.ntmps23
  go_wp2_with (first
    | ((with_reducible refine wl_storeL (ty := 25) w.heap.size (bv (zl 32)) ?_ ?_ ?_ ?_ ?_ ?_ ?_); (· rfl); (· rfl); (· rfl); (· rw [bv_size, zl_len]; exact info25); (· rfl); (· exact bv_one _)))
  refine ret_row Tryd.results23 w.heap.size 25 (bv (zl 32)) (0, 0) 32 5 Tryd.underlying25 rfl (heap_last _ _ _ rfl) (by rw [bv_size, zl_len]; exact info25) rfl ⟨rfl, (Below.refl _ _).alloc (Nat.le_refl _) _⟩
end Go.Proofs.YthaaccbbegmhbaaDoor
