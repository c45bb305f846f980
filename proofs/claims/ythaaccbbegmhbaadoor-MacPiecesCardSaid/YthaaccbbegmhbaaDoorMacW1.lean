/- Contracts of the closure of mac.xoredBy, of mac.begin and of mac.blockOf, over the translated program. -/
import Derived.Test.YthaaccbbegmhbaaDoorShaApp
import Derived.Test.YthaaccbbegmhbaaDoorMacPure
namespace Go.Proofs.YthaaccbbegmhbaaDoor
open Go.RowKit Go.Sha

@[local go_sem high, local simp high] theorem zblk (w : World) : (zeroValue 50).run Tryd.prog w = .ok (.agg (bv (zl 64))) w := by kernel_rfl
theorem infoBlk : (Tryd.prog.info? 50).map (·.size) = some 64 := by kernel_rfl
theorem u8xor {a b : Nat} (ha : a < 256) (hb : b < 256) : bits .xor .u8 (a : Int) (b : Int) = ((a ^^^ b : Nat) : Int) := u8_xor_nat a b ha hb

set_option maxRecDepth 100000 in
set_option maxHeartbeats 800000 in
theorem xor_any (x cx : Nat) (tx : TypeId) (fx : Nat × Nat) (b : List Nat) (w : World) (hx : x < 256) (hs : b.length = 64) (hb : Lt 256 b) (hc : w.heap[cx]? = some (.cells #[.int .u8 (x : Int)] tx fx)) :
    Calls Tryd.prog 36 #[.agg (bv b), .pointer (some ⟨cx, 0, none⟩)] w fun e w' => e = .returned (.agg (bv (xr x b))) ∧ Below w.heap.size w w' := by
  have HS := Lib.hid hs; clear hs
  have HB := Lib.hid hb; clear hb
  have hcx : cx < w.heap.size := (Array.getElem?_eq_some_iff.1 hc).1
  have HC := Lib.hid hc; clear hc
  go_enter Tryd.func36, Tryd.ntmps36
  go_wp2
  go_loopw [4, 5] (fun _ i wr => ∃ k : Nat, k ≤ 64 ∧ i = .int .i64 k ∧ wr.heap[w.heap.size]? = some (.cells (bv (xrTo x b k)) 50 (0, 0)) ∧ wr.heap[w.heap.size + 1]? = some (.cells (bv (zl 64)) 50 (0, 0)) ∧ Below w.heap.size w wr) (fun _ i _ => 64 - (intOf i).toNat)
  case atStart => exact ⟨0, Nat.zero_le _, rfl, by rw [xrTo_zero]; exact (heap_prev _ _ _ (by simp)).trans (heap_last _ _ _ rfl), heap_last _ _ _ (by simp), ((Below.refl _ _).alloc (Nat.le_refl _) _).alloc (by simp) _⟩
  case round =>
    obtain ⟨k, hk, rfl, hh, hz, hbel⟩ := hrel
    have HH := Lib.hid hh; clear hh
    have HZ := Lib.hid hz; clear hz
    have HBel := Lib.hid hbel; clear hbel
    by_cases hlt : k < 64
    · have c0 : wr.cell? ⟨w.heap.size, k, none⟩ = some (.int .u8 (at0 b k : Nat)) := by
        rw [cell_of_row _ _ k _ _ _ HH.out, bv_get _ _ (by rw [xrTo_len, HS.out]; exact hlt), xrTo_at _ _ _ (by rw [HS.out]; exact hlt)]
      have f0 : wr.frozen? ⟨w.heap.size, k, none⟩ = false := frozen_of_row _ _ _ _ _ HH.out
      have c1 : wr.cell? ⟨cx, 0, none⟩ = some (.int .u8 (x : Int)) := by
        rw [HBel.out.cell (p := ⟨cx, 0, none⟩) hcx, cell_of_row _ _ 0 _ _ _ HC.out]; rfl
      have l0 : at0 b k < 256 := HB.out.getD (by decide) _
      have HX := Lib.hid (u8xor l0 hx)
      have HX2 := Lib.hid (xrTo_succ x b k (by rw [HS.out]; exact hlt))
      generalize at0 b k = y at *
      go_wp2
      go_region
      go_wp2
      go_roundw
      case rel =>
        go_light
        refine ⟨k + 1, by omega, by go_num, ?_, ?_, ?_⟩
        · have := heap_setCell_same wr.drew w.heap.size k _ _ (.int .u8 (bits .xor .u8 (y : Int) (x : Int))) HH.out
          rw [HX.out, bv_set, HX2.out] at this
          rw [HX.out]; exact this
        · exact (heap_setCell_other _ _ _ _ (by simp)).trans HZ.out
        · exact HBel.out.drew.setCell (Nat.le_refl _) _
      case measure => simp [intOf]; omega
    · have HK := Lib.hid (show k = 64 by omega)
      go_wp2_with (first
        | ((with_reducible refine wl_load (dst := 15) w.heap.size 50 (bv (xrTo x b k)) (0, 0) 64 5 Tryd.underlying50 ?_ ?_ ?_ ?_); (· rfl); (· exact HH.out); (· rw [bv_size, xrTo_len, HS.out]; exact infoBlk))
        | ((with_reducible refine wl_store (ty := 50) (w.heap.size + 1) 50 (bv (zl 64)) (bv (xrTo x b k)) ?_ ?_ ?_ ?_ ?_ ?_ ?_); (· rfl); (· rfl); (· exact HZ.out); (· rw [bv_size, xrTo_len, HS.out]; exact infoBlk); (· rw [bv_size, bv_size, xrTo_len, HS.out, zl_len]); (· exact bv_one _)))
      refine ret_row Tryd.results36 (w.heap.size + 1) 50 (bv (xrTo x b k)) (0, 0) 64 5 Tryd.underlying50 rfl ?_ ?_ rfl ⟨by rw [HK.out, xrTo_all x HS.out], ?_⟩
      · exact setRow_heap _ _ _ _ _ _ HZ.out
      · rw [bv_size, xrTo_len, HS.out]; exact infoBlk
      · exact below_setRow' HBel.out (by omega) _
end Go.Proofs.YthaaccbbegmhbaaDoor
