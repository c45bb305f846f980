/- The walk of the law ShaKnown, over the translated program. -/
import Derived.Test.YtppbdjgpkcpppaaDoorShaW9
import Derived.Test.YtppbdjgpkcpppaaDoorShaKnownP
namespace Go.Proofs.YtppbdjgpkcpppaaDoor
open Go.RowKit Go.Sha

theorem made_zero (n : Nat) : madeCells (Value.int .u8 0).cells n = bv (zl n) := by
  apply Array.ext_getElem?
  intro j
  by_cases h : j < n
  · rw [bv_get _ _ (by rw [zl_len]; exact h)]
    simp [madeCells, Value.cells, h, Nat.mod_one, at0, zl]
  · rw [Array.getElem?_eq_none (by rw [size_madeCells]; omega), Array.getElem?_eq_none (by rw [bv_size, zl_len]; omega)]
theorem parts5 : (Tryd.prog.info? 5).map (fun i => (i.zero, i.size, i.bytes)) = some (some (.int .u8 0), 1, 1) := by kernel_rfl
theorem mk1000 (w : World) : (Instr.makeSlice 22 (.int .i64 1000) (.int .i64 1000)).run Tryd.prog w = .ok (.slice (some ⟨w.heap.size, 0, none⟩) 1000 1000) (w.alloc (.cells (bv (zl 1000)) 5)) := by
  obtain ⟨i, hi, h0, h1, h2⟩ := info_parts parts5
  have := run_make (P := Tryd.prog) w 22 5 i (.int .u8 0) Tryd.underlying22 hi h0 .i64 .i64 1000 1000 (by decide) (by decide) (by rw [h2]; decide) (by decide)
  rw [h1, show (1000 : Int).toNat = 1000 from rfl, Nat.mul_one, made_zero] at this
  exact this

theorem lit56 : (#[.int .u8 97, .int .u8 98, .int .u8 99, .int .u8 100, .int .u8 98, .int .u8 99, .int .u8 100, .int .u8 101, .int .u8 99, .int .u8 100, .int .u8 101, .int .u8 102, .int .u8 100, .int .u8 101, .int .u8 102, .int .u8 103, .int .u8 101, .int .u8 102, .int .u8 103, .int .u8 104, .int .u8 102, .int .u8 103, .int .u8 104, .int .u8 105, .int .u8 103, .int .u8 104, .int .u8 105, .int .u8 106, .int .u8 104, .int .u8 105, .int .u8 106, .int .u8 107, .int .u8 105, .int .u8 106, .int .u8 107, .int .u8 108, .int .u8 106, .int .u8 107, .int .u8 108, .int .u8 109, .int .u8 107, .int .u8 108, .int .u8 109, .int .u8 110, .int .u8 108, .int .u8 109, .int .u8 110, .int .u8 111, .int .u8 109, .int .u8 110, .int .u8 111, .int .u8 112, .int .u8 110, .int .u8 111, .int .u8 112, .int .u8 113] : Array Value) = bv msg56 := by kernel_rfl

set_option maxRecDepth 100000 in
set_option maxHeartbeats 800000 in
theorem known_any (w : World) (hG : Gl w) : Calls Tryd.prog 5 #[] w fun e w' => e = .returned (.bool true) ∧ Below w.heap.size w w' := by
  have HG := Lib.hid hG; clear hG
  have hs := HG.out.size
  have kc := fun (w : World) (C : Array Value) (n c : Nat) => Lib.run_convert_bytes_const (P := Tryd.prog) w 22 5 C n c Tryd.underlying22 Tryd.underlying5
  have mk := mk1000
  go_enter Tryd.func5, Tryd.ntmps5
  go_wp2_with fail
  refine (new_any _ HG.out).mono ?_
  rintro e w1 ⟨rfl, rfl⟩
  go_wp2_with fail
  have HB0 := Lib.hid (show Below w.heap.size w (w.alloc (.cells (hv BEG (zl 64) 0) 45)) from (Below.refl _ _).alloc (Nat.le_refl _) _)
  go_loopw [3] (fun i wr => ∃ k : Nat, k ≤ 1000 ∧ i = .int .i64 k ∧ wr = (w.alloc (.cells (hv BEG (zl 64) 0) 45)).alloc (.cells (bv (aTo k)) 5)) (fun i _ => 1000 - (intOf i).toNat)
  case atStart => exact ⟨0, Nat.zero_le _, rfl, by rw [aTo_zero]⟩
  case round =>
    obtain ⟨k, hk, rfl, rfl⟩ := hrel
    by_cases hlt : k < 1000
    · have gk := bv_get (aTo k) k (by rw [aTo_len]; exact hlt)
      go_wp2_with fail
      go_roundw
      case rel => exact ⟨k + 1, by omega, by go_num, by rw [aTo_succ, ← bv_set]; rfl⟩
      case measure => simp [intOf]; omega
    · have HK := Lib.hid (show k = 1000 by omega)
      go_wp2_with fail
      rw [show aTo k = aa 1000 by rw [HK.out, aTo_all]]
      go_loopw [4] (fun i wr => ∃ j : Nat, j ≤ 1000 ∧ i = .int .i64 j ∧ wr.heap[w.heap.size]? = some (.cells (putL hs0 (aa (1000 * j))).cells 45 (0, 0)) ∧ ((w.alloc (.cells (hv BEG (zl 64) 0) 45)).alloc (.cells (bv (aa 1000)) 5)).grownBy wr (some w.heap.size)) (fun i _ => 1000 - (intOf i).toNat)
      case atStart => exact ⟨0, Nat.zero_le _, rfl, by rw [show aa (1000 * 0) = [] from by unfold aa; rfl, putL_nil]; exact (heap_prev _ _ _ (by simp)).trans (heap_last _ _ _ rfl), World.grownBy.refl _ _⟩
      case round =>
        clear hk hlt
        obtain ⟨j, hj, rfl, hh, hgr⟩ := hrel
        have HH := Lib.hid hh; clear hh
        have HGR := Lib.hid hgr; clear hgr
        have hs1 : w.heap.size + 2 ≤ wr.heap.size := by have := HGR.out.size; simpa using this
        have HB1 := Lib.hid (show Below w.heap.size w wr from ⟨HGR.out.os, HGR.out.tape, HGR.out.output, by omega, fun k hk => (HGR.out.block k (by simp; omega) (by simp; omega)).trans ((heap_prev _ _ _ (by simp; omega)).trans (heap_prev _ _ _ hk))⟩)
        have HP := Lib.hid (show wr.heap[w.heap.size + 1]? = some (.cells (bv (aa 1000)) 5 (0, 0)) from (HGR.out.block _ (by simp) (by simp)).trans (heap_last _ _ _ (by simp)))
        by_cases hlt : j < 1000
        · go_wp2_with fail
          refine (write_any w.heap.size (putL hs0 (aa (1000 * j))) (aa 1000) _ wr (putL_ok hs0_ok (aa_lt _)) (aa_lt _) (by rw [putL_c, aa_len, aa_len]; show 0 + 1000 * j + 1000 < _; omega) (HG.out.below hs HB1.out) (by omega) HH.out
            ⟨some ⟨w.heap.size + 1, 0, none⟩, 1000, by rw [aa_len], by rw [aa_len]; decide, fun _ => ⟨w.heap.size + 1, 0, rfl, by omega, by omega, fun i hi => by rw [Nat.zero_add, cell_of_row _ _ i _ _ _ HP.out, bv_get _ _ hi]⟩⟩).mono ?_
          rintro e w2 ⟨rfl, hh2, hgr2⟩
          have HH2 := Lib.hid hh2
          have HGR2 := Lib.hid (grown_trans HGR.out hgr2)
          clear hh2 hgr2
          go_wp2_with fail
          go_roundw
          case rel => exact ⟨j + 1, by omega, by go_num, by rw [Nat.mul_succ, aa_add, putL_append]; exact HH2.out, HGR2.out⟩
          case measure => simp [intOf]; omega
        · have HJ := Lib.hid (show j = 1000 by omega)
          go_wp2_with fail
          refine (of_any [] _ wr (by intro x hx; simp at hx) (by decide) (HG.out.below hs HB1.out) ⟨none, 0, rfl, by decide, fun h => by simp at h⟩).mono ?_
          rintro e w2 ⟨rfl, hb2⟩
          have HB2 := Lib.hid hb2; clear hb2
          go_wp2_with fail
          refine (text_any _ _ (shaL_len _) (shaL_lt _)).mono ?_
          rw [known0]
          rintro e w3 ⟨rfl, hb3⟩
          have HB3 := Lib.hid (HB2.out.trans (hb3.mono HB2.out.size)); clear hb3
          have hs3 := HB3.out.size
          unfold txt0
          go_wp2_with fail
          rw [lit56]
          have HB4 := Lib.hid (show Below wr.heap.size wr (w3.alloc (.cells (bv msg56) 5 (56, 57))) from HB3.out.alloc (by omega) _)
          refine (of_any msg56 _ _ msg56_lt (by rw [msg56_len]; decide) (by exact HG.out.below hs (HB1.out.trans (HB4.out.mono (by omega)))) ⟨some ⟨w3.heap.size, 0, none⟩, 56, by rw [msg56_len], by rw [msg56_len]; decide, fun _ => ⟨w3.heap.size, 0, rfl, by simp, by simp, fun i hi => by
            rw [Nat.zero_add, cell_of_row _ _ i _ _ _ (heap_last _ _ _ rfl)]
            exact bv_get msg56 i hi⟩⟩).mono ?_
          rintro e w5 ⟨rfl, hb5⟩
          have HB5 := Lib.hid (show Below wr.heap.size wr w5 from HB4.out.trans ((show Below (w3.heap.size + 1) (w3.alloc (.cells (bv msg56) 5 (56, 57))) w5 from ⟨hb5.os, hb5.tape, hb5.output, by simpa using hb5.size, fun k hk => hb5.block k (by simpa using hk)⟩).mono (by omega))); clear hb5
          have hs5 := HB5.out.size
          go_wp2_with fail
          refine (text_any _ _ (shaL_len _) (shaL_lt _)).mono ?_
          rw [known56]
          rintro e w6 ⟨rfl, hb6⟩
          have HB6 := Lib.hid (HB5.out.trans (hb6.mono hs5)); clear hb6
          have hs6 := HB6.out.size
          unfold txt56
          go_wp2_with fail
          refine (sum_any w.heap.size (putL hs0 (aa (1000 * j))) _ (putL_ok hs0_ok (aa_lt _)) (by rw [putL_c, aa_len]; show 0 + 1000 * j + 72 < _; omega) (HG.out.below hs (HB1.out.trans (HB6.out.mono (by omega)))) ((HB6.out.block _ (by omega)).trans HH.out)).mono ?_
          rintro e w7 ⟨rfl, hb7⟩
          have HB7 := Lib.hid (HB6.out.trans (hb7.mono hs6)); clear hb7
          have hs7 := HB7.out.size
          go_wp2_with fail
          refine (text_any _ _ (sumL_len _) (sumL_lt _)).mono ?_
          rw [show textL (sumL (putL hs0 (aa (1000 * j)))) = txtM by rw [HJ.out]; exact knownM]
          rintro e w8 ⟨rfl, hb8⟩
          have HB8 := Lib.hid (HB7.out.trans (hb8.mono hs7)); clear hb8
          have hs8 := HB8.out.size
          unfold txtM
          go_wp2_with fail
          refine (wakes_any _ (HG.out.below hs (HB1.out.trans (HB8.out.mono (by omega))))).mono ?_
          rintro e w9 ⟨rfl, hb9⟩
          have HB9 := Lib.hid (HB8.out.trans (hb9.mono hs8)); clear hb9
          go_wp2_with fail
          go_ret
          exact ⟨rfl, HB1.out.trans (HB9.out.mono (by omega))⟩
end Go.Proofs.YtppbdjgpkcpppaaDoor
