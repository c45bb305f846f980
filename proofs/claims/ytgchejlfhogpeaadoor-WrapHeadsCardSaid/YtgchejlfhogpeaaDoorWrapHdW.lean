/- The walk of WrapHeads: any numbers in head and tail. -/
import Derived.Test.YtgchejlfhogpeaaDoorWrapDec
import Derived.Test.YtgchejlfhogpeaaDoorWrapHv
import Derived.Test.YtgchejlfhogpeaaDoorWrapBkW
namespace Go.Proofs.YtgchejlfhogpeaaDoor
open Go.RowKit Go.Edi Go.Wrap

set_option maxRecDepth 100000 in
set_option maxHeartbeats 12800000 in
theorem wheads_walk (f t r c a : Nat) (x0 x1 x2 : Value) (l : List Sg) (v : Value) (B : Nat) (w : World) (hv : SegsF w (· < w.heap.size) v l) (hx0 : ∃ n : Int, x0 = .int .u8 n) (hx1 : ∃ n : Int, x1 = .int .u8 n) (hx2 : ∃ n : Int, x2 = .int .u64 n)
    (hf : f < 18446744073709551616) (ht : t < 18446744073709551616) (hr : r < 18446744073709551616) (hc : c < 18446744073709551616) (ha : a < 18446744073709551616) (htab : Tab B w) (hB0 : B ≤ w.heap.size) :
    Calls Tryd.prog 8 #[.int .u64 (f : Int), .int .u64 (t : Int), .int .u64 (r : Int), .int .u64 (c : Int), .int .u64 (a : Int), .agg #[x0, x1, x2, v]] w fun e w' => e = .returned (.bool true) ∧ Below w.heap.size w w' := by
  obtain ⟨y0, rfl⟩ := hx0
  obtain ⟨y1, rfl⟩ := hx1
  obtain ⟨y2, rfl⟩ := hx2
  obtain ⟨p, cap, rfl⟩ := segs_slice hv
  obtain ⟨wb, hwb⟩ : ∃ wb, wb = w.alloc (.cells #[.int .u8 y0, .int .u8 y1, .int .u64 y2, .slice p l.length cap] 25) := ⟨_, rfl⟩
  have hbw : Below w.heap.size w wb := by rw [hwb]; exact (Below.refl _ _).alloc (Nat.le_refl _) _
  have hws : wb.heap.size = w.heap.size + 1 := by rw [hwb, size_a]
  have hb0 : wb.heap[w.heap.size]? = some (.cells #[.int .u8 y0, .int .u8 y1, .int .u64 y2, .slice p l.length cap] 25 (0, 0)) := by rw [hwb]; exact at_last _ _
  have CB : ∀ wz : World, Below wb.heap.size wb wz → wz.cell? ⟨w.heap.size, 3, none⟩ = some (.slice p l.length cap) := fun wz hz => cell_of_arr ((hz.block _ (by rw [hws]; exact Nat.lt_succ_self _)).trans hb0) 3
  have CL : ∀ wz : World, Below wb.heap.size wb wz → w.heap.size < wz.heap.size := fun wz hz => by have := hz.size; omega
  have hv2 := hv.kept (w' := wb) (F' := (· < wb.heap.size)) (fun b hb => ⟨Nat.lt_of_lt_of_le hb hbw.size, hbw.block b hb⟩)
  have HCB := Lib.hid CB
  have HCL := Lib.hid CL
  have HV := Lib.hid hv2
  have HT := Lib.hid (htab.on (hbw.mono hB0))
  have HB := Lib.hid (Nat.le_trans hB0 hbw.size)
  have HFIN := Lib.hid (show ∀ wz : World, Below wb.heap.size wb wz → Below w.heap.size w wz from fun wz hz => hbw.trans (hz.mono hbw.size))
  have HH := Lib.hid (wheavy_any (.int .u8 y0) (.int .u8 y1) (.int .u64 y2) l (.slice p l.length cap) wb hv2)
  have HFR := Lib.hid hf
  have HTR := Lib.hid ht
  have HRR := Lib.hid hr
  have HCR := Lib.hid hc
  have HAR := Lib.hid ha
  clear hv hv2 htab hB0 CB CL hb0 hws hbw hf ht hr hc ha
  suffices hmain : Calls Tryd.prog 8 #[.int .u64 (f : Int), .int .u64 (t : Int), .int .u64 (r : Int), .int .u64 (c : Int), .int .u64 (a : Int), .agg #[.int .u8 y0, .int .u8 y1, .int .u64 y2, .slice p l.length cap]] w fun e w' => e = .returned (.bool true) ∧ Below wb.heap.size wb w' from
    hmain.mono fun e w' h => ⟨h.1, HFIN.out _ h.2⟩
  go_enter Tryd.func8, Tryd.ntmps8
  go_wp2_with fail
  go_at_call 13
  rw [← hwb]
  refine (HH.out).mono ?_
  rintro e w1 hh
  obtain ⟨⟨rr, rfl, hli⟩, hb1⟩ := hh
  have HB1 := Lib.hid hb1
  clear hb1 hwb
  cases rr with
  | true =>
    go_wp2
    go_ret
    exact ⟨rfl, HB1.out⟩
  | false =>
    have HLI := Lib.hid (hli rfl)
    clear hli
    have c3 := HCB.out _ HB1.out
    by_cases hl : (60 : Int) < (l.length : Int)
    · go_wp2
      go_ret
      exact ⟨rfl, HB1.out⟩
    have HPR := Lib.hid (print_any l (.slice p l.length cap) w1 (HV.out.later HB1.out) HLI.out.sane)
    go_wp2_with (go_at_call 18; refine (HPR.out).mono ?_)
    first | rintro e w2 rfl hb2 | rintro e w2 ⟨rfl, hb2⟩
    have HB2 := Lib.hid (HB1.out.trans (hb2.mono HB1.out.size))
    have HWR := Lib.hid (wraps_any B w2 (HT.out.on (HB2.out.mono HB.out)) (Nat.le_trans HB.out HB2.out.size))
    clear hb2 c3
    have hszp : (tx (printL l).1).size = (printL l).1.length := by simp [tx, ByteArray.size]
    by_cases hpr : (((printL l).2 : Nat) : Int) = 0
    rotate_left
    · go_wp2_with (go_at_call 12; refine (HWR.out).mono ?_)
      first | rintro e w3 rfl hb3 | rintro e w3 ⟨rfl, hb3⟩
      have HB3 := Lib.hid (HB2.out.trans (hb3.mono HB2.out.size))
      clear hb3
      go_wp2
      go_ret
      exact ⟨rfl, HB3.out⟩
    have hpo := printL_ok l (by omega)
    rw [hpo] at hszp ⊢
    simp only at hszp ⊢
    by_cases h6 : (60000 : Int) < ((txT l).length : Int)
    · go_wp2_with (go_at_call 12; refine (HWR.out).mono ?_)
      first | rintro e w3 rfl hb3 | rintro e w3 ⟨rfl, hb3⟩
      have HB3 := Lib.hid (HB2.out.trans (hb3.mono HB2.out.size))
      clear hb3
      go_wp2
      go_ret
      exact ⟨rfl, HB3.out⟩
    have hzd := fun (u : Nat) (h : u < 18446744073709551616) => (show (tx (digs u)).size = (digs u).length ∧ (digs u).length ≤ 20 from ⟨by simp [tx, ByteArray.size], digs_len u h⟩)
    obtain ⟨zf1, zf2⟩ := hzd f HFR.out
    obtain ⟨zt1, zt2⟩ := hzd t HTR.out
    obtain ⟨zr1, zr2⟩ := hzd r HRR.out
    obtain ⟨zc1, zc2⟩ := hzd c HCR.out
    obtain ⟨za1, za2⟩ := hzd a HAR.out
    have HPAR := Lib.hid (wparse_hd (f := f) (t := t) (r := r) (c := c) (a := a) (l := l) (by omega) (by omega) (by omega) HFR.out HTR.out HRR.out HCR.out HAR.out)
    obtain ⟨S1, hS1⟩ : ∃ S, ({ data := #[85, 78, 66, 43] } : ByteArray) ++ tx (digs f) = S := ⟨_, rfl⟩
    have n1 : S1.size = ({ data := #[85, 78, 66, 43] } : ByteArray).size + (tx (digs f)).size := by rw [← hS1, ByteArray.size_append]
    obtain ⟨S2, hS2⟩ : ∃ S, S1 ++ ({ data := #[43] } : ByteArray) = S := ⟨_, rfl⟩
    have n2 : S2.size = S1.size + (({ data := #[43] } : ByteArray)).size := by rw [← hS2, ByteArray.size_append]
    obtain ⟨S3, hS3⟩ : ∃ S, S2 ++ tx (digs t) = S := ⟨_, rfl⟩
    have n3 : S3.size = S2.size + (tx (digs t)).size := by rw [← hS3, ByteArray.size_append]
    obtain ⟨S4, hS4⟩ : ∃ S, S3 ++ ({ data := #[43] } : ByteArray) = S := ⟨_, rfl⟩
    have n4 : S4.size = S3.size + (({ data := #[43] } : ByteArray)).size := by rw [← hS4, ByteArray.size_append]
    obtain ⟨S5, hS5⟩ : ∃ S, S4 ++ tx (digs r) = S := ⟨_, rfl⟩
    have n5 : S5.size = S4.size + (tx (digs r)).size := by rw [← hS5, ByteArray.size_append]
    obtain ⟨S6, hS6⟩ : ∃ S, S5 ++ ({ data := #[39] } : ByteArray) = S := ⟨_, rfl⟩
    have n6 : S6.size = S5.size + (({ data := #[39] } : ByteArray)).size := by rw [← hS6, ByteArray.size_append]
    obtain ⟨S7, hS7⟩ : ∃ S, S6 ++ tx (txT l) = S := ⟨_, rfl⟩
    have n7 : S7.size = S6.size + (tx (txT l)).size := by rw [← hS7, ByteArray.size_append]
    obtain ⟨S8, hS8⟩ : ∃ S, S7 ++ ({ data := #[85, 78, 90, 43] } : ByteArray) = S := ⟨_, rfl⟩
    have n8 : S8.size = S7.size + (({ data := #[85, 78, 90, 43] } : ByteArray)).size := by rw [← hS8, ByteArray.size_append]
    obtain ⟨S9, hS9⟩ : ∃ S, S8 ++ tx (digs c) = S := ⟨_, rfl⟩
    have n9 : S9.size = S8.size + (tx (digs c)).size := by rw [← hS9, ByteArray.size_append]
    obtain ⟨S10, hS10⟩ : ∃ S, S9 ++ ({ data := #[43] } : ByteArray) = S := ⟨_, rfl⟩
    have n10 : S10.size = S9.size + (({ data := #[43] } : ByteArray)).size := by rw [← hS10, ByteArray.size_append]
    obtain ⟨S11, hS11⟩ : ∃ S, S10 ++ tx (digs a) = S := ⟨_, rfl⟩
    have n11 : S11.size = S10.size + (tx (digs a)).size := by rw [← hS11, ByteArray.size_append]
    obtain ⟨S12, hS12⟩ : ∃ S, S11 ++ ({ data := #[39] } : ByteArray) = S := ⟨_, rfl⟩
    have n12 : S12.size = S11.size + (({ data := #[39] } : ByteArray)).size := by rw [← hS12, ByteArray.size_append]
    have k1 : ({ data := #[85, 78, 66, 43] } : ByteArray).size = 4 := rfl
    have k2 : ({ data := #[43] } : ByteArray).size = 1 := rfl
    have k3 : ({ data := #[39] } : ByteArray).size = 1 := rfl
    have k4 : ({ data := #[85, 78, 90, 43] } : ByteArray).size = 4 := rfl
    have b1 : ¬ 9223372036854775807 < 4 + (digs f).length := by omega
    have b2 : ¬ 9223372036854775807 < S1.size + 1 := by omega
    have b3 : ¬ 9223372036854775807 < S2.size + (digs t).length := by omega
    have b4 : ¬ 9223372036854775807 < S3.size + 1 := by omega
    have b5 : ¬ 9223372036854775807 < S4.size + (digs r).length := by omega
    have b6 : ¬ 9223372036854775807 < S5.size + 1 := by omega
    have b7 : ¬ 9223372036854775807 < S6.size + (txT l).length := by omega
    have b8 : ¬ 9223372036854775807 < S7.size + 4 := by omega
    have b9 : ¬ 9223372036854775807 < S8.size + (digs c).length := by omega
    have b10 : ¬ 9223372036854775807 < S9.size + 1 := by omega
    have b11 : ¬ 9223372036854775807 < S10.size + (digs a).length := by omega
    have b12 : ¬ 9223372036854775807 < S11.size + 1 := by omega
    have HS12 := Lib.hid (show S12 = tx (txT (hdS f t r l c a)) by
      rw [txT_hd, ← hS12, ← hS11, ← hS10, ← hS9, ← hS8, ← hS7, ← hS6, ← hS5, ← hS4, ← hS3, ← hS2, ← hS1]
      simp only [← tx_app2]
      rfl)
    clear n1 n2 n3 n4 n5 n6 n7 n8 n9 n10 n11 n12 k1 k2 k3 k4 hzd zf2 zt2 zr2 zc2 za2 hpo
    have Q3 := Lib.hid (decimal_any f w2 HFR.out)
    go_wp2_with (go_at_call 19; refine (Q3.out).mono ?_)
    first | rintro e w3 rfl hb | rintro e w3 ⟨rfl, hb⟩
    have HB3 := Lib.hid (HB2.out.trans (hb.mono HB2.out.size))
    clear hb Q3
    have Q4 := Lib.hid (decimal_any t w3 HTR.out)
    go_wp2_with (go_at_call 19; refine (Q4.out).mono ?_)
    first | rintro e w4 rfl hb | rintro e w4 ⟨rfl, hb⟩
    have HB4 := Lib.hid (HB3.out.trans (hb.mono HB3.out.size))
    clear hb Q4
    have Q5 := Lib.hid (decimal_any r w4 HRR.out)
    go_wp2_with (go_at_call 19; refine (Q5.out).mono ?_)
    first | rintro e w5 rfl hb | rintro e w5 ⟨rfl, hb⟩
    have HB5 := Lib.hid (HB4.out.trans (hb.mono HB4.out.size))
    clear hb Q5
    have Q6 := Lib.hid (decimal_any c w5 HCR.out)
    go_wp2_with (go_at_call 19; refine (Q6.out).mono ?_)
    first | rintro e w6 rfl hb | rintro e w6 ⟨rfl, hb⟩
    have HB6 := Lib.hid (HB5.out.trans (hb.mono HB5.out.size))
    clear hb Q6
    have Q7 := Lib.hid (decimal_any a w6 HAR.out)
    go_wp2_with (go_at_call 19; refine (Q7.out).mono ?_)
    first | rintro e w7 rfl hb | rintro e w7 ⟨rfl, hb⟩
    have HB7 := Lib.hid (HB6.out.trans (hb.mono HB6.out.size))
    clear hb Q7
    go_wp2_with fail
    go_at_call 9
    have li : (l.length : Int) ≤ 60 := by omega
    have l0 : (0 : Int) ≤ (l.length : Int) := Int.natCast_nonneg _
    have f0 : (0 : Int) ≤ (f : Int) := Int.natCast_nonneg _
    have t0 : (0 : Int) ≤ (t : Int) := Int.natCast_nonneg _
    clear hl hpr h6 hszp zf1 zt1 zr1 zc1 za1 hS1 hS2 hS3 hS4 hS5 hS6 hS7 hS8 hS9 hS10 hS11 hS12 b1 b2 b3 b4 b5 b6 b7 b8 b9 b10 b11 b12
    have h5 : (8 : Int) ≤ (f : Int) ∨ (¬ (8 : Int) ≤ (f : Int) ∧ (8 : Int) ≤ (t : Int)) ∨ (¬ (8 : Int) ≤ (f : Int) ∧ ¬ (8 : Int) ≤ (t : Int) ∧ ¬ (c : Int) = (l.length : Int)) ∨ (¬ (8 : Int) ≤ (f : Int) ∧ ¬ (8 : Int) ≤ (t : Int) ∧ (c : Int) = (l.length : Int) ∧ ¬ (r : Int) = (a : Int)) ∨ (¬ (8 : Int) ≤ (f : Int) ∧ ¬ (8 : Int) ≤ (t : Int) ∧ (c : Int) = (l.length : Int) ∧ (r : Int) = (a : Int)) := by omega
    rcases h5 with h5 | ⟨h5, h6⟩ | ⟨h5, h6, h7⟩ | ⟨h5, h6, h7, h8⟩ | ⟨h5, h6, h7, h8⟩
    · have HX := Lib.hid (show wparseL (txT (hdS f t r l c a)) = (Wr.nil, 40) by rw [HPAR.out]; rw [if_pos (by omega)])
      have HPQ := Lib.hid (show Calls Tryd.prog 9 #[.string S12] w7 (WpA w7.heap.size (txT (hdS f t r l c a)) w7) by rw [HS12.out]; exact wparse_any _ w7)
      clear HPAR HS12
      refine (HPQ.out).mono ?_
      rintro e w8 hpa
      unfold WpA at hpa
      rw [HX.out] at hpa
      obtain ⟨v8, F8, rfl, hs8, hF8, hb8⟩ := hpa
      obtain ⟨p8, cap8, rfl⟩ := segs_slice hs8
      have hb8' := HB7.out.trans (hb8.mono HB7.out.size)
      have c3 := HCB.out _ hb8'
      have l8 := HCL.out _ hb8'
      have HB8 := Lib.hid (hb8'.alloc hb8'.size (.cells (wrV 0 0 0 (.slice p8 0 cap8)) 25))
      have HWR8 := Lib.hid (wraps_any B _ (HT.out.on (HB8.out.mono HB.out)) (Nat.le_trans HB.out HB8.out.size))
      clear hs8 hF8 hb8 hb8'
      go_wp2_with (go_at_call 12; refine (HWR8.out).mono ?_)
      first | rintro e w9 rfl hb | rintro e w9 ⟨rfl, hb⟩
      have HB9 := Lib.hid (HB8.out.trans (hb.mono HB8.out.size))
      clear hb
      go_wp2
      go_ret
      exact ⟨rfl, HB9.out⟩
    · have HX := Lib.hid (show wparseL (txT (hdS f t r l c a)) = (Wr.nil, 40) by rw [HPAR.out]; rw [if_pos (by omega)])
      have HPQ := Lib.hid (show Calls Tryd.prog 9 #[.string S12] w7 (WpA w7.heap.size (txT (hdS f t r l c a)) w7) by rw [HS12.out]; exact wparse_any _ w7)
      clear HPAR HS12
      refine (HPQ.out).mono ?_
      rintro e w8 hpa
      unfold WpA at hpa
      rw [HX.out] at hpa
      obtain ⟨v8, F8, rfl, hs8, hF8, hb8⟩ := hpa
      obtain ⟨p8, cap8, rfl⟩ := segs_slice hs8
      have hb8' := HB7.out.trans (hb8.mono HB7.out.size)
      have c3 := HCB.out _ hb8'
      have l8 := HCL.out _ hb8'
      have HB8 := Lib.hid (hb8'.alloc hb8'.size (.cells (wrV 0 0 0 (.slice p8 0 cap8)) 25))
      have HWR8 := Lib.hid (wraps_any B _ (HT.out.on (HB8.out.mono HB.out)) (Nat.le_trans HB.out HB8.out.size))
      clear hs8 hF8 hb8 hb8'
      go_wp2_with (go_at_call 12; refine (HWR8.out).mono ?_)
      first | rintro e w9 rfl hb | rintro e w9 ⟨rfl, hb⟩
      have HB9 := Lib.hid (HB8.out.trans (hb.mono HB8.out.size))
      clear hb
      go_wp2
      go_ret
      exact ⟨rfl, HB9.out⟩
    · have HX := Lib.hid (show wparseL (txT (hdS f t r l c a)) = (Wr.nil, 41) by rw [HPAR.out]; rw [if_neg (by omega), if_pos (by omega)])
      have HPQ := Lib.hid (show Calls Tryd.prog 9 #[.string S12] w7 (WpA w7.heap.size (txT (hdS f t r l c a)) w7) by rw [HS12.out]; exact wparse_any _ w7)
      clear HPAR HS12
      refine (HPQ.out).mono ?_
      rintro e w8 hpa
      unfold WpA at hpa
      rw [HX.out] at hpa
      obtain ⟨v8, F8, rfl, hs8, hF8, hb8⟩ := hpa
      obtain ⟨p8, cap8, rfl⟩ := segs_slice hs8
      have hb8' := HB7.out.trans (hb8.mono HB7.out.size)
      have c3 := HCB.out _ hb8'
      have l8 := HCL.out _ hb8'
      have HB8 := Lib.hid (hb8'.alloc hb8'.size (.cells (wrV 0 0 0 (.slice p8 0 cap8)) 25))
      have HWR8 := Lib.hid (wraps_any B _ (HT.out.on (HB8.out.mono HB.out)) (Nat.le_trans HB.out HB8.out.size))
      clear hs8 hF8 hb8 hb8'
      go_wp2_with (go_at_call 12; refine (HWR8.out).mono ?_)
      first | rintro e w9 rfl hb | rintro e w9 ⟨rfl, hb⟩
      have HB9 := Lib.hid (HB8.out.trans (hb.mono HB8.out.size))
      clear hb
      go_wp2
      go_ret
      exact ⟨rfl, HB9.out⟩
    · have HX := Lib.hid (show wparseL (txT (hdS f t r l c a)) = (Wr.nil, 42) by rw [HPAR.out]; rw [if_neg (by omega), if_neg (by omega), if_pos (by omega)])
      have HPQ := Lib.hid (show Calls Tryd.prog 9 #[.string S12] w7 (WpA w7.heap.size (txT (hdS f t r l c a)) w7) by rw [HS12.out]; exact wparse_any _ w7)
      clear HPAR HS12
      refine (HPQ.out).mono ?_
      rintro e w8 hpa
      unfold WpA at hpa
      rw [HX.out] at hpa
      obtain ⟨v8, F8, rfl, hs8, hF8, hb8⟩ := hpa
      obtain ⟨p8, cap8, rfl⟩ := segs_slice hs8
      have hb8' := HB7.out.trans (hb8.mono HB7.out.size)
      have c3 := HCB.out _ hb8'
      have l8 := HCL.out _ hb8'
      have HB8 := Lib.hid (hb8'.alloc hb8'.size (.cells (wrV 0 0 0 (.slice p8 0 cap8)) 25))
      have HWR8 := Lib.hid (wraps_any B _ (HT.out.on (HB8.out.mono HB.out)) (Nat.le_trans HB.out HB8.out.size))
      clear hs8 hF8 hb8 hb8'
      go_wp2_with (go_at_call 12; refine (HWR8.out).mono ?_)
      first | rintro e w9 rfl hb | rintro e w9 ⟨rfl, hb⟩
      have HB9 := Lib.hid (HB8.out.trans (hb.mono HB8.out.size))
      clear hb
      go_wp2
      go_ret
      exact ⟨rfl, HB9.out⟩
    · obtain rfl : r = a := by omega
      obtain rfl : c = l.length := by omega
      clear h7 h8
      have HX := Lib.hid (show wparseL (txT (hdS f t r l l.length r)) = (⟨f, t, r, l⟩, 0) by rw [HPAR.out]; rw [if_neg (by omega), if_neg (by omega), if_neg (by omega)])
      have HPQ := Lib.hid (show Calls Tryd.prog 9 #[.string S12] w7 (WpA w7.heap.size (txT (hdS f t r l l.length r)) w7) by rw [HS12.out]; exact wparse_any _ w7)
      clear HPAR HS12
      refine (HPQ.out).mono ?_
      rintro e w8 hpa
      unfold WpA at hpa
      rw [HX.out] at hpa
      obtain ⟨v8, F8, rfl, hs8, hF8, hb8⟩ := hpa
      obtain ⟨p8, cap8, rfl⟩ := segs_slice hs8
      have hs8' := hs8.kept (F' := (· < w8.heap.size)) (fun b hb => ⟨(hF8 b hb).2, rfl⟩)
      have HS8 := Lib.hid (hs8'.kept (w' := w8.alloc (.cells (wrV f t r (.slice p8 l.length cap8)) 25)) (F' := (· < (w8.alloc (.cells (wrV f t r (.slice p8 l.length cap8)) 25)).heap.size)) (fun b hb => ⟨by rw [size_a]; exact Nat.lt_succ_of_lt hb, Below.heap_alloc _ _ _ hb⟩))
      have hb8' := HB7.out.trans (hb8.mono HB7.out.size)
      have c3 := HCB.out _ hb8'
      have l8 := HCL.out _ hb8'
      have HB8 := Lib.hid (hb8'.alloc hb8'.size (.cells (wrV f t r (.slice p8 l.length cap8)) 25))
      have HSM := Lib.hid (wsame_any f t r l (.slice p8 l.length cap8) (.slice p l.length cap) _ HS8.out (HV.out.later HB8.out) HLI.out.sane)
      have f8 : (f : Int) < 8 := by omega
      have t8 : (t : Int) < 8 := by omega
      clear hs8 hs8' hF8 hb8 hb8'
      go_wp2_with (go_at_call 11; refine (HSM.out).mono ?_)
      first | rintro e w9 rfl hb | rintro e w9 ⟨rfl, hb⟩
      have HB9 := Lib.hid (HB8.out.trans (hb.mono HB8.out.size))
      have HWR9 := Lib.hid (wraps_any B w9 (HT.out.on (HB9.out.mono HB.out)) (Nat.le_trans HB.out HB9.out.size))
      clear hb
      go_wp2_with (go_at_call 12; refine (HWR9.out).mono ?_)
      first | rintro e w10 rfl hb | rintro e w10 ⟨rfl, hb⟩
      have HB10 := Lib.hid (HB9.out.trans (hb.mono HB9.out.size))
      clear hb
      go_wp2
      go_ret
      exact ⟨rfl, HB10.out⟩
end Go.Proofs.YtgchejlfhogpeaaDoor
