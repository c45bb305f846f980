/- Contract of the document's own Print of an interchange. -/
import Derived.Test.YtlonmmnaipclcaaDoorWrapDec
import Derived.Test.YtlonmmnaipclcaaDoorEdiRp
import Derived.Test.YtlonmmnaipclcaaDoorEdiSn
import Derived.Laws.Bits64
import Derived.Laws.BitsLemmas
namespace Go.Proofs.YtlonmmnaipclcaaDoor
open Go.RowKit Go.Edi Go.Wrap

theorem print_close {f t r : Nat} {l : List Sg} (hl : l.length ≤ 62) (hf : f < 18446744073709551616) (htt : t < 18446744073709551616) (hr : r < 18446744073709551616) :
    printL (closeL f t r l) = if (printL l).2 = 0 then (if 65536 < (txT (closeL f t r l)).length then ([], 2) else (txT (closeL f t r l), 0)) else printL l := by
  obtain ⟨a1, a2, a3⟩ := num_ok [85, 78, 66] [f, t, r] (by decide) (by simp) (by intro n hn; simp only [List.mem_cons, List.not_mem_nil, or_false] at hn; omega)
  obtain ⟨b1, b2, b3⟩ := num_ok [85, 78, 90] [l.length, r] (by decide) (by simp) (by intro n hn; simp only [List.mem_cons, List.not_mem_nil, or_false] at hn; omega)
  have A : (closeL f t r l).all wholeS = l.all wholeS := by
    show (headS f t r :: (l ++ [tailS l.length r])).all wholeS = _
    rw [List.all_cons, List.all_append, List.all_cons, List.all_nil, show wholeS (headS f t r) = true from a1, show wholeS (tailS l.length r) = true from b1]
    simp
  have B : (closeL f t r l).all plainS = l.all plainS := by
    show (headS f t r :: (l ++ [tailS l.length r])).all plainS = _
    rw [List.all_cons, List.all_append, List.all_cons, List.all_nil, show plainS (headS f t r) = true from a2, show plainS (tailS l.length r) = true from b2]
    simp
  have C : (closeL f t r l).all shortS = l.all shortS := by
    show (headS f t r :: (l ++ [tailS l.length r])).all shortS = _
    rw [List.all_cons, List.all_append, List.all_cons, List.all_nil, show shortS (headS f t r) = true from a3, show shortS (tailS l.length r) = true from b3]
    simp
  have D : (txT l).length ≤ (txT (closeL f t r l)).length := by
    show _ ≤ (txT (hdS f t r l l.length r)).length
    rw [txT_hd]
    simp only [List.length_append]
    omega
  have E1 : decide ((closeL f t r l).length ≤ 64) = true := decide_eq_true (by simp [closeL]; omega)
  have E2 : decide (l.length ≤ 64) = true := decide_eq_true (by omega)
  unfold printL
  rw [A, B, C, E1, E2]
  by_cases h1 : l.all wholeS = true
  · rw [if_pos h1, if_pos h1]
    by_cases h2 : l.all plainS = true
    · rw [if_pos h2, if_pos h2]
      by_cases h3 : (true && l.all shortS) = true
      · rw [if_pos h3, if_pos h3]
        by_cases h4 : 65536 < (txT l).length
        · rw [if_pos h4, if_pos (by omega), if_neg (by decide)]
        · rw [if_neg h4, if_pos rfl]
      · rw [if_neg h3, if_neg h3, if_neg (by decide)]
    · rw [if_neg h2, if_neg h2, if_neg (by decide)]
  · rw [if_neg h1, if_neg h1, if_neg (by decide)]
def GoodD (u : Int) : Prop := ∃ u' : Nat, u = (u' : Int) ∧ u' < 18446744073709551616
theorem decI (u : Int) (w : World) (h : GoodD u) : Calls Tryd.prog 22 #[.int .u64 u] w fun e w' => e = .returned (str (digs u.toNat)) ∧ ∃ m, w' = w.drewN m := by
  obtain ⟨u', rfl, h1⟩ := h
  exact decimal_q u' w h1
set_option maxRecDepth 100000 in
set_option maxHeartbeats 12800000 in
theorem wrprint_any (f t r : Nat) (l : List Sg) (v : Value) (w : World) (hv : SegsF w (· < w.heap.size) v l) (hl : light l) (hf : f < 256) (ht : t < 256) (hr : r < 18446744073709551616) :
    Calls Tryd.prog 13 #[.agg #[.int .u8 (f : Int), .int .u8 (t : Int), .int .u64 (r : Int), v]] w fun e w' => e = .returned (.tuple #[str (wprintL ⟨f, t, r, l⟩).1, .int .i64 ((wprintL ⟨f, t, r, l⟩).2 : Nat)]) ∧ Below w.heap.size w w' := by
  obtain ⟨p, cap, rfl⟩ := segs_slice hv
  have hf0 : (0 : Int) ≤ (f : Int) := Int.natCast_nonneg _
  have ht0 : (0 : Int) ≤ (t : Int) := Int.natCast_nonneg _
  have hr0 : (0 : Int) ≤ (r : Int) := Int.natCast_nonneg _
  by_cases h1 : (8 : Int) ≤ (f : Int) ∨ (8 : Int) ≤ (t : Int)
  · have HW := Lib.hid (show wprintL ⟨f, t, r, l⟩ = ([], 1) by unfold wprintL; rw [if_pos (by simp only; omega)])
    have h1' : (8 : Int) ≤ (f : Int) ∨ ((f : Int) < 8 ∧ (8 : Int) ≤ (t : Int)) := by omega
    clear hv hl hf ht hr h1
    rcases h1' with h1 | ⟨h1, h2⟩
    all_goals
      go_enter Tryd.func13, Tryd.ntmps13
      go_wp2
      go_ret2
      rw [HW.out]
      exact ⟨rfl, (Below.refl _ _).alloc (Nat.le_refl _) _⟩
  have hf8 : ¬ (8 : Int) ≤ (f : Int) := by omega
  have ht8 : ¬ (8 : Int) ≤ (t : Int) := by omega
  have hl80 := hl.1
  by_cases h2 : (62 : Int) < (l.length : Int)
  · have HW := Lib.hid (show wprintL ⟨f, t, r, l⟩ = ([], 2) by unfold wprintL; rw [if_neg (by simp only; omega), if_pos (by simp only; omega)])
    have h2' : (64 : Int) < (l.length : Int) + 2 := by omega
    clear hv hl hf ht hr h1 h2
    go_enter Tryd.func13, Tryd.ntmps13
    go_wp2
    go_ret2
    rw [HW.out]
    exact ⟨rfl, (Below.refl _ _).alloc (Nat.le_refl _) _⟩
  have h2' : ¬ (64 : Int) < (l.length : Int) + 2 := by omega
  have hW := (show wprintL ⟨f, t, r, l⟩ = printL (closeL f t r l) by unfold wprintL; rw [if_neg (by simp only; omega), if_neg (by simp only; omega)])
  rw [print_close (by omega) (by omega) (by omega) hr] at hW
  obtain ⟨wb, hwb⟩ : ∃ wb, wb = w.alloc (.cells #[.int .u8 (f : Int), .int .u8 (t : Int), .int .u64 (r : Int), .slice p l.length cap] 25) := ⟨_, rfl⟩
  have hbw : Below w.heap.size w wb := by rw [hwb]; exact (Below.refl _ _).alloc (Nat.le_refl _) _
  have hws : wb.heap.size = w.heap.size + 1 := by rw [hwb, size_a]
  have hb0 : wb.heap[w.heap.size]? = some (.cells #[.int .u8 (f : Int), .int .u8 (t : Int), .int .u64 (r : Int), .slice p l.length cap] 25 (0, 0)) := by rw [hwb]; exact at_last _ _
  have hv2 := hv.kept (w' := wb) (F' := (· < wb.heap.size)) (fun b hb => ⟨Nat.lt_of_lt_of_le hb hbw.size, hbw.block b hb⟩)
  have HRP := Lib.hid (rprint_any l (.slice p l.length cap) wb hv2 hl)
  have HB0 := Lib.hid hb0
  have HBW := Lib.hid hbw
  have HWS := Lib.hid hws
  have HW := Lib.hid hW
  have HDI := Lib.hid decI
  have gF : GoodD (f : Int) := ⟨f, rfl, by omega⟩
  have gT : GoodD (t : Int) := ⟨t, rfl, by omega⟩
  have gR : GoodD (r : Int) := ⟨r, rfl, hr⟩
  have gL : GoodD ((l.length : Nat) : Int) := ⟨l.length, rfl, by omega⟩
  have wF : IntKind.u64.wrap (f : Int) = (f : Int) := by rw [IntKind.wrap_u64]; omega
  have wT : IntKind.u64.wrap (t : Int) = (t : Int) := by rw [IntKind.wrap_u64]; omega
  have wL : IntKind.u64.wrap ((l.length : Nat) : Int) = ((l.length : Nat) : Int) := by rw [IntKind.wrap_u64]; omega
  have hzd := fun (u : Nat) (h : u < 18446744073709551616) => (show (tx (digs u)).size = (digs u).length ∧ (digs u).length ≤ 20 from ⟨by simp [tx, ByteArray.size], digs_len u h⟩)
  obtain ⟨zf1, zf2⟩ := hzd f (by omega)
  obtain ⟨zt1, zt2⟩ := hzd t (by omega)
  obtain ⟨zr1, zr2⟩ := hzd r hr
  obtain ⟨zl1, zl2⟩ := hzd l.length (by omega)
  have hbf : (f : Int) < 256 := by omega
  have hbt : (t : Int) < 256 := by omega
  have hbl : (l.length : Int) ≤ 80 := by omega
  have hl0 : (0 : Int) ≤ (l.length : Int) := Int.natCast_nonneg _
  have c3 := cell_of_arr hb0 3
  clear hv hl hf ht hr h1 h2 hb0 hbw hws hW hv2 hzd hl80
  rw [hwb] at c3
  go_enter Tryd.func13, Tryd.ntmps13
  go_wp2_with fail
  go_at_call 21
  rw [← hwb]
  refine (HRP.out).mono ?_
  rintro e w1 ⟨rfl, hb1⟩
  have hk := (hb1.block w.heap.size (by rw [HWS.out]; exact Nat.lt_succ_self _)).trans HB0.out
  have c0 := cell_of_arr hk 0
  have c1 := cell_of_arr hk 1
  have c2 := cell_of_arr hk 2
  have c4 := cell_of_arr hk 3
  have HB1 := Lib.hid (HBW.out.trans (hb1.mono HBW.out.size))
  clear hb1 hk hwb c3
  by_cases hpr : (((printL l).2 : Nat) : Int) = 0
  rotate_left
  · have HP := Lib.hid (show wprintL ⟨f, t, r, l⟩ = ([], (printL l).2) by rw [HW.out, if_neg (by omega), ← printL_bad l (by omega)])
    go_wp2
    go_ret2
    rw [HP.out]
    exact ⟨rfl, HB1.out⟩
  · have hpo := printL_ok l (by omega)
    have hpa := print_parts (l := l) (by omega)
    have HP := Lib.hid (show wprintL ⟨f, t, r, l⟩ = (if 65536 < (txT (closeL f t r l)).length then ([], 2) else (txT (closeL f t r l), 0)) by rw [HW.out, if_pos (by omega)])
    rw [hpo]
    have htl := hpa.2.2.2.2
    have hszp : (tx (txT l)).size = (txT l).length := by simp [tx, ByteArray.size]
    have k1 : ({ data := #[85, 78, 66, 43] } : ByteArray).size = 4 := rfl
    have k2 : ({ data := #[43] } : ByteArray).size = 1 := rfl
    have k3 : ({ data := #[39] } : ByteArray).size = 1 := rfl
    have k4 : ({ data := #[85, 78, 90, 43] } : ByteArray).size = 4 := rfl
    obtain ⟨S1, hS1⟩ : ∃ S, ({ data := #[85, 78, 66, 43] } : ByteArray) ++ tx (digs f) = S := ⟨_, rfl⟩
    have n1 : S1.size = ({ data := #[85, 78, 66, 43] } : ByteArray).size + (tx (digs f)).size := by rw [← hS1, ByteArray.size_append]
    obtain ⟨S2, hS2⟩ : ∃ S, S1 ++ ({ data := #[43] } : ByteArray) = S := ⟨_, rfl⟩
    have n2 : S2.size = S1.size + (({ data := #[43] } : ByteArray)).size := by rw [← hS2, ByteArray.size_append]
    obtain ⟨S3, hS3⟩ : ∃ S, S2 ++ tx (digs t) = S := ⟨_, rfl⟩
    have n3 : S3.size = S2.size + (tx (digs t)).size := by rw [← hS3, ByteArray.size_append]
    obtain ⟨S4, hS4⟩ : ∃ S, S3 ++ ({ data := #[43] } : ByteArray) = S := ⟨_, rfl⟩
    have n4 : S4.size = S3.size + (({ data := #[43] } : ByteArray)).size := by rw [← hS4, ByteArray.size_append]
    obtain ⟨S5, hS5⟩ : ∃ S, S4 ++ tx (digs r) = S := ⟨_, rfl⟩
    have n5 : S5.size = S4.size + (tx (digs r)).size := by rw [← hS5, ByteArray.size_append]
    obtain ⟨S6, hS6⟩ : ∃ S, S5 ++ ({ data := #[39] } : ByteArray) = S := ⟨_, rfl⟩
    have n6 : S6.size = S5.size + (({ data := #[39] } : ByteArray)).size := by rw [← hS6, ByteArray.size_append]
    obtain ⟨S7, hS7⟩ : ∃ S, S6 ++ tx (txT l) = S := ⟨_, rfl⟩
    have n7 : S7.size = S6.size + (tx (txT l)).size := by rw [← hS7, ByteArray.size_append]
    obtain ⟨S8, hS8⟩ : ∃ S, S7 ++ ({ data := #[85, 78, 90, 43] } : ByteArray) = S := ⟨_, rfl⟩
    have n8 : S8.size = S7.size + (({ data := #[85, 78, 90, 43] } : ByteArray)).size := by rw [← hS8, ByteArray.size_append]
    obtain ⟨S9, hS9⟩ : ∃ S, S8 ++ tx (digs l.length) = S := ⟨_, rfl⟩
    have n9 : S9.size = S8.size + (tx (digs l.length)).size := by rw [← hS9, ByteArray.size_append]
    obtain ⟨S10, hS10⟩ : ∃ S, S9 ++ ({ data := #[43] } : ByteArray) = S := ⟨_, rfl⟩
    have n10 : S10.size = S9.size + (({ data := #[43] } : ByteArray)).size := by rw [← hS10, ByteArray.size_append]
    obtain ⟨S11, hS11⟩ : ∃ S, S10 ++ tx (digs r) = S := ⟨_, rfl⟩
    have n11 : S11.size = S10.size + (tx (digs r)).size := by rw [← hS11, ByteArray.size_append]
    obtain ⟨S12, hS12⟩ : ∃ S, S11 ++ ({ data := #[39] } : ByteArray) = S := ⟨_, rfl⟩
    have n12 : S12.size = S11.size + (({ data := #[39] } : ByteArray)).size := by rw [← hS12, ByteArray.size_append]
    have b1 : ¬ 9223372036854775807 < 4 + (digs f).length := by omega
    have b2 : ¬ 9223372036854775807 < S1.size + 1 := by omega
    have b3 : ¬ 9223372036854775807 < S2.size + (digs t).length := by omega
    have b4 : ¬ 9223372036854775807 < S3.size + 1 := by omega
    have b5 : ¬ 9223372036854775807 < S4.size + (digs r).length := by omega
    have b6 : ¬ 9223372036854775807 < S5.size + 1 := by omega
    have b7 : ¬ 9223372036854775807 < S6.size + (txT l).length := by omega
    have b8 : ¬ 9223372036854775807 < S7.size + 4 := by omega
    have b9 : ¬ 9223372036854775807 < S8.size + (digs l.length).length := by omega
    have b10 : ¬ 9223372036854775807 < S9.size + 1 := by omega
    have b11 : ¬ 9223372036854775807 < S10.size + (digs r).length := by omega
    have b12 : ¬ 9223372036854775807 < S11.size + 1 := by omega
    have hS := (show S12 = tx (txT (closeL f t r l)) by
      show S12 = tx (txT (hdS f t r l l.length r))
      rw [txT_hd, ← hS12, ← hS11, ← hS10, ← hS9, ← hS8, ← hS7, ← hS6, ← hS5, ← hS4, ← hS3, ← hS2, ← hS1]
      simp only [← tx_app2]
      rfl)
    have hSz : S12.size = (txT (closeL f t r l)).length := by rw [hS]; simp [tx, ByteArray.size]
    have HS := Lib.hid hS
    have HSZ := Lib.hid hSz
    clear n1 n2 n3 n4 n5 n6 n7 n8 n9 n10 n11 n12 k1 k2 k3 k4 zf2 zt2 zr2 zl2 hpo hpa hpr htl HW HB0 HWS hS hSz
    go_wp2_with fail
    go_quiet ((go_at_call 22; exact Calls.quiet_of (HDI.out _ _ (by first | exact gF | exact gT | exact gR | exact gL))))
    clear hS1 hS2 hS3 hS4 hS5 hS6 hS7 hS8 hS9 hS10 hS11 hS12 b1 b2 b3 b4 b5 b6 b7 b8 b9 b10 b11 b12
    by_cases h6 : (65536 : Int) < (S12.size : Int)
    · have HX := Lib.hid (show wprintL ⟨f, t, r, l⟩ = ([], 2) by rw [HP.out, if_pos (by rw [← HSZ.out]; omega)])
      go_wp2
      go_ret2
      rw [HX.out]
      exact ⟨rfl, HB1.out.trans (below_drewN _ _ |>.mono HB1.out.size)⟩
    · have HX := Lib.hid (show wprintL ⟨f, t, r, l⟩ = (txT (closeL f t r l), 0) by rw [HP.out, if_neg (by rw [← HSZ.out]; omega)])
      go_wp2
      go_ret2
      rw [HX.out, HS.out]
      exact ⟨rfl, HB1.out.trans (below_drewN _ _ |>.mono HB1.out.size)⟩
end Go.Proofs.YtlonmmnaipclcaaDoor
