/- The walk of the law MacKnown, over the translated program. -/
import Derived.Test.YthaaccbbegmhbaaDoorMacW5
namespace Go.Proofs.YthaaccbbegmhbaaDoor
open Go.RowKit Go.Sha

/-- n bytes, the first k of them x, the others nought -/
def flTo (x n : Nat) : Nat → List Nat
  | 0 => zl n
  | k + 1 => (flTo x n k).set k x
theorem flTo_zero (x n : Nat) : flTo x n 0 = zl n := rfl
theorem flTo_succ (x n k : Nat) : flTo x n (k + 1) = (flTo x n k).set k x := rfl
theorem flTo_len (x n : Nat) : ∀ k, (flTo x n k).length = n
  | 0 => zl_len n
  | k + 1 => by rw [flTo_succ, List.length_set]; exact flTo_len x n k
theorem flTo_lt (x n : Nat) (hx : x < 256) : ∀ k, Lt 256 (flTo x n k)
  | 0 => zl_lt n 256 (by decide)
  | k + 1 => by rw [flTo_succ]; exact (flTo_lt x n hx k).set _ _ hx
theorem flTo_past (x n k : Nat) (h : n ≤ k) : flTo x n (k + 1) = flTo x n k := by
  rw [flTo_succ, List.set_eq_of_length_le (by rw [flTo_len]; exact h)]
def msg8 : List Nat := [72, 105, 32, 84, 104, 101, 114, 101]
def msg54 : List Nat := [84, 101, 115, 116, 32, 85, 115, 105, 110, 103, 32, 76, 97, 114, 103, 101, 114, 32, 84, 104, 97, 110, 32, 66, 108, 111, 99, 107, 45, 83, 105, 122, 101, 32, 75, 101, 121, 32, 45, 32, 72, 97, 115, 104, 32, 75, 101, 121, 32, 70, 105, 114, 115, 116]
theorem lit8 : (#[.int .u8 72, .int .u8 105, .int .u8 32, .int .u8 84, .int .u8 104, .int .u8 101, .int .u8 114, .int .u8 101] : Array Value) = bv msg8 := by kernel_rfl
theorem lit54 : (#[.int .u8 84, .int .u8 101, .int .u8 115, .int .u8 116, .int .u8 32, .int .u8 85, .int .u8 115, .int .u8 105, .int .u8 110, .int .u8 103, .int .u8 32, .int .u8 76, .int .u8 97, .int .u8 114, .int .u8 103, .int .u8 101, .int .u8 114, .int .u8 32, .int .u8 84, .int .u8 104, .int .u8 97, .int .u8 110, .int .u8 32, .int .u8 66, .int .u8 108, .int .u8 111, .int .u8 99, .int .u8 107, .int .u8 45, .int .u8 83, .int .u8 105, .int .u8 122, .int .u8 101, .int .u8 32, .int .u8 75, .int .u8 101, .int .u8 121, .int .u8 32, .int .u8 45, .int .u8 32, .int .u8 72, .int .u8 97, .int .u8 115, .int .u8 104, .int .u8 32, .int .u8 75, .int .u8 101, .int .u8 121, .int .u8 32, .int .u8 70, .int .u8 105, .int .u8 114, .int .u8 115, .int .u8 116] : Array Value) = bv msg54 := by kernel_rfl
def txt8 : ByteArray := ⟨#[98, 48, 51, 52, 52, 99, 54, 49, 100, 56, 100, 98, 51, 56, 53, 51, 53, 99, 97, 56, 97, 102, 99, 101, 97, 102, 48, 98, 102, 49, 50, 98, 56, 56, 49, 100, 99, 50, 48, 48, 99, 57, 56, 51, 51, 100, 97, 55, 50, 54, 101, 57, 51, 55, 54, 99, 50, 101, 51, 50, 99, 102, 102, 55]⟩
def txt54 : ByteArray := ⟨#[54, 48, 101, 52, 51, 49, 53, 57, 49, 101, 101, 48, 98, 54, 55, 102, 48, 100, 56, 97, 50, 54, 97, 97, 99, 98, 102, 53, 98, 55, 55, 102, 56, 101, 48, 98, 99, 54, 50, 49, 51, 55, 50, 56, 99, 53, 49, 52, 48, 53, 52, 54, 48, 52, 48, 102, 48, 101, 101, 51, 55, 102, 53, 52]⟩
theorem knownS : textL (macL (flTo 11 20 131) msg8) = txt8 := by kernel_rfl
theorem knownL : textL (macL (flTo 170 131 131) msg54) = txt54 := by kernel_rfl
attribute [irreducible] flTo
theorem made_zero (n : Nat) : madeCells (Value.int .u8 0).cells n = bv (zl n) := by
  apply Array.ext_getElem?
  intro j
  by_cases h : j < n
  · rw [bv_get _ _ (by rw [zl_len]; exact h)]
    simp [madeCells, Value.cells, h, Nat.mod_one, at0, zl]
  · rw [Array.getElem?_eq_none (by rw [size_madeCells]; omega), Array.getElem?_eq_none (by rw [bv_size, zl_len]; omega)]
theorem mkn (n : Nat) (hn : n ≤ 1000) (w : World) : (Instr.makeSlice 22 (.int .i64 (n : Int)) (.int .i64 (n : Int))).run Tryd.prog w = .ok (.slice (some ⟨w.heap.size, 0, none⟩) n n) (w.alloc (.cells (bv (zl n)) 5)) := by
  obtain ⟨i, hi, h0, h1, h2⟩ := info_parts parts5p
  have := run_make (P := Tryd.prog) w 22 5 i (.int .u8 0) Tryd.underlying22 hi h0 .i64 .i64 (n : Int) (n : Int) (by omega) (by omega) (by rw [h2]; omega) (by omega)
  rw [h1, show ((n : Nat) : Int).toNat = n from rfl, Nat.mul_one, made_zero] at this
  exact this
theorem mk20 (w : World) : (Instr.makeSlice 22 (.int .i64 20) (.int .i64 20)).run Tryd.prog w = .ok (.slice (some ⟨w.heap.size, 0, none⟩) 20 20) (w.alloc (.cells (bv (zl 20)) 5)) := mkn 20 (by decide) w
theorem mk131 (w : World) : (Instr.makeSlice 22 (.int .i64 131) (.int .i64 131)).run Tryd.prog w = .ok (.slice (some ⟨w.heap.size, 0, none⟩) 131 131) (w.alloc (.cells (bv (zl 131)) 5)) := mkn 131 (by decide) w

set_option maxRecDepth 100000 in
set_option maxHeartbeats 1600000 in
theorem macKnown_any (w : World) (hG : Gl w) : Calls Tryd.prog 5 #[] w fun e w' => e = .returned (.bool true) ∧ Below w.heap.size w w' := by
  have HG := Lib.hid hG; clear hG
  have hsz := HG.out.size
  have kc := fun (w : World) (C : Array Value) (n c : Nat) => Lib.run_convert_bytes_const (P := Tryd.prog) w 22 5 C n c Tryd.underlying22 Tryd.underlying5
  have mk1 := mk20
  have mk2 := mk131
  go_enter Tryd.func5, Tryd.ntmps5
  go_wp2_with fail
  go_loopw [3] (fun i wr => ∃ k : Nat, k ≤ 131 ∧ i = .int .i64 k ∧ wr = (w.alloc (.cells (bv (flTo 11 20 k)) 5)).alloc (.cells (bv (flTo 170 131 k)) 5)) (fun i _ => 131 - (intOf i).toNat)
  case atStart => exact ⟨0, Nat.zero_le _, rfl, by rw [flTo_zero, flTo_zero]⟩
  case round =>
    obtain ⟨k, hk, rfl, rfl⟩ := hrel
    by_cases hlt : k < 131
    · have gk := bv_get (flTo 170 131 k) k (by rw [flTo_len]; exact hlt)
      by_cases h20 : k < 20
      · have g2 := bv_get (flTo 11 20 k) k (by rw [flTo_len]; exact h20)
        go_wp2_with fail
        go_roundw
        case rel => exact ⟨k + 1, by omega, by go_num, by rw [flTo_succ, flTo_succ, ← bv_set, ← bv_set]; rfl⟩
        case measure => simp [intOf]; omega
      · go_wp2_with fail
        go_roundw
        case rel => exact ⟨k + 1, by omega, by go_num, by rw [flTo_past 11 20 k (by omega), flTo_succ, ← bv_set]; rfl⟩
        case measure => simp [intOf]; omega
    · obtain rfl : k = 131 := by omega
      have HBa := Lib.hid (show Below w.heap.size w ((w.alloc (.cells (bv (flTo 11 20 131)) 5)).alloc (.cells (bv (flTo 170 131 131)) 5)) from ((Below.refl _ _).alloc (Nat.le_refl _) _).alloc (by simp) _)
      have HLa := Lib.hid (show ((w.alloc (.cells (bv (flTo 11 20 131)) 5)).alloc (.cells (bv (flTo 170 131 131)) 5)).heap[w.heap.size + 1]? = some (.cells (bv (flTo 170 131 131)) 5 (0, 0)) from heap_last _ _ _ (by simp))
      have HSa := Lib.hid (show ((w.alloc (.cells (bv (flTo 11 20 131)) 5)).alloc (.cells (bv (flTo 170 131 131)) 5)).heap[w.heap.size]? = some (.cells (bv (flTo 11 20 131)) 5 (0, 0)) from (heap_prev _ _ _ (by simp)).trans (heap_last _ _ _ rfl))
      generalize (w.alloc (.cells (bv (flTo 11 20 131)) 5)).alloc (.cells (bv (flTo 170 131 131)) 5) = wa at *
      have la := (Array.getElem?_eq_some_iff.1 HLa.out).1
      go_wp2_with fail
      rw [lit8]
      have HB0 := Lib.hid (show Below w.heap.size w (wa.alloc (.cells (bv msg8) 5 (8, 9))) from HBa.out.alloc HBa.out.size _)
      have HL0 := Lib.hid (show (wa.alloc (.cells (bv msg8) 5 (8, 9))).heap[w.heap.size + 1]? = some (.cells (bv (flTo 170 131 131)) 5 (0, 0)) from (heap_prev _ _ _ la).trans HLa.out)
      have HS0 := Lib.hid (show (wa.alloc (.cells (bv msg8) 5 (8, 9))).heap[w.heap.size]? = some (.cells (bv (flTo 11 20 131)) 5 (0, 0)) from (heap_prev _ _ _ (by omega)).trans HSa.out)
      have HM0 := Lib.hid (show (wa.alloc (.cells (bv msg8) 5 (8, 9))).heap[wa.heap.size]? = some (.cells (bv msg8) 5 (8, 9)) from heap_last _ _ _ rfl)
      generalize wa.alloc (.cells (bv msg8) 5 (8, 9)) = w0 at *
      have l0 := (Array.getElem?_eq_some_iff.1 HM0.out).1
      refine (macOf_any (flTo 11 20 131) msg8 _ _ w0 (flTo_lt 11 20 (by decide) 131) (by decide) (by rw [flTo_len]; decide) (by decide) (HG.out.below hsz HB0.out) ?_ ?_).mono ?_
      · have := byt_row (l := flTo 11 20 131) (cap := 20) (g := w0.heap.size) HS0.out (by omega) (by rw [flTo_len]; decide)
        rw [flTo_len] at this; exact this
      · exact byt_row (l := msg8) (cap := 8) HM0.out (by omega) (by decide)
      rintro e w1 ⟨rfl, hb1⟩
      have HB1 := Lib.hid (HB0.out.trans (hb1.mono HB0.out.size))
      have HL1 := Lib.hid ((hb1.block _ (Array.getElem?_eq_some_iff.1 HL0.out).1).trans HL0.out)
      clear hb1
      go_wp2_with fail
      refine (rtext_any _ _ (macL_len _ _) (macL_lt _ _)).mono ?_
      rw [knownS]
      rintro e w2 ⟨rfl, hb2⟩
      have HB2 := Lib.hid (HB1.out.trans (hb2.mono HB1.out.size))
      have HL2 := Lib.hid ((hb2.block _ (Array.getElem?_eq_some_iff.1 HL1.out).1).trans HL1.out)
      clear hb2
      unfold txt8
      go_wp2_with fail
      rw [lit54]
      have HB3 := Lib.hid (show Below w.heap.size w (w2.alloc (.cells (bv msg54) 5 (54, 55))) from HB2.out.alloc HB2.out.size _)
      have l2 := (Array.getElem?_eq_some_iff.1 HL2.out).1
      refine (macOf_any (flTo 170 131 131) msg54 _ _ _ (flTo_lt 170 131 (by decide) 131) (by decide) (by rw [flTo_len]; decide) (by decide) (HG.out.below hsz HB3.out) ?_ ?_).mono ?_
      · have := byt_row (w := w2.alloc (.cells (bv msg54) 5 (54, 55))) (l := flTo 170 131 131) (cap := 131) (g := (w2.alloc (.cells (bv msg54) 5 (54, 55))).heap.size) ((heap_prev _ _ _ l2).trans HL2.out) (by simp; omega) (by rw [flTo_len]; decide)
        rw [flTo_len] at this; exact this
      · exact byt_row (l := msg54) (cap := 54) (heap_last _ _ _ rfl) (by simp) (by decide)
      rintro e w4 ⟨rfl, hb4⟩
      have HB4 := Lib.hid (HB3.out.trans (hb4.mono HB3.out.size))
      clear hb4
      go_wp2_with fail
      refine (rtext_any _ _ (macL_len _ _) (macL_lt _ _)).mono ?_
      rw [knownL]
      rintro e w5 ⟨rfl, hb5⟩
      have HB5 := Lib.hid (HB4.out.trans (hb5.mono HB4.out.size))
      clear hb5
      unfold txt54
      go_wp2_with fail
      refine (wakes2_any _ (HG.out.below hsz HB5.out)).mono ?_
      rintro e w6 ⟨rfl, hb6⟩
      have HB6 := Lib.hid (HB5.out.trans (hb6.mono HB5.out.size))
      clear hb6
      go_wp2_with fail
      go_ret
      exact ⟨rfl, HB6.out⟩
end Go.Proofs.YthaaccbbegmhbaaDoor
