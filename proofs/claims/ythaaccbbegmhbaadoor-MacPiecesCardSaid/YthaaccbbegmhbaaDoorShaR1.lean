/- Contract of tarmacref01.Text, over the translated program. -/
import Derived.Test.YthaaccbbegmhbaaDoorShaW9
import Derived.Test.YthaaccbbegmhbaaDoorShaPure6
namespace Go.Proofs.YthaaccbbegmhbaaDoor
open Go.RowKit Go.Sha

attribute [local irreducible] strN
theorem conv2 (w : World) (x y : Nat) : (convert 22 9 (.slice (some ⟨w.heap.size, 0, none⟩) 2 2)).run Tryd.prog (w.alloc (.cells #[.int .u8 (x : Int), .int .u8 (y : Int)] 5)) = .ok (.string (strN [x, y])) (w.alloc (.cells #[.int .u8 (x : Int), .int .u8 (y : Int)] 5)) := by
  have h := run_convert_bytes_arg (P := Tryd.prog) (w.alloc (.cells #[.int .u8 (x : Int), .int .u8 (y : Int)] 5)) 22 5 Tryd.underlying22 Tryd.underlying5 w.heap.size 0 2 2 [(x : Int), (y : Int)] rfl
    (fun i hi => by
      rw [Nat.zero_add, World.cell?_alloc_at _ _ _ _ rfl]
      match i, hi with
      | 0, _ | 1, _ => rfl) 9 Tryd.underlying9
  rw [show [(x : Int), (y : Int)] = [x, y].map (fun (n : Nat) => (n : Int)) from rfl, strN_nums] at h
  exact h
theorem conv2d (w : World) (x y : Nat) : (convert 22 9 (.slice (some ⟨w.heap.size, 0, none⟩) 2 2)).run Tryd.prog (w.alloc (.cells #[.int .u8 (x : Int), .int .u8 (y : Int)] 5)).drew = .ok (.string (strN [x, y])) (w.alloc (.cells #[.int .u8 (x : Int), .int .u8 (y : Int)] 5)).drew := conv2 w.drew x y

set_option maxRecDepth 100000 in
set_option maxHeartbeats 800000 in
theorem rtext_any (d : List Nat) (w : World) (hd : d.length = 32) (hd1 : Lt 256 d) :
    Calls Tryd.prog 13 #[.agg (bv d)] w fun e w' => e = .returned (.string (textL d)) ∧ Below w.heap.size w w' := by
  have HD := Lib.hid hd; clear hd
  have HD1 := Lib.hid hd1; clear hd1
  have e0 : (⟨#[]⟩ : ByteArray) = strN (hx d 0) := by rw [hx_zero]; unfold strN; rfl
  have HE0 := Lib.hid e0; clear e0
  have cd := conv2d
  go_enter Tryd.func13, Tryd.ntmps13
  go_wp2
  go_loopw [3, 4] (fun s i wr => ∃ k : Nat, k ≤ 32 ∧ i = .int .i64 k ∧ s = .string (strN (hx d k)) ∧ Below (w.heap.size + 1) (w.alloc (.cells (bv d) 25)) wr) (fun _ i _ => 32 - (intOf i).toNat)
  case atStart => exact ⟨0, Nat.zero_le _, rfl, by rw [← HE0.out], Below.refl _ _⟩
  case round =>
    obtain ⟨k, hk, rfl, rfl, hb⟩ := hrel
    have HB := Lib.hid hb; clear hb
    by_cases hlt : k < 32
    · have c0 : wr.cell? ⟨w.heap.size, k, none⟩ = some (.int .u8 (at0 d k : Nat)) := (HB.out.cell (p := ⟨w.heap.size, k, none⟩) (by simp)).trans ((World.cell?_alloc_at _ _ _ _ rfl).trans (bv_get d k (by rw [HD.out]; exact hlt)))
      have l0 : at0 d k < 256 := HD1.out.getD (by decide) _
      have HX := Lib.hid (show hx d (k + 1) = _ from hx_succ d k)
      have HS := Lib.hid (show (strN (hx d k)).size = 2 * k by rw [strN_size, hx_len])
      have hsz : (strN (hx d k)).size ≤ 64 := by rw [HS.out]; omega
      generalize at0 d k = x at *
      generalize hsq : strN (hx d k) = sk at *
      have HSQ := Lib.hid hsq; clear hsq
      obtain ⟨y1, hy1⟩ : ∃ y, y = x / 16 := ⟨_, rfl⟩
      obtain ⟨y2, hy2⟩ : ∃ y, y = x % 16 := ⟨_, rfl⟩
      have b1 : y1 < 16 := by omega
      have b2 : y2 < 16 := by omega
      have q1 : (x : Int) / 16 = (y1 : Int) := by omega
      have q2 : (x : Int) % 16 = (y2 : Int) := by omega
      have r1 : IntKind.u8.wrap (y1 : Int) = (y1 : Int) := by rw [IntKind.wrap_u8']; omega
      have r2 : IntKind.u8.wrap (y2 : Int) = (y2 : Int) := by rw [IntKind.wrap_u8']; omega
      have t1 : (x : Int).tdiv 16 = (y1 : Int) := by rw [Int.tdiv_eq_ediv_of_nonneg (by omega)]; exact q1
      have t2 : (x : Int).tmod 16 = (y2 : Int) := by rw [Int.tmod_eq_emod_of_nonneg (by omega)]; exact q2
      have n1 : (0 : Int) ≤ (y1 : Int) := by omega
      have n2 : (0 : Int) ≤ (y2 : Int) := by omega
      have m1 : (y1 : Int) < 16 := by omega
      have m2 : (y2 : Int) < 16 := by omega
      have hcat : ¬ 9223372036854775807 < sk.size + (strN [hexc y1, hexc y2]).size := by rw [strN_size]; simp; omega
      have i1 := hex_at y1 b1
      have i2 := hex_at y2 b2
      have HY1 := Lib.hid hy1; clear hy1
      have HY2 := Lib.hid hy2; clear hy2
      go_wp2
      go_region
      go_wp2
      go_roundw
      case rel =>
        go_light
        refine ⟨k + 1, by omega, by go_num, ?_, ?_⟩
        · rw [HX.out, ← HY1.out, ← HY2.out, ← strN_append, HSQ.out]
        · exact (HB.out.alloc (by have := HB.out.size; simpa using this) _).drew
      case measure => simp [intOf]; omega
    · have HK := Lib.hid (show k = 32 by omega)
      go_wp2
      go_ret
      refine ⟨?_, ⟨HB.out.os, HB.out.tape, HB.out.output, Nat.le_trans (by simp) HB.out.size, fun i hi => (HB.out.block i (by omega)).trans (heap_prev _ _ _ hi)⟩⟩
      show Ending.returned (.string (strN (hx d k))) = _
      rw [HK.out, text_hx]
end Go.Proofs.YthaaccbbegmhbaaDoor
