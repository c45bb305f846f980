/- Contract of sha.Text, over the translated program. -/
import Derived.Test.YthaaccbbegmhbaaDoorShaW7
import Derived.Test.YthaaccbbegmhbaaDoorShaPure5
namespace Go.Proofs.YthaaccbbegmhbaaDoor
open Go.RowKit Go.Sha

@[local go_sem high, local simp high] theorem z40 (w : World) : (zeroValue 45).run Tryd.prog w = .ok (.agg (bv (zl 64))) w := by kernel_rfl

set_option maxRecDepth 100000 in
set_option maxHeartbeats 800000 in
theorem text_any (d : List Nat) (w : World) (hd : d.length = 32) (hd1 : Lt 256 d) :
    Calls Tryd.prog 12 #[.agg (bv d)] w fun e w' => e = .returned (.string (textL d)) ∧ Below w.heap.size w w' := by
  have HD := Lib.hid hd; clear hd
  have HD1 := Lib.hid hd1; clear hd1
  go_enter Tryd.func12, Tryd.ntmps12
  go_wp2
  go_loopw [4, 5] (fun _ i wr => ∃ k : Nat, k ≤ 32 ∧ i = .int .i64 k ∧ wr = (w.alloc (.cells (bv d) 25)).alloc (.cells (bv (txTo d k)) 45)) (fun _ i _ => 32 - (intOf i).toNat)
  case atStart => exact ⟨0, Nat.zero_le _, rfl, by rw [txTo_zero]⟩
  case round =>
    obtain ⟨k, hk, rfl, rfl⟩ := hrel
    by_cases hlt : k < 32
    · have g0 := bv_get d k (by rw [HD.out]; omega)
      have gk := bv_get (txTo d k) (2 * k) (by rw [txTo_len]; omega)
      have gk1 := bv_get (txTo d k) (2 * k + 1) (by rw [txTo_len]; omega)
      have l0 : at0 d k < 256 := HD1.out.getD (by decide) _
      have HX := Lib.hid (show txTo d (k + 1) = _ from txTo_succ d k)
      generalize at0 d k = x at *
      go_wp2
      refine ⟨⟨k + 1, by omega, by go_num, ?_⟩, by simp [intOf]; omega⟩
      rw [HX.out, hex_at (x / 16) (by omega), hex_at (x % 16) (by omega), bv_set, bv_set]
    · have HK := Lib.hid (show k = 32 by omega)
      have hcv := run_convert_bytes_arg (P := Tryd.prog) ((w.alloc (.cells (bv d) 25)).alloc (.cells (bv (txTo d k)) 45)) 22 5 Tryd.underlying22 Tryd.underlying5 (w.heap.size + 1) 0 64 64 ((txTo d k).map fun (n : Nat) => (n : Int)) (by simp [txTo_len])
        (fun i hi => by
          rw [Nat.zero_add, World.cell?_alloc_at _ _ _ _ (by simp), bv_get _ _ (by rw [txTo_len]; exact hi)]
          simp [at0, List.getD_eq_getElem?_getD]
          cases (txTo d k)[i]? <;> rfl) 9 Tryd.underlying9
      rw [strN_nums, show strN (txTo d k) = textL d by rw [HK.out]; unfold textL; rfl] at hcv
      go_wp2
      go_ret
      exact ⟨rfl, ((Below.refl _ _).alloc (Nat.le_refl _) _).alloc (by simp) _⟩
end Go.Proofs.YthaaccbbegmhbaaDoor
