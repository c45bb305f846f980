/- Contract of wakes, over the translated program. -/
import Derived.Test.YthaaccbbegmhbaaDoorShaW8
import Derived.Test.YthaaccbbegmhbaaDoorShaLaws3
namespace Go.Proofs.YthaaccbbegmhbaaDoor
open Go.RowKit Go.Sha

def abcText : ByteArray := ⟨#[98, 97, 55, 56, 49, 54, 98, 102, 56, 102, 48, 49, 99, 102, 101, 97, 52, 49, 52, 49, 52, 48, 100, 101, 53, 100, 97, 101, 50, 50, 50, 51, 98, 48, 48, 51, 54, 49, 97, 51, 57, 54, 49, 55, 55, 97, 57, 99, 98, 52, 49, 48, 102, 102, 54, 49, 102, 50, 48, 48, 49, 53, 97, 100]⟩
theorem sha_abc : textL (shaL [97, 98, 99]) = abcText := by kernel_rfl

set_option maxRecDepth 100000 in
set_option maxHeartbeats 800000 in
theorem wakes_any (w : World) (hG : Gl w) : Calls Tryd.prog 9 #[] w fun e w' => e = .returned (.bool true) ∧ Below w.heap.size w w' := by
  have HG := Lib.hid hG; clear hG
  have kc := fun (w : World) (C : Array Value) (n c : Nat) => Lib.run_convert_bytes_const (P := Tryd.prog) w 22 5 C n c Tryd.underlying22 Tryd.underlying5
  go_enter Tryd.func9, Tryd.ntmps9
  go_wp2_with fail
  have HB0 := Lib.hid (show Below w.heap.size w (w.alloc (.cells #[.int .u8 97, .int .u8 98, .int .u8 99] 5 (3, 4))) from (Below.refl _ _).alloc (Nat.le_refl _) _)
  refine (of_any [97, 98, 99] _ _ (by decide) (by decide) (HG.out.below HG.out.size HB0.out) ?_).mono ?_
  · refine ⟨some ⟨w.heap.size, 0, none⟩, 3, rfl, by decide, fun _ => ⟨w.heap.size, 0, rfl, by simp, by simp, fun j hj => ?_⟩⟩
    rw [Nat.zero_add, cell_of_row _ _ j _ _ _ (heap_last _ _ _ rfl)]
    match j, hj with
    | 0, _ | 1, _ | 2, _ => rfl
  rintro e w1 ⟨rfl, hb1⟩
  have HB1 := Lib.hid (HB0.out.trans (hb1.mono (by simp)))
  clear hb1
  go_wp2_with fail
  refine (text_any _ _ (shaL_len _) (shaL_lt _)).mono ?_
  rw [sha_abc]
  rintro e w2 ⟨rfl, hb2⟩
  have HB2 := Lib.hid (HB1.out.trans (hb2.mono HB1.out.size))
  clear hb2
  unfold abcText
  go_wp2_with fail
  go_ret
  exact ⟨rfl, HB2.out⟩

@[local go_sem high, local simp high] theorem z25w (w : World) : (zeroValue 25).run Tryd.prog w = .ok (.agg (bv (zl 32))) w := by kernel_rfl
theorem cells5 : Tryd.prog.cellsOf 5 = 1 := by kernel_rfl
theorem guard25 : Tryd.prog.eqGuardType Tryd.prog.depth 25 = false := by kernel_rfl

end Go.Proofs.YthaaccbbegmhbaaDoor
