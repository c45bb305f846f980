/- Contract of wakes of layer 2, and the walk of the law MacNil, over the translated program. -/
import Derived.Test.YthaaccbbegmhbaaDoorMacW4
import Derived.Test.YthaaccbbegmhbaaDoorShaR1
namespace Go.Proofs.YthaaccbbegmhbaaDoor
open Go.RowKit Go.Sha

def jefe : List Nat := [74, 101, 102, 101]
def want : List Nat := [119, 104, 97, 116, 32, 100, 111, 32, 121, 97, 32, 119, 97, 110, 116, 32, 102, 111, 114, 32, 110, 111, 116, 104, 105, 110, 103, 63]
def jefeText : ByteArray := ⟨#[53, 98, 100, 99, 99, 49, 52, 54, 98, 102, 54, 48, 55, 53, 52, 101, 54, 97, 48, 52, 50, 52, 50, 54, 48, 56, 57, 53, 55, 53, 99, 55, 53, 97, 48, 48, 51, 102, 48, 56, 57, 100, 50, 55, 51, 57, 56, 51, 57, 100, 101, 99, 53, 56, 98, 57, 54, 52, 101, 99, 51, 56, 52, 51]⟩
theorem mac_jefe : textL (macL jefe want) = jefeText := by kernel_rfl
theorem byt_lit {w : World} {b g cap : Nat} {l : List Nat} {cs : Array Value} {t : TypeId} {f : Nat × Nat} (h : w.heap[b]? = some (.cells cs t f)) (hcs : cs = bv l) (hg : b ≠ g) (hc : l.length ≤ cap) : Byt w g (.slice (some ⟨b, 0, none⟩) l.length cap) l := by
  subst hcs; exact byt_row h hg hc
theorem conv_second (w : World) (o : Obj) (C : Array Value) (n c : Nat) : (convert 22 22 (.slice (some ⟨w.heap.size + 1, 0, none⟩) n c)).run Tryd.prog ((w.alloc o).alloc (.cells C 5)) = .ok (.slice (some ⟨w.heap.size + 1, 0, none⟩) n c) ((w.alloc o).alloc (.cells C 5 (C.size, C.size + 1))) := by
  have h := Lib.run_convert_bytes_const (P := Tryd.prog) (w.alloc o) 22 5 C n c Tryd.underlying22 Tryd.underlying5
  rw [show (w.alloc o).heap.size = w.heap.size + 1 by simp] at h
  exact h
theorem jefe_bv : (#[.int .u8 74, .int .u8 101, .int .u8 102, .int .u8 101] : Array Value) = bv jefe := by kernel_rfl
theorem want_bv : (#[.int .u8 119, .int .u8 104, .int .u8 97, .int .u8 116, .int .u8 32, .int .u8 100, .int .u8 111, .int .u8 32, .int .u8 121, .int .u8 97, .int .u8 32, .int .u8 119, .int .u8 97, .int .u8 110, .int .u8 116, .int .u8 32, .int .u8 102, .int .u8 111, .int .u8 114, .int .u8 32, .int .u8 110, .int .u8 111, .int .u8 116, .int .u8 104, .int .u8 105, .int .u8 110, .int .u8 103, .int .u8 63] : Array Value) = bv want := by kernel_rfl

set_option maxRecDepth 100000 in
set_option maxHeartbeats 800000 in
theorem wakes2_any (w : World) (hG : Gl w) : Calls Tryd.prog 14 #[] w fun e w' => e = .returned (.bool true) ∧ Below w.heap.size w w' := by
  have HG := Lib.hid hG; clear hG
  have hsz := HG.out.size
  have kc := fun (w : World) (C : Array Value) (n c : Nat) => Lib.run_convert_bytes_const (P := Tryd.prog) w 22 5 C n c Tryd.underlying22 Tryd.underlying5
  have kc2 := conv_second
  go_enter Tryd.func14, Tryd.ntmps14
  go_wp2_with fail
  rw [jefe_bv, want_bv]
  have HB0 := Lib.hid (show Below w.heap.size w ((w.alloc (.cells (bv jefe) 5 (4, 5))).alloc (.cells (bv want) 5 (28, 29))) from ((Below.refl _ _).alloc (Nat.le_refl _) _).alloc (by simp) _)
  refine (macOf_any jefe want _ _ _ (by decide) (by decide) (by decide) (by decide) (HG.out.below hsz HB0.out) ?_ ?_).mono ?_
  · exact byt_row (l := jefe) (cap := 4) ((heap_prev _ _ _ (by simp)).trans (heap_last _ _ _ rfl)) (by simp; omega) (by decide)
  · exact byt_row (l := want) (cap := 28) (heap_last _ _ _ (by simp)) (by simp) (by decide)
  rintro e w1 ⟨rfl, hb1⟩
  have HB1 := Lib.hid (HB0.out.trans (hb1.mono (by simp; omega)))
  clear hb1
  go_wp2_with fail
  refine (rtext_any _ _ (macL_len _ _) (macL_lt _ _)).mono ?_
  rw [mac_jefe]
  rintro e w2 ⟨rfl, hb2⟩
  have HB2 := Lib.hid (HB1.out.trans (hb2.mono HB1.out.size))
  clear hb2
  unfold jefeText
  go_wp2_with fail
  go_ret
  exact ⟨rfl, HB2.out⟩

@[local go_sem high, local simp high] theorem zdig5 (w : World) : (zeroValue 25).run Tryd.prog w = .ok (.agg (bv (zl 32))) w := by kernel_rfl
set_option maxRecDepth 100000 in
set_option maxHeartbeats 800000 in
theorem macNil_any (v : Value) (w : World) (hG : Gl w) : Calls Tryd.prog 6 #[v] w fun e w' => e = .returned (.bool true) ∧ Below w.heap.size w w' := by
  have HG := Lib.hid hG; clear hG
  go_enter Tryd.func6, Tryd.ntmps6
  go_wp2_with (first
    | (go_at_call 18; refine (penWrite_nil _ _).mono ?_; rintro e w' ⟨rfl, rfl⟩)
    | (go_at_call 19; with_reducible refine (penSum_nil _).mono ?_))
  rintro e w1 ⟨rfl, hb1⟩
  have HB1 := Lib.hid hb1
  clear hb1
  go_wp2_with (first
    | ((with_reducible refine wl_eql (dst := 10) 5 32 (zl 32) (zl 32) Tryd.underlying25 Tryd.underlying5 cells5 guard25 ?_ ?_ ?_ ?_ ?_); (· rfl); (· rfl); (· exact zl_len 32); (· exact zl_len 32)))
  refine (wakes2_any _ (HG.out.below HG.out.size HB1.out)).mono ?_
  rintro e w2 ⟨rfl, hb2⟩
  have HB2 := Lib.hid (HB1.out.trans (hb2.mono HB1.out.size))
  clear hb2
  go_wp2_with fail
  go_ret
  exact ⟨rfl, HB2.out⟩
end Go.Proofs.YthaaccbbegmhbaaDoor
