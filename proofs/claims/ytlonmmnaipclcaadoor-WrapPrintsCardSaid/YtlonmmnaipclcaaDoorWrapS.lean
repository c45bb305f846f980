/- Two like interchanges are the same; the example that every statement reads and prints. -/
import Derived.Test.YtlonmmnaipclcaaDoorWrapP
import Derived.Test.YtlonmmnaipclcaaDoorWrapPure3
import Derived.Test.YtlonmmnaipclcaaDoorEdiSm
namespace Go.Proofs.YtlonmmnaipclcaaDoor
open Go.RowKit Go.Edi Go.Wrap

set_option maxRecDepth 100000 in
set_option maxHeartbeats 1600000 in
theorem wsame_any (f t r : Int) (l : List Sg) (va vb : Value) (w : World) (ha : SegsF w (· < w.heap.size) va l) (hb : SegsF w (· < w.heap.size) vb l) (hfit : sane l) :
    Calls Tryd.prog 8 #[.agg #[.int .u8 f, .int .u8 t, .int .u64 r, va], .agg #[.int .u8 f, .int .u8 t, .int .u64 r, vb]] w fun e w' => e = .returned (.bool true) ∧ Below w.heap.size w w' := by
  obtain ⟨pa, ca, rfl⟩ := segs_slice ha
  obtain ⟨pb, cb, rfl⟩ := segs_slice hb
  have hw : Below w.heap.size w ((w.alloc (.cells #[.int .u8 f, .int .u8 t, .int .u64 r, .slice pa l.length ca] 25)).alloc (.cells #[.int .u8 f, .int .u8 t, .int .u64 r, .slice pb l.length cb] 25)) := ((Below.refl _ _).alloc (Nat.le_refl _) _).alloc (by rw [size_a]; omega) _
  have HQ := Lib.hid (same_any l (.slice pa l.length ca) (.slice pb l.length cb) _ (ha.kept (F' := (· < _)) (fun b hb => ⟨Nat.lt_of_lt_of_le hb hw.size, hw.block b hb⟩)) (hb.kept (F' := (· < _)) (fun b hb => ⟨Nat.lt_of_lt_of_le hb hw.size, hw.block b hb⟩)) hfit)
  have HW := Lib.hid hw
  clear hw ha hb hfit
  go_enter Tryd.func8, Tryd.ntmps8
  go_wp2_with (go_at_call 19; refine (HQ.out).mono ?_)
  first | rintro e w2 rfl hb | rintro e w2 ⟨rfl, hb⟩
  have HB := Lib.hid (HW.out.trans (hb.mono HW.out.size))
  clear hb
  go_wp2
  go_ret
  exact ⟨rfl, HB.out⟩
def wexT : Tx := [85, 78, 66, 43, 49, 43, 50, 43, 55, 39, 65, 66, 67, 39, 85, 78, 90, 43, 49, 43, 55, 39]
theorem wex_parse : wparseL wexT = (⟨1, 2, 7, [⟨[65, 66, 67], []⟩]⟩, 0) := by kernel_rfl
theorem wex_print : wprintL ⟨1, 2, 7, []⟩ = ([85, 78, 66, 43, 49, 43, 50, 43, 55, 39, 85, 78, 90, 43, 48, 43, 55, 39], 0) := by
  have h1 : digs 1 = [49] := digs_small (by omega)
  have h2 : digs 2 = [50] := digs_small (by omega)
  have h7 : digs 7 = [55] := digs_small (by omega)
  have h0 : digs 0 = [48] := digs_small (by omega)
  have e : closeL 1 2 7 [] = [⟨[85, 78, 66], [[[49]], [[50]], [[55]]]⟩, ⟨[85, 78, 90], [[[48]], [[55]]]⟩] := by
    show [Sg.mk [85, 78, 66] [[digs 1], [digs 2], [digs 7]], Sg.mk [85, 78, 90] [[digs 0], [digs 7]]] = _
    rw [h1, h2, h7, h0]
  unfold wprintL
  rw [if_neg (by decide), if_neg (by decide)]
  show printL (closeL 1 2 7 []) = _
  rw [e]
  kernel_rfl
set_option maxRecDepth 100000 in
set_option maxHeartbeats 1600000 in
theorem wraps_any (B : Nat) (w : World) (htab : Tab B w) (hB : B ≤ w.heap.size) : Calls Tryd.prog 9 #[] w fun e w' => e = .returned (.bool true) ∧ Below w.heap.size w w' := by
  have hp : Calls Tryd.prog 6 #[.string { data := #[85, 78, 66, 43, 49, 43, 50, 43, 55, 39, 65, 66, 67, 39, 85, 78, 90, 43, 49, 43, 55, 39] }] w (fun e w' => ∃ b o c, e = .returned (.tuple #[.agg #[.int .u8 1, .int .u8 2, .int .u64 7, .slice (some ⟨b, o, none⟩) 1 c], .int .i64 0]) ∧ b < w'.heap.size ∧ w'.cell? ⟨b, o, none⟩ = some (str [65, 66, 67]) ∧ Below w.heap.size w w') := by
    refine (wparse_any wexT w).mono ?_
    rintro e w' ⟨v, F, rfl, h1, h2, h3⟩
    rw [wex_parse] at h1 ⊢
    obtain ⟨xs, ⟨p, c, rfl, _, hr⟩, hs⟩ := h1
    obtain ⟨b, o, rfl, hF, hc⟩ := hr (by decide)
    have := hc 0 _ (SgC.get hs 0 (by decide)).1
    exact ⟨b, o, c, rfl, (h2 b hF).2, this, h3⟩
  have HP := Lib.hid hp
  have HT := Lib.hid htab
  have HB := Lib.hid hB
  clear hp htab hB
  go_enter Tryd.func9, Tryd.ntmps9
  go_wp2_with (go_at_call 6; refine (HP.out).mono ?_)
  first | rintro e w1 b o c rfl hlt hc hb | rintro e w1 ⟨b, o, c, rfl, hlt, hc, hb⟩
  have hw : Below w.heap.size w (w1.alloc (.cells #[.int .u8 1, .int .u8 2, .int .u64 7, .slice (some ⟨b, o, none⟩) 1 c] 25)) := hb.alloc hb.size _
  have hq : Calls Tryd.prog 12 #[.agg #[.int .u8 1, .int .u8 2, .int .u64 7, .slice none 0 0]] (w1.alloc (.cells #[.int .u8 1, .int .u8 2, .int .u64 7, .slice (some ⟨b, o, none⟩) 1 c] 25)) fun e w' => e = .returned (.tuple #[.string { data := #[85, 78, 66, 43, 49, 43, 50, 43, 55, 39, 85, 78, 90, 43, 48, 43, 55, 39] }, .int .i64 0]) ∧ Below (w1.alloc (.cells #[.int .u8 1, .int .u8 2, .int .u64 7, .slice (some ⟨b, o, none⟩) 1 c] 25)).heap.size (w1.alloc (.cells #[.int .u8 1, .int .u8 2, .int .u64 7, .slice (some ⟨b, o, none⟩) 1 c] 25)) w' := by
    have := wprint_any ⟨1, 2, 7, []⟩ (.slice none 0 0) B (w1.alloc (.cells #[.int .u8 1, .int .u8 2, .int .u64 7, .slice (some ⟨b, o, none⟩) 1 c] 25)) (segs_nil _ _) ⟨by simp, fun s hs => by simp at hs⟩ (by decide) (by decide) (by decide) (HT.out.on (hw.mono HB.out)) (Nat.le_trans HB.out hw.size)
    rw [wex_print] at this
    exact this
  have hm : (w1.alloc (.cells #[.int .u8 1, .int .u8 2, .int .u64 7, .slice (some ⟨b, o, none⟩) 1 c] 25)).heap[w1.heap.size]? = some (.cells #[.int .u8 1, .int .u8 2, .int .u64 7, .slice (some ⟨b, o, none⟩) 1 c] 25 (0, 0)) := at_last _ _
  have hcc : (w1.alloc (.cells #[.int .u8 1, .int .u8 2, .int .u64 7, .slice (some ⟨b, o, none⟩) 1 c] 25)).cell? ⟨b, o, none⟩ = some (str [65, 66, 67]) := (World.cell?_of_block (a := ⟨b, o, none⟩) (Below.heap_alloc _ _ _ hlt)).trans hc
  have hsz : (w1.alloc (.cells #[.int .u8 1, .int .u8 2, .int .u64 7, .slice (some ⟨b, o, none⟩) 1 c] 25)).heap.size = w1.heap.size + 1 := size_a _ _
  have HQ := Lib.hid hq
  have HW := Lib.hid hw
  have HM := Lib.hid hm
  have HCC := Lib.hid hcc
  have HSZ := Lib.hid hsz
  have HLT := Lib.hid hlt
  clear hw hq hb hm hcc hsz hlt hc
  go_wp2_with (go_at_call 12; refine (HQ.out).mono ?_)
  first | rintro e w2 rfl hb | rintro e w2 ⟨rfl, hb⟩
  rw [HSZ.out] at hb
  have hm := (hb.block w1.heap.size (Nat.lt_succ_self _)).trans HM.out
  have c0 : w2.cell? ⟨w1.heap.size, 0, none⟩ = some (.int .u8 1) := cell_of_arr hm 0
  have c1 : w2.cell? ⟨w1.heap.size, 1, none⟩ = some (.int .u8 2) := cell_of_arr hm 1
  have c2 : w2.cell? ⟨w1.heap.size, 2, none⟩ = some (.int .u64 7) := cell_of_arr hm 2
  have c3 : w2.cell? ⟨w1.heap.size, 3, none⟩ = some (.slice (some ⟨b, o, none⟩) 1 c) := cell_of_arr hm 3
  have cs : w2.cell? ⟨b, o, none⟩ = some (.string { data := #[65, 66, 67] }) := (World.cell?_of_block (a := ⟨b, o, none⟩) (hb.block b (Nat.lt_succ_of_lt HLT.out))).trans HCC.out
  have HBB := Lib.hid (HW.out.trans (hb.mono (by have := HW.out.size; rw [HSZ.out] at this; exact this)))
  clear hm hb
  go_wp2
  go_ret
  exact ⟨rfl, HBB.out⟩
end Go.Proofs.YtlonmmnaipclcaaDoor
