/- wrap.Parse's contract. -/
import Derived.Test.YtjlifjgljejabaaGreatDoorWrapO
import Derived.Test.YtjlifjgljejabaaGreatDoorEdiSn
namespace Go.Proofs.YtjlifjgljejabaaGreatDoor
open Go.RowKit Go.Edi Go.Wrap

theorem keep4 (W : World) (g b : Nat) (v0 v1 v2 v3 : Value) (h : b ≠ g) : ((((W.setCell ⟨g, 0, none⟩ v0).setCell ⟨g, 1, none⟩ v1).setCell ⟨g, 2, none⟩ v2).setCell ⟨g, 3, none⟩ v3).heap[b]? = W.heap[b]? := by
  rw [Below.heap_setCell _ _ _ _ h, Below.heap_setCell _ _ _ _ h, Below.heap_setCell _ _ _ _ h, Below.heap_setCell _ _ _ _ h]
def WpA (B : Nat) (t : Tx) (w : World) (e : Ending) (w' : World) : Prop :=
  ∃ v F, e = .returned (.tuple #[.agg (wrV (wparseL t).1.from_ (wparseL t).1.to_ (wparseL t).1.ref v), .int .i64 ((wparseL t).2 : Int)]) ∧ SegsF w' F v (wparseL t).1.segs ∧ (∀ b, F b → B ≤ b ∧ b < w'.heap.size) ∧ Below B w w'
theorem wparse_bad {t : Tx} (h : ¬ (parseL t).2.2 = 0) : wparseL t = (Wr.nil, (parseL t).2.2) := by unfold wparseL; rw [if_neg h]
theorem wparse_ok {t : Tx} (h : (parseL t).2.2 = 0) : wparseL t = openL (parseL t).1 := by unfold wparseL; rw [if_pos h]
set_option maxRecDepth 100000 in
set_option maxHeartbeats 3200000 in
theorem wparse_any (t : Tx) (w : World) : Calls Tryz.prog 36 #[str t] w (WpA w.heap.size t w) := by
  have hp := parse_any t (w.alloc (.cells (wrV 0 0 0 (.slice none 0 0)) 41))
  have hsn := sane_parse t
  by_cases h0 : (parseL t).2.2 = 0
  · have HW := Lib.hid (wparse_ok h0)
    have hp2 : Calls Tryz.prog 46 #[str t] (w.alloc (.cells (wrV 0 0 0 (.slice none 0 0)) 41)) fun e w' => ∃ v F z, e = .returned (.tuple #[v, .int .i64 z, .int .i64 0]) ∧ SegsF w' F v (parseL t).1 ∧ (∀ b, F b → w.heap.size + 1 ≤ b ∧ b < w'.heap.size) ∧ Below (w.heap.size + 1) (w.alloc (.cells (wrV 0 0 0 (.slice none 0 0)) 41)) w' := by
      refine hp.mono ?_
      rintro e w' ⟨⟨v, F, rfl, h1, h2⟩, h3⟩
      rw [size_a] at h2 h3
      rw [h0]
      exact ⟨v, F, _, rfl, h1, h2, h3⟩
    have HP := Lib.hid hp2
    have HSN := Lib.hid hsn
    clear hp hp2 hsn h0
    generalize (parseL t).1 = l at *
    go_enter Tryz.func36, Tryz.ntmps36
    go_wp2_with (go_at_call 46; refine (HP.out).mono ?_)
    rintro e w1 ⟨v, F, z, rfl, h1, h2, h3⟩
    obtain ⟨p, cap, rfl⟩ := segs_slice h1
    have ho := opened_any l p cap w1 F h1 (fun b hb => (h2 b hb).2) HSN.out
    have HO := Lib.hid ho
    have H2 := Lib.hid h2
    have H3 := Lib.hid h3
    clear h1 h2 h3 ho
    go_wp2_with (go_at_call 47; refine (HO.out).mono ?_)
    rintro e w2 ⟨v2, rfl, g1, g2⟩
    have hR : w2.heap[w.heap.size]? = some (.cells (wrV 0 0 0 (.slice none 0 0)) 41 (0, 0)) := by
      rw [g2.block _ (by have := H3.out.size; simp at this; omega), H3.out.block _ (by omega)]
      exact at_last w _
    have r0 : w2.cell? ⟨w.heap.size, 0, none⟩ = some (.int .u8 0) := cell_of_arr hR 0
    have r1 : w2.cell? ⟨w.heap.size, 1, none⟩ = some (.int .u8 0) := cell_of_arr hR 1
    have r2 : w2.cell? ⟨w.heap.size, 2, none⟩ = some (.int .u64 0) := cell_of_arr hR 2
    have r3 : w2.cell? ⟨w.heap.size, 3, none⟩ = some (.slice none 0 0) := cell_of_arr hR 3
    have f0 := frozen_of_arr hR 0
    have f1 := frozen_of_arr hR 1
    have f2 := frozen_of_arr hR 2
    have f3 := frozen_of_arr hR 3
    have HR := Lib.hid hR
    have G1 := Lib.hid g1
    have G2 := Lib.hid g2
    clear hR g1 g2
    generalize hx : openL l = x at *
    obtain ⟨p2, cap2, rfl⟩ := segs_slice G1.out
    obtain ⟨⟨f, to, r, sg⟩, er⟩ := x
    go_wp2
    (try simp only [Exit.inBlock, Exit.then])
    refine bodyPost_ret (results_cell_tmp_row rfl _ _ w.heap.size 41 _ (0, 0) _ rfl (set4n HR.out _ _ _ _) Tryz.underlying41 rfl sizeWrap) rfl ?_
    have hB : Below w.heap.size w w2 := ((Below.refl _ _).alloc (Nat.le_refl _) _).trans ((H3.out.mono (by omega)).trans (G2.out.mono (by have := H3.out.size; simp at this; omega)))
    have hbf := fun v0 v1 v2 v3 => (((hB.setCell (p := ⟨w.heap.size, 0, none⟩) (Nat.le_refl _) v0).setCell (p := ⟨w.heap.size, 1, none⟩) (Nat.le_refl _) v1).setCell (p := ⟨w.heap.size, 2, none⟩) (Nat.le_refl _) v2).setCell (p := ⟨w.heap.size, 3, none⟩) (Nat.le_refl _) v3
    unfold WpA
    rw [HW.out]
    refine ⟨_, F, rfl, G1.out.kept (fun b hb => ⟨hb, keep4 _ _ _ _ _ _ _ (by have := (H2.out b hb).1; omega)⟩), fun b hb => ⟨by have := (H2.out b hb).1; omega, ?_⟩, hbf _ _ _ _⟩
    have hb1 := (H2.out b hb).2
    have hb2 := G2.out.size
    simp
    omega
  · have HW := Lib.hid (wparse_bad h0)
    have hne : ¬ ((parseL t).2.2 : Int) = 0 := by omega
    obtain ⟨er, her⟩ : ∃ er, er = (parseL t).2.2 := ⟨_, rfl⟩
    rw [← her] at hne HW
    have hp2 : Calls Tryz.prog 46 #[str t] (w.alloc (.cells (wrV 0 0 0 (.slice none 0 0)) 41)) fun e w' => ∃ p n cap z, e = .returned (.tuple #[.slice p n cap, .int .i64 z, .int .i64 (er : Int)]) ∧ Below (w.heap.size + 1) (w.alloc (.cells (wrV 0 0 0 (.slice none 0 0)) 41)) w' := by
      refine hp.mono ?_
      rintro e w' ⟨⟨v, F, rfl, h1, h2⟩, h3⟩
      rw [size_a] at h3
      rw [← her]
      obtain ⟨p, cap, rfl⟩ := segs_slice h1
      exact ⟨_, _, _, _, rfl, h3⟩
    have HP := Lib.hid hp2
    clear hp hsn h0 hp2 her
    go_enter Tryz.func36, Tryz.ntmps36
    go_wp2_with (go_at_call 46; refine (HP.out).mono ?_)
    rintro e w2 ⟨p, n, cap, z, rfl, h3⟩
    have hR : w2.heap[w.heap.size]? = some (.cells (wrV 0 0 0 (.slice none 0 0)) 41 (0, 0)) := by
      rw [h3.block _ (by omega)]
      exact at_last w _
    have r0 : w2.cell? ⟨w.heap.size, 0, none⟩ = some (.int .u8 0) := cell_of_arr hR 0
    have r1 : w2.cell? ⟨w.heap.size, 1, none⟩ = some (.int .u8 0) := cell_of_arr hR 1
    have r2 : w2.cell? ⟨w.heap.size, 2, none⟩ = some (.int .u64 0) := cell_of_arr hR 2
    have r3 : w2.cell? ⟨w.heap.size, 3, none⟩ = some (.slice none 0 0) := cell_of_arr hR 3
    have f0 := frozen_of_arr hR 0
    have f1 := frozen_of_arr hR 1
    have f2 := frozen_of_arr hR 2
    have f3 := frozen_of_arr hR 3
    have HR := Lib.hid hR
    have H3 := Lib.hid h3
    clear hR h3
    go_wp2
    (try simp only [Exit.inBlock, Exit.then])
    refine bodyPost_ret (results_cell_tmp_row rfl _ _ w.heap.size 41 _ (0, 0) _ rfl (set4n HR.out _ _ _ _) Tryz.underlying41 rfl sizeWrap) rfl ?_
    have hB : Below w.heap.size w w2 := ((Below.refl _ _).alloc (Nat.le_refl _) _).trans (H3.out.mono (by omega))
    have hbf := fun v0 v1 v2 v3 => (((hB.setCell (p := ⟨w.heap.size, 0, none⟩) (Nat.le_refl _) v0).setCell (p := ⟨w.heap.size, 1, none⟩) (Nat.le_refl _) v1).setCell (p := ⟨w.heap.size, 2, none⟩) (Nat.le_refl _) v2).setCell (p := ⟨w.heap.size, 3, none⟩) (Nat.le_refl _) v3
    unfold WpA
    rw [HW.out]
    exact ⟨_, fun _ => False, rfl, segs_nil _ _, fun b hb => hb.elim, hbf _ _ _ _⟩
end Go.Proofs.YtjlifjgljejabaaGreatDoor
