/- The walk of the law ShaPieces where there are no bytes, and where there are too many, over the translated program. -/
import Derived.Test.YtppbdjgpkcpppaaDoorShaPiecesW
namespace Go.Proofs.YtppbdjgpkcpppaaDoor
open Go.RowKit Go.Sha

@[local go_sem high, local simp high] theorem z25z (w : World) : (zeroValue 25).run Tryd.prog w = .ok (.agg (bv (zl 32))) w := by kernel_rfl
theorem byt0 (w : World) (g : Nat) (p : Option Addr) : Byt w g (.slice p 0 0) [] := ⟨p, 0, rfl, by decide, fun h => by simp at h⟩

set_option maxRecDepth 100000 in
set_option maxHeartbeats 3200000 in
theorem pieces_zero (cs : List Int) (capc : Nat) (p pc : Option Addr) (w : World) (hG : Gl w) (_hcc : cs.length ≤ capc) (_hccm : capc ≤ maxLen) (hci : Ints w pc cs) (hcb : ∀ j, -9223372036854775808 ≤ cs.getD j 0 ∧ cs.getD j 0 ≤ 9223372036854775807)
    (h2 : cs.length ≤ 400) :
    Calls Tryd.prog 7 #[.slice p 0 0, .slice pc cs.length capc] w fun e w' => e = .returned (.bool true) ∧ Below w.heap.size w w' := by
  have HG := Lib.hid hG; clear hG
  have HCI := Lib.hid hci; clear hci
  have HCB := Lib.hid hcb; clear hcb
  have hs := HG.out.size
  have HSH := Lib.hid (show sumL hs0 = shaL [] from by unfold shaL; rw [putL_nil])
  have HI25 := Lib.hid (show (Tryd.prog.info? 25).map (·.size) = some (bv (shaL [])).size by rw [bv_size, shaL_len]; exact info25)
  unfold maxLen at _hccm
  obtain ⟨N, hN⟩ : ∃ N, N = cs.length := ⟨_, rfl⟩
  rw [← hN] at _hcc h2 ⊢
  have HN := Lib.hid hN; clear hN
  have t2b : decide ((400 : Int) < (N : Int)) = false := by simp; omega
  have l0 : ∀ (a : Addr) (w : World), (loadCellsFrom a 0 0 #[]).run Tryd.prog w = .ok #[] w := fun _ _ => rfl
  go_enter Tryd.func7, Tryd.ntmps7
  go_wp2_with fail
  refine (new_any _ HG.out).mono ?_
  rintro e w1 ⟨rfl, rfl⟩
  go_wp2_with fail
  go_loopw [6, 7, 8, 9, 10] (fun at_ i _ _ _ wr => ∃ j : Nat, j ≤ N ∧ at_ = .int .i64 0 ∧ i = .int .i64 j ∧ wr.heap[w.heap.size]? = some (.cells hs0.cells 45 (0, 0)) ∧ Below w.heap.size w wr) (fun _ i _ _ _ _ => N - (intOf i).toNat)
  case atStart => exact ⟨0, Nat.zero_le _, rfl, rfl, heap_last _ _ _ rfl, (Below.refl _ _).alloc (Nat.le_refl _) _⟩
  case round =>
    obtain ⟨j, hj, rfl, rfl, hh, hb⟩ := hrel
    have HH := Lib.hid hh; clear hh
    have HB := Lib.hid hb; clear hb
    have hwr : w.heap.size < wr.heap.size := (Array.getElem?_eq_some_iff.1 HH.out).1
    by_cases hjn : j < N
    · obtain ⟨cb, co, rfl, hcb1, hcb2⟩ := HCI.out (by rw [← HN.out]; omega)
      have c0 : wr.cell? ⟨cb, co + j, none⟩ = some (.int .i64 (cs.getD j 0)) := (HB.out.cell (p := ⟨cb, co + j, none⟩) hcb1).trans (hcb2 j (by rw [← HN.out]; exact hjn))
      obtain ⟨b1, b2⟩ := HCB.out j
      clear hcb2
      generalize cs.getD j 0 = c at *
      have HC3 := Lib.hid (show ∀ w', Below w.heap.size w w' → w'.cell? ⟨cb, co + j, none⟩ = some (.int .i64 c) from fun w' hb => (hb.cell (p := ⟨cb, co + j, none⟩) hcb1).trans ((HB.out.cell (p := ⟨cb, co + j, none⟩) hcb1).symm.trans c0))
      have tm : c.tmod 1 = 0 := Int.tmod_one c
      rcases p with _ | a0
      · go_wp2_with fail
        refine (write_any w.heap.size hs0 [] _ wr hs0_ok (by intro x hx; simp at hx) (by decide) (HG.out.below hs HB.out) (by omega) HH.out (byt0 _ _ _)).mono ?_
        rw [putL_nil]
        rintro e w3 ⟨rfl, hh3, hgr3⟩
        have HH3 := Lib.hid hh3; clear hh3
        have HB3 := Lib.hid (show Below w.heap.size w w3 from HB.out.trans ⟨hgr3.os, hgr3.tape, hgr3.output, hgr3.size, fun q hq => hgr3.block q (by omega) (by simp; omega)⟩)
        clear hgr3 c0
        go_wp2_with fail
        refine wp_loop_rounds 1 ?_
        rw [rounds_succ]
        go_wp2_with fail
        by_cases h3 : c.tmod 3 = 0
        · refine wp_region_held (S := TP w (w.heap.size) hs0) (by kernel_rfl) ?_
          change wpAnyH _ _ _ _ _ _ _ _ (World.drew _)
          have HS0 := Lib.hid (show TP w (w.heap.size) hs0 w3.drew from ⟨HH3.out, HB3.out.drew, HG.out.below hs HB3.out.drew⟩)
          generalize w3.drew = w0 at *
          refine wpAnyH_take (i := 0) (oi := ⟨some 64, .move (.tmp 1), _, _, _, none⟩) (v := .slice (some ⟨cb, co, none⟩) N capc) rfl (by kernel_rfl) (by kernel_rfl) (by kernel_rfl) (fun _ _ _ h => h) (Or.inl ⟨by rfl, fun w' hS => by go_simp⟩) HS0.out ?_
          simp only [Act.put, List.setIfInBounds_toArray, List.set_cons_zero, List.set_cons_succ]
          refine wpAnyH_take (i := 1) (oi := ⟨some 65, .move (.tmp 7), _, _, _, none⟩) (v := .int .i64 j) rfl (by kernel_rfl) (by kernel_rfl) (by kernel_rfl) (fun _ _ _ h => h) (Or.inl ⟨by rfl, fun w' hS => by go_simp⟩) HS0.out ?_
          simp only [Act.put, List.setIfInBounds_toArray, List.set_cons_zero, List.set_cons_succ]
          refine wpAnyH_take (i := 2) (oi := ⟨some 66, .indexAddr 34 (.tmp 64) (.tmp 65), _, _, _, none⟩) (v := .pointer (some ⟨cb, co + j, none⟩)) rfl (by kernel_rfl) (by kernel_rfl) (by kernel_rfl) (fun _ _ _ h => h) (Or.inl ⟨by rfl, fun w' hS => by go_simp⟩) HS0.out ?_
          simp only [Act.put, List.setIfInBounds_toArray, List.set_cons_zero, List.set_cons_succ]
          refine wpAnyH_take (i := 3) (oi := ⟨some 67, .load 3 (.tmp 66), _, _, _, none⟩) (v := .int .i64 c) rfl (by kernel_rfl) (by kernel_rfl) (by kernel_rfl) (fun _ _ _ h => h) (Or.inl ⟨by rfl, fun w' hS => by have hc3 := HC3.out w' hS.2.1; go_simp⟩) HS0.out ?_
          simp only [Act.put, List.setIfInBounds_toArray, List.set_cons_zero, List.set_cons_succ]
          refine wpAnyH_take (i := 4) (oi := ⟨some 68, .binOp .rem 3 (.tmp 67) (.const (.int .i64 3)) 3, _, _, _, none⟩) (v := .int .i64 (c.tmod 3)) rfl (by kernel_rfl) (by kernel_rfl) (by kernel_rfl) (fun _ _ _ h => h) (Or.inl ⟨by rfl, fun w' hS => by go_simp⟩) HS0.out ?_
          simp only [Act.put, List.setIfInBounds_toArray, List.set_cons_zero, List.set_cons_succ]
          refine wpAnyH_take (i := 5) (oi := ⟨some 69, .binOp .eql 3 (.tmp 68) (.const (.int .i64 0)) 3, _, _, _, none⟩) (v := .bool true) rfl (by kernel_rfl) (by kernel_rfl) (by kernel_rfl) (fun _ _ _ h => h) (Or.inl ⟨by rfl, fun w' hS => by rw [h3]; go_simp⟩) HS0.out ?_
          simp only [Act.put, List.setIfInBounds_toArray, List.set_cons_zero, List.set_cons_succ]
          refine wpAnyH_take (i := 6) (oi := ⟨some 70, .move (.tmp 69), _, _, _, none⟩) (v := .bool true) rfl (by kernel_rfl) (by kernel_rfl) (by kernel_rfl) (fun _ _ _ h => h) (Or.inl ⟨by rfl, fun w' hS => by go_simp⟩) HS0.out ?_
          simp only [Act.put, List.setIfInBounds_toArray, List.set_cons_zero, List.set_cons_succ]
          refine wpAnyH_take (i := 7) (oi := ⟨some 71, .move (.tmp 5), _, _, _, some (6, true)⟩) (v := .pointer (some ⟨w.heap.size, 0, none⟩)) rfl (by kernel_rfl) (by kernel_rfl) (by kernel_rfl) (fun _ _ _ h => h) (Or.inl ⟨by rfl, fun w' hS => by go_simp⟩) HS0.out ?_
          simp only [Act.put, List.setIfInBounds_toArray, List.set_cons_zero, List.set_cons_succ]
          refine wpAnyH_take (i := 9) (oi := ⟨some 73, .move (.tmp 0), _, _, _, some (6, true)⟩) (v := .slice none 0 0) rfl (by kernel_rfl) (by kernel_rfl) (by kernel_rfl) (fun _ _ _ h => h) (Or.inl ⟨by rfl, fun w' hS => by go_simp⟩) HS0.out ?_
          simp only [Act.put, List.setIfInBounds_toArray, List.set_cons_zero, List.set_cons_succ]
          refine wpAnyH_take (i := 10) (oi := ⟨some 74, .move (.tmp 6), _, _, _, some (6, true)⟩) (v := .int .i64 0) rfl (by kernel_rfl) (by kernel_rfl) (by kernel_rfl) (fun _ _ _ h => h) (Or.inl ⟨by rfl, fun w' hS => by go_simp⟩) HS0.out ?_
          simp only [Act.put, List.setIfInBounds_toArray, List.set_cons_zero, List.set_cons_succ]
          refine wpAnyH_take (i := 11) (oi := ⟨some 75, .slice 22 (.tmp 73) none (some (.tmp 74)) none, _, _, _, some (6, true)⟩) (v := .slice none 0 0) rfl (by kernel_rfl) (by kernel_rfl) (by kernel_rfl) (fun _ _ _ h => h) (Or.inl ⟨by rfl, fun w' hS => by go_simp⟩) HS0.out ?_
          simp only [Act.put, List.setIfInBounds_toArray, List.set_cons_zero, List.set_cons_succ]
          refine wpAnyH_ready (rs := [8]) (by kernel_rfl) (by simp) (AllReadyH.cons (o := ⟨some 72, .call ⟨.value (.func 15), #[.tmp 71], _⟩, _, _, _, some (6, true)⟩) rfl (fun K hK => ?_) AllReadyH.nil)
          go_simp
          refine (sum_any w.heap.size _ _ hs0_ok (by decide) HS0.out.2.2 HS0.out.1).mono ?_
          rw [HSH.out]
          rintro e w1 ⟨rfl, hbel⟩
          have HS1 := Lib.hid (TP_below HS0.out hbel)
          clear hbel
          refine hK.out _ _ HS1.out (fun _ => ?_)
          clear hK K
          refine wpAnyH_ready (rs := [12]) (by kernel_rfl) (by simp) (AllReadyH.cons (o := ⟨some 76, .call ⟨.value (.func 9), #[.tmp 75], _⟩, _, _, _, some (6, true)⟩) rfl (fun K hK => ?_) AllReadyH.nil)
          go_simp
          refine (of_any [] _ _ (by intro x hx; simp at hx) (by decide) HS1.out.2.2 ⟨none, 0, rfl, by decide, fun h => by simp at h⟩).mono ?_
          rintro e w2 ⟨rfl, hbel⟩
          have HS2 := Lib.hid (TP_below HS1.out hbel)
          clear hbel
          refine hK.out _ _ HS2.out (fun _ => ?_)
          clear hK K
          refine wpAnyH_take (i := 13) (oi := ⟨some 77, .binOp .neq 25 (.tmp 72) (.tmp 76) 25, _, _, _, some (6, true)⟩) (v := .bool false) rfl (by kernel_rfl) (by kernel_rfl) (by kernel_rfl) (fun _ _ _ h => h) (yi_neq_same (by rfl) 25 25 (.tmp 72) (.tmp 76) rfl 5 32 (shaL []) Tryd.underlying25 Tryd.underlying5 cells5 guard25 rfl rfl (shaL_len _)) HS2.out ?_
          simp only [Act.put, List.setIfInBounds_toArray, List.set_cons_zero, List.set_cons_succ]
          refine wpAnyH_take (i := 14) (oi := ⟨some 78, .pick (.tmp 70) (.tmp 77) (.const (.bool false)), _, _, _, none⟩) (v := .bool false) rfl (by kernel_rfl) (by kernel_rfl) (by kernel_rfl) (fun _ _ _ h => h) (Or.inl ⟨by rfl, fun w' hS => by go_simp⟩) HS2.out ?_
          simp only [Act.put, List.setIfInBounds_toArray, List.set_cons_zero, List.set_cons_succ]
          refine wpAnyH_done (by kernel_rfl) ?_ _
          go_wp2_with fail
          exact ⟨⟨j + 1, by omega, rfl, by go_num, HS2.out.1, HS2.out.2.1⟩, by simp [intOf]; omega⟩
        · refine wp_region_held (S := TP w (w.heap.size) hs0) (by kernel_rfl) ?_
          change wpAnyH _ _ _ _ _ _ _ _ (World.drew _)
          have HS0 := Lib.hid (show TP w (w.heap.size) hs0 w3.drew from ⟨HH3.out, HB3.out.drew, HG.out.below hs HB3.out.drew⟩)
          generalize w3.drew = w0 at *
          refine wpAnyH_take (i := 0) (oi := ⟨some 64, .move (.tmp 1), _, _, _, none⟩) (v := .slice (some ⟨cb, co, none⟩) N capc) rfl (by kernel_rfl) (by kernel_rfl) (by kernel_rfl) (fun _ _ _ h => h) (Or.inl ⟨by rfl, fun w' hS => by go_simp⟩) HS0.out ?_
          simp only [Act.put, List.setIfInBounds_toArray, List.set_cons_zero, List.set_cons_succ]
          refine wpAnyH_take (i := 1) (oi := ⟨some 65, .move (.tmp 7), _, _, _, none⟩) (v := .int .i64 j) rfl (by kernel_rfl) (by kernel_rfl) (by kernel_rfl) (fun _ _ _ h => h) (Or.inl ⟨by rfl, fun w' hS => by go_simp⟩) HS0.out ?_
          simp only [Act.put, List.setIfInBounds_toArray, List.set_cons_zero, List.set_cons_succ]
          refine wpAnyH_take (i := 2) (oi := ⟨some 66, .indexAddr 34 (.tmp 64) (.tmp 65), _, _, _, none⟩) (v := .pointer (some ⟨cb, co + j, none⟩)) rfl (by kernel_rfl) (by kernel_rfl) (by kernel_rfl) (fun _ _ _ h => h) (Or.inl ⟨by rfl, fun w' hS => by go_simp⟩) HS0.out ?_
          simp only [Act.put, List.setIfInBounds_toArray, List.set_cons_zero, List.set_cons_succ]
          refine wpAnyH_take (i := 3) (oi := ⟨some 67, .load 3 (.tmp 66), _, _, _, none⟩) (v := .int .i64 c) rfl (by kernel_rfl) (by kernel_rfl) (by kernel_rfl) (fun _ _ _ h => h) (Or.inl ⟨by rfl, fun w' hS => by have hc3 := HC3.out w' hS.2.1; go_simp⟩) HS0.out ?_
          simp only [Act.put, List.setIfInBounds_toArray, List.set_cons_zero, List.set_cons_succ]
          refine wpAnyH_take (i := 4) (oi := ⟨some 68, .binOp .rem 3 (.tmp 67) (.const (.int .i64 3)) 3, _, _, _, none⟩) (v := .int .i64 (c.tmod 3)) rfl (by kernel_rfl) (by kernel_rfl) (by kernel_rfl) (fun _ _ _ h => h) (Or.inl ⟨by rfl, fun w' hS => by go_simp⟩) HS0.out ?_
          simp only [Act.put, List.setIfInBounds_toArray, List.set_cons_zero, List.set_cons_succ]
          refine wpAnyH_take (i := 5) (oi := ⟨some 69, .binOp .eql 3 (.tmp 68) (.const (.int .i64 0)) 3, _, _, _, none⟩) (v := .bool false) rfl (by kernel_rfl) (by kernel_rfl) (by kernel_rfl) (fun _ _ _ h => h) (Or.inl ⟨by rfl, fun w' hS => by have h3b : (c.tmod 3 == 0) = false := (by simpa using h3); go_simp⟩) HS0.out ?_
          simp only [Act.put, List.setIfInBounds_toArray, List.set_cons_zero, List.set_cons_succ]
          refine wpAnyH_take (i := 6) (oi := ⟨some 70, .move (.tmp 69), _, _, _, none⟩) (v := .bool false) rfl (by kernel_rfl) (by kernel_rfl) (by kernel_rfl) (fun _ _ _ h => h) (Or.inl ⟨by rfl, fun w' hS => by go_simp⟩) HS0.out ?_
          simp only [Act.put, List.setIfInBounds_toArray, List.set_cons_zero, List.set_cons_succ]
          refine wpAnyH_take (i := 7) (oi := ⟨some 71, .move (.tmp 5), _, _, _, some (6, true)⟩) (v := undef) rfl (by kernel_rfl) (by kernel_rfl) (by kernel_rfl) (fun _ _ _ h => h) (Or.inr ⟨by rfl, rfl⟩) HS0.out ?_
          simp only [Act.put, List.setIfInBounds_toArray, List.set_cons_zero, List.set_cons_succ]
          refine wpAnyH_take (i := 8) (oi := ⟨some 72, .call ⟨.value (.func 15), #[.tmp 71], _⟩, _, _, _, some (6, true)⟩) (v := undef) rfl (by kernel_rfl) (by kernel_rfl) (by kernel_rfl) (fun _ _ _ h => h) (Or.inr ⟨by rfl, rfl⟩) HS0.out ?_
          simp only [Act.put, List.setIfInBounds_toArray, List.set_cons_zero, List.set_cons_succ]
          refine wpAnyH_take (i := 9) (oi := ⟨some 73, .move (.tmp 0), _, _, _, some (6, true)⟩) (v := undef) rfl (by kernel_rfl) (by kernel_rfl) (by kernel_rfl) (fun _ _ _ h => h) (Or.inr ⟨by rfl, rfl⟩) HS0.out ?_
          simp only [Act.put, List.setIfInBounds_toArray, List.set_cons_zero, List.set_cons_succ]
          refine wpAnyH_take (i := 10) (oi := ⟨some 74, .move (.tmp 6), _, _, _, some (6, true)⟩) (v := undef) rfl (by kernel_rfl) (by kernel_rfl) (by kernel_rfl) (fun _ _ _ h => h) (Or.inr ⟨by rfl, rfl⟩) HS0.out ?_
          simp only [Act.put, List.setIfInBounds_toArray, List.set_cons_zero, List.set_cons_succ]
          refine wpAnyH_take (i := 11) (oi := ⟨some 75, .slice 22 (.tmp 73) none (some (.tmp 74)) none, _, _, _, some (6, true)⟩) (v := undef) rfl (by kernel_rfl) (by kernel_rfl) (by kernel_rfl) (fun _ _ _ h => h) (Or.inr ⟨by rfl, rfl⟩) HS0.out ?_
          simp only [Act.put, List.setIfInBounds_toArray, List.set_cons_zero, List.set_cons_succ]
          refine wpAnyH_take (i := 12) (oi := ⟨some 76, .call ⟨.value (.func 9), #[.tmp 75], _⟩, _, _, _, some (6, true)⟩) (v := undef) rfl (by kernel_rfl) (by kernel_rfl) (by kernel_rfl) (fun _ _ _ h => h) (Or.inr ⟨by rfl, rfl⟩) HS0.out ?_
          simp only [Act.put, List.setIfInBounds_toArray, List.set_cons_zero, List.set_cons_succ]
          refine wpAnyH_take (i := 13) (oi := ⟨some 77, .binOp .neq 25 (.tmp 72) (.tmp 76) 25, _, _, _, some (6, true)⟩) (v := undef) rfl (by kernel_rfl) (by kernel_rfl) (by kernel_rfl) (fun _ _ _ h => h) (Or.inr ⟨by rfl, rfl⟩) HS0.out ?_
          simp only [Act.put, List.setIfInBounds_toArray, List.set_cons_zero, List.set_cons_succ]
          refine wpAnyH_take (i := 14) (oi := ⟨some 78, .pick (.tmp 70) (.tmp 77) (.const (.bool false)), _, _, _, none⟩) (v := .bool false) rfl (by kernel_rfl) (by kernel_rfl) (by kernel_rfl) (fun _ _ _ h => h) (Or.inl ⟨by rfl, fun w' hS => by go_simp⟩) HS0.out ?_
          simp only [Act.put, List.setIfInBounds_toArray, List.set_cons_zero, List.set_cons_succ]
          refine wpAnyH_done (by kernel_rfl) ?_ _
          go_wp2_with fail
          exact ⟨⟨j + 1, by omega, rfl, by go_num, HS0.out.1, HS0.out.2.1⟩, by simp [intOf]; omega⟩
      · go_wp2_with fail
        refine (write_any w.heap.size hs0 [] _ wr hs0_ok (by intro x hx; simp at hx) (by decide) (HG.out.below hs HB.out) (by omega) HH.out (byt0 _ _ _)).mono ?_
        rw [putL_nil]
        rintro e w3 ⟨rfl, hh3, hgr3⟩
        have HH3 := Lib.hid hh3; clear hh3
        have HB3 := Lib.hid (show Below w.heap.size w w3 from HB.out.trans ⟨hgr3.os, hgr3.tape, hgr3.output, hgr3.size, fun q hq => hgr3.block q (by omega) (by simp; omega)⟩)
        clear hgr3 c0
        go_wp2_with fail
        refine wp_loop_rounds 1 ?_
        rw [rounds_succ]
        go_wp2_with fail
        by_cases h3 : c.tmod 3 = 0
        · refine wp_region_held (S := TP w (w.heap.size) hs0) (by kernel_rfl) ?_
          change wpAnyH _ _ _ _ _ _ _ _ (World.drew _)
          have HS0 := Lib.hid (show TP w (w.heap.size) hs0 w3.drew from ⟨HH3.out, HB3.out.drew, HG.out.below hs HB3.out.drew⟩)
          generalize w3.drew = w0 at *
          refine wpAnyH_take (i := 0) (oi := ⟨some 64, .move (.tmp 1), _, _, _, none⟩) (v := .slice (some ⟨cb, co, none⟩) N capc) rfl (by kernel_rfl) (by kernel_rfl) (by kernel_rfl) (fun _ _ _ h => h) (Or.inl ⟨by rfl, fun w' hS => by go_simp⟩) HS0.out ?_
          simp only [Act.put, List.setIfInBounds_toArray, List.set_cons_zero, List.set_cons_succ]
          refine wpAnyH_take (i := 1) (oi := ⟨some 65, .move (.tmp 7), _, _, _, none⟩) (v := .int .i64 j) rfl (by kernel_rfl) (by kernel_rfl) (by kernel_rfl) (fun _ _ _ h => h) (Or.inl ⟨by rfl, fun w' hS => by go_simp⟩) HS0.out ?_
          simp only [Act.put, List.setIfInBounds_toArray, List.set_cons_zero, List.set_cons_succ]
          refine wpAnyH_take (i := 2) (oi := ⟨some 66, .indexAddr 34 (.tmp 64) (.tmp 65), _, _, _, none⟩) (v := .pointer (some ⟨cb, co + j, none⟩)) rfl (by kernel_rfl) (by kernel_rfl) (by kernel_rfl) (fun _ _ _ h => h) (Or.inl ⟨by rfl, fun w' hS => by go_simp⟩) HS0.out ?_
          simp only [Act.put, List.setIfInBounds_toArray, List.set_cons_zero, List.set_cons_succ]
          refine wpAnyH_take (i := 3) (oi := ⟨some 67, .load 3 (.tmp 66), _, _, _, none⟩) (v := .int .i64 c) rfl (by kernel_rfl) (by kernel_rfl) (by kernel_rfl) (fun _ _ _ h => h) (Or.inl ⟨by rfl, fun w' hS => by have hc3 := HC3.out w' hS.2.1; go_simp⟩) HS0.out ?_
          simp only [Act.put, List.setIfInBounds_toArray, List.set_cons_zero, List.set_cons_succ]
          refine wpAnyH_take (i := 4) (oi := ⟨some 68, .binOp .rem 3 (.tmp 67) (.const (.int .i64 3)) 3, _, _, _, none⟩) (v := .int .i64 (c.tmod 3)) rfl (by kernel_rfl) (by kernel_rfl) (by kernel_rfl) (fun _ _ _ h => h) (Or.inl ⟨by rfl, fun w' hS => by go_simp⟩) HS0.out ?_
          simp only [Act.put, List.setIfInBounds_toArray, List.set_cons_zero, List.set_cons_succ]
          refine wpAnyH_take (i := 5) (oi := ⟨some 69, .binOp .eql 3 (.tmp 68) (.const (.int .i64 0)) 3, _, _, _, none⟩) (v := .bool true) rfl (by kernel_rfl) (by kernel_rfl) (by kernel_rfl) (fun _ _ _ h => h) (Or.inl ⟨by rfl, fun w' hS => by rw [h3]; go_simp⟩) HS0.out ?_
          simp only [Act.put, List.setIfInBounds_toArray, List.set_cons_zero, List.set_cons_succ]
          refine wpAnyH_take (i := 6) (oi := ⟨some 70, .move (.tmp 69), _, _, _, none⟩) (v := .bool true) rfl (by kernel_rfl) (by kernel_rfl) (by kernel_rfl) (fun _ _ _ h => h) (Or.inl ⟨by rfl, fun w' hS => by go_simp⟩) HS0.out ?_
          simp only [Act.put, List.setIfInBounds_toArray, List.set_cons_zero, List.set_cons_succ]
          refine wpAnyH_take (i := 7) (oi := ⟨some 71, .move (.tmp 5), _, _, _, some (6, true)⟩) (v := .pointer (some ⟨w.heap.size, 0, none⟩)) rfl (by kernel_rfl) (by kernel_rfl) (by kernel_rfl) (fun _ _ _ h => h) (Or.inl ⟨by rfl, fun w' hS => by go_simp⟩) HS0.out ?_
          simp only [Act.put, List.setIfInBounds_toArray, List.set_cons_zero, List.set_cons_succ]
          refine wpAnyH_take (i := 9) (oi := ⟨some 73, .move (.tmp 0), _, _, _, some (6, true)⟩) (v := .slice (some a0) 0 0) rfl (by kernel_rfl) (by kernel_rfl) (by kernel_rfl) (fun _ _ _ h => h) (Or.inl ⟨by rfl, fun w' hS => by go_simp⟩) HS0.out ?_
          simp only [Act.put, List.setIfInBounds_toArray, List.set_cons_zero, List.set_cons_succ]
          refine wpAnyH_take (i := 10) (oi := ⟨some 74, .move (.tmp 6), _, _, _, some (6, true)⟩) (v := .int .i64 0) rfl (by kernel_rfl) (by kernel_rfl) (by kernel_rfl) (fun _ _ _ h => h) (Or.inl ⟨by rfl, fun w' hS => by go_simp⟩) HS0.out ?_
          simp only [Act.put, List.setIfInBounds_toArray, List.set_cons_zero, List.set_cons_succ]
          refine wpAnyH_take (i := 11) (oi := ⟨some 75, .slice 22 (.tmp 73) none (some (.tmp 74)) none, _, _, _, some (6, true)⟩) (v := .slice (some a0) 0 0) rfl (by kernel_rfl) (by kernel_rfl) (by kernel_rfl) (fun _ _ _ h => h) (Or.inl ⟨by rfl, fun w' hS => by go_simp⟩) HS0.out ?_
          simp only [Act.put, List.setIfInBounds_toArray, List.set_cons_zero, List.set_cons_succ]
          refine wpAnyH_ready (rs := [8]) (by kernel_rfl) (by simp) (AllReadyH.cons (o := ⟨some 72, .call ⟨.value (.func 15), #[.tmp 71], _⟩, _, _, _, some (6, true)⟩) rfl (fun K hK => ?_) AllReadyH.nil)
          go_simp
          refine (sum_any w.heap.size _ _ hs0_ok (by decide) HS0.out.2.2 HS0.out.1).mono ?_
          rw [HSH.out]
          rintro e w1 ⟨rfl, hbel⟩
          have HS1 := Lib.hid (TP_below HS0.out hbel)
          clear hbel
          refine hK.out _ _ HS1.out (fun _ => ?_)
          clear hK K
          refine wpAnyH_ready (rs := [12]) (by kernel_rfl) (by simp) (AllReadyH.cons (o := ⟨some 76, .call ⟨.value (.func 9), #[.tmp 75], _⟩, _, _, _, some (6, true)⟩) rfl (fun K hK => ?_) AllReadyH.nil)
          go_simp
          refine (of_any [] _ _ (by intro x hx; simp at hx) (by decide) HS1.out.2.2 ⟨some a0, 0, rfl, by decide, fun h => by simp at h⟩).mono ?_
          rintro e w2 ⟨rfl, hbel⟩
          have HS2 := Lib.hid (TP_below HS1.out hbel)
          clear hbel
          refine hK.out _ _ HS2.out (fun _ => ?_)
          clear hK K
          refine wpAnyH_take (i := 13) (oi := ⟨some 77, .binOp .neq 25 (.tmp 72) (.tmp 76) 25, _, _, _, some (6, true)⟩) (v := .bool false) rfl (by kernel_rfl) (by kernel_rfl) (by kernel_rfl) (fun _ _ _ h => h) (yi_neq_same (by rfl) 25 25 (.tmp 72) (.tmp 76) rfl 5 32 (shaL []) Tryd.underlying25 Tryd.underlying5 cells5 guard25 rfl rfl (shaL_len _)) HS2.out ?_
          simp only [Act.put, List.setIfInBounds_toArray, List.set_cons_zero, List.set_cons_succ]
          refine wpAnyH_take (i := 14) (oi := ⟨some 78, .pick (.tmp 70) (.tmp 77) (.const (.bool false)), _, _, _, none⟩) (v := .bool false) rfl (by kernel_rfl) (by kernel_rfl) (by kernel_rfl) (fun _ _ _ h => h) (Or.inl ⟨by rfl, fun w' hS => by go_simp⟩) HS2.out ?_
          simp only [Act.put, List.setIfInBounds_toArray, List.set_cons_zero, List.set_cons_succ]
          refine wpAnyH_done (by kernel_rfl) ?_ _
          go_wp2_with fail
          exact ⟨⟨j + 1, by omega, rfl, by go_num, HS2.out.1, HS2.out.2.1⟩, by simp [intOf]; omega⟩
        · refine wp_region_held (S := TP w (w.heap.size) hs0) (by kernel_rfl) ?_
          change wpAnyH _ _ _ _ _ _ _ _ (World.drew _)
          have HS0 := Lib.hid (show TP w (w.heap.size) hs0 w3.drew from ⟨HH3.out, HB3.out.drew, HG.out.below hs HB3.out.drew⟩)
          generalize w3.drew = w0 at *
          refine wpAnyH_take (i := 0) (oi := ⟨some 64, .move (.tmp 1), _, _, _, none⟩) (v := .slice (some ⟨cb, co, none⟩) N capc) rfl (by kernel_rfl) (by kernel_rfl) (by kernel_rfl) (fun _ _ _ h => h) (Or.inl ⟨by rfl, fun w' hS => by go_simp⟩) HS0.out ?_
          simp only [Act.put, List.setIfInBounds_toArray, List.set_cons_zero, List.set_cons_succ]
          refine wpAnyH_take (i := 1) (oi := ⟨some 65, .move (.tmp 7), _, _, _, none⟩) (v := .int .i64 j) rfl (by kernel_rfl) (by kernel_rfl) (by kernel_rfl) (fun _ _ _ h => h) (Or.inl ⟨by rfl, fun w' hS => by go_simp⟩) HS0.out ?_
          simp only [Act.put, List.setIfInBounds_toArray, List.set_cons_zero, List.set_cons_succ]
          refine wpAnyH_take (i := 2) (oi := ⟨some 66, .indexAddr 34 (.tmp 64) (.tmp 65), _, _, _, none⟩) (v := .pointer (some ⟨cb, co + j, none⟩)) rfl (by kernel_rfl) (by kernel_rfl) (by kernel_rfl) (fun _ _ _ h => h) (Or.inl ⟨by rfl, fun w' hS => by go_simp⟩) HS0.out ?_
          simp only [Act.put, List.setIfInBounds_toArray, List.set_cons_zero, List.set_cons_succ]
          refine wpAnyH_take (i := 3) (oi := ⟨some 67, .load 3 (.tmp 66), _, _, _, none⟩) (v := .int .i64 c) rfl (by kernel_rfl) (by kernel_rfl) (by kernel_rfl) (fun _ _ _ h => h) (Or.inl ⟨by rfl, fun w' hS => by have hc3 := HC3.out w' hS.2.1; go_simp⟩) HS0.out ?_
          simp only [Act.put, List.setIfInBounds_toArray, List.set_cons_zero, List.set_cons_succ]
          refine wpAnyH_take (i := 4) (oi := ⟨some 68, .binOp .rem 3 (.tmp 67) (.const (.int .i64 3)) 3, _, _, _, none⟩) (v := .int .i64 (c.tmod 3)) rfl (by kernel_rfl) (by kernel_rfl) (by kernel_rfl) (fun _ _ _ h => h) (Or.inl ⟨by rfl, fun w' hS => by go_simp⟩) HS0.out ?_
          simp only [Act.put, List.setIfInBounds_toArray, List.set_cons_zero, List.set_cons_succ]
          refine wpAnyH_take (i := 5) (oi := ⟨some 69, .binOp .eql 3 (.tmp 68) (.const (.int .i64 0)) 3, _, _, _, none⟩) (v := .bool false) rfl (by kernel_rfl) (by kernel_rfl) (by kernel_rfl) (fun _ _ _ h => h) (Or.inl ⟨by rfl, fun w' hS => by have h3b : (c.tmod 3 == 0) = false := (by simpa using h3); go_simp⟩) HS0.out ?_
          simp only [Act.put, List.setIfInBounds_toArray, List.set_cons_zero, List.set_cons_succ]
          refine wpAnyH_take (i := 6) (oi := ⟨some 70, .move (.tmp 69), _, _, _, none⟩) (v := .bool false) rfl (by kernel_rfl) (by kernel_rfl) (by kernel_rfl) (fun _ _ _ h => h) (Or.inl ⟨by rfl, fun w' hS => by go_simp⟩) HS0.out ?_
          simp only [Act.put, List.setIfInBounds_toArray, List.set_cons_zero, List.set_cons_succ]
          refine wpAnyH_take (i := 7) (oi := ⟨some 71, .move (.tmp 5), _, _, _, some (6, true)⟩) (v := undef) rfl (by kernel_rfl) (by kernel_rfl) (by kernel_rfl) (fun _ _ _ h => h) (Or.inr ⟨by rfl, rfl⟩) HS0.out ?_
          simp only [Act.put, List.setIfInBounds_toArray, List.set_cons_zero, List.set_cons_succ]
          refine wpAnyH_take (i := 8) (oi := ⟨some 72, .call ⟨.value (.func 15), #[.tmp 71], _⟩, _, _, _, some (6, true)⟩) (v := undef) rfl (by kernel_rfl) (by kernel_rfl) (by kernel_rfl) (fun _ _ _ h => h) (Or.inr ⟨by rfl, rfl⟩) HS0.out ?_
          simp only [Act.put, List.setIfInBounds_toArray, List.set_cons_zero, List.set_cons_succ]
          refine wpAnyH_take (i := 9) (oi := ⟨some 73, .move (.tmp 0), _, _, _, some (6, true)⟩) (v := undef) rfl (by kernel_rfl) (by kernel_rfl) (by kernel_rfl) (fun _ _ _ h => h) (Or.inr ⟨by rfl, rfl⟩) HS0.out ?_
          simp only [Act.put, List.setIfInBounds_toArray, List.set_cons_zero, List.set_cons_succ]
          refine wpAnyH_take (i := 10) (oi := ⟨some 74, .move (.tmp 6), _, _, _, some (6, true)⟩) (v := undef) rfl (by kernel_rfl) (by kernel_rfl) (by kernel_rfl) (fun _ _ _ h => h) (Or.inr ⟨by rfl, rfl⟩) HS0.out ?_
          simp only [Act.put, List.setIfInBounds_toArray, List.set_cons_zero, List.set_cons_succ]
          refine wpAnyH_take (i := 11) (oi := ⟨some 75, .slice 22 (.tmp 73) none (some (.tmp 74)) none, _, _, _, some (6, true)⟩) (v := undef) rfl (by kernel_rfl) (by kernel_rfl) (by kernel_rfl) (fun _ _ _ h => h) (Or.inr ⟨by rfl, rfl⟩) HS0.out ?_
          simp only [Act.put, List.setIfInBounds_toArray, List.set_cons_zero, List.set_cons_succ]
          refine wpAnyH_take (i := 12) (oi := ⟨some 76, .call ⟨.value (.func 9), #[.tmp 75], _⟩, _, _, _, some (6, true)⟩) (v := undef) rfl (by kernel_rfl) (by kernel_rfl) (by kernel_rfl) (fun _ _ _ h => h) (Or.inr ⟨by rfl, rfl⟩) HS0.out ?_
          simp only [Act.put, List.setIfInBounds_toArray, List.set_cons_zero, List.set_cons_succ]
          refine wpAnyH_take (i := 13) (oi := ⟨some 77, .binOp .neq 25 (.tmp 72) (.tmp 76) 25, _, _, _, some (6, true)⟩) (v := undef) rfl (by kernel_rfl) (by kernel_rfl) (by kernel_rfl) (fun _ _ _ h => h) (Or.inr ⟨by rfl, rfl⟩) HS0.out ?_
          simp only [Act.put, List.setIfInBounds_toArray, List.set_cons_zero, List.set_cons_succ]
          refine wpAnyH_take (i := 14) (oi := ⟨some 78, .pick (.tmp 70) (.tmp 77) (.const (.bool false)), _, _, _, none⟩) (v := .bool false) rfl (by kernel_rfl) (by kernel_rfl) (by kernel_rfl) (fun _ _ _ h => h) (Or.inl ⟨by rfl, fun w' hS => by go_simp⟩) HS0.out ?_
          simp only [Act.put, List.setIfInBounds_toArray, List.set_cons_zero, List.set_cons_succ]
          refine wpAnyH_done (by kernel_rfl) ?_ _
          go_wp2_with fail
          exact ⟨⟨j + 1, by omega, rfl, by go_num, HS0.out.1, HS0.out.2.1⟩, by simp [intOf]; omega⟩
    · rcases p with _ | a0
      · go_wp2_with fail
        refine (write_any w.heap.size hs0 [] _ wr hs0_ok (by intro x hx; simp at hx) (by decide) (HG.out.below hs HB.out) (by omega) HH.out (byt0 _ _ _)).mono ?_
        rw [putL_nil]
        rintro e w3 ⟨rfl, hh3, hgr3⟩
        have HH3 := Lib.hid hh3; clear hh3
        have HB3 := Lib.hid (show Below w.heap.size w w3 from HB.out.trans ⟨hgr3.os, hgr3.tape, hgr3.output, hgr3.size, fun q hq => hgr3.block q (by omega) (by simp; omega)⟩)
        clear hgr3
        go_wp2_with fail
        refine (sum_any w.heap.size _ w3 hs0_ok (by decide) (HG.out.below hs HB3.out) HH3.out).mono ?_
        rw [HSH.out]
        rintro e w4 ⟨rfl, hb4⟩
        have HB4 := Lib.hid (HB3.out.trans (hb4.mono HB3.out.size))
        have HH4 := Lib.hid ((hb4.block _ (Array.getElem?_eq_some_iff.1 HH3.out).1).trans HH3.out)
        clear hb4
        go_wp2_with (first
          | ((with_reducible refine wl_storeL (ty := 25) w4.heap.size (bv (shaL [])) ?_ ?_ ?_ ?_ ?_ ?_ ?_); (· rfl); (· rfl); (· rfl); (· exact HI25.out); (· rw [bv_size, bv_size, shaL_len, zl_len]); (· exact bv_one _)))
        refine wp_region_held (S := TQ w w.heap.size hs0 w4.heap.size (shaL [])) (by kernel_rfl) ?_
        change wpAnyH _ _ _ _ _ _ _ _ (World.drew _)
        have HS0 := Lib.hid (show TQ w w.heap.size hs0 w4.heap.size (shaL []) (w4.alloc (.cells (bv (shaL [])) 25)).drew from ⟨heap_last _ _ _ rfl, (heap_prev _ _ _ (Array.getElem?_eq_some_iff.1 HH4.out).1).trans HH4.out, (HB4.out.alloc HB4.out.size _).drew, HG.out.below hs (HB4.out.alloc HB4.out.size _).drew⟩)
        generalize (w4.alloc (.cells (bv (shaL [])) 25)).drew = w0 at *
        generalize w4.heap.size = x0 at *
        refine wpAnyH_take (i := 0) (oi := ⟨some 86, .load 25 (.tmp 11), _, _, _, none⟩) (v := .agg (bv (shaL []))) rfl (by kernel_rfl) (by kernel_rfl) (by kernel_rfl) (fun _ _ _ h => h) (yi_row' (by rfl) 25 (.tmp 11) rfl x0 (bv (shaL [])) 32 5 Tryd.underlying25 HI25.out rfl (fun _ h => ⟨_, _, h.1⟩)) HS0.out ?_
        simp only [Act.put, List.setIfInBounds_toArray, List.set_cons_zero, List.set_cons_succ]
        refine wpAnyH_take (i := 1) (oi := ⟨some 87, .move (.tmp 5), _, _, _, none⟩) (v := .pointer (some ⟨w.heap.size, 0, none⟩)) rfl (by kernel_rfl) (by kernel_rfl) (by kernel_rfl) (fun _ _ _ h => h) (Or.inl ⟨by rfl, fun w' hS => by go_simp⟩) HS0.out ?_
        simp only [Act.put, List.setIfInBounds_toArray, List.set_cons_zero, List.set_cons_succ]
        refine wpAnyH_ready (rs := [2]) (by kernel_rfl) (by simp) (AllReadyH.cons (o := ⟨some 88, .call ⟨.value (.func 15), #[.tmp 87], _⟩, _, _, _, none⟩) rfl (fun K hK => ?_) AllReadyH.nil)
        go_simp
        refine (sum_any w.heap.size _ _ hs0_ok (by decide) HS0.out.2.2.2 HS0.out.2.1).mono ?_
        rw [HSH.out]
        rintro e w1 ⟨rfl, hbel⟩
        have HS1 := Lib.hid (TQ_below HS0.out hbel)
        clear hbel
        refine hK.out _ _ HS1.out (fun _ => ?_)
        clear hK K
        refine wpAnyH_take (i := 3) (oi := ⟨some 89, .binOp .eql 25 (.tmp 86) (.tmp 88) 25, _, _, _, none⟩) (v := .bool true) rfl (by kernel_rfl) (by kernel_rfl) (by kernel_rfl) (fun _ _ _ h => h) (yi_eql_same (by rfl) 25 25 (.tmp 86) (.tmp 88) rfl 5 32 (shaL []) Tryd.underlying25 Tryd.underlying5 cells5 guard25 rfl rfl (shaL_len _)) HS1.out ?_
        simp only [Act.put, List.setIfInBounds_toArray, List.set_cons_zero, List.set_cons_succ]
        refine wpAnyH_take (i := 4) (oi := ⟨some 90, .move (.tmp 89), _, _, _, none⟩) (v := .bool true) rfl (by kernel_rfl) (by kernel_rfl) (by kernel_rfl) (fun _ _ _ h => h) (Or.inl ⟨by rfl, fun w' hS => by go_simp⟩) HS1.out ?_
        simp only [Act.put, List.setIfInBounds_toArray, List.set_cons_zero, List.set_cons_succ]
        refine wpAnyH_take (i := 5) (oi := ⟨some 91, .load 25 (.tmp 11), _, _, _, some (4, true)⟩) (v := .agg (bv (shaL []))) rfl (by kernel_rfl) (by kernel_rfl) (by kernel_rfl) (fun _ _ _ h => h) (yi_row' (by rfl) 25 (.tmp 11) rfl x0 (bv (shaL [])) 32 5 Tryd.underlying25 HI25.out rfl (fun _ h => ⟨_, _, h.1⟩)) HS1.out ?_
        simp only [Act.put, List.setIfInBounds_toArray, List.set_cons_zero, List.set_cons_succ]
        refine wpAnyH_take (i := 6) (oi := ⟨some 92, .move (.tmp 0), _, _, _, some (4, true)⟩) (v := .slice none 0 0) rfl (by kernel_rfl) (by kernel_rfl) (by kernel_rfl) (fun _ _ _ h => h) (Or.inl ⟨by rfl, fun w' hS => by go_simp⟩) HS1.out ?_
        simp only [Act.put, List.setIfInBounds_toArray, List.set_cons_zero, List.set_cons_succ]
        refine wpAnyH_ready (rs := [7]) (by kernel_rfl) (by simp) (AllReadyH.cons (o := ⟨some 93, .call ⟨.value (.func 9), #[.tmp 92], _⟩, _, _, _, some (4, true)⟩) rfl (fun K hK => ?_) AllReadyH.nil)
        go_simp
        refine (of_any [] _ _ (by intro x hx; simp at hx) (by decide) HS1.out.2.2.2 ⟨none, 0, rfl, by decide, fun h => by simp at h⟩).mono ?_
        rintro e w2 ⟨rfl, hbel⟩
        have HS2 := Lib.hid (TQ_below HS1.out hbel)
        clear hbel
        refine hK.out _ _ HS2.out (fun _ => ?_)
        clear hK K
        refine wpAnyH_take (i := 8) (oi := ⟨some 94, .binOp .eql 25 (.tmp 91) (.tmp 93) 25, _, _, _, some (4, true)⟩) (v := .bool true) rfl (by kernel_rfl) (by kernel_rfl) (by kernel_rfl) (fun _ _ _ h => h) (yi_eql_same (by rfl) 25 25 (.tmp 91) (.tmp 93) rfl 5 32 (shaL []) Tryd.underlying25 Tryd.underlying5 cells5 guard25 rfl rfl (shaL_len _)) HS2.out ?_
        simp only [Act.put, List.setIfInBounds_toArray, List.set_cons_zero, List.set_cons_succ]
        refine wpAnyH_take (i := 9) (oi := ⟨some 95, .pick (.tmp 90) (.tmp 94) (.const (.bool false)), _, _, _, none⟩) (v := .bool true) rfl (by kernel_rfl) (by kernel_rfl) (by kernel_rfl) (fun _ _ _ h => h) (Or.inl ⟨by rfl, fun w' hS => by go_simp⟩) HS2.out ?_
        simp only [Act.put, List.setIfInBounds_toArray, List.set_cons_zero, List.set_cons_succ]
        refine wpAnyH_take (i := 10) (oi := ⟨some 96, .move (.tmp 95), _, _, _, none⟩) (v := .bool true) rfl (by kernel_rfl) (by kernel_rfl) (by kernel_rfl) (fun _ _ _ h => h) (Or.inl ⟨by rfl, fun w' hS => by go_simp⟩) HS2.out ?_
        simp only [Act.put, List.setIfInBounds_toArray, List.set_cons_zero, List.set_cons_succ]
        refine wpAnyH_ready (rs := [11]) (by kernel_rfl) (by simp) (AllReadyH.cons (o := ⟨some 97, .call ⟨.value (.func 8), #[], _⟩, _, _, _, some (10, true)⟩) rfl (fun K hK => ?_) AllReadyH.nil)
        go_simp
        refine (wakes_any _ HS2.out.2.2.2).mono ?_
        rintro e w3 ⟨rfl, hbel⟩
        have HS3 := Lib.hid (TQ_below HS2.out hbel)
        clear hbel
        refine hK.out _ _ HS3.out (fun _ => ?_)
        clear hK K
        refine wpAnyH_take (i := 12) (oi := ⟨some 98, .pick (.tmp 96) (.tmp 97) (.const (.bool false)), _, _, _, none⟩) (v := .bool true) rfl (by kernel_rfl) (by kernel_rfl) (by kernel_rfl) (fun _ _ _ h => h) (Or.inl ⟨by rfl, fun w' hS => by go_simp⟩) HS3.out ?_
        simp only [Act.put, List.setIfInBounds_toArray, List.set_cons_zero, List.set_cons_succ]
        refine wpAnyH_take (i := 13) (oi := ⟨some 4, .assign (.tmp 98), _, _, _, none⟩) (v := .bool true) rfl (by kernel_rfl) (by kernel_rfl) (by kernel_rfl) (fun _ _ _ h => h) (Or.inl ⟨by rfl, fun w' hS => by go_simp⟩) HS3.out ?_
        simp only [Act.put, List.setIfInBounds_toArray, List.set_cons_zero, List.set_cons_succ]
        refine wpAnyH_done (by kernel_rfl) ?_ _
        go_wp2_with fail
        go_ret
        exact ⟨rfl, HS3.out.2.2.1⟩
      · go_wp2_with fail
        refine (write_any w.heap.size hs0 [] _ wr hs0_ok (by intro x hx; simp at hx) (by decide) (HG.out.below hs HB.out) (by omega) HH.out (byt0 _ _ _)).mono ?_
        rw [putL_nil]
        rintro e w3 ⟨rfl, hh3, hgr3⟩
        have HH3 := Lib.hid hh3; clear hh3
        have HB3 := Lib.hid (show Below w.heap.size w w3 from HB.out.trans ⟨hgr3.os, hgr3.tape, hgr3.output, hgr3.size, fun q hq => hgr3.block q (by omega) (by simp; omega)⟩)
        clear hgr3
        go_wp2_with fail
        refine (sum_any w.heap.size _ w3 hs0_ok (by decide) (HG.out.below hs HB3.out) HH3.out).mono ?_
        rw [HSH.out]
        rintro e w4 ⟨rfl, hb4⟩
        have HB4 := Lib.hid (HB3.out.trans (hb4.mono HB3.out.size))
        have HH4 := Lib.hid ((hb4.block _ (Array.getElem?_eq_some_iff.1 HH3.out).1).trans HH3.out)
        clear hb4
        go_wp2_with (first
          | ((with_reducible refine wl_storeL (ty := 25) w4.heap.size (bv (shaL [])) ?_ ?_ ?_ ?_ ?_ ?_ ?_); (· rfl); (· rfl); (· rfl); (· exact HI25.out); (· rw [bv_size, bv_size, shaL_len, zl_len]); (· exact bv_one _)))
        refine wp_region_held (S := TQ w w.heap.size hs0 w4.heap.size (shaL [])) (by kernel_rfl) ?_
        change wpAnyH _ _ _ _ _ _ _ _ (World.drew _)
        have HS0 := Lib.hid (show TQ w w.heap.size hs0 w4.heap.size (shaL []) (w4.alloc (.cells (bv (shaL [])) 25)).drew from ⟨heap_last _ _ _ rfl, (heap_prev _ _ _ (Array.getElem?_eq_some_iff.1 HH4.out).1).trans HH4.out, (HB4.out.alloc HB4.out.size _).drew, HG.out.below hs (HB4.out.alloc HB4.out.size _).drew⟩)
        generalize (w4.alloc (.cells (bv (shaL [])) 25)).drew = w0 at *
        generalize w4.heap.size = x0 at *
        refine wpAnyH_take (i := 0) (oi := ⟨some 86, .load 25 (.tmp 11), _, _, _, none⟩) (v := .agg (bv (shaL []))) rfl (by kernel_rfl) (by kernel_rfl) (by kernel_rfl) (fun _ _ _ h => h) (yi_row' (by rfl) 25 (.tmp 11) rfl x0 (bv (shaL [])) 32 5 Tryd.underlying25 HI25.out rfl (fun _ h => ⟨_, _, h.1⟩)) HS0.out ?_
        simp only [Act.put, List.setIfInBounds_toArray, List.set_cons_zero, List.set_cons_succ]
        refine wpAnyH_take (i := 1) (oi := ⟨some 87, .move (.tmp 5), _, _, _, none⟩) (v := .pointer (some ⟨w.heap.size, 0, none⟩)) rfl (by kernel_rfl) (by kernel_rfl) (by kernel_rfl) (fun _ _ _ h => h) (Or.inl ⟨by rfl, fun w' hS => by go_simp⟩) HS0.out ?_
        simp only [Act.put, List.setIfInBounds_toArray, List.set_cons_zero, List.set_cons_succ]
        refine wpAnyH_ready (rs := [2]) (by kernel_rfl) (by simp) (AllReadyH.cons (o := ⟨some 88, .call ⟨.value (.func 15), #[.tmp 87], _⟩, _, _, _, none⟩) rfl (fun K hK => ?_) AllReadyH.nil)
        go_simp
        refine (sum_any w.heap.size _ _ hs0_ok (by decide) HS0.out.2.2.2 HS0.out.2.1).mono ?_
        rw [HSH.out]
        rintro e w1 ⟨rfl, hbel⟩
        have HS1 := Lib.hid (TQ_below HS0.out hbel)
        clear hbel
        refine hK.out _ _ HS1.out (fun _ => ?_)
        clear hK K
        refine wpAnyH_take (i := 3) (oi := ⟨some 89, .binOp .eql 25 (.tmp 86) (.tmp 88) 25, _, _, _, none⟩) (v := .bool true) rfl (by kernel_rfl) (by kernel_rfl) (by kernel_rfl) (fun _ _ _ h => h) (yi_eql_same (by rfl) 25 25 (.tmp 86) (.tmp 88) rfl 5 32 (shaL []) Tryd.underlying25 Tryd.underlying5 cells5 guard25 rfl rfl (shaL_len _)) HS1.out ?_
        simp only [Act.put, List.setIfInBounds_toArray, List.set_cons_zero, List.set_cons_succ]
        refine wpAnyH_take (i := 4) (oi := ⟨some 90, .move (.tmp 89), _, _, _, none⟩) (v := .bool true) rfl (by kernel_rfl) (by kernel_rfl) (by kernel_rfl) (fun _ _ _ h => h) (Or.inl ⟨by rfl, fun w' hS => by go_simp⟩) HS1.out ?_
        simp only [Act.put, List.setIfInBounds_toArray, List.set_cons_zero, List.set_cons_succ]
        refine wpAnyH_take (i := 5) (oi := ⟨some 91, .load 25 (.tmp 11), _, _, _, some (4, true)⟩) (v := .agg (bv (shaL []))) rfl (by kernel_rfl) (by kernel_rfl) (by kernel_rfl) (fun _ _ _ h => h) (yi_row' (by rfl) 25 (.tmp 11) rfl x0 (bv (shaL [])) 32 5 Tryd.underlying25 HI25.out rfl (fun _ h => ⟨_, _, h.1⟩)) HS1.out ?_
        simp only [Act.put, List.setIfInBounds_toArray, List.set_cons_zero, List.set_cons_succ]
        refine wpAnyH_take (i := 6) (oi := ⟨some 92, .move (.tmp 0), _, _, _, some (4, true)⟩) (v := .slice (some a0) 0 0) rfl (by kernel_rfl) (by kernel_rfl) (by kernel_rfl) (fun _ _ _ h => h) (Or.inl ⟨by rfl, fun w' hS => by go_simp⟩) HS1.out ?_
        simp only [Act.put, List.setIfInBounds_toArray, List.set_cons_zero, List.set_cons_succ]
        refine wpAnyH_ready (rs := [7]) (by kernel_rfl) (by simp) (AllReadyH.cons (o := ⟨some 93, .call ⟨.value (.func 9), #[.tmp 92], _⟩, _, _, _, some (4, true)⟩) rfl (fun K hK => ?_) AllReadyH.nil)
        go_simp
        refine (of_any [] _ _ (by intro x hx; simp at hx) (by decide) HS1.out.2.2.2 ⟨some a0, 0, rfl, by decide, fun h => by simp at h⟩).mono ?_
        rintro e w2 ⟨rfl, hbel⟩
        have HS2 := Lib.hid (TQ_below HS1.out hbel)
        clear hbel
        refine hK.out _ _ HS2.out (fun _ => ?_)
        clear hK K
        refine wpAnyH_take (i := 8) (oi := ⟨some 94, .binOp .eql 25 (.tmp 91) (.tmp 93) 25, _, _, _, some (4, true)⟩) (v := .bool true) rfl (by kernel_rfl) (by kernel_rfl) (by kernel_rfl) (fun _ _ _ h => h) (yi_eql_same (by rfl) 25 25 (.tmp 91) (.tmp 93) rfl 5 32 (shaL []) Tryd.underlying25 Tryd.underlying5 cells5 guard25 rfl rfl (shaL_len _)) HS2.out ?_
        simp only [Act.put, List.setIfInBounds_toArray, List.set_cons_zero, List.set_cons_succ]
        refine wpAnyH_take (i := 9) (oi := ⟨some 95, .pick (.tmp 90) (.tmp 94) (.const (.bool false)), _, _, _, none⟩) (v := .bool true) rfl (by kernel_rfl) (by kernel_rfl) (by kernel_rfl) (fun _ _ _ h => h) (Or.inl ⟨by rfl, fun w' hS => by go_simp⟩) HS2.out ?_
        simp only [Act.put, List.setIfInBounds_toArray, List.set_cons_zero, List.set_cons_succ]
        refine wpAnyH_take (i := 10) (oi := ⟨some 96, .move (.tmp 95), _, _, _, none⟩) (v := .bool true) rfl (by kernel_rfl) (by kernel_rfl) (by kernel_rfl) (fun _ _ _ h => h) (Or.inl ⟨by rfl, fun w' hS => by go_simp⟩) HS2.out ?_
        simp only [Act.put, List.setIfInBounds_toArray, List.set_cons_zero, List.set_cons_succ]
        refine wpAnyH_ready (rs := [11]) (by kernel_rfl) (by simp) (AllReadyH.cons (o := ⟨some 97, .call ⟨.value (.func 8), #[], _⟩, _, _, _, some (10, true)⟩) rfl (fun K hK => ?_) AllReadyH.nil)
        go_simp
        refine (wakes_any _ HS2.out.2.2.2).mono ?_
        rintro e w3 ⟨rfl, hbel⟩
        have HS3 := Lib.hid (TQ_below HS2.out hbel)
        clear hbel
        refine hK.out _ _ HS3.out (fun _ => ?_)
        clear hK K
        refine wpAnyH_take (i := 12) (oi := ⟨some 98, .pick (.tmp 96) (.tmp 97) (.const (.bool false)), _, _, _, none⟩) (v := .bool true) rfl (by kernel_rfl) (by kernel_rfl) (by kernel_rfl) (fun _ _ _ h => h) (Or.inl ⟨by rfl, fun w' hS => by go_simp⟩) HS3.out ?_
        simp only [Act.put, List.setIfInBounds_toArray, List.set_cons_zero, List.set_cons_succ]
        refine wpAnyH_take (i := 13) (oi := ⟨some 4, .assign (.tmp 98), _, _, _, none⟩) (v := .bool true) rfl (by kernel_rfl) (by kernel_rfl) (by kernel_rfl) (fun _ _ _ h => h) (Or.inl ⟨by rfl, fun w' hS => by go_simp⟩) HS3.out ?_
        simp only [Act.put, List.setIfInBounds_toArray, List.set_cons_zero, List.set_cons_succ]
        refine wpAnyH_done (by kernel_rfl) ?_ _
        go_wp2_with fail
        go_ret
        exact ⟨rfl, HS3.out.2.2.1⟩

set_option maxRecDepth 100000 in
theorem pieces_big1 (p pc : Option Addr) (L cap N capc : Nat) (w : World) (hG : Gl w) (h : 16384 < L) :
    Calls Tryd.prog 7 #[.slice p L cap, .slice pc N capc] w fun e w' => e = .returned (.bool true) ∧ Below w.heap.size w w' := by
  have HG := Lib.hid hG; clear hG
  have t1 : decide ((16384 : Int) < (L : Int)) = true := by simp; omega
  go_enter Tryd.func7, Tryd.ntmps7
  go_wp2_with fail
  refine (wakes_any _ HG.out).mono ?_
  rintro e w2 ⟨rfl, hb2⟩
  have HB2 := Lib.hid hb2; clear hb2
  go_wp2_with fail
  go_ret
  exact ⟨rfl, HB2.out⟩
set_option maxRecDepth 100000 in
theorem pieces_big2 (p pc : Option Addr) (L cap N capc : Nat) (w : World) (hG : Gl w) (h : L ≤ 16384) (h2 : 400 < N) :
    Calls Tryd.prog 7 #[.slice p L cap, .slice pc N capc] w fun e w' => e = .returned (.bool true) ∧ Below w.heap.size w w' := by
  have HG := Lib.hid hG; clear hG
  have t1 : decide ((16384 : Int) < (L : Int)) = false := by simp; omega
  have t2 : decide ((400 : Int) < (N : Int)) = true := by simp; omega
  go_enter Tryd.func7, Tryd.ntmps7
  go_wp2_with fail
  refine (wakes_any _ HG.out).mono ?_
  rintro e w2 ⟨rfl, hb2⟩
  have HB2 := Lib.hid hb2; clear hb2
  go_wp2_with fail
  go_ret
  exact ⟨rfl, HB2.out⟩
end Go.Proofs.YtppbdjgpkcpppaaDoor
