/- Contract of tarmacref01.Of, over the translated program. -/
import Derived.Test.YthaaccbbegmhbaaDoorShaR4
namespace Go.Proofs.YthaaccbbegmhbaaDoor
open Go.RowKit Go.Sha

@[local go_sem high, local simp high] theorem z42o (w : World) : (zeroValue 42).run Tryd.prog w = .ok (.agg (wv (zl 8))) w := by kernel_rfl
@[local go_sem high, local simp high] theorem z25o (w : World) : (zeroValue 25).run Tryd.prog w = .ok (.agg (bv (zl 32))) w := by kernel_rfl
theorem Own.setRow {w : World} {base g : Nat} {v : Value} {l : List Nat} (h : Own w base v l) (hg : g < base) (cs : Array Value) : Own (w.setRow g cs) base v l := by
  obtain ⟨h1, h2⟩ := h
  refine ⟨h1, h2.imp id ?_⟩
  rintro ⟨b, cap, cur, e1, e2, e3, e4⟩
  exact ⟨b, cap, cur, e1, e2, (setRow_other _ _ _ _ (by omega)).trans e3, e4⟩
theorem ownIs {w : World} {base n : Nat} {v : Value} {l : List Nat} (h : Own w base v l) (hn : l.length = n) (h0 : 0 < n) : ∃ g cap, v = .slice (some ⟨g, 0, none⟩) n cap ∧ base ≤ g ∧ g < w.heap.size ∧ n ≤ cap ∧ cap ≤ maxLen ∧ ∀ j, j < n → w.cell? ⟨g, j, none⟩ = some (.int .u8 (at0 l j : Nat)) := by
  obtain ⟨h1, h2⟩ := h
  subst hn
  rcases h2 with ⟨rfl, e0⟩ | ⟨b, cap, cur, rfl, hb, hh, hn, hm, hsz, htk⟩
  · omega
  · rw [Nat.mul_one] at hsz htk
    refine ⟨b, cap, rfl, hb, (Array.getElem?_eq_some_iff.1 hh).1, hn, hm, fun j hj => ?_⟩
    rw [cell_of_row w b j cur _ _ hh, ← bv_get l j hj, ← bl_get, ← htk, List.getElem?_take, if_pos (by omega)]
    simp
theorem ownCells {w : World} {base g n cap : Nat} {l : List Nat} (h : Own w base (.slice (some ⟨g, 0, none⟩) n cap) l) : ∀ j, j < l.length → w.cell? ⟨g, j, none⟩ = some (.int .u8 (at0 l j : Nat)) := by
  obtain ⟨h1, h2⟩ := h
  intro j hj
  rcases h2 with ⟨e, _⟩ | ⟨b, cap', cur, e, hb, hh, hn, hm, hsz, htk⟩
  · cases e
  · cases e
    rw [Nat.mul_one] at hsz htk
    rw [cell_of_row w g j cur _ _ hh, ← bv_get l j hj, ← bl_get, ← htk, List.getElem?_take, if_pos (by omega)]
    simp
theorem filL_mod (l : List Nat) : (filL l).length % 64 = 0 := by rw [filL_len]; exact psize_mod _
theorem filL_big (l : List Nat) : 64 ≤ (filL l).length := by
  have h1 := filL_mod l
  have h2 := psize_lo l.length
  rw [filL_len] at h1 ⊢
  omega
theorem at0_part (l : List Nat) (A j : Nat) (h : j < 64) : at0 ((l.drop A).take 64) j = at0 l (A + j) := by
  unfold at0
  rw [List.getD_eq_getElem?_getD, List.getD_eq_getElem?_getD, List.getElem?_take, if_pos h, List.getElem?_drop]

set_option maxRecDepth 100000 in
set_option maxHeartbeats 1600000 in
theorem refOf_any (l : List Nat) (p : Option Addr) (n c : Nat) (w : World) (hn : n = l.length) (hn1 : n ≤ 100000) (hl : Lt 256 l) (hv : Src w (.slice p n c) l) :
    Calls Tryd.prog 11 #[.slice p n c] w fun e w' => e = .returned (.agg (bv (shaL l))) ∧ Below w.heap.size w w' := by
  have HN := Lib.hid hn; clear hn
  have HL := Lib.hid hl; clear hl
  have HV := Lib.hid hv; clear hv
  go_enter Tryd.func11, Tryd.ntmps11
  go_wp2_with (first
    | ((with_reducible refine wl_build (dst := 8) (wv BEG) ?_ ?_); (· kernel_rfl))
    | ((with_reducible refine wl_storeL (ty := 42) (w.heap.size + 1) (wv BEG) ?_ ?_ ?_ ?_ ?_ ?_ ?_); (· rfl); (· rfl); (· simp); (· rw [wv_size, BEG_len]; exact info8r); (· rw [wv_size, wv_size, BEG_len, zl_len]); (· exact wv_one _)))
  have HB0 := Lib.hid (show Below w.heap.size w ((w.alloc (.cells (bv (zl 32)) 25)).alloc (.cells (wv BEG) 42)) from ((Below.refl _ _).alloc (Nat.le_refl _) _).alloc (by simp) _)
  have HR0 := Lib.hid (show ((w.alloc (.cells (bv (zl 32)) 25)).alloc (.cells (wv BEG) 42)).heap[w.heap.size]? = some (.cells (bv (zl 32)) 25 (0, 0)) from (heap_prev _ _ _ (by simp)).trans (heap_last _ _ _ rfl))
  have HW0 := Lib.hid (show ((w.alloc (.cells (bv (zl 32)) 25)).alloc (.cells (wv BEG) 42)).heap[w.heap.size + 1]? = some (.cells (wv BEG) 42 (0, 0)) from heap_last _ _ _ (by simp))
  have hs0 : ((w.alloc (.cells (bv (zl 32)) 25)).alloc (.cells (wv BEG) 42)).heap.size = w.heap.size + 2 := by simp
  generalize (w.alloc (.cells (bv (zl 32)) 25)).alloc (.cells (wv BEG) 42) = w0 at *
  refine (filled_any l p n c w0 HN.out hn1 (by
    obtain ⟨q, cap, e, h⟩ := HV.out
    refine ⟨q, cap, e, fun h0 => ?_⟩
    obtain ⟨b, o, e1, e2⟩ := h h0
    exact ⟨b, o, e1, fun j hj => (HB0.out.cell (p := ⟨b, o + j, none⟩) (World.block_lt_of_cell? w _ (e2 j hj))).trans (e2 j hj)⟩)).mono ?_
  rintro e w1 ⟨v, rfl, hown, hb1⟩
  rw [hs0] at hown
  have HOWN := Lib.hid hown; clear hown
  have HB1 := Lib.hid (HB0.out.trans (hb1.mono HB0.out.size))
  have HR1 := Lib.hid ((hb1.block _ (by omega)).trans HR0.out)
  have HW1 := Lib.hid ((hb1.block _ (by omega)).trans HW0.out)
  clear hb1 HR0 HW0 HB0 hs0 HV
  have HFL := Lib.hid (filL_lt HL.out)
  have hF64 := filL_mod l
  have hFB := filL_big l
  have hFM : (filL l).length ≤ 200000 := by rw [filL_len, ← HN.out]; have := psize_hi n; omega
  have HSH := Lib.hid (shaL_fil l)
  generalize filL l = F at *
  obtain ⟨L, hL⟩ : ∃ L, L = F.length := ⟨_, rfl⟩
  rw [← hL] at hF64 hFB hFM
  obtain ⟨g, cap, rfl, hg, _, hcap, hcapm, _⟩ := ownIs HOWN.out hL.symm (by omega)
  have HLL := Lib.hid hL; clear hL
  unfold maxLen at hcapm
  have HQ0 := Lib.hid (show (putL hs0 (F.take 0)).m = BEG from by rw [List.take_zero, putL_nil]; rfl)
  go_wp2_with fail
  go_loopw [5] (fun i wr => ∃ A : Nat, A ≤ L ∧ A % 64 = 0 ∧ i = .int .i64 A ∧ Own wr (w.heap.size + 2) (.slice (some ⟨g, 0, none⟩) L cap) F ∧ wr.heap[w.heap.size]? = some (.cells (bv (zl 32)) 25 (0, 0)) ∧ wr.heap[w.heap.size + 1]? = some (.cells (wv (putL hs0 (F.take A)).m) 42 (0, 0)) ∧ Below w.heap.size w wr) (fun i _ => L - (intOf i).toNat)
  case atStart => exact ⟨0, Nat.zero_le _, rfl, rfl, HOWN.out, HR1.out, by rw [HQ0.out]; exact HW1.out, HB1.out⟩
  case round =>
    clear HOWN HR1 HW1 HB1
    obtain ⟨A, hA, hA64, rfl, hown, hr, hw, hb⟩ := hrel
    have HOWN := Lib.hid hown; clear hown
    have HR := Lib.hid hr; clear hr
    have HW := Lib.hid hw; clear hw
    have HB := Lib.hid hb; clear hb
    have HMO := Lib.hid (show (putL hs0 (F.take A)).Ok from putL_ok hs0_ok (fun x hx => HFL.out x (List.mem_of_mem_take hx)))
    by_cases hlt : A < L
    · have hA2 : A + 64 ≤ L := by omega
      have HST := Lib.hid (show (putL hs0 (F.take (A + 64))).m = mixL (putL hs0 (F.take A)).m ((F.drop A).take 64) from by
        have := Sha.step_block (f := F) (i := A / 64) HFL.out (by rw [← HLL.out]; omega)
        rw [show 64 * (A / 64) = A by omega] at this; exact this)
      have HPL := Lib.hid (show ((F.drop A).take 64).length = 64 by rw [List.length_take, List.length_drop, ← HLL.out]; omega)
      have HPT := Lib.hid (show Lt 256 ((F.drop A).take 64) from fun x hx => HFL.out x (List.mem_of_mem_drop (List.mem_of_mem_take hx)))
      have HPC := Lib.hid (show ∀ j, j < 64 → wr.cell? ⟨g, A + j, none⟩ = some (.int .u8 (at0 ((F.drop A).take 64) j : Nat)) from fun j hj => by
        rw [at0_part F A j hj]; exact ownCells HOWN.out (A + j) (by rw [← HLL.out]; omega))
      have hgl : g < wr.heap.size := World.block_lt_of_cell? wr _ (HPC.out 0 (by decide))
      have HM8 := Lib.hid HMO.out.m8
      have HML := Lib.hid HMO.out.m1
      generalize (putL hs0 (F.take A)).m = m at *
      generalize (F.drop A).take 64 = x at *
      go_wp2_with fail
      refine wp_region_any (by kernel_rfl) ?_
      change wpAny _ _ _ _ _ _ _ (World.drew _)
      refine wpAny_take (i := 1) (oi := ⟨some 18, .move (.tmp 4), _, _, _, none⟩) (v := .slice (some ⟨g, 0, none⟩) L cap) rfl (by kernel_rfl) (by kernel_rfl) (by kernel_rfl) (fun _ _ _ h => h) (Or.inl ⟨by rfl, fun w => by go_simp⟩) ?_
      refine wpAny_take (i := 2) (oi := ⟨some 19, .move (.tmp 5), _, _, _, none⟩) (v := .int .i64 A) rfl (by kernel_rfl) (by kernel_rfl) (by kernel_rfl) (fun _ _ _ h => h) (Or.inl ⟨by rfl, fun w => by go_simp⟩) ?_
      refine wpAny_take (i := 3) (oi := ⟨some 20, .move (.tmp 5), _, _, _, none⟩) (v := .int .i64 A) rfl (by kernel_rfl) (by kernel_rfl) (by kernel_rfl) (fun _ _ _ h => h) (Or.inl ⟨by rfl, fun w => by go_simp⟩) ?_
      refine wpAny_take (i := 4) (oi := ⟨some 21, .binOp .add 3 (.tmp 20) (.const (.int .i64 64)) 3, _, _, _, none⟩) (v := .int .i64 ((A : Int) + 64)) rfl (by kernel_rfl) (by kernel_rfl) (by kernel_rfl) (fun _ _ _ h => h) (Or.inl ⟨by rfl, fun w => by have e8 : IntKind.i64.wrap ((A : Int) + 64) = (A : Int) + 64 := (by rw [IntKind.wrap_i64]; omega); go_simp⟩) ?_
      simp only [Act.put, List.setIfInBounds_toArray, List.set_cons_zero, List.set_cons_succ]
      refine wpAny_take (i := 5) (oi := ⟨some 22, .slice 22 (.tmp 18) (some (.tmp 19)) (some (.tmp 21)) none, _, _, _, none⟩) (v := .slice (some ⟨g, A, none⟩) 64 (cap - A)) rfl (by kernel_rfl) (by kernel_rfl) (by kernel_rfl) (fun _ _ _ h => h) (Or.inl ⟨by rfl, fun w => by have e1 : ((A : Int) + 64).toNat = A + 64 := (by omega); have e2 : (0 : Int) ≤ (A : Int) + 64 := (by omega); have e3 : (A : Int) + 64 ≤ (cap : Int) := (by omega); have e4 : (A : Int) ≤ (A : Int) + 64 := (by omega); have e5 : ¬ cap = A := (by omega); have e6 : (0 : Int) ≤ (A : Int) := (by omega); have e7 : ¬ cap - A = 0 := (by omega); go_simp⟩) ?_
      simp only [Act.put, List.setIfInBounds_toArray, List.set_cons_zero, List.set_cons_succ]
      refine wpAny_ready (rs := [0]) (by kernel_rfl) (by simp) (AllReady.cons (o := ⟨some 17, .load 42 (.tmp 3), _, _, _, none⟩) rfl (fun K hK => ?_) AllReady.nil)
      with_reducible refine step_load ?_ 42 (.tmp 3) ?_ (w.heap.size + 1) 0 (wv m) (wv m) 42 (0, 0) 8 41 Tryd.underlying42 ?_ ?_ ?_ ?_ (hK _ _ ?_)
      · rfl
      · rfl
      · rw [wv_size, HM8.out]; exact info8r
      · rfl
      · exact HW.out
      · intro j v hv; rw [Nat.zero_add]; exact hv
      clear hK K
      simp only [Act.put, List.setIfInBounds_toArray, List.set_cons_zero, List.set_cons_succ]
      refine wpAny_ready (rs := [6]) (by kernel_rfl) (by simp) (AllReady.cons (o := ⟨some 23, .call ⟨.value (.func 25), #[.tmp 17, .tmp 22], _⟩, _, _, _, none⟩) rfl (fun K hK => ?_) AllReady.nil)
      go_simp
      refine (rmix_any m x g A (cap - A) wr.drew HM8.out HML.out HPL.out HPT.out hgl (fun j hj => HPC.out j hj)).mono ?_
      rintro e w4 ⟨rfl, hb4⟩
      have HB4 := Lib.hid (show Below wr.heap.size wr w4 from ⟨hb4.os, hb4.tape, hb4.output, hb4.size, hb4.block⟩)
      clear hb4
      refine hK _ _ ?_
      clear hK K
      have HW4 := Lib.hid ((HB4.out.block _ (Array.getElem?_eq_some_iff.1 HW.out).1).trans HW.out)
      refine wpAny_ready (rs := [7]) (by kernel_rfl) (by simp) (AllReady.cons (o := ⟨none, .store 42 (.tmp 3) (.tmp 23), _, _, _, none⟩) rfl (fun K hK => ?_) AllReady.nil)
      with_reducible refine step_store ?_ 42 (.tmp 3) (.tmp 23) ?_ (w.heap.size + 1) 0 (wv (mixL m x)) (wv m) (wv (mixL m x)) 42 ?_ ?_ ?_ ?_ ?_ ?_ ?_ (hK _ _ ?_)
      · rfl
      · rfl
      · rw [wv_size, mixL_len _ HM8.out]; exact info8r
      · rfl
      · rfl
      · exact HW4.out
      · rw [wv_size, mixL_len _ HM8.out, wv_size, HM8.out]; decide
      · exact wv_one _
      · rw [List.take_zero, List.nil_append, List.drop_of_length_le (by rw [Array.length_toList, wv_size, wv_size, mixL_len _ HM8.out, HM8.out]; decide), List.append_nil]
      clear hK K
      refine wpAny_done (by kernel_rfl) ?_ _
      go_wp2_with fail
      go_roundw
      case rel =>
        refine ⟨A + 64, by omega, by omega, by go_num, (HOWN.out.kept HB4.out).setRow (by omega) _, (setRow_other _ _ _ _ (by omega)).trans ((HB4.out.block _ (Array.getElem?_eq_some_iff.1 HR.out).1).trans HR.out), ?_, below_setRow' (HB.out.trans (HB4.out.mono HB.out.size)) (by omega) _⟩
        rw [HST.out]
        exact setRow_heap _ _ _ _ _ _ HW4.out
      case measure => simp [intOf]; omega
    · obtain rfl : A = L := by omega
      rw [HLL.out, List.take_length] at HW HMO
      have HM8 := Lib.hid HMO.out.m8
      have HML := Lib.hid HMO.out.m1
      generalize (putL hs0 F).m = m at *
      go_wp2_with fail
      obtain ⟨D, hD⟩ : ∃ D, D = wr.heap.size := ⟨_, rfl⟩
      have hDw := (Array.getElem?_eq_some_iff.1 HW.out).1
      have HBa := Lib.hid (show Below w.heap.size w (wr.alloc (.cells (bv (zl 32)) 25)) from HB.out.alloc HB.out.size _)
      have HRa := Lib.hid (show (wr.alloc (.cells (bv (zl 32)) 25)).heap[w.heap.size]? = some (.cells (bv (zl 32)) 25 (0, 0)) from (heap_prev _ _ _ (by omega)).trans HR.out)
      have HWa := Lib.hid (show (wr.alloc (.cells (bv (zl 32)) 25)).heap[w.heap.size + 1]? = some (.cells (wv m) 42 (0, 0)) from (heap_prev _ _ _ hDw).trans HW.out)
      have HDa := Lib.hid (show (wr.alloc (.cells (bv (zl 32)) 25)).heap[D]? = some (.cells (bv (zl 32)) 25 (0, 0)) from heap_last _ _ _ hD)
      rw [← hD]
      rw [← hD] at hDw
      generalize wr.alloc (.cells (bv (zl 32)) 25) = wa at *
      clear hD HR HW HB HOWN
      go_loopw [7] (fun i wr => ∃ k : Nat, k ≤ 32 ∧ i = .int .i64 k ∧ wr.heap[w.heap.size]? = some (.cells (bv (zl 32)) 25 (0, 0)) ∧ wr.heap[w.heap.size + 1]? = some (.cells (wv m) 42 (0, 0)) ∧ wr.heap[D]? = some (.cells (bv (digTo m k)) 25 (0, 0)) ∧ Below w.heap.size w wr) (fun i _ => 32 - (intOf i).toNat)
      case atStart => exact ⟨0, Nat.zero_le _, rfl, HRa.out, HWa.out, by rw [digTo_zero]; exact HDa.out, HBa.out⟩
      case round =>
        clear HRa HWa HDa HBa
        obtain ⟨k, hk, rfl, hr, hw, hd, hb⟩ := hrel
        have HR := Lib.hid hr; clear hr
        have HW := Lib.hid hw; clear hw
        have HD := Lib.hid hd; clear hd
        have HB := Lib.hid hb; clear hb
        by_cases hlt : k < 32
        · obtain ⟨q, hq⟩ : ∃ q, q = k / 4 := ⟨_, rfl⟩
          obtain ⟨r, hr⟩ : ∃ r, r = k % 4 := ⟨_, rfl⟩
          have hq8 : q < 8 := by omega
          have hr4 : r ≤ 3 := by omega
          have t1 : (k : Int).tdiv 4 = (q : Int) := by rw [Int.tdiv_eq_ediv_of_nonneg (by omega)]; omega
          have t2 : (k : Int).tmod 4 = (r : Int) := by rw [Int.tmod_eq_emod_of_nonneg (by omega)]; omega
          have t3 : (k : Int) / 4 = (q : Int) := by omega
          have t4 : (k : Int) % 4 = (r : Int) := by omega
          have t5 : ((24 : Int) - (r : Int) * 8).toNat = 24 - 8 * r := by omega
          have t6 : (0 : Int) ≤ 24 - (r : Int) * 8 := by omega
          have t7 : ¬ ((24 : Int) - (r : Int) * 8 < 0) := by omega
          have t8 : (q : Int) < 8 := by omega
          have x1 : wr.cell? ⟨w.heap.size + 1, q, none⟩ = some (.int .u32 (at0 m q : Nat)) := (cell_of_row _ _ q _ _ _ HW.out).trans (wv_get m q (by rw [HM8.out]; exact hq8))
          have x2 : wr.cell? ⟨D, k, none⟩ = some (.int .u8 (at0 (digTo m k) k : Nat)) := (cell_of_row _ _ k _ _ _ HD.out).trans (bv_get _ k (by rw [digTo_len]; exact hlt))
          have f1 : wr.frozen? ⟨D, k, none⟩ = false := frozen_of_row _ _ _ _ _ HD.out
          have HDW := Lib.hid (dig_walk m k)
          rw [← hq, ← hr] at HDW
          have HDS := Lib.hid (digTo_succ m k)
          clear hq hr
          go_wp2_with fail
          go_roundw
          case rel =>
            go_light
            rw [HDW.out]
            refine ⟨k + 1, by omega, by go_num, (heap_setCell_other _ _ _ _ (by show w.heap.size ≠ D; omega)).trans HR.out, (heap_setCell_other _ _ _ _ (by show w.heap.size + 1 ≠ D; omega)).trans HW.out, ?_, HB.out.setCell (by show w.heap.size ≤ D; omega) _⟩
            have := heap_setCell_same wr D k _ _ (.int .u8 ((digB m k : Nat) : Int)) HD.out
            rw [bv_set, ← HDS.out] at this
            exact this
          case measure => simp [intOf]; omega
        · obtain rfl : k = 32 := by omega
          have HDG := Lib.hid (show digTo m 32 = shaL l from by rw [HSH.out]; unfold dig; rfl)
          rw [HDG.out] at HD
          go_wp2_with (first
            | ((with_reducible refine wl_load (dst := 40) D 25 (bv (shaL l)) (0, 0) 32 5 Tryd.underlying25 ?_ ?_ ?_ ?_); (· rfl); (· exact HD.out); (· rw [bv_size, shaL_len]; exact info25))
            | ((with_reducible refine wl_store (ty := 25) w.heap.size 25 (bv (zl 32)) (bv (shaL l)) ?_ ?_ ?_ ?_ ?_ ?_ ?_); (· rfl); (· rfl); (· exact HR.out); (· rw [bv_size, shaL_len]; exact info25); (· rw [bv_size, bv_size, shaL_len, zl_len]); (· exact bv_one _)))
          refine ret_row Tryd.results11 w.heap.size 25 (bv (shaL l)) (0, 0) 32 5 Tryd.underlying25 rfl ?_ ?_ rfl ⟨rfl, ?_⟩
          · exact setRow_heap _ _ _ _ _ _ HR.out
          · rw [bv_size, shaL_len]; exact info25
          · exact below_setRow' HB.out (Nat.le_refl _) _
end Go.Proofs.YthaaccbbegmhbaaDoor
