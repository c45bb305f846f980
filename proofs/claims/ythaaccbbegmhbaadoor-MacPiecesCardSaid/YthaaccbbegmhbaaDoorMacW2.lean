/- Contracts of mac.begin and mac.blockOf, over the translated program. -/
import Derived.Test.YthaaccbbegmhbaaDoorMacW1
namespace Go.Proofs.YthaaccbbegmhbaaDoor
open Go.RowKit Go.Sha

@[local go_sem high, local simp high] theorem zblk2 (w : World) : (zeroValue 50).run Tryd.prog w = .ok (.agg (bv (zl 64))) w := by kernel_rfl
@[local go_sem high, local simp high] theorem zdig2 (w : World) : (zeroValue 25).run Tryd.prog w = .ok (.agg (bv (zl 32))) w := by kernel_rfl
/-- a result that lies in memory, a whole struct -/
theorem ret_rowS {fn : Func} {R : Ending → World → Prop} {a : Act} {w : World} {p : Tmp} {ty : TypeId} (h : fn.results = #[.cell p ty]) (g : Nat) (t : TypeId) (cs : Array Value) (fr : Nat × Nat) (fs : Array Field)
    (hu : Tryd.prog.underlying ty = some (.struct fs)) (hp : a.tmps.getD p undef = .pointer (some ⟨g, 0, none⟩)) (hg : w.heap[g]? = some (.cells cs t fr)) (hi : (Tryd.prog.info? ty).map (·.size) = some cs.size)
    (hdf : a.defers = []) (hR : R (.returned (.agg cs)) w) : bodyPost Tryd.prog fn R .ret a w :=
  bodyPost_ret (results_cell_row h a.tmps w g t cs fr _ hp hg hu rfl hi) hdf hR
/-- the bytes of a row that is known whole -/
theorem byt_row {w : World} {b g cap : Nat} {l : List Nat} {t : TypeId} {f : Nat × Nat} (h : w.heap[b]? = some (.cells (bv l) t f)) (hg : b ≠ g) (hc : l.length ≤ cap) : Byt w g (.slice (some ⟨b, 0, none⟩) l.length cap) l :=
  ⟨some ⟨b, 0, none⟩, cap, rfl, hc, fun _ => ⟨b, 0, rfl, hg, (Array.getElem?_eq_some_iff.1 h).1, fun j hj => by rw [Nat.zero_add, cell_of_row _ _ j _ _ _ h, bv_get l j hj]⟩⟩

set_option maxRecDepth 100000 in
set_option maxHeartbeats 800000 in
theorem begin_any (b : List Nat) (w : World) (hs : b.length = 64) (hb : Lt 256 b) (hG : Gl w) :
    Calls Tryd.prog 27 #[.agg (bv b)] w fun e w' => ∃ h, e = .returned (.agg #[.pointer (some ⟨h, 0, none⟩)]) ∧ w.heap.size ≤ h ∧ w'.heap[h]? = some (.cells (putL hs0 b).cells 60 (0, 0)) ∧ Below w.heap.size w w' := by
  have HS := Lib.hid hs; clear hs
  have HB := Lib.hid hb; clear hb
  have HG := Lib.hid hG; clear hG
  have hsz := HG.out.size
  go_enter Tryd.func27, Tryd.ntmps27
  go_wp2_with fail
  refine (new_any _ (HG.out.below hsz (((Below.refl _ _).alloc (Nat.le_refl _) _).alloc (by simp) _))).mono ?_
  rintro e w1 ⟨rfl, rfl⟩
  go_wp2_with fail
  have HB0 := Lib.hid (show Below w.heap.size w ((((w.alloc (.cells (bv b) 50)).alloc (.cells #[.pointer none] 49)).alloc (.cells (hv BEG (zl 64) 0) 60)).alloc (.cells #[.pointer (some ⟨w.heap.size + 1 + 1, 0, none⟩)] 49)) from ((((Below.refl _ _).alloc (Nat.le_refl _) _).alloc (by simp) _).alloc (by simp; omega) _).alloc (by simp; omega) _)
  have HH0 := Lib.hid (show ((((w.alloc (.cells (bv b) 50)).alloc (.cells #[.pointer none] 49)).alloc (.cells (hv BEG (zl 64) 0) 60)).alloc (.cells #[.pointer (some ⟨w.heap.size + 1 + 1, 0, none⟩)] 49)).heap[w.heap.size + 1 + 1]? = some (.cells hs0.cells 60 (0, 0)) from (heap_prev _ _ _ (by simp)).trans (heap_last _ _ _ (by simp)))
  have HX0 := Lib.hid (show ((((w.alloc (.cells (bv b) 50)).alloc (.cells #[.pointer none] 49)).alloc (.cells (hv BEG (zl 64) 0) 60)).alloc (.cells #[.pointer (some ⟨w.heap.size + 1 + 1, 0, none⟩)] 49)).heap[w.heap.size]? = some (.cells (bv b) 50 (0, 0)) from (heap_prev _ _ _ (by simp; omega)).trans ((heap_prev _ _ _ (by simp; omega)).trans ((heap_prev _ _ _ (by simp)).trans (heap_last _ _ _ rfl))))
  have HR0 := Lib.hid (show ((((w.alloc (.cells (bv b) 50)).alloc (.cells #[.pointer none] 49)).alloc (.cells (hv BEG (zl 64) 0) 60)).alloc (.cells #[.pointer (some ⟨w.heap.size + 1 + 1, 0, none⟩)] 49)).heap[w.heap.size + 1]? = some (.cells #[.pointer none] 49 (0, 0)) from (heap_prev _ _ _ (by simp)).trans ((heap_prev _ _ _ (by simp)).trans (heap_last _ _ _ (by simp))))
  have HP0 := Lib.hid (show ((((w.alloc (.cells (bv b) 50)).alloc (.cells #[.pointer none] 49)).alloc (.cells (hv BEG (zl 64) 0) 60)).alloc (.cells #[.pointer (some ⟨w.heap.size + 1 + 1, 0, none⟩)] 49)).heap[w.heap.size + 1 + 1 + 1]? = some (.cells #[.pointer (some ⟨w.heap.size + 1 + 1, 0, none⟩)] 49 (0, 0)) from heap_last _ _ _ (by simp))
  generalize (((w.alloc (.cells (bv b) 50)).alloc (.cells #[.pointer none] 49)).alloc (.cells (hv BEG (zl 64) 0) 60)).alloc (.cells #[.pointer (some ⟨w.heap.size + 1 + 1, 0, none⟩)] 49) = w1 at *
  refine wp_region_held (S := fun w' => w'.heap[w.heap.size + 1 + 1 + 1]? = some (.cells #[.pointer (some ⟨w.heap.size + 1 + 1, 0, none⟩)] 49 (0, 0))) (by kernel_rfl) ?_
  change wpAnyH _ _ _ _ _ _ _ _ (World.drew _)
  refine wpAnyH_take (i := 0) (oi := ⟨some 6, .fieldAddr 49 (.tmp 3) 0, _, _, _, none⟩) (v := .pointer (some ⟨w.heap.size + 1 + 1 + 1, 0, none⟩)) rfl (by kernel_rfl) (by kernel_rfl) (by kernel_rfl) (fun _ _ _ h => h) (Or.inl ⟨by rfl, fun w' hS => by go_simp⟩) HP0.out ?_
  simp only [Act.put, List.setIfInBounds_toArray, List.set_cons_zero, List.set_cons_succ]
  refine wpAnyH_take (i := 1) (oi := ⟨some 7, .load 39 (.tmp 6), _, _, _, none⟩) (v := .pointer (some ⟨w.heap.size + 1 + 1, 0, none⟩)) rfl (by kernel_rfl) (by kernel_rfl) (by kernel_rfl) (fun _ _ _ h => h) (Or.inl ⟨by rfl, fun w' hS => by have hc := cell_of_row w' _ 0 _ _ _ hS; go_simp⟩) HP0.out ?_
  simp only [Act.put, List.setIfInBounds_toArray, List.set_cons_zero, List.set_cons_succ]
  refine wpAnyH_take (i := 2) (oi := ⟨some 8, .slice 50 (.tmp 1) none none none, _, _, _, none⟩) (v := .slice (some ⟨w.heap.size, 0, none⟩) 64 64) rfl (by kernel_rfl) (by kernel_rfl) (by kernel_rfl) (fun _ _ _ h => h) (Or.inl ⟨by rfl, fun w' hS => by go_simp⟩) HP0.out ?_
  simp only [Act.put, List.setIfInBounds_toArray, List.set_cons_zero, List.set_cons_succ]
  refine wpAnyH_ready (rs := [3]) (by kernel_rfl) (by simp) (AllReadyH.cons (o := ⟨some 9, .call ⟨.value (.func 22), #[.tmp 7, .tmp 8], _⟩, _, _, _, none⟩) rfl (fun K hK => ?_) AllReadyH.nil)
  go_simp
  refine (write_any (w.heap.size + 1 + 1) hs0 b _ w1.drew hs0_ok HB.out (by rw [HS.out]; decide) (HG.out.below hsz HB0.out.drew) (by omega) HH0.out (by
    have := byt_row (w := w1.drew) (g := w.heap.size + 1 + 1) (cap := 64) HX0.out (by omega) (by rw [HS.out]; exact Nat.le_refl _)
    rw [HS.out] at this; exact this)).mono ?_
  rintro e w2 ⟨rfl, hh2, hgr2⟩
  have HB2 := Lib.hid (show Below w.heap.size w w2 from HB0.out.trans ⟨hgr2.os, hgr2.tape, hgr2.output, hgr2.size, fun k hk => hgr2.block k (by have := HB0.out.size; show k < w1.heap.size; omega) (by simp; omega)⟩)
  have HP2 := Lib.hid ((hgr2.block _ (Array.getElem?_eq_some_iff.1 HP0.out).1 (by simp)).trans HP0.out)
  have HR2 := Lib.hid ((hgr2.block _ (Array.getElem?_eq_some_iff.1 HR0.out).1 (by simp)).trans HR0.out)
  have HH2 := Lib.hid hh2
  clear hh2 hgr2
  refine hK.out _ _ HP2.out (fun _ => ?_)
  clear hK K
  refine wpAnyH_done (by kernel_rfl) ?_ _
  have c3 : w2.cell? ⟨w.heap.size + 1 + 1 + 1, 0, none⟩ = some (.pointer (some ⟨w.heap.size + 1 + 1, 0, none⟩)) := cell_of_row _ _ 0 _ _ _ HP2.out
  have c1 : w2.cell? ⟨w.heap.size + 1, 0, none⟩ = some (.pointer none) := cell_of_row _ _ 0 _ _ _ HR2.out
  have f1 : w2.frozen? ⟨w.heap.size + 1, 0, none⟩ = false := frozen_of_row _ _ _ _ _ HR2.out
  go_wp2_with fail
  have HR3 := Lib.hid (show (w2.setCell ⟨w.heap.size + 1, 0, none⟩ (.pointer (some ⟨w.heap.size + 1 + 1, 0, none⟩))).heap[w.heap.size + 1]? = some (.cells #[.pointer (some ⟨w.heap.size + 1 + 1, 0, none⟩)] 49 (0, 0)) from heap_setCell_same _ _ _ _ _ _ HR2.out)
  refine ret_rowS Tryd.results27 (w.heap.size + 1) 49 #[.pointer (some ⟨w.heap.size + 1 + 1, 0, none⟩)] (0, 0) _ Tryd.underlying49 rfl HR3.out (by kernel_rfl) rfl ⟨w.heap.size + 1 + 1, rfl, by omega, ?_, ?_⟩
  · exact (heap_setCell_other _ _ _ _ (by simp)).trans HH2.out
  · exact HB2.out.setCell (by simp) _

set_option maxRecDepth 100000 in
set_option maxHeartbeats 800000 in
theorem blockOf_any (key : List Nat) (v : Value) (w : World) (hl : Lt 256 key) (hc : key.length + 72 < 1152921504606846976) (hG : Gl w) (hb : Byt w w.heap.size v key) :
    Calls Tryd.prog 29 #[v] w fun e w' => e = .returned (.agg (bv (blk key))) ∧ Below w.heap.size w w' := by
  have HL := Lib.hid hl; clear hl
  have HC := Lib.hid hc; clear hc
  have HG := Lib.hid hG; clear hG
  obtain ⟨p, cap, rfl, hcap, hp⟩ := hb
  have HP := Lib.hid hp; clear hp
  have hsz := HG.out.size
  obtain ⟨n, hn⟩ : ∃ n, n = key.length := ⟨_, rfl⟩
  rw [← hn] at hcap HC HP ⊢
  have HN := Lib.hid hn; clear hn
  by_cases h64 : 64 < n
  · have t1 : decide ((64 : Int) < (n : Int)) = true := by simp; omega
    go_enter Tryd.func29, Tryd.ntmps29
    go_wp2_with fail
    have HB0 := Lib.hid (show Below w.heap.size w (w.alloc (.cells (bv (zl 64)) 50)) from (Below.refl _ _).alloc (Nat.le_refl _) _)
    have HBY := Lib.hid (show Byt w w.heap.size (.slice p n cap) key from ⟨p, cap, by rw [HN.out], by rw [← HN.out]; exact hcap, by rw [← HN.out]; exact HP.out⟩)
    refine (of_any key _ _ HL.out (by rw [← HN.out]; exact HC.out) (HG.out.below hsz HB0.out) (HBY.out.grown HB0.out (fun b h => by simp; omega))).mono ?_
    rintro e w1 ⟨rfl, hb1⟩
    have hs1 : w.heap.size + 1 ≤ w1.heap.size := by have := hb1.size; simpa using this
    have HQ0 := Lib.hid (show w1.heap[w.heap.size]? = some (.cells (bv (zl 64)) 50 (0, 0)) from (hb1.block _ (by simp)).trans (heap_last _ _ _ rfl))
    have HB1 := Lib.hid (HB0.out.trans (hb1.mono (by simp)))
    have HKK := Lib.hid (show kk key = shaL key from by unfold kk; rw [if_pos (by rw [← HN.out]; exact h64)])
    clear hb1
    go_wp2_with (first
      | ((with_reducible refine wl_storeL (ty := 25) w1.heap.size (bv (shaL key)) ?_ ?_ ?_ ?_ ?_ ?_ ?_); (· rfl); (· rfl); (· rfl); (· rw [bv_size, shaL_len]; exact info25); (· rw [bv_size, bv_size, shaL_len, zl_len]); (· exact bv_one _))
      | (with_reducible refine stp_copy ?_))
    unfold Stp
    with_reducible refine wl_copyN (w1.heap.size + 1) 64 64 50 (.slice (some ⟨w1.heap.size, 0, none⟩) 32 32) (shaL key) ?_ ?_ ?_ ?_ ?_ w.heap.size w ?_ ?_ ?_
    · rfl
    · rfl
    · have := (byt_row (w := (w1.alloc (.cells (bv (shaL key)) 25)).alloc (.cells (bv (zl 64)) 50)) (b := w1.heap.size) (g := 0) (cap := 32) (l := shaL key) (t := 25) (f := (0, 0)) ((heap_prev _ _ _ (by simp)).trans (heap_last _ _ _ rfl)) (by omega) (by rw [shaL_len]; exact Nat.le_refl _)).src
      rw [shaL_len] at this; exact this
    · rw [shaL_len]; decide
    · exact heap_last _ _ _ (by simp)
    · exact (HB1.out.alloc HB1.out.size _).alloc (by have := HB1.out.size; simp; omega) _
    · omega
    intro w2 hh2 hb2 hgr2
    have HQ2 := Lib.hid (show w2.heap[w.heap.size]? = some (.cells (bv (zl 64)) 50 (0, 0)) from (hgr2.block _ (by simp; omega) (by simp; omega)).trans ((heap_prev _ _ _ (by simp; omega)).trans ((heap_prev _ _ _ (by omega)).trans HQ0.out)))
    have HB2 := Lib.hid hb2
    clear hb2 hgr2
    have HBK := Lib.hid (show blk key = lay (zl 64) 0 (shaL key) from by unfold blk blk0; rw [HKK.out])
    rw [← HBK.out] at hh2
    go_wp2_with (first
      | ((with_reducible refine wl_load (dst := 14) (w1.heap.size + 1) 50 (bv (blk key)) (0, 0) 64 5 Tryd.underlying50 ?_ ?_ ?_ ?_); (· rfl); (· exact hh2.out); (· rw [bv_size, blk_len]; exact infoBlk))
      | ((with_reducible refine wl_store (ty := 50) w.heap.size 50 (bv (zl 64)) (bv (blk key)) ?_ ?_ ?_ ?_ ?_ ?_ ?_); (· rfl); (· rfl); (· exact HQ2.out); (· rw [bv_size, blk_len]; exact infoBlk); (· rw [bv_size, bv_size, blk_len, zl_len]); (· exact bv_one _)))
    refine ret_row Tryd.results29 w.heap.size 50 (bv (blk key)) (0, 0) 64 5 Tryd.underlying50 rfl ?_ ?_ rfl ⟨rfl, ?_⟩
    · exact setRow_heap _ _ _ _ _ _ HQ2.out
    · rw [bv_size, blk_len]; exact infoBlk
    · exact below_setRow' HB2.out (Nat.le_refl _) _
  · have t1 : decide ((64 : Int) < (n : Int)) = false := by simp; omega
    have HBY := Lib.hid (show Byt w w.heap.size (.slice p n cap) key from ⟨p, cap, by rw [HN.out], by rw [← HN.out]; exact hcap, by rw [← HN.out]; exact HP.out⟩)
    have HKK := Lib.hid (show kk key = key from by unfold kk; rw [if_neg (by rw [← HN.out]; exact h64)])
    go_enter Tryd.func29, Tryd.ntmps29
    go_wp2_with (with_reducible refine stp_copy ?_)
    unfold Stp
    with_reducible refine wl_copyN (w.heap.size + 1) 64 64 50 (.slice p n cap) key ?_ ?_ ?_ ?_ ?_ w.heap.size w ?_ ?_ ?_
    · rfl
    · rfl
    · exact (HBY.out.grown (w' := (w.alloc (.cells (bv (zl 64)) 50)).alloc (.cells (bv (zl 64)) 50)) (g' := w.heap.size) (((Below.refl _ _).alloc (Nat.le_refl _) _).alloc (by simp) _) (fun b h => by omega)).src
    · rw [← HN.out]; omega
    · exact heap_last _ _ _ (by simp)
    · exact ((Below.refl _ _).alloc (Nat.le_refl _) _).alloc (by simp) _
    · omega
    intro w2 hh2 hb2 hgr2
    have HQ2 := Lib.hid (show w2.heap[w.heap.size]? = some (.cells (bv (zl 64)) 50 (0, 0)) from (hgr2.block _ (by simp; omega) (by simp)).trans ((heap_prev _ _ _ (by simp)).trans (heap_last _ _ _ rfl)))
    have HB2 := Lib.hid hb2
    clear hb2 hgr2
    have HBK := Lib.hid (show blk key = lay (zl 64) 0 key from by unfold blk blk0; rw [HKK.out])
    rw [← HBK.out] at hh2
    go_wp2_with (first
      | ((with_reducible refine wl_load (dst := 14) (w.heap.size + 1) 50 (bv (blk key)) (0, 0) 64 5 Tryd.underlying50 ?_ ?_ ?_ ?_); (· rfl); (· exact hh2.out); (· rw [bv_size, blk_len]; exact infoBlk))
      | ((with_reducible refine wl_store (ty := 50) w.heap.size 50 (bv (zl 64)) (bv (blk key)) ?_ ?_ ?_ ?_ ?_ ?_ ?_); (· rfl); (· rfl); (· exact HQ2.out); (· rw [bv_size, blk_len]; exact infoBlk); (· rw [bv_size, bv_size, blk_len, zl_len]); (· exact bv_one _)))
    refine ret_row Tryd.results29 w.heap.size 50 (bv (blk key)) (0, 0) 64 5 Tryd.underlying50 rfl ?_ ?_ rfl ⟨rfl, ?_⟩
    · exact setRow_heap _ _ _ _ _ _ HQ2.out
    · rw [bv_size, blk_len]; exact infoBlk
    · exact below_setRow' HB2.out (Nat.le_refl _) _
end Go.Proofs.YthaaccbbegmhbaaDoor
