/- Contracts of mac.xoredBy and mac.New, over the translated program. -/
import Derived.Test.YtgaoeljdlpemnaaGreatDoorMacPure
import Derived.Great.FillDense
/- Contracts of the closure of mac.xoredBy, of mac.begin and of mac.blockOf, over the translated program. -/
namespace Go.Proofs.YtgaoeljdlpemnaaGreatDoor.Hs
open Go.RowKit Go.Sha

@[local go_sem high, local simp high] theorem zblk (w : World) : (zeroValue 95).run Tryz.prog w = .ok (.agg (bv (zl 64))) w := by kernel_rfl
theorem infoBlk : (Tryz.prog.info? 95).map (·.size) = some 64 := by kernel_rfl
theorem u8xor {a b : Nat} (ha : a < 256) (hb : b < 256) : bits .xor .u8 (a : Int) (b : Int) = ((a ^^^ b : Nat) : Int) := u8_xor_nat a b ha hb

set_option maxRecDepth 100000 in
set_option maxHeartbeats 800000 in
theorem xor_any (x cx : Nat) (tx : TypeId) (fx : Nat × Nat) (b : List Nat) (w : World) (hx : x < 256) (hs : b.length = 64) (hb : Lt 256 b) (hc : w.heap[cx]? = some (.cells #[.int .u8 (x : Int)] tx fx)) :
    Calls Tryz.prog 50 #[.agg (bv b), .pointer (some ⟨cx, 0, none⟩)] w fun e w' => e = .returned (.agg (bv (xr x b))) ∧ Below w.heap.size w w' := by
  have HS := Lib.hid hs; clear hs
  have HB := Lib.hid hb; clear hb
  have hcx : cx < w.heap.size := (Array.getElem?_eq_some_iff.1 hc).1
  have HC := Lib.hid hc; clear hc
  go_enter Tryz.func50, Tryz.ntmps50
  go_wp2
  go_loopw [4, 5] (fun _ i wr => ∃ k : Nat, k ≤ 64 ∧ i = .int .i64 k ∧ wr.heap[w.heap.size]? = some (.cells (bv (xrTo x b k)) 95 (0, 0)) ∧ wr.heap[w.heap.size + 1]? = some (.cells (bv (zl 64)) 95 (0, 0)) ∧ Below w.heap.size w wr) (fun _ i _ => 64 - (intOf i).toNat)
  case atStart => exact ⟨0, Nat.zero_le _, rfl, by rw [xrTo_zero]; exact (heap_prev _ _ _ (by simp)).trans (heap_last _ _ _ rfl), heap_last _ _ _ (by simp), ((Below.refl _ _).alloc (Nat.le_refl _) _).alloc (by simp) _⟩
  case round =>
    obtain ⟨k, hk, rfl, hh, hz, hbel⟩ := hrel
    have HH := Lib.hid hh; clear hh
    have HZ := Lib.hid hz; clear hz
    have HBel := Lib.hid hbel; clear hbel
    by_cases hlt : k < 64
    · have c0 : wr.cell? ⟨w.heap.size, k, none⟩ = some (.int .u8 (at0 b k : Nat)) := by
        rw [cell_of_row _ _ k _ _ _ HH.out, bv_get _ _ (by rw [xrTo_len, HS.out]; exact hlt), xrTo_at _ _ _ (by rw [HS.out]; exact hlt)]
      have f0 : wr.frozen? ⟨w.heap.size, k, none⟩ = false := frozen_of_row _ _ _ _ _ HH.out
      have c1 : wr.cell? ⟨cx, 0, none⟩ = some (.int .u8 (x : Int)) := by
        rw [HBel.out.cell (p := ⟨cx, 0, none⟩) hcx, cell_of_row _ _ 0 _ _ _ HC.out]; rfl
      have l0 : at0 b k < 256 := HB.out.getD (by decide) _
      have HX := Lib.hid (u8xor l0 hx)
      have HX2 := Lib.hid (xrTo_succ x b k (by rw [HS.out]; exact hlt))
      generalize at0 b k = y at *
      go_wp2
      go_region
      go_wp2
      go_roundw
      case rel =>
        go_light
        refine ⟨k + 1, by omega, by go_num, ?_, ?_, ?_⟩
        · have := heap_setCell_same wr.drew w.heap.size k _ _ (.int .u8 (bits .xor .u8 (y : Int) (x : Int))) HH.out
          rw [HX.out, bv_set, HX2.out] at this
          rw [HX.out]; exact this
        · exact (heap_setCell_other _ _ _ _ (by simp)).trans HZ.out
        · exact HBel.out.drew.setCell (Nat.le_refl _) _
      case measure => simp [intOf]; omega
    · have HK := Lib.hid (show k = 64 by omega)
      go_wp2_with (first
        | ((with_reducible refine wl_load (dst := 15) w.heap.size 95 (bv (xrTo x b k)) (0, 0) 64 5 Tryz.underlying95 ?_ ?_ ?_ ?_); (· rfl); (· exact HH.out); (· rw [bv_size, xrTo_len, HS.out]; exact infoBlk))
        | ((with_reducible refine wl_store (ty := 95) (w.heap.size + 1) 95 (bv (zl 64)) (bv (xrTo x b k)) ?_ ?_ ?_ ?_ ?_ ?_ ?_); (· rfl); (· rfl); (· exact HZ.out); (· rw [bv_size, xrTo_len, HS.out]; exact infoBlk); (· rw [bv_size, bv_size, xrTo_len, HS.out, zl_len]); (· exact bv_one _)))
      refine ret_row Tryz.results50 (w.heap.size + 1) 95 (bv (xrTo x b k)) (0, 0) 64 5 Tryz.underlying95 rfl ?_ ?_ rfl ⟨by rw [HK.out, xrTo_all x HS.out], ?_⟩
      · exact setRow_heap _ _ _ _ _ _ HZ.out
      · rw [bv_size, xrTo_len, HS.out]; exact infoBlk
      · exact below_setRow' HBel.out (by omega) _
end Go.Proofs.YtgaoeljdlpemnaaGreatDoor.Hs
/- Contracts of mac.begin and mac.blockOf, over the translated program. -/
namespace Go.Proofs.YtgaoeljdlpemnaaGreatDoor.Hs
open Go.RowKit Go.Sha

@[local go_sem high, local simp high] theorem zblk2 (w : World) : (zeroValue 95).run Tryz.prog w = .ok (.agg (bv (zl 64))) w := by kernel_rfl
@[local go_sem high, local simp high] theorem zdig2 (w : World) : (zeroValue 62).run Tryz.prog w = .ok (.agg (bv (zl 32))) w := by kernel_rfl
/-- a result that lies in memory, a whole struct -/
theorem ret_rowS {fn : Func} {R : Ending → World → Prop} {a : Act} {w : World} {p : Tmp} {ty : TypeId} (h : fn.results = #[.cell p ty]) (g : Nat) (t : TypeId) (cs : Array Value) (fr : Nat × Nat) (fs : Array Field)
    (hu : Tryz.prog.underlying ty = some (.struct fs)) (hp : a.tmps.getD p undef = .pointer (some ⟨g, 0, none⟩)) (hg : w.heap[g]? = some (.cells cs t fr)) (hi : (Tryz.prog.info? ty).map (·.size) = some cs.size)
    (hdf : a.defers = []) (hR : R (.returned (.agg cs)) w) : bodyPost Tryz.prog fn R .ret a w :=
  bodyPost_ret (results_cell_row h a.tmps w g t cs fr _ hp hg hu rfl hi) hdf hR
/-- the bytes of a row that is known whole -/
theorem byt_row {w : World} {b g cap : Nat} {l : List Nat} {t : TypeId} {f : Nat × Nat} (h : w.heap[b]? = some (.cells (bv l) t f)) (hg : b ≠ g) (hc : l.length ≤ cap) : Byt w g (.slice (some ⟨b, 0, none⟩) l.length cap) l :=
  ⟨some ⟨b, 0, none⟩, cap, rfl, hc, fun _ => ⟨b, 0, rfl, hg, (Array.getElem?_eq_some_iff.1 h).1, fun j hj => by rw [Nat.zero_add, cell_of_row _ _ j _ _ _ h, bv_get l j hj]⟩⟩

set_option maxRecDepth 100000 in
set_option maxHeartbeats 800000 in
theorem begin_any (b : List Nat) (w : World) (hs : b.length = 64) (hb : Lt 256 b) (hG : Gl w) :
    Calls Tryz.prog 35 #[.agg (bv b)] w fun e w' => ∃ h, e = .returned (.agg #[.pointer (some ⟨h, 0, none⟩)]) ∧ w.heap.size ≤ h ∧ w'.heap[h]? = some (.cells (putL hs0 b).cells 123 (0, 0)) ∧ Below w.heap.size w w' := by
  have HS := Lib.hid hs; clear hs
  have HB := Lib.hid hb; clear hb
  have HG := Lib.hid hG; clear hG
  have hsz := HG.out.size
  go_enter Tryz.func35, Tryz.ntmps35
  go_wp2_with fail
  refine (new_any _ (HG.out.below hsz (((Below.refl _ _).alloc (Nat.le_refl _) _).alloc (by simp) _))).mono ?_
  rintro e w1 ⟨rfl, rfl⟩
  go_wp2_with fail
  have HB0 := Lib.hid (show Below w.heap.size w ((((w.alloc (.cells (bv b) 95)).alloc (.cells #[.pointer none] 99)).alloc (.cells (hv BEG (zl 64) 0) 123)).alloc (.cells #[.pointer (some ⟨w.heap.size + 1 + 1, 0, none⟩)] 99)) from ((((Below.refl _ _).alloc (Nat.le_refl _) _).alloc (by simp) _).alloc (by simp; omega) _).alloc (by simp; omega) _)
  have HH0 := Lib.hid (show ((((w.alloc (.cells (bv b) 95)).alloc (.cells #[.pointer none] 99)).alloc (.cells (hv BEG (zl 64) 0) 123)).alloc (.cells #[.pointer (some ⟨w.heap.size + 1 + 1, 0, none⟩)] 99)).heap[w.heap.size + 1 + 1]? = some (.cells hs0.cells 123 (0, 0)) from (heap_prev _ _ _ (by simp)).trans (heap_last _ _ _ (by simp)))
  have HX0 := Lib.hid (show ((((w.alloc (.cells (bv b) 95)).alloc (.cells #[.pointer none] 99)).alloc (.cells (hv BEG (zl 64) 0) 123)).alloc (.cells #[.pointer (some ⟨w.heap.size + 1 + 1, 0, none⟩)] 99)).heap[w.heap.size]? = some (.cells (bv b) 95 (0, 0)) from (heap_prev _ _ _ (by simp; omega)).trans ((heap_prev _ _ _ (by simp; omega)).trans ((heap_prev _ _ _ (by simp)).trans (heap_last _ _ _ rfl))))
  have HR0 := Lib.hid (show ((((w.alloc (.cells (bv b) 95)).alloc (.cells #[.pointer none] 99)).alloc (.cells (hv BEG (zl 64) 0) 123)).alloc (.cells #[.pointer (some ⟨w.heap.size + 1 + 1, 0, none⟩)] 99)).heap[w.heap.size + 1]? = some (.cells #[.pointer none] 99 (0, 0)) from (heap_prev _ _ _ (by simp)).trans ((heap_prev _ _ _ (by simp)).trans (heap_last _ _ _ (by simp))))
  have HP0 := Lib.hid (show ((((w.alloc (.cells (bv b) 95)).alloc (.cells #[.pointer none] 99)).alloc (.cells (hv BEG (zl 64) 0) 123)).alloc (.cells #[.pointer (some ⟨w.heap.size + 1 + 1, 0, none⟩)] 99)).heap[w.heap.size + 1 + 1 + 1]? = some (.cells #[.pointer (some ⟨w.heap.size + 1 + 1, 0, none⟩)] 99 (0, 0)) from heap_last _ _ _ (by simp))
  generalize (((w.alloc (.cells (bv b) 95)).alloc (.cells #[.pointer none] 99)).alloc (.cells (hv BEG (zl 64) 0) 123)).alloc (.cells #[.pointer (some ⟨w.heap.size + 1 + 1, 0, none⟩)] 99) = w1 at *
  refine wp_region_held (S := fun w' => w'.heap[w.heap.size + 1 + 1 + 1]? = some (.cells #[.pointer (some ⟨w.heap.size + 1 + 1, 0, none⟩)] 99 (0, 0))) (by kernel_rfl) ?_
  change wpAnyH _ _ _ _ _ _ _ _ (World.drew _)
  refine wpAnyH_take (i := 0) (oi := ⟨some 6, .fieldAddr 99 (.tmp 3) 0, _, _, _, none⟩) (v := .pointer (some ⟨w.heap.size + 1 + 1 + 1, 0, none⟩)) rfl (by kernel_rfl) (by kernel_rfl) (by kernel_rfl) (fun _ _ _ h => h) (Or.inl ⟨by rfl, fun w' hS => by go_simp⟩) HP0.out ?_
  simp only [Act.put, List.setIfInBounds_toArray, List.set_cons_zero, List.set_cons_succ]
  refine wpAnyH_take (i := 1) (oi := ⟨some 7, .load 97 (.tmp 6), _, _, _, none⟩) (v := .pointer (some ⟨w.heap.size + 1 + 1, 0, none⟩)) rfl (by kernel_rfl) (by kernel_rfl) (by kernel_rfl) (fun _ _ _ h => h) (Or.inl ⟨by rfl, fun w' hS => by have hc := cell_of_row w' _ 0 _ _ _ hS; go_simp⟩) HP0.out ?_
  simp only [Act.put, List.setIfInBounds_toArray, List.set_cons_zero, List.set_cons_succ]
  refine wpAnyH_take (i := 2) (oi := ⟨some 8, .slice 95 (.tmp 1) none none none, _, _, _, none⟩) (v := .slice (some ⟨w.heap.size, 0, none⟩) 64 64) rfl (by kernel_rfl) (by kernel_rfl) (by kernel_rfl) (fun _ _ _ h => h) (Or.inl ⟨by rfl, fun w' hS => by go_simp⟩) HP0.out ?_
  simp only [Act.put, List.setIfInBounds_toArray, List.set_cons_zero, List.set_cons_succ]
  refine wpAnyH_ready (rs := [3]) (by kernel_rfl) (by simp) (AllReadyH.cons (o := ⟨some 9, .call ⟨.value (.func 36), #[.tmp 7, .tmp 8], _⟩, _, _, _, none⟩) rfl (fun K hK => ?_) AllReadyH.nil)
  go_simp
  refine (write_any (w.heap.size + 1 + 1) hs0 b _ w1.drew hs0_ok HB.out (by rw [HS.out]; decide) (HG.out.below hsz HB0.out.drew) (by omega) HH0.out (by
    have := byt_row (w := w1.drew) (g := w.heap.size + 1 + 1) (cap := 64) HX0.out (by omega) (by rw [HS.out]; exact Nat.le_refl _)
    rw [HS.out] at this; exact this)).mono ?_
  rintro e w2 ⟨rfl, hh2, hgr2⟩
  have HB2 := Lib.hid (show Below w.heap.size w w2 from HB0.out.trans ⟨hgr2.os, hgr2.tape, hgr2.output, hgr2.size, fun k hk => hgr2.block k (by have := HB0.out.size; show k < w1.heap.size; omega) (by simp; omega)⟩)
  have HP2 := Lib.hid ((hgr2.block _ (Array.getElem?_eq_some_iff.1 HP0.out).1 (by simp)).trans HP0.out)
  have HR2 := Lib.hid ((hgr2.block _ (Array.getElem?_eq_some_iff.1 HR0.out).1 (by simp)).trans HR0.out)
  have HH2 := Lib.hid hh2
  clear hh2 hgr2
  refine hK.out _ _ HP2.out (fun _ => ?_)
  clear hK K
  refine wpAnyH_done (by kernel_rfl) ?_ _
  have c3 : w2.cell? ⟨w.heap.size + 1 + 1 + 1, 0, none⟩ = some (.pointer (some ⟨w.heap.size + 1 + 1, 0, none⟩)) := cell_of_row _ _ 0 _ _ _ HP2.out
  have c1 : w2.cell? ⟨w.heap.size + 1, 0, none⟩ = some (.pointer none) := cell_of_row _ _ 0 _ _ _ HR2.out
  have f1 : w2.frozen? ⟨w.heap.size + 1, 0, none⟩ = false := frozen_of_row _ _ _ _ _ HR2.out
  go_wp2_with fail
  have HR3 := Lib.hid (show (w2.setCell ⟨w.heap.size + 1, 0, none⟩ (.pointer (some ⟨w.heap.size + 1 + 1, 0, none⟩))).heap[w.heap.size + 1]? = some (.cells #[.pointer (some ⟨w.heap.size + 1 + 1, 0, none⟩)] 99 (0, 0)) from heap_setCell_same _ _ _ _ _ _ HR2.out)
  refine ret_rowS Tryz.results35 (w.heap.size + 1) 99 #[.pointer (some ⟨w.heap.size + 1 + 1, 0, none⟩)] (0, 0) _ Tryz.underlying99 rfl HR3.out (by kernel_rfl) rfl ⟨w.heap.size + 1 + 1, rfl, by omega, ?_, ?_⟩
  · exact (heap_setCell_other _ _ _ _ (by simp)).trans HH2.out
  · exact HB2.out.setCell (by simp) _

set_option maxRecDepth 100000 in
set_option maxHeartbeats 800000 in
theorem blockOf_any (key : List Nat) (v : Value) (w : World) (hl : Lt 256 key) (hc : key.length + 72 < 1152921504606846976) (hG : Gl w) (hb : Byt w w.heap.size v key) :
    Calls Tryz.prog 34 #[v] w fun e w' => e = .returned (.agg (bv (blk key))) ∧ Below w.heap.size w w' := by
  have HL := Lib.hid hl; clear hl
  have HC := Lib.hid hc; clear hc
  have HG := Lib.hid hG; clear hG
  obtain ⟨p, cap, rfl, hcap, hp⟩ := hb
  have HP := Lib.hid hp; clear hp
  have hsz := HG.out.size
  obtain ⟨n, hn⟩ : ∃ n, n = key.length := ⟨_, rfl⟩
  rw [← hn] at hcap HC HP ⊢
  have HN := Lib.hid hn; clear hn
  by_cases h64 : 64 < n
  · have t1 : decide ((64 : Int) < (n : Int)) = true := by simp; omega
    go_enter Tryz.func34, Tryz.ntmps34
    go_wp2_with fail
    have HB0 := Lib.hid (show Below w.heap.size w (w.alloc (.cells (bv (zl 64)) 95)) from (Below.refl _ _).alloc (Nat.le_refl _) _)
    have HBY := Lib.hid (show Byt w w.heap.size (.slice p n cap) key from ⟨p, cap, by rw [HN.out], by rw [← HN.out]; exact hcap, by rw [← HN.out]; exact HP.out⟩)
    refine (of_any key _ _ HL.out (by rw [← HN.out]; exact HC.out) (HG.out.below hsz HB0.out) (HBY.out.grown HB0.out (fun b h => by simp; omega))).mono ?_
    rintro e w1 ⟨rfl, hb1⟩
    have hs1 : w.heap.size + 1 ≤ w1.heap.size := by have := hb1.size; simpa using this
    have HQ0 := Lib.hid (show w1.heap[w.heap.size]? = some (.cells (bv (zl 64)) 95 (0, 0)) from (hb1.block _ (by simp)).trans (heap_last _ _ _ rfl))
    have HB1 := Lib.hid (HB0.out.trans (hb1.mono (by simp)))
    have HKK := Lib.hid (show kk key = shaL key from by unfold kk; rw [if_pos (by rw [← HN.out]; exact h64)])
    clear hb1
    go_wp2_with (first
      | ((with_reducible refine wl_storeL (ty := 62) w1.heap.size (bv (shaL key)) ?_ ?_ ?_ ?_ ?_ ?_ ?_); (· rfl); (· rfl); (· rfl); (· rw [bv_size, shaL_len]; exact info25); (· rw [bv_size, bv_size, shaL_len, zl_len]); (· exact bv_one _))
      | (with_reducible refine stp_copy ?_))
    unfold Stp
    with_reducible refine wl_copyN (w1.heap.size + 1) 64 64 95 (.slice (some ⟨w1.heap.size, 0, none⟩) 32 32) (shaL key) ?_ ?_ ?_ ?_ ?_ w.heap.size w ?_ ?_ ?_
    · rfl
    · rfl
    · have := (byt_row (w := (w1.alloc (.cells (bv (shaL key)) 62)).alloc (.cells (bv (zl 64)) 95)) (b := w1.heap.size) (g := 0) (cap := 32) (l := shaL key) (t := 62) (f := (0, 0)) ((heap_prev _ _ _ (by simp)).trans (heap_last _ _ _ rfl)) (by omega) (by rw [shaL_len]; exact Nat.le_refl _)).src
      rw [shaL_len] at this; exact this
    · rw [shaL_len]; decide
    · exact heap_last _ _ _ (by simp)
    · exact (HB1.out.alloc HB1.out.size _).alloc (by have := HB1.out.size; simp; omega) _
    · omega
    intro w2 hh2 hb2 hgr2
    have HQ2 := Lib.hid (show w2.heap[w.heap.size]? = some (.cells (bv (zl 64)) 95 (0, 0)) from (hgr2.block _ (by simp; omega) (by simp; omega)).trans ((heap_prev _ _ _ (by simp; omega)).trans ((heap_prev _ _ _ (by omega)).trans HQ0.out)))
    have HB2 := Lib.hid hb2
    clear hb2 hgr2
    have HBK := Lib.hid (show blk key = lay (zl 64) 0 (shaL key) from by unfold blk blk0; rw [HKK.out])
    rw [← HBK.out] at hh2
    go_wp2_with (first
      | ((with_reducible refine wl_load (dst := 14) (w1.heap.size + 1) 95 (bv (blk key)) (0, 0) 64 5 Tryz.underlying95 ?_ ?_ ?_ ?_); (· rfl); (· exact hh2.out); (· rw [bv_size, blk_len]; exact infoBlk))
      | ((with_reducible refine wl_store (ty := 95) w.heap.size 95 (bv (zl 64)) (bv (blk key)) ?_ ?_ ?_ ?_ ?_ ?_ ?_); (· rfl); (· rfl); (· exact HQ2.out); (· rw [bv_size, blk_len]; exact infoBlk); (· rw [bv_size, bv_size, blk_len, zl_len]); (· exact bv_one _)))
    refine ret_row Tryz.results34 w.heap.size 95 (bv (blk key)) (0, 0) 64 5 Tryz.underlying95 rfl ?_ ?_ rfl ⟨rfl, ?_⟩
    · exact setRow_heap _ _ _ _ _ _ HQ2.out
    · rw [bv_size, blk_len]; exact infoBlk
    · exact below_setRow' HB2.out (Nat.le_refl _) _
  · have t1 : decide ((64 : Int) < (n : Int)) = false := by simp; omega
    have HBY := Lib.hid (show Byt w w.heap.size (.slice p n cap) key from ⟨p, cap, by rw [HN.out], by rw [← HN.out]; exact hcap, by rw [← HN.out]; exact HP.out⟩)
    have HKK := Lib.hid (show kk key = key from by unfold kk; rw [if_neg (by rw [← HN.out]; exact h64)])
    go_enter Tryz.func34, Tryz.ntmps34
    go_wp2_with (with_reducible refine stp_copy ?_)
    unfold Stp
    with_reducible refine wl_copyN (w.heap.size + 1) 64 64 95 (.slice p n cap) key ?_ ?_ ?_ ?_ ?_ w.heap.size w ?_ ?_ ?_
    · rfl
    · rfl
    · exact (HBY.out.grown (w' := (w.alloc (.cells (bv (zl 64)) 95)).alloc (.cells (bv (zl 64)) 95)) (g' := w.heap.size) (((Below.refl _ _).alloc (Nat.le_refl _) _).alloc (by simp) _) (fun b h => by omega)).src
    · rw [← HN.out]; omega
    · exact heap_last _ _ _ (by simp)
    · exact ((Below.refl _ _).alloc (Nat.le_refl _) _).alloc (by simp) _
    · omega
    intro w2 hh2 hb2 hgr2
    have HQ2 := Lib.hid (show w2.heap[w.heap.size]? = some (.cells (bv (zl 64)) 95 (0, 0)) from (hgr2.block _ (by simp; omega) (by simp)).trans ((heap_prev _ _ _ (by simp)).trans (heap_last _ _ _ rfl)))
    have HB2 := Lib.hid hb2
    clear hb2 hgr2
    have HBK := Lib.hid (show blk key = lay (zl 64) 0 key from by unfold blk blk0; rw [HKK.out])
    rw [← HBK.out] at hh2
    go_wp2_with (first
      | ((with_reducible refine wl_load (dst := 14) (w.heap.size + 1) 95 (bv (blk key)) (0, 0) 64 5 Tryz.underlying95 ?_ ?_ ?_ ?_); (· rfl); (· exact hh2.out); (· rw [bv_size, blk_len]; exact infoBlk))
      | ((with_reducible refine wl_store (ty := 95) w.heap.size 95 (bv (zl 64)) (bv (blk key)) ?_ ?_ ?_ ?_ ?_ ?_ ?_); (· rfl); (· rfl); (· exact HQ2.out); (· rw [bv_size, blk_len]; exact infoBlk); (· rw [bv_size, bv_size, blk_len, zl_len]); (· exact bv_one _)))
    refine ret_row Tryz.results34 w.heap.size 95 (bv (blk key)) (0, 0) 64 5 Tryz.underlying95 rfl ?_ ?_ rfl ⟨rfl, ?_⟩
    · exact setRow_heap _ _ _ _ _ _ HQ2.out
    · rw [bv_size, blk_len]; exact infoBlk
    · exact below_setRow' HB2.out (Nat.le_refl _) _
end Go.Proofs.YtgaoeljdlpemnaaGreatDoor.Hs
namespace Go.Proofs.YtgaoeljdlpemnaaGreatDoor.Hs
open Go.RowKit Go.Sha

@[local go_sem high, local simp high] theorem zblk3 (w : World) : (zeroValue 95).run Tryz.prog w = .ok (.agg (bv (zl 64))) w := by kernel_rfl
theorem fill_two (place : Nat → Option (Nat × Nat)) (z a b : Array Value) (n m : Nat) (p0 : place 0 = some (0, n)) (p1 : place 1 = some (n, m)) (ha : a.size = n) (hb : b.size = m) (hz : z.size = n + m) :
    Instr.fill place z [(0, .agg a), (1, .agg b)] = some (a ++ b) := by
  obtain ⟨g1, g2⟩ := Great.foldl_set 0 a.toList 0 z
  have e0 : a.zipIdx.foldl (fun cs (x : Value × Nat) => cs.setIfInBounds (0 + x.2) x.1) z = (a.toList.zipIdx 0).foldl (fun cs (x : Value × Nat) => cs.setIfInBounds (0 + x.2) x.1) z := by
    rw [← Array.foldl_toList, Array.toList_zipIdx]
  generalize hz1 : (a.toList.zipIdx 0).foldl (fun cs (x : Value × Nat) => cs.setIfInBounds (0 + x.2) x.1) z = z1 at *
  obtain ⟨k1, k2⟩ := Great.foldl_set n b.toList 0 z1
  have e1 : b.zipIdx.foldl (fun cs (x : Value × Nat) => cs.setIfInBounds (n + x.2) x.1) z1 = (b.toList.zipIdx 0).foldl (fun cs (x : Value × Nat) => cs.setIfInBounds (n + x.2) x.1) z1 := by
    rw [← Array.foldl_toList, Array.toList_zipIdx]
  unfold Instr.fill
  rw [p0]
  dsimp only
  rw [if_neg (by simp [Value.cells, ha, hz])]
  change Instr.fill place (a.zipIdx.foldl (fun cs (x : Value × Nat) => cs.setIfInBounds (0 + x.2) x.1) z) _ = _
  rw [e0]
  unfold Instr.fill
  rw [p1]
  dsimp only
  rw [if_neg (by simp [Value.cells, hb, g1, hz])]
  change Instr.fill place (b.zipIdx.foldl (fun cs (x : Value × Nat) => cs.setIfInBounds (n + x.2) x.1) z1) _ = _
  rw [e1]
  unfold Instr.fill
  congr 1
  apply Array.ext_getElem?
  intro k
  rw [k2 k, g2 k, Array.getElem?_append]
  simp only [Array.length_toList, Nat.add_zero, Nat.zero_add]
  by_cases h1 : k < a.size
  · rw [if_neg (by omega), if_pos (by omega), if_pos h1]; simp
  · rw [if_neg h1]
    by_cases h2 : k < n + m
    · rw [if_pos (by omega), ha]; simp
    · rw [if_neg (by omega), if_neg (by omega), Array.getElem?_eq_none (by omega), Array.getElem?_eq_none (by omega)]
/-- the cells of a pen -/
def pv (h : Nat) (o : List Nat) : Array Value := #[Value.pointer (some ⟨h, 0, none⟩)] ++ bv o
theorem pv_size (h : Nat) {o : List Nat} (ho : o.length = 64) : (pv h o).size = 65 := by simp [pv, bv_size, ho]
theorem pv_zero (h : Nat) (o : List Nat) : (pv h o)[0]? = some (.pointer (some ⟨h, 0, none⟩)) := by simp [pv, Array.getElem?_append]
theorem pv_bytesAt (h : Nat) (o : List Nat) : ∀ j v, (bv o)[j]? = some v → (pv h o)[1 + j]? = some v := by
  intro j v hv
  rw [pv, Array.getElem?_append, if_neg (by simp)]
  simpa using hv
theorem penZero : (Tryz.prog.info? 102).map (fun i => i.zero.map (·.cells.size)) = some (some 65) := by kernel_rfl
theorem penPlaces : (match Tryz.prog.underlying 102 with | some (.struct fs) => fs.toList.mapM (fun f => (Tryz.prog.info? f.type).map fun i => (f.offset, i.size)) | _ => none) = some [(0, 1), (1, 64)] := by kernel_rfl
theorem infoPen : (Tryz.prog.info? 102).map (·.size) = some 65 := by kernel_rfl
set_option maxRecDepth 100000 in
theorem built_pen (h : Nat) {o : List Nat} (ho : o.length = 64) : Tryz.prog.built 102 [(0, .agg #[.pointer (some ⟨h, 0, none⟩)]), (1, .agg (bv o))] = some (pv h o) := by
  unfold Program.built
  have hz := penZero
  cases hi : Tryz.prog.info? 102 with
  | none => rw [hi] at hz; cases hz
  | some it =>
    rw [hi] at hz
    cases hz0 : it.zero with
    | none => simp [hz0] at hz
    | some z =>
      simp [hz0] at hz
      have hp := penPlaces
      rw [Tryz.underlying102] at hp ⊢
      simp only at hp ⊢
      rw [hp, hz0]
      simp only
      exact fill_two _ z.cells _ _ 1 64 rfl rfl rfl (by rw [bv_size, ho]) hz
attribute [irreducible] pv

set_option maxRecDepth 100000 in
theorem xoredBy_any (x : Nat) (w : World) :
    Calls Tryz.prog 33 #[.int .u8 (x : Int)] w fun e w' => e = .returned (.func (.func 50) #[] #[.pointer (some ⟨w.heap.size, 0, none⟩)]) ∧ w' = w.alloc (.cells #[.int .u8 (x : Int)] 5) := by
  go_enter Tryz.func33, Tryz.ntmps33
  go_wp2
  go_ret
  exact ⟨rfl, rfl⟩
theorem yi_build {P : Program} {ops : Array Oper} {S : World → Prop} {o : Oper} {a : Act} (hw : Region.wanted o (yielded ops a.tmps) = true) (ty : TypeId) (parts : Array (Nat × Operand)) (ho : o.op = .build ty parts) (cells : Array Value)
    (hb : P.built ty (parts.map fun (i, x) => (i, a.eval x)).toList = some cells) : YieldsIf P ops S o (.agg cells) a :=
  .inl ⟨hw, fun w _ => by
    unfold execOp
    simp only [ho, Sem.run_bind, run_build w ty _ cells hb, Result.andThen_ok, Sem.run_pure]⟩
/-- a pen in memory: g is its block, h its hash's -/
def PenAt (w : World) (g h : Nat) (o : List Nat) (s : HS) : Prop := w.heap[g]? = some (.cells (pv h o) 102 (0, 0)) ∧ w.heap[h]? = some (.cells s.cells 123 (0, 0)) ∧ g ≠ h

set_option maxRecDepth 100000 in
set_option maxHeartbeats 1600000 in
theorem macNew_any (key : List Nat) (v : Value) (w : World) (hl : Lt 256 key) (hc : key.length + 72 < 1152921504606846976) (hG : Gl w) (hb : Byt w w.heap.size v key) :
    Calls Tryz.prog 20 #[v] w fun e w' => ∃ g h, e = .returned (.pointer (some ⟨g, 0, none⟩)) ∧ w.heap.size ≤ g ∧ w.heap.size ≤ h ∧ PenAt w' g h (out key) (putL hs0 (inn key)) ∧ Below w.heap.size w w' := by
  have HL := Lib.hid hl; clear hl
  have HC := Lib.hid hc; clear hc
  have HG := Lib.hid hG; clear hG
  have HV := Lib.hid hb; clear hb
  have hsz := HG.out.size
  go_enter Tryz.func20, Tryz.ntmps20
  go_wp2_with (first
    | (go_at_call 33; first
       | (refine (xoredBy_any 54 _).mono ?_; rintro e w' ⟨rfl, rfl⟩)
       | (refine (xoredBy_any 92 _).mono ?_; rintro e w' ⟨rfl, rfl⟩)))
  have HB0 := Lib.hid (show Below w.heap.size w ((w.alloc (.cells #[.int .u8 (54 : Nat)] 5)).alloc (.cells #[.int .u8 (92 : Nat)] 5)) from ((Below.refl _ _).alloc (Nat.le_refl _) _).alloc (by simp) _)
  have HI0 := Lib.hid (show ((w.alloc (.cells #[.int .u8 (54 : Nat)] 5)).alloc (.cells #[.int .u8 (92 : Nat)] 5)).heap[w.heap.size]? = some (.cells #[.int .u8 (54 : Nat)] 5 (0, 0)) from (heap_prev _ _ _ (by simp)).trans (heap_last _ _ _ rfl))
  have HO0 := Lib.hid (show ((w.alloc (.cells #[.int .u8 (54 : Nat)] 5)).alloc (.cells #[.int .u8 (92 : Nat)] 5)).heap[w.heap.size + 1]? = some (.cells #[.int .u8 (92 : Nat)] 5 (0, 0)) from heap_last _ _ _ (by simp))
  refine (blockOf_any key v _ HL.out HC.out (HG.out.below hsz (by exact HB0.out)) (by exact HV.out.grown HB0.out (fun b h => by simp; omega))).mono ?_
  rintro e w1 ⟨rfl, hb1⟩
  have hs1 : w.heap.size + 2 ≤ w1.heap.size := by have := hb1.size; simpa using this
  have HB1 := Lib.hid (show Below w.heap.size w w1 from HB0.out.trans (hb1.mono (by simp; omega)))
  have HI1 := Lib.hid ((hb1.block _ (by simp; omega)).trans HI0.out)
  have HO1 := Lib.hid ((hb1.block _ (by simp)).trans HO0.out)
  clear hb1 HI0 HO0 HB0
  go_wp2_with (first
    | ((with_reducible refine wl_storeL (ty := 95) w1.heap.size (bv (blk key)) ?_ ?_ ?_ ?_ ?_ ?_ ?_); (· rfl); (· rfl); (· rfl); (· rw [bv_size, blk_len]; exact infoBlk); (· rw [bv_size, bv_size, blk_len, zl_len]); (· exact bv_one _)))
  have HW3 := Lib.hid (show Below w.heap.size w (w1.alloc (.cells (bv (blk key)) 95)).drew from (HB1.out.alloc HB1.out.size _).drew)
  have HI3 := Lib.hid (show ((w1.alloc (.cells (bv (blk key)) 95)).drew).heap[w.heap.size]? = some (.cells #[.int .u8 (54 : Nat)] 5 (0, 0)) from (heap_prev _ _ _ (by omega)).trans HI1.out)
  have HO3 := Lib.hid (show ((w1.alloc (.cells (bv (blk key)) 95)).drew).heap[w.heap.size + 1]? = some (.cells #[.int .u8 (92 : Nat)] 5 (0, 0)) from (heap_prev _ _ _ (by omega)).trans HO1.out)
  have HK3 := Lib.hid (show ((w1.alloc (.cells (bv (blk key)) 95)).drew).heap[w1.heap.size]? = some (.cells (bv (blk key)) 95 (0, 0)) from heap_last _ _ _ rfl)
  have HIB := Lib.hid (show (Tryz.prog.info? 95).map (·.size) = some (bv (blk key)).size by rw [bv_size, blk_len]; exact infoBlk)
  have hs3 : w.heap.size + 2 ≤ ((w1.alloc (.cells (bv (blk key)) 95)).drew).heap.size := by have := HW3.out.size; show w.heap.size + 2 ≤ (w1.alloc _).heap.size; simp; omega
  refine wp_region_held (S := fun w' => Below ((w1.alloc (.cells (bv (blk key)) 95)).drew).heap.size ((w1.alloc (.cells (bv (blk key)) 95)).drew) w') (by kernel_rfl) ?_
  change wpAnyH _ _ _ _ _ _ _ _ (World.drew _)
  have HS0 := Lib.hid (Below.refl ((w1.alloc (.cells (bv (blk key)) 95)).drew).heap.size ((w1.alloc (.cells (bv (blk key)) 95)).drew))
  generalize (w1.alloc (.cells (bv (blk key)) 95)).drew = z3 at *
  have HG3 := Lib.hid (HG.out.below hsz HW3.out)
  have HIN := Lib.hid (show xr 54 (blk key) = inn key from by unfold inn; rfl)
  have HOU := Lib.hid (show xr 92 (blk key) = out key from by unfold out; rfl)
  refine wpAnyH_take (i := 0) (oi := ⟨some 10, .move (.tmp 3), _, _, _, none⟩) (v := .func (.func 50) #[] #[.pointer (some ⟨w.heap.size, 0, none⟩)]) rfl (by kernel_rfl) (by kernel_rfl) (by kernel_rfl) (fun _ _ _ h => h) (Or.inl ⟨by rfl, fun w' hS => by go_simp⟩) HS0.out ?_
  simp only [Act.put, List.setIfInBounds_toArray, List.set_cons_zero, List.set_cons_succ]
  refine wpAnyH_take (i := 1) (oi := ⟨some 11, .load 95 (.tmp 5), _, _, _, none⟩) (v := .agg (bv (blk key))) rfl (by kernel_rfl) (by kernel_rfl) (by kernel_rfl) (fun _ _ _ h => h) (yi_row' (by rfl) 95 (.tmp 5) rfl w1.heap.size (bv (blk key)) 64 5 Tryz.underlying95 HIB.out rfl (fun w' h => ⟨_, _, (h.block _ (Array.getElem?_eq_some_iff.1 HK3.out).1).trans HK3.out⟩)) HS0.out ?_
  simp only [Act.put, List.setIfInBounds_toArray, List.set_cons_zero, List.set_cons_succ]
  refine wpAnyH_take (i := 4) (oi := ⟨some 14, .move (.tmp 4), _, _, _, none⟩) (v := .func (.func 50) #[] #[.pointer (some ⟨w.heap.size + 1, 0, none⟩)]) rfl (by kernel_rfl) (by kernel_rfl) (by kernel_rfl) (fun _ _ _ h => h) (Or.inl ⟨by rfl, fun w' hS => by go_simp⟩) HS0.out ?_
  simp only [Act.put, List.setIfInBounds_toArray, List.set_cons_zero, List.set_cons_succ]
  refine wpAnyH_take (i := 5) (oi := ⟨some 15, .load 95 (.tmp 5), _, _, _, none⟩) (v := .agg (bv (blk key))) rfl (by kernel_rfl) (by kernel_rfl) (by kernel_rfl) (fun _ _ _ h => h) (yi_row' (by rfl) 95 (.tmp 5) rfl w1.heap.size (bv (blk key)) 64 5 Tryz.underlying95 HIB.out rfl (fun w' h => ⟨_, _, (h.block _ (Array.getElem?_eq_some_iff.1 HK3.out).1).trans HK3.out⟩)) HS0.out ?_
  simp only [Act.put, List.setIfInBounds_toArray, List.set_cons_zero, List.set_cons_succ]
  refine wpAnyH_ready (rs := [2]) (by kernel_rfl) (by simp) (AllReadyH.cons (o := ⟨some 12, .call ⟨.value (.tmp 10), #[.tmp 11], _⟩, _, _, _, none⟩) rfl (fun K hK => ?_) AllReadyH.nil)
  go_simp
  refine (xor_any 54 w.heap.size 5 (0, 0) (blk key) _ (by decide) (blk_len key) (blk_lt HL.out) ((HS0.out.block _ (by omega)).trans HI3.out)).mono ?_
  rintro e w1 ⟨rfl, hbel⟩
  have HS1 := Lib.hid (HS0.out.trans (hbel.mono HS0.out.size))
  clear hbel
  refine hK.out _ _ HS1.out (fun _ => ?_)
  clear hK K
  rw [HIN.out]
  refine wpAnyH_ready (rs := [3]) (by kernel_rfl) (by simp) (AllReadyH.cons (o := ⟨some 13, .call ⟨.value (.func 35), #[.tmp 12], _⟩, _, _, _, none⟩) rfl (fun K hK => ?_) AllReadyH.nil)
  go_simp
  refine (begin_any (inn key) _ (inn_len key) (inn_lt HL.out) (HG3.out.below HG3.out.size HS1.out)).mono ?_
  rintro e w2 ⟨h, rfl, hh1, hh2, hbel⟩
  have HS2 := Lib.hid (HS1.out.trans (hbel.mono HS1.out.size))
  have HX := Lib.hid hh2
  have hxl : z3.heap.size ≤ h := by have := HS1.out.size; omega
  clear hh1 hh2
  clear hbel
  refine hK.out _ _ HS2.out (fun _ => ?_)
  clear hK K
  refine wpAnyH_ready (rs := [6]) (by kernel_rfl) (by simp) (AllReadyH.cons (o := ⟨some 16, .call ⟨.value (.tmp 14), #[.tmp 15], _⟩, _, _, _, none⟩) rfl (fun K hK => ?_) AllReadyH.nil)
  go_simp
  refine (xor_any 92 (w.heap.size + 1) 5 (0, 0) (blk key) _ (by decide) (blk_len key) (blk_lt HL.out) ((HS2.out.block _ (by omega)).trans HO3.out)).mono ?_
  rintro e w3 ⟨rfl, hbel⟩
  have HS3 := Lib.hid (HS2.out.trans (hbel.mono HS2.out.size))
  have HX := Lib.hid ((hbel.block _ (Array.getElem?_eq_some_iff.1 HX.out).1).trans HX.out)
  clear hbel
  refine hK.out _ _ HS3.out (fun _ => ?_)
  clear hK K
  rw [HOU.out]
  refine wpAnyH_take (i := 7) (oi := ⟨some 17, .build 102 #[(0, .tmp 13), (1, .tmp 16)], _, _, _, none⟩) (v := .agg (pv h (out key))) rfl (by kernel_rfl) (by kernel_rfl) (by kernel_rfl) (fun _ _ _ h => h) (yi_build (by rfl) 102 #[(0, .tmp 13), (1, .tmp 16)] rfl (pv h (out key)) (by simp only [List.map_toArray, List.map_cons, List.map_nil]; exact built_pen h (out_len key))) HS3.out ?_
  simp only [Act.put, List.setIfInBounds_toArray, List.set_cons_zero, List.set_cons_succ]
  refine wpAnyH_ready (rs := [8]) (by kernel_rfl) (by simp) (AllReadyH.cons (o := ⟨some 18, .box 102 (.tmp 17), _, _, _, none⟩) rfl (fun K hK => ?_) AllReadyH.nil)
  go_simp
  refine hK.out _ _ (HS3.out.alloc HS3.out.size _) (fun _ => ?_)
  clear hK K
  have HS4 := Lib.hid (HS3.out.alloc HS3.out.size (.cells (pv h (out key)) 102))
  refine wpAnyH_take (i := 9) (oi := ⟨some 2, .assign (.tmp 18), _, _, _, none⟩) (v := .pointer (some ⟨w3.heap.size, 0, none⟩)) rfl (by kernel_rfl) (by kernel_rfl) (by kernel_rfl) (fun _ _ _ h => h) (Or.inl ⟨by rfl, fun w' hS => by go_simp⟩) HS4.out ?_
  simp only [Act.put, List.setIfInBounds_toArray, List.set_cons_zero, List.set_cons_succ]
  refine wpAnyH_done (by kernel_rfl) ?_ _
  go_wp2_with fail
  go_ret
  have hs4 := HS3.out.size
  exact ⟨w3.heap.size, h, rfl, by omega, by omega, ⟨heap_last _ _ _ rfl, (heap_prev _ _ _ (Array.getElem?_eq_some_iff.1 HX.out).1).trans HX.out, Nat.ne_of_gt (Array.getElem?_eq_some_iff.1 HX.out).1⟩, HW3.out.trans (HS4.out.mono (by omega))⟩
end Go.Proofs.YtgaoeljdlpemnaaGreatDoor.Hs
