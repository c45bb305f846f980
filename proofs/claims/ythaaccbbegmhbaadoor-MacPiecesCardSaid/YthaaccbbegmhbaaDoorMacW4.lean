/- Contracts of (*mac.Pen).Write, (*mac.Pen).Sum and mac.Of, over the translated program. -/
import Derived.Test.YthaaccbbegmhbaaDoorMacW3
namespace Go.Proofs.YthaaccbbegmhbaaDoor
open Go.RowKit Go.Sha

@[local go_sem high, local simp high] theorem zdig4 (w : World) : (zeroValue 25).run Tryd.prog w = .ok (.agg (bv (zl 32))) w := by kernel_rfl
theorem PenAt.grown {w w' : World} {g h : Nat} {o : List Nat} {s : HS} (hp : PenAt w g h o s) (hb : Below w.heap.size w w') : PenAt w' g h o s :=
  ⟨(hb.block _ (Array.getElem?_eq_some_iff.1 hp.1).1).trans hp.1, (hb.block _ (Array.getElem?_eq_some_iff.1 hp.2.1).1).trans hp.2.1, hp.2.2⟩

set_option maxRecDepth 100000 in
set_option maxHeartbeats 800000 in
theorem penWrite_nil (v : Value) (w : World) : Calls Tryd.prog 18 #[.pointer none, v] w fun e w' => e = .returned (.tuple #[]) ∧ w = w' := by
  go_enter Tryd.func18, Tryd.ntmps18
  go_wp2
  exact bodyPost_ret (results_none rfl _ _ _) rfl ⟨rfl, rfl⟩

set_option maxRecDepth 100000 in
set_option maxHeartbeats 800000 in
theorem penSum_nil (w : World) : Calls Tryd.prog 19 #[.pointer none] w fun e w' => e = .returned (.agg (bv (zl 32))) ∧ Below w.heap.size w w' := by
  go_enter Tryd.func19, Tryd.ntmps19
  go_wp2_with (first
    | ((with_reducible refine wl_build (dst := 7) (bv (zl 32)) ?_ ?_); (· kernel_rfl))
    | ((with_reducible refine wl_storeL (ty := 25) w.heap.size (bv (zl 32)) ?_ ?_ ?_ ?_ ?_ ?_ ?_); (· rfl); (· rfl); (· rfl); (· rw [bv_size, zl_len]; exact info25); (· rfl); (· exact bv_one _)))
  refine ret_row Tryd.results19 w.heap.size 25 (bv (zl 32)) (0, 0) 32 5 Tryd.underlying25 rfl ?_ ?_ rfl ⟨rfl, ?_⟩
  · exact heap_last _ _ _ rfl
  · rw [bv_size, zl_len]; exact info25
  · exact (Below.refl _ _).alloc (Nat.le_refl _) _

set_option maxRecDepth 100000 in
set_option maxHeartbeats 800000 in
theorem penWrite_any (g h : Nat) (o : List Nat) (s : HS) (l : List Nat) (v : Value) (w : World) (hp : PenAt w g h o s) (ho : s.Ok) (hl : Lt 256 l) (hc : s.c + l.length < 1152921504606846976) (hG : Gl w) (hg2 : 2 ≤ h) (hb : Byt w h v l) :
    Calls Tryd.prog 18 #[.pointer (some ⟨g, 0, none⟩), v] w fun e w' => e = .returned (.tuple #[]) ∧ PenAt w' g h o (putL s l) ∧ w.grownBy w' (some h) := by
  have HO := Lib.hid ho; clear ho
  have HL := Lib.hid hl; clear hl
  have HC := Lib.hid hc; clear hc
  have HG := Lib.hid hG; clear hG
  have HP := Lib.hid hp; clear hp
  have HV := Lib.hid hb; clear hb
  have c0 : w.cell? ⟨g, 0, none⟩ = some (.pointer (some ⟨h, 0, none⟩)) := (cell_of_row _ _ 0 _ _ _ HP.out.1).trans (pv_zero h o)
  go_enter Tryd.func18, Tryd.ntmps18
  go_wp2_with fail
  refine (write_any h s l v w HO.out HL.out HC.out HG.out hg2 HP.out.2.1 HV.out).mono ?_
  rintro e w1 ⟨rfl, hh, hgr⟩
  have HQ := Lib.hid (show PenAt w1 g h o (putL s l) from ⟨(hgr.block _ (Array.getElem?_eq_some_iff.1 HP.out.1).1 (fun e => HP.out.2.2 (Option.some.inj e))).trans HP.out.1, hh, HP.out.2.2⟩)
  have HGR := Lib.hid hgr
  clear hh hgr
  go_wp2_with fail
  go_end0
  exact ⟨rfl, HQ.out, HGR.out⟩

set_option maxRecDepth 100000 in
set_option maxHeartbeats 1600000 in
theorem penSum_any (g h : Nat) (o : List Nat) (s : HS) (w : World) (hp : PenAt w g h o s) (ho : s.Ok) (hc : s.c + 72 < 1152921504606846976) (h64 : o.length = 64) (ho1 : Lt 256 o) (hG : Gl w) :
    Calls Tryd.prog 19 #[.pointer (some ⟨g, 0, none⟩)] w fun e w' => e = .returned (.agg (bv (penL o s))) ∧ Below w.heap.size w w' := by
  have HO := Lib.hid ho; clear ho
  have HC := Lib.hid hc; clear hc
  have HG := Lib.hid hG; clear hG
  have HP := Lib.hid hp; clear hp
  have H64 := Lib.hid h64; clear h64
  have HO1 := Lib.hid ho1; clear ho1
  have hsz := HG.out.size
  have hgs : g < w.heap.size := (Array.getElem?_eq_some_iff.1 HP.out.1).1
  have c0 : w.cell? ⟨g, 0, none⟩ = some (.pointer (some ⟨h, 0, none⟩)) := (cell_of_row _ _ 0 _ _ _ HP.out.1).trans (pv_zero h o)
  have c00 : (w.alloc (.cells (bv (zl 32)) 25)).cell? ⟨g, 0, none⟩ = some (.pointer (some ⟨h, 0, none⟩)) := (World.cell?_alloc_lt _ _ _ hgs).trans c0
  have HB0 := Lib.hid (show Below w.heap.size w (w.alloc (.cells (bv (zl 32)) 25)) from (Below.refl _ _).alloc (Nat.le_refl _) _)
  go_enter Tryd.func19, Tryd.ntmps19
  go_wp2_with fail
  refine (sum_any h s _ HO.out HC.out (HG.out.below hsz HB0.out) ((HB0.out.block _ (Array.getElem?_eq_some_iff.1 HP.out.2.1).1).trans HP.out.2.1)).mono ?_
  rintro e w1 ⟨rfl, hb1⟩
  have hs1 : w.heap.size + 1 ≤ w1.heap.size := by have := hb1.size; simpa using this
  have HB1 := Lib.hid (HB0.out.trans (hb1.mono (by simp)))
  have HQ1 := Lib.hid (show w1.heap[w.heap.size]? = some (.cells (bv (zl 32)) 25 (0, 0)) from (hb1.block _ (by simp)).trans (heap_last _ _ _ rfl))
  have HP1 := Lib.hid ((HB1.out.block _ hgs).trans HP.out.1)
  clear hb1
  have HD := Lib.hid (show (sumL s).length = 32 from by unfold sumL; exact dig_len _)
  have HD1 := Lib.hid (show Lt 256 (sumL s) from by unfold sumL; exact dig_lt _)
  go_wp2_with (first
    | ((with_reducible refine wl_storeL (ty := 25) w1.heap.size (bv (sumL s)) ?_ ?_ ?_ ?_ ?_ ?_ ?_); (· rfl); (· rfl); (· rfl); (· rw [bv_size, HD.out]; exact info25); (· rw [bv_size, bv_size, HD.out, zl_len]); (· exact bv_one _))
    | ((with_reducible refine wl_loadP (dst := 17) g 1 52 (bv o) (pv h o) (0, 0) 64 5 Tryd.underlying50 ?_ ?_ ?_ ?_ ?_); (· rfl); (· exact (heap_prev _ _ _ (by omega)).trans HP1.out); (· exact pv_bytesAt _ _); (· rw [bv_size, H64.out]; exact infoBlk)))
  have HB2 := Lib.hid (show Below w.heap.size w (w1.alloc (.cells (bv (sumL s)) 25)) from HB1.out.alloc (by omega) _)
  refine (begin_any o _ H64.out HO1.out (HG.out.below hsz (by exact HB2.out))).mono ?_
  rintro e w2 ⟨h2, rfl, hh1, hh2, hb2⟩
  have hs2 : w1.heap.size + 1 ≤ w2.heap.size := by have := hb2.size; simpa using this
  have hl2 : w1.heap.size + 1 ≤ h2 := by simpa using hh1
  have HB3 := Lib.hid (HB2.out.trans (hb2.mono (by simp; omega)))
  have HQ2 := Lib.hid (show w2.heap[w.heap.size]? = some (.cells (bv (zl 32)) 25 (0, 0)) from (hb2.block _ (by simp; omega)).trans ((heap_prev _ _ _ (by omega)).trans HQ1.out))
  have HN2 := Lib.hid (show w2.heap[w1.heap.size]? = some (.cells (bv (sumL s)) 25 (0, 0)) from (hb2.block _ (by simp)).trans (heap_last _ _ _ rfl))
  have HX2 := Lib.hid hh2
  have hx2 : h2 < w2.heap.size := (Array.getElem?_eq_some_iff.1 hh2).1
  clear hh1 hh2 hb2
  go_wp2_with fail
  have HB4 := Lib.hid (show Below w.heap.size w (w2.alloc (.cells #[.pointer (some ⟨h2, 0, none⟩)] 49)).drew from (HB3.out.alloc (by omega) _).drew)
  have HQ4 := Lib.hid (show ((w2.alloc (.cells #[.pointer (some ⟨h2, 0, none⟩)] 49)).drew).heap[w.heap.size]? = some (.cells (bv (zl 32)) 25 (0, 0)) from (heap_prev _ _ _ (by omega)).trans HQ2.out)
  have HN4 := Lib.hid (show ((w2.alloc (.cells #[.pointer (some ⟨h2, 0, none⟩)] 49)).drew).heap[w1.heap.size]? = some (.cells (bv (sumL s)) 25 (0, 0)) from (heap_prev _ _ _ (by omega)).trans HN2.out)
  have HX4 := Lib.hid (show ((w2.alloc (.cells #[.pointer (some ⟨h2, 0, none⟩)] 49)).drew).heap[h2]? = some (.cells (putL hs0 o).cells 60 (0, 0)) from (heap_prev _ _ _ (by omega)).trans HX2.out)
  have HS0 := Lib.hid (show ((w2.alloc (.cells #[.pointer (some ⟨h2, 0, none⟩)] 49)).drew).heap[w2.heap.size]? = some (.cells #[.pointer (some ⟨h2, 0, none⟩)] 49 (0, 0)) from heap_last _ _ _ rfl)
  refine wp_region_held (S := fun w' => w'.heap[w2.heap.size]? = some (.cells #[.pointer (some ⟨h2, 0, none⟩)] 49 (0, 0))) (by kernel_rfl) ?_
  change wpAnyH _ _ _ _ _ _ _ _ (World.drew _)
  generalize (w2.alloc (.cells #[.pointer (some ⟨h2, 0, none⟩)] 49)).drew = w4 at *
  refine wpAnyH_take (i := 0) (oi := ⟨some 19, .fieldAddr 49 (.tmp 4) 0, _, _, _, none⟩) (v := .pointer (some ⟨w2.heap.size, 0, none⟩)) rfl (by kernel_rfl) (by kernel_rfl) (by kernel_rfl) (fun _ _ _ h => h) (Or.inl ⟨by rfl, fun w' hS => by go_simp⟩) HS0.out ?_
  simp only [Act.put, List.setIfInBounds_toArray, List.set_cons_zero, List.set_cons_succ]
  refine wpAnyH_take (i := 1) (oi := ⟨some 20, .load 39 (.tmp 19), _, _, _, none⟩) (v := .pointer (some ⟨h2, 0, none⟩)) rfl (by kernel_rfl) (by kernel_rfl) (by kernel_rfl) (fun _ _ _ h => h) (Or.inl ⟨by rfl, fun w' hS => by have hc := cell_of_row w' _ 0 _ _ _ hS; go_simp⟩) HS0.out ?_
  simp only [Act.put, List.setIfInBounds_toArray, List.set_cons_zero, List.set_cons_succ]
  refine wpAnyH_take (i := 2) (oi := ⟨some 21, .slice 25 (.tmp 3) none none none, _, _, _, none⟩) (v := .slice (some ⟨w1.heap.size, 0, none⟩) 32 32) rfl (by kernel_rfl) (by kernel_rfl) (by kernel_rfl) (fun _ _ _ h => h) (Or.inl ⟨by rfl, fun w' hS => by go_simp⟩) HS0.out ?_
  simp only [Act.put, List.setIfInBounds_toArray, List.set_cons_zero, List.set_cons_succ]
  refine wpAnyH_ready (rs := [3]) (by kernel_rfl) (by simp) (AllReadyH.cons (o := ⟨some 22, .call ⟨.value (.func 22), #[.tmp 20, .tmp 21], _⟩, _, _, _, none⟩) rfl (fun K hK => ?_) AllReadyH.nil)
  go_simp
  refine (write_any h2 (putL hs0 o) (sumL s) _ w4 (putL_ok hs0_ok HO1.out) HD1.out (by rw [HD.out, putL_c, H64.out]; decide) (HG.out.below hsz HB4.out) (by omega) HX4.out (by
    have := byt_row (w := w4) (g := h2) (cap := 32) HN4.out (by omega) (by rw [HD.out]; exact Nat.le_refl _)
    rw [HD.out] at this; exact this)).mono ?_
  rintro e w5 ⟨rfl, hh5, hgr5⟩
  have HS5 := Lib.hid ((hgr5.block _ (Array.getElem?_eq_some_iff.1 HS0.out).1 (by simp; omega)).trans HS0.out)
  have HQ5 := Lib.hid ((hgr5.block _ (Array.getElem?_eq_some_iff.1 HQ4.out).1 (by simp; omega)).trans HQ4.out)
  have HB5 := Lib.hid (show Below w.heap.size w w5 from HB4.out.trans ⟨hgr5.os, hgr5.tape, hgr5.output, hgr5.size, fun k hk => hgr5.block k (by have := HB4.out.size; omega) (by simp; omega)⟩)
  have HX5 := Lib.hid hh5
  clear hh5 hgr5
  refine hK.out _ _ HS5.out (fun _ => ?_)
  clear hK K
  refine wpAnyH_done (by kernel_rfl) ?_ _
  have c5 : w5.cell? ⟨w2.heap.size, 0, none⟩ = some (.pointer (some ⟨h2, 0, none⟩)) := cell_of_row _ _ 0 _ _ _ HS5.out
  have hq5 : w.heap.size < w5.heap.size := (Array.getElem?_eq_some_iff.1 HQ5.out).1
  go_wp2_with fail
  have HPN := Lib.hid (show sumL (putL (putL hs0 o) (sumL s)) = penL o s from by unfold penL; exact sha_two o (sumL s))
  refine (sum_any h2 _ w5 (putL_ok (putL_ok hs0_ok HO1.out) HD1.out) (by rw [putL_c, putL_c, H64.out, HD.out]; decide) (HG.out.below hsz HB5.out) HX5.out).mono ?_
  rw [HPN.out]
  rintro e w6 ⟨rfl, hb6⟩
  have HQ6 := Lib.hid ((hb6.block _ hq5).trans HQ5.out)
  have HB6 := Lib.hid (HB5.out.trans (hb6.mono (by omega)))
  clear hb6
  go_wp2_with (first
    | ((with_reducible refine wl_store (ty := 25) w.heap.size 25 (bv (zl 32)) (bv (penL o s)) ?_ ?_ ?_ ?_ ?_ ?_ ?_); (· rfl); (· rfl); (· exact HQ6.out); (· rw [bv_size, penL_len]; exact info25); (· rw [bv_size, bv_size, penL_len, zl_len]); (· exact bv_one _)))
  refine ret_row Tryd.results19 w.heap.size 25 (bv (penL o s)) (0, 0) 32 5 Tryd.underlying25 rfl ?_ ?_ rfl ⟨rfl, ?_⟩
  · exact setRow_heap _ _ _ _ _ _ HQ6.out
  · rw [bv_size, penL_len]; exact info25
  · exact below_setRow' HB6.out (Nat.le_refl _) _

set_option maxRecDepth 100000 in
set_option maxHeartbeats 800000 in
theorem macOf_any (key l : List Nat) (v u : Value) (w : World) (hk : Lt 256 key) (hl : Lt 256 l) (hc : key.length + 72 < 1152921504606846976) (hc2 : l.length + 200 < 1152921504606846976) (hG : Gl w) (hb : Byt w w.heap.size v key) (hb2 : Byt w w.heap.size u l) :
    Calls Tryd.prog 15 #[v, u] w fun e w' => e = .returned (.agg (bv (macL key l))) ∧ Below w.heap.size w w' := by
  have HKL := Lib.hid hk; clear hk
  have HL := Lib.hid hl; clear hl
  have HC := Lib.hid hc; clear hc
  have HC2 := Lib.hid hc2; clear hc2
  have HG := Lib.hid hG; clear hG
  have HV := Lib.hid hb; clear hb
  have HU := Lib.hid hb2; clear hb2
  have hsz := HG.out.size
  go_enter Tryd.func15, Tryd.ntmps15
  go_wp2_with fail
  have HB0 := Lib.hid (show Below w.heap.size w (w.alloc (.cells (bv (zl 32)) 25)) from (Below.refl _ _).alloc (Nat.le_refl _) _)
  refine (macNew_any key v _ HKL.out HC.out (HG.out.below hsz HB0.out) (HV.out.grown HB0.out (fun b h => by simp; omega))).mono ?_
  rintro e w1 ⟨g, h, rfl, hg, hh, hp, hb1⟩
  have hg1 : w.heap.size + 1 ≤ g := by simpa using hg
  have hh1 : w.heap.size + 1 ≤ h := by simpa using hh
  have hs1 : w.heap.size + 1 ≤ w1.heap.size := by have := hb1.size; simpa using this
  have HP1 := Lib.hid hp
  have HB1 := Lib.hid (HB0.out.trans (hb1.mono (by simp)))
  have HQ1 := Lib.hid (show w1.heap[w.heap.size]? = some (.cells (bv (zl 32)) 25 (0, 0)) from (hb1.block _ (by simp)).trans (heap_last _ _ _ rfl))
  clear hp hb1 hg hh
  have HIO := Lib.hid (show (putL hs0 (inn key)).Ok from putL_ok hs0_ok (inn_lt HKL.out))
  have HIC := Lib.hid (show (putL hs0 (inn key)).c = 64 by rw [putL_c, inn_len]; rfl)
  go_wp2_with fail
  refine (penWrite_any g h (out key) _ l u w1 HP1.out HIO.out HL.out (by rw [HIC.out]; have := HC2.out; omega) (HG.out.below hsz HB1.out) (by omega) (HU.out.grown HB1.out (fun b hb => by omega))).mono ?_
  rintro e w2 ⟨rfl, hp, hgr⟩
  have HP2 := Lib.hid hp
  have HB2 := Lib.hid (show Below w.heap.size w w2 from HB1.out.trans ⟨hgr.os, hgr.tape, hgr.output, hgr.size, fun k hk => hgr.block k (by omega) (by simp; omega)⟩)
  have HQ2 := Lib.hid ((hgr.block _ (by omega) (by simp; omega)).trans HQ1.out)
  clear hp hgr
  go_wp2_with fail
  refine (penSum_any g h (out key) _ w2 HP2.out (putL_ok HIO.out HL.out) (by rw [putL_c, HIC.out]; have := HC2.out; omega) (out_len key) (out_lt HKL.out) (HG.out.below hsz HB2.out)).mono ?_
  rw [pen_mac]
  rintro e w3 ⟨rfl, hb3⟩
  have hq3 : w.heap.size < w2.heap.size := (Array.getElem?_eq_some_iff.1 HQ2.out).1
  have HQ3 := Lib.hid ((hb3.block _ hq3).trans HQ2.out)
  have HB3 := Lib.hid (HB2.out.trans (hb3.mono (by omega)))
  clear hb3
  go_wp2_with (first
    | ((with_reducible refine wl_store (ty := 25) w.heap.size 25 (bv (zl 32)) (bv (macL key l)) ?_ ?_ ?_ ?_ ?_ ?_ ?_); (· rfl); (· rfl); (· exact HQ3.out); (· rw [bv_size, macL_len]; exact info25); (· rw [bv_size, bv_size, macL_len, zl_len]); (· exact bv_one _)))
  refine ret_row Tryd.results15 w.heap.size 25 (bv (macL key l)) (0, 0) 32 5 Tryd.underlying25 rfl ?_ ?_ rfl ⟨rfl, ?_⟩
  · exact setRow_heap _ _ _ _ _ _ HQ3.out
  · rw [bv_size, macL_len]; exact info25
  · exact below_setRow' HB3.out (Nat.le_refl _) _
end Go.Proofs.YthaaccbbegmhbaaDoor
