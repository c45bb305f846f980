/- Contracts of (*sha.Hash).Sum and sha.Of, over the translated program. -/
import Derived.Test.YthaaccbbegmhbaaDoorShaW6
namespace Go.Proofs.YthaaccbbegmhbaaDoor
open Go.RowKit Go.Sha

@[local go_sem high, local simp high] theorem z25'' (w : World) : (zeroValue 25).run Tryd.prog w = .ok (.agg (bv (zl 32))) w := by kernel_rfl
@[local go_sem high, local simp high] theorem z45 (w : World) : (zeroValue 60).run Tryd.prog w = .ok (.agg (hv (zl 8) (zl 64) 0)) w := by kernel_rfl
theorem info45 : (Tryd.prog.info? 60).map (·.size) = some 73 := by kernel_rfl
theorem hv_one (m r : List Nat) (c : Nat) : (hv m r c).all (·.oneCell') = true := by
  unfold hv
  rw [Array.all_append, Array.all_append, wv_one, bv_one]
  simp [Value.oneCell']

set_option maxRecDepth 100000 in
set_option maxHeartbeats 800000 in
theorem sum_any (g : Nat) (s : HS) (w : World) (ho : s.Ok) (hc : s.c + 72 < 1152921504606846976) (hG : Gl w) (hg : w.heap[g]? = some (.cells s.cells 60 (0, 0))) :
    Calls Tryd.prog 23 #[.pointer (some ⟨g, 0, none⟩)] w fun e w' => e = .returned (.agg (bv (sumL s))) ∧ Below w.heap.size w w' := by
  have HO := Lib.hid ho; clear ho
  have HC := Lib.hid hc; clear hc
  have HG := Lib.hid hG; clear hG
  have HA := Lib.hid (show w.heap[g]? = some (.cells (hv s.m s.r s.c) 60 (0, 0)) from hg); clear hg
  have hgs : g < w.heap.size := (Array.getElem?_eq_some_iff.1 HA.out).1
  go_enter Tryd.func23, Tryd.ntmps23
  go_wp2_with (first
    | ((with_reducible refine wl_loadS (dst := 9) g 60 (hv s.m s.r s.c) (0, 0) _ Tryd.underlying60 ?_ ?_ ?_ ?_); (· rfl); (· exact (heap_prev _ _ _ hgs).trans HA.out); (· rw [hv_size _ HO.out.m8 HO.out.r64]; exact info45))
    | ((with_reducible refine wl_storeL (ty := 60) (w.heap.size + 1) (hv s.m s.r s.c) ?_ ?_ ?_ ?_ ?_ ?_ ?_); (· rfl); (· rfl); (· simp); (· rw [hv_size _ HO.out.m8 HO.out.r64]; exact info45); (· rw [hv_size _ HO.out.m8 HO.out.r64]; kernel_rfl); (· exact hv_one _ _ _)))
  refine (fill_any (w.heap.size + 1) s _ HO.out HC.out (by exact HG.out.below HG.out.size (((Below.refl _ _).alloc (Nat.le_refl _) _).alloc (by simp) _)) (by have := HG.out.size; omega) (by exact heap_last _ _ _ (by simp))).mono ?_
  rintro e w1 ⟨rfl, hh, hgr⟩
  have HH1 := Lib.hid (show w1.heap[w.heap.size + 1]? = some (.cells (hv (putL s (pad s.c)).m (putL s (pad s.c)).r (putL s (pad s.c)).c) 60 (0, 0)) from hh)
  have hs1 : w.heap.size + 2 ≤ w1.heap.size := by have := hgr.size; simpa using this
  have HQ0 := Lib.hid (show w1.heap[w.heap.size]? = some (.cells (bv (zl 32)) 25 (0, 0)) from (hgr.block _ (by simp; omega) (by simp)).trans ((heap_prev _ _ _ (by simp)).trans (heap_last _ _ _ rfl)))
  have HBel := Lib.hid (show Below w.heap.size w w1 from ⟨hgr.os, hgr.tape, hgr.output, by omega, fun k hk => (hgr.block k (by simp; omega) (by simp; omega)).trans ((heap_prev _ _ _ (by simp; omega)).trans (heap_prev _ _ _ hk))⟩)
  clear hh hgr
  have HO2 := Lib.hid (show (putL s (pad s.c)).Ok from putL_ok HO.out (pad_lt _))
  have HR := Lib.hid (show sumL s = dig (putL s (pad s.c)).m from by unfold sumL; rfl)
  generalize putL s (pad s.c) = s2 at *
  go_wp2_with (first
    | ((with_reducible refine wl_loadP (dst := 12) (w.heap.size + 1) 0 60 (wv s2.m) (hv s2.m s2.r s2.c) (0, 0) 8 41 Tryd.underlying57 ?_ ?_ ?_ ?_ ?_); (· rfl); (· exact HH1.out); (· exact hv_wordsAt _); (· rw [wv_size, HO2.out.m8]; exact info42)))
  refine (digest_any s2.m _ HO2.out.m8 HO2.out.m1).mono ?_
  rintro e w2 ⟨rfl, hb2⟩
  have HB2 := Lib.hid hb2
  clear hb2
  go_wp2_with (first
    | ((with_reducible refine wl_store (ty := 25) w.heap.size 25 (bv (zl 32)) (bv (dig s2.m)) ?_ ?_ ?_ ?_ ?_ ?_ ?_); (· rfl); (· rfl); (· exact (HB2.out.block _ (by omega)).trans HQ0.out); (· rw [bv_size, dig_len]; exact info25); (· rw [bv_size, bv_size, dig_len, zl_len]); (· exact bv_one _)))
  rw [HR.out]
  refine ret_row Tryd.results23 w.heap.size 25 (bv (dig s2.m)) (0, 0) 32 5 Tryd.underlying25 rfl ?_ ?_ rfl ⟨rfl, ?_⟩
  · exact setRow_heap _ _ _ _ _ _ ((HB2.out.block _ (by omega)).trans HQ0.out)
  · rw [bv_size, dig_len]; exact info25
  · exact below_setRow' (HBel.out.trans (HB2.out.mono (by omega))) (Nat.le_refl _) _

theorem Byt.grown {w w' : World} {g g' : Nat} {v : Value} {l : List Nat} (h : Byt w g v l) (hb : Below w.heap.size w w') (hg : ∀ b, b < w.heap.size → b ≠ g') : Byt w' g' v l := by
  obtain ⟨p, cap, h1, h2, h3⟩ := h
  refine ⟨p, cap, h1, h2, fun h0 => ?_⟩
  obtain ⟨b, o, e1, _, e3, e4⟩ := h3 h0
  exact ⟨b, o, e1, hg b e3, Nat.lt_of_lt_of_le e3 hb.size, fun j hj => (hb.cell (p := ⟨b, o + j, none⟩) e3).trans (e4 j hj)⟩

set_option maxRecDepth 100000 in
set_option maxHeartbeats 800000 in
theorem of_any (l : List Nat) (v : Value) (w : World) (hl : Lt 256 l) (hc : l.length + 72 < 1152921504606846976) (hG : Gl w) (hb : Byt w w.heap.size v l) :
    Calls Tryd.prog 10 #[v] w fun e w' => e = .returned (.agg (bv (shaL l))) ∧ Below w.heap.size w w' := by
  have HL := Lib.hid hl; clear hl
  have HC := Lib.hid hc; clear hc
  have HG := Lib.hid hG; clear hG
  have HV := Lib.hid hb; clear hb
  have hs := HG.out.size
  go_enter Tryd.func10, Tryd.ntmps10
  go_wp2_with fail
  have HB0 := Lib.hid (show Below w.heap.size w (w.alloc (.cells (bv (zl 32)) 25)) from (Below.refl _ _).alloc (Nat.le_refl _) _)
  refine (new_any _ (HG.out.below hs HB0.out)).mono ?_
  rintro e w1 ⟨rfl, rfl⟩
  have HB1 := Lib.hid (show Below w.heap.size w ((w.alloc (.cells (bv (zl 32)) 25)).alloc (.cells (hv BEG (zl 64) 0) 60)) from HB0.out.alloc (by simp) _)
  go_wp2_with fail
  refine (write_any (w.heap.size + 1) hs0 l v _ hs0_ok HL.out (by show 0 + l.length < _; have := HC.out; omega) (by exact HG.out.below hs HB1.out) (by omega) (by exact heap_last _ _ _ (by simp)) (by exact HV.out.grown HB1.out (fun b h => by omega))).mono ?_
  rintro e w2 ⟨rfl, hh, hgr⟩
  have HH2 := Lib.hid hh
  have hs2 : w.heap.size + 2 ≤ w2.heap.size := by have := hgr.size; simpa using this
  have HQ0 := Lib.hid (show w2.heap[w.heap.size]? = some (.cells (bv (zl 32)) 25 (0, 0)) from (hgr.block _ (by simp; omega) (by simp)).trans ((heap_prev _ _ _ (by simp)).trans (heap_last _ _ _ rfl)))
  have HB2 := Lib.hid (show Below w.heap.size w w2 from ⟨hgr.os, hgr.tape, hgr.output, by omega, fun k hk => (hgr.block k (by simp; omega) (by simp; omega)).trans ((heap_prev _ _ _ (by simp; omega)).trans (heap_prev _ _ _ hk))⟩)
  clear hh hgr
  go_wp2_with fail
  refine (sum_any (w.heap.size + 1) (putL hs0 l) w2 (putL_ok hs0_ok HL.out) (by rw [putL_c]; show 0 + l.length + 72 < _; have := HC.out; omega) (HG.out.below hs HB2.out) HH2.out).mono ?_
  rintro e w3 ⟨rfl, hb3⟩
  have HB3 := Lib.hid hb3
  clear hb3
  have HR := Lib.hid (show sumL (putL hs0 l) = shaL l from by unfold shaL; rfl)
  rw [HR.out]
  go_wp2_with (first
    | ((with_reducible refine wl_store (ty := 25) w.heap.size 25 (bv (zl 32)) (bv (shaL l)) ?_ ?_ ?_ ?_ ?_ ?_ ?_); (· rfl); (· rfl); (· exact (HB3.out.block _ (by omega)).trans HQ0.out); (· rw [bv_size, shaL_len]; exact info25); (· rw [bv_size, bv_size, shaL_len, zl_len]); (· exact bv_one _)))
  refine ret_row Tryd.results10 w.heap.size 25 (bv (shaL l)) (0, 0) 32 5 Tryd.underlying25 rfl ?_ ?_ rfl ⟨rfl, ?_⟩
  · exact setRow_heap _ _ _ _ _ _ ((HB3.out.block _ (by omega)).trans HQ0.out)
  · rw [bv_size, shaL_len]; exact info25
  · exact below_setRow' (HB2.out.trans (HB3.out.mono (by omega))) (Nat.le_refl _) _
end Go.Proofs.YthaaccbbegmhbaaDoor
