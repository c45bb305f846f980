/- Contract of tarmacref02.Of, over the translated program. -/
import Derived.Test.YthaaccbbegmhbaaDoorMacR1
import Derived.Test.YthaaccbbegmhbaaDoorMacKeysW
namespace Go.Proofs.YthaaccbbegmhbaaDoor
open Go.RowKit Go.Sha

@[local go_sem high, local simp high] theorem z25c (w : World) : (zeroValue 25).run Tryd.prog w = .ok (.agg (bv (zl 32))) w := by kernel_rfl
theorem Src.below {w w' : World} {v : Value} {l : List Nat} (h : Src w v l) (hb : Below w.heap.size w w') : Src w' v l := by
  obtain ⟨p, cap, e, hp⟩ := h
  refine ⟨p, cap, e, fun h0 => ?_⟩
  obtain ⟨b, o, e1, e2⟩ := hp h0
  exact ⟨b, o, e1, fun j hj => (hb.cell (p := ⟨b, o + j, none⟩) (World.block_lt_of_cell? w _ (e2 j hj))).trans (e2 j hj)⟩

set_option maxRecDepth 100000 in
set_option maxHeartbeats 1600000 in
theorem rmacOf_any (key l : List Nat) (p q : Option Addr) (m n c d : Nat) (w : World) (hm : m = key.length) (hn : n = l.length) (hm1 : m ≤ 9000) (hn1 : n ≤ 9000) (hk : Lt 256 key) (hl : Lt 256 l) (hv : Src w (.slice p m c) key) (hu : Src w (.slice q n d) l) :
    Calls Tryd.prog 16 #[.slice p m c, .slice q n d] w fun e w' => e = .returned (.agg (bv (macL key l))) ∧ Below w.heap.size w w' := by
  have HM := Lib.hid hm; clear hm
  have HN := Lib.hid hn; clear hn
  have HK := Lib.hid hk; clear hk
  have HL := Lib.hid hl; clear hl
  have HV := Lib.hid hv; clear hv
  have HU := Lib.hid hu; clear hu
  go_enter Tryd.func16, Tryd.ntmps16
  go_wp2_with fail
  have HB0 := Lib.hid (show Below w.heap.size w (w.alloc (.cells (bv (zl 32)) 25)) from (Below.refl _ _).alloc (Nat.le_refl _) _)
  have HR0 := Lib.hid (show (w.alloc (.cells (bv (zl 32)) 25)).heap[w.heap.size]? = some (.cells (bv (zl 32)) 25 (0, 0)) from heap_last _ _ _ rfl)
  have hs0 : (w.alloc (.cells (bv (zl 32)) 25)).heap.size = w.heap.size + 1 := by simp
  generalize w.alloc (.cells (bv (zl 32)) 25) = w0 at *
  refine (rblock_any key 54 p m c w0 HM.out (by omega) HK.out (by decide) (HV.out.below HB0.out)).mono ?_
  rintro e w1 ⟨v1, rfl, hown1, hb1⟩
  rw [hs0] at hown1
  have HOWN := Lib.hid hown1
  have HB1 := Lib.hid (HB0.out.trans (hb1.mono HB0.out.size))
  have HR1 := Lib.hid ((hb1.block _ (by omega)).trans HR0.out)
  have hs1 : w.heap.size + 1 ≤ w1.heap.size := by have := hb1.size; omega
  clear hown1 hb1 HR0 hs0 HB0
  have HIN := Lib.hid (show xr 54 (blk key) = inn key from by unfold inn; rfl)
  have HOU := Lib.hid (show xr 92 (blk key) = out key from by unfold out; rfl)
  rw [HIN.out] at HOWN
  go_wp2_with (with_reducible refine stp_append ?_)
  unfold Stp
  with_reducible refine wl_app (w.heap.size + 1) v1 (.slice q n d) (inn key) l ?_ ?_ ?_ ?_ ?_ ?_ ?_
  · rfl
  · rfl
  · exact HOWN.out
  · exact HU.out.below HB1.out
  · rw [inn_len, ← HN.out]; omega
  · omega
  intro v2 w2 hown2 hgr2 _
  have HB2 := Lib.hid (HB1.out.trans (grown_to_below hgr2 HB1.out.size (fun k e => by have := (HOWN.out.lt k e).1; omega)))
  have HR2 := Lib.hid ((hgr2.block _ (by omega) (fun e => by have := (HOWN.out.lt _ e.symm).1; omega)).trans HR1.out)
  have HOWN2 := Lib.hid hown2
  clear hown2 hgr2 HR1 HB1 HOWN
  have HIL := Lib.hid (show (inn key ++ l).length = 64 + n by rw [List.length_append, inn_len, HN.out])
  obtain ⟨p2, c2, rfl⟩ := HOWN2.out.sl HIL.out
  go_wp2_with fail
  refine (refOf_any (inn key ++ l) p2 (64 + n) c2 w2 HIL.out.symm (by omega) (fun x hx => by rw [List.mem_append] at hx; exact hx.elim (inn_lt HK.out x) (HL.out x)) HOWN2.out.src).mono ?_
  rintro e w3 ⟨rfl, hb3⟩
  have HB3 := Lib.hid (HB2.out.trans (hb3.mono HB2.out.size))
  have HR3 := Lib.hid ((hb3.block _ (Array.getElem?_eq_some_iff.1 HR2.out).1).trans HR2.out)
  clear hb3 HOWN2 HR2 HB2
  have HDL := Lib.hid (shaL_len (inn key ++ l))
  have HDT := Lib.hid (shaL_lt (inn key ++ l))
  have HME := Lib.hid (show shaL (out key ++ shaL (inn key ++ l)) = macL key l from by unfold macL; rfl)
  generalize shaL (inn key ++ l) = D at *
  go_wp2_with (first
    | ((with_reducible refine wl_storeL (ty := 25) w3.heap.size (bv D) ?_ ?_ ?_ ?_ ?_ ?_ ?_); (· rfl); (· rfl); (· rfl); (· rw [bv_size, HDL.out]; exact info25); (· rw [bv_size, bv_size, HDL.out, zl_len]); (· exact bv_one _)))
  have HB4 := Lib.hid (show Below w.heap.size w ((w3.alloc (.cells (bv D) 25)).drew) from (HB3.out.alloc HB3.out.size _).drew)
  have HD4 := Lib.hid (show ((w3.alloc (.cells (bv D) 25)).drew).heap[w3.heap.size]? = some (.cells (bv D) 25 (0, 0)) from heap_last _ _ _ rfl)
  have HR4 := Lib.hid (show ((w3.alloc (.cells (bv D) 25)).drew).heap[w.heap.size]? = some (.cells (bv (zl 32)) 25 (0, 0)) from (heap_prev _ _ _ (Array.getElem?_eq_some_iff.1 HR3.out).1).trans HR3.out)
  refine wp_region_held (S := fun _ => True) (by kernel_rfl) ?_
  change wpAnyH _ _ _ _ _ _ _ _ (World.drew _)
  have HS0 := Lib.hid True.intro
  have hdl := (Array.getElem?_eq_some_iff.1 HD4.out).1
  generalize (w3.alloc (.cells (bv D) 25)).drew = z at *
  generalize w3.heap.size = dB at *
  refine wpAnyH_take (i := 0) (oi := ⟨some 11, .move (.tmp 0), _, _, _, none⟩) (v := .slice p m c) rfl (by kernel_rfl) (by kernel_rfl) (by kernel_rfl) (fun _ _ _ h => h) (Or.inl ⟨by rfl, fun w' hS => by go_simp⟩) HS0.out ?_
  simp only [Act.put, List.setIfInBounds_toArray, List.set_cons_zero, List.set_cons_succ]
  refine wpAnyH_take (i := 2) (oi := ⟨some 13, .slice 25 (.tmp 5) none none none, _, _, _, none⟩) (v := .slice (some ⟨dB, 0, none⟩) 32 32) rfl (by kernel_rfl) (by kernel_rfl) (by kernel_rfl) (fun _ _ _ h => h) (Or.inl ⟨by rfl, fun w' hS => by go_simp⟩) HS0.out ?_
  simp only [Act.put, List.setIfInBounds_toArray, List.set_cons_zero, List.set_cons_succ]
  refine wpAnyH_ready (rs := [1]) (by kernel_rfl) (by simp) (AllReadyH.cons (o := ⟨some 12, .call ⟨.value (.func 26), #[.tmp 11, .const (.int .u8 92)], _⟩, _, _, _, none⟩) rfl (fun K hK => ?_) AllReadyH.nil)
  go_simp
  refine (rblock_any key 92 p m c z HM.out (by omega) HK.out (by decide) (HV.out.below HB4.out)).mono ?_
  rintro e w5 ⟨v5, rfl, hown5, hb5⟩
  rw [HOU.out] at hown5
  have HOWN5 := Lib.hid hown5
  have HB5 := Lib.hid (HB4.out.trans (hb5.mono HB4.out.size))
  have HR5 := Lib.hid ((hb5.block _ (Array.getElem?_eq_some_iff.1 HR4.out).1).trans HR4.out)
  have HD5 := Lib.hid ((hb5.block _ hdl).trans HD4.out)
  have hs5 := hb5.size
  clear hown5 hb5
  refine hK.out _ _ True.intro (fun _ => ?_)
  clear hK K
  refine wpAnyH_ready (rs := [3]) (by kernel_rfl) (by simp) (AllReadyH.cons (o := ⟨some 14, .call ⟨.builtin .append, #[.tmp 12, .tmp 13], #[22, 22]⟩, _, _, _, none⟩) rfl (fun K hK => ?_) AllReadyH.nil)
  with_reducible refine step_app ?_ (.tmp 12) (.tmp 13) ?_ z.heap.size v5 (.slice (some ⟨dB, 0, none⟩) 32 32) (out key) D ?_ ?_ ?_ ?_ ?_ ?_ ?_
  · rfl
  · rfl
  · rfl
  · rfl
  · exact HOWN5.out
  · have := (byt_row (w := w5) (g := w5.heap.size) (cap := 32) HD5.out (Nat.ne_of_lt (Array.getElem?_eq_some_iff.1 HD5.out).1) (by rw [HDL.out]; exact Nat.le_refl _)).src
    rw [HDL.out] at this; exact this
  · rw [out_len, HDL.out]; decide
  · omega
  intro v6 w6 hown6 hgr6 _
  have hz := HB4.out.size
  have HB6 := Lib.hid (HB5.out.trans (grown_to_below hgr6 HB5.out.size (fun k e => by have := (HOWN5.out.lt k e).1; omega)))
  have HR6 := Lib.hid ((hgr6.block _ (Array.getElem?_eq_some_iff.1 HR5.out).1 (fun e => by have := (HOWN5.out.lt _ e.symm).1; have := (Array.getElem?_eq_some_iff.1 HR4.out).1; omega)).trans HR5.out)
  have HOWN6 := Lib.hid hown6
  clear hown6 hgr6
  have HOL := Lib.hid (show (out key ++ D).length = 96 by rw [List.length_append, out_len, HDL.out])
  obtain ⟨p6, c6, rfl⟩ := HOWN6.out.sl HOL.out
  refine hK.out _ _ True.intro (fun _ => ?_)
  clear hK K
  refine wpAnyH_ready (rs := [4]) (by kernel_rfl) (by simp) (AllReadyH.cons (o := ⟨some 15, .call ⟨.value (.func 11), #[.tmp 14], _⟩, _, _, _, none⟩) rfl (fun K hK => ?_) AllReadyH.nil)
  go_simp
  refine (refOf_any (out key ++ D) p6 96 c6 w6 HOL.out.symm (by decide) (fun x hx => by rw [List.mem_append] at hx; exact hx.elim (out_lt HK.out x) (HDT.out x)) HOWN6.out.src).mono ?_
  rw [HME.out]
  rintro e w7 ⟨rfl, hb7⟩
  have HB7 := Lib.hid (HB6.out.trans (hb7.mono HB6.out.size))
  have HR7 := Lib.hid ((hb7.block _ (Array.getElem?_eq_some_iff.1 HR6.out).1).trans HR6.out)
  clear hb7
  refine hK.out _ _ True.intro (fun _ => ?_)
  clear hK K
  refine wpAnyH_ready (rs := [5]) (by kernel_rfl) (by simp) (AllReadyH.cons (o := ⟨none, .store 25 (.tmp 4) (.tmp 15), _, _, _, none⟩) rfl (fun K hK => ?_) AllReadyH.nil)
  with_reducible refine step_store ?_ 25 (.tmp 4) (.tmp 15) ?_ w.heap.size 0 (bv (macL key l)) (bv (zl 32)) (bv (macL key l)) 25 ?_ ?_ ?_ ?_ ?_ ?_ ?_ ?_
  · rfl
  · rfl
  · rw [bv_size, macL_len]; exact info25
  · rfl
  · rfl
  · exact HR7.out
  · rw [bv_size, macL_len, bv_size, zl_len]; decide
  · exact bv_one _
  · rw [List.take_zero, List.nil_append, List.drop_of_length_le (by rw [Array.length_toList, bv_size, bv_size, macL_len, zl_len]; decide), List.append_nil]
  refine hK.out _ _ True.intro (fun _ => ?_)
  clear hK K
  refine wpAnyH_done (by kernel_rfl) ?_ _
  go_wp2_with fail
  refine ret_row Tryd.results16 w.heap.size 25 (bv (macL key l)) (0, 0) 32 5 Tryd.underlying25 rfl ?_ ?_ rfl ⟨rfl, ?_⟩
  · exact setRow_heap _ _ _ _ _ _ HR7.out
  · rw [bv_size, macL_len]; exact info25
  · exact below_setRow' HB7.out (Nat.le_refl _) _
end Go.Proofs.YthaaccbbegmhbaaDoor
