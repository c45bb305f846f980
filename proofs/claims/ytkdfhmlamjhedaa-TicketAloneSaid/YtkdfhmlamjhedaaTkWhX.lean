/- The walk of TicketWhole, where the sale may be. -/
import Derived.Test.YtkdfhmlamjhedaaTkWhW
namespace Go.Proofs.Ytkdfhmlamjhedaa
open Go.Shelf Go.RowKit Go.Lib Go.Money Go.Pror Go.Tick

theorem bal_call (c sr : Nat) (s : Sl) (lp : Option Addr) (lc : Nat) (tp : Option Addr) (tc : Nat) (vp : Option Addr) (vc : Nat) (bk kp : Int) (S : List Nat) (sp pp : Option Addr) (W : World) (hok : OkS s)
    (hV : Nums W .i64 vp (vals s)) (hS : Nums W .u8 sp (ints S)) (hlt : ∀ x ∈ S, x < 256) (hl : S.length = s.legs.length) (hr : balL (vals s) S s.legs.length 0 s.fare bk kp 0 = (0, 0)) :
    Calls Try.prog 12 #[.agg (dW c sr s lp lc tp tc vp s.legs.length vc bk kp), .slice sp s.legs.length s.legs.length, .slice pp s.legs.length s.legs.length] W fun e w' => e = .returned (.tuple #[iv 0, iv 0]) ∧ Below W.heap.size W w' := by
  have h4 := hok.l4
  have := bal_any (vals s) S s.legs.length s.legs.length pp sp s.legs.length (u8v c) (u64v sr) (str s.name) (.slice lp s.legs.length lc) (iv s.fare) (.slice tp s.taxes.length tc) (iv s.pen) vp vc (.int .u8 0) (.int .u64 0) (.int .u8 0) (.int .u64 0) 0 s.fare bk kp 0 W hV hS hlt (by omega) (by rw [vals_len]; omega) (by omega)
  rw [hr, vals_len, hl] at this
  exact this
theorem whF_at {wh : List Bool} {k : Nat} (h : k < wh.length) : wh[k]! = whF wh k := by
  unfold whF
  rw [getElem!_pos wh k h, List.getD_eq_getElem?_getD, List.getElem?_eq_getElem h]; rfl
theorem whF_out {wh : List Bool} {k : Nat} (h : ¬ k < wh.length) : whF wh k = false := by
  unfold whF
  rw [List.getD_eq_getElem?_getD, List.getElem?_eq_none (by omega)]; rfl
/-- the second loop's memory -/
structure WhM (D G n : Nat) (V : List Int) (wf : Nat → Bool) (pen : Int) (dc : Int → Int → Array Value) (w3 : World) (k : Nat) (wr : World) : Prop where
  doc : wr.heap[D]? = some (.cells (dc (bkL V wf pen k) (kpL V wf pen k)) 31 (0, 0))
  st : Blk wr G 45 ((ints (stL wf n k)).map (Value.int .u8))
  pd : ∃ ps : List Value, ps.length = n ∧ Blk wr (G + 1) 4 ps
  bel : Below D w3 wr
theorem WhM.no {D G n : Nat} {V : List Int} {wf : Nat → Bool} {pen : Int} {dc : Int → Int → Array Value} {w3 wq : World} {k : Nat} (h : WhM D G n V wf pen dc w3 k wq) (hw : wf k = false) (hDG : D < G) (b : Value) :
    WhM D G n V wf pen dc w3 (k + 1) ((wq.setCell ⟨G + 1, k, none⟩ b).setCell ⟨G, k, none⟩ (.int .u8 4)) := by
  obtain ⟨ps, hps, hpd⟩ := h.pd
  have e1 : bkL V wf pen (k + 1) = bkL V wf pen k := by
    show bkL V wf pen k + (if wf k then _ else 0) = _
    rw [hw, if_neg (by decide), Int.add_zero]
  have e2 : kpL V wf pen (k + 1) = kpL V wf pen k := by
    show kpL V wf pen k + (if wf k then _ else 0) = _
    rw [hw, if_neg (by decide), Int.add_zero]
  refine ⟨?_, ?_, ⟨ps.set k b, by simpa using hps, (hpd.set k b).other _ _ (by show G + 1 ≠ G; omega)⟩, (h.bel.setCell (p := ⟨G + 1, k, none⟩) (by show D ≤ G + 1; omega) _).setCell (p := ⟨G, k, none⟩) (by show D ≤ G; omega) _⟩
  · rw [Below.heap_setCell _ _ _ _ (show D ≠ G by omega), Below.heap_setCell _ _ _ _ (show D ≠ G + 1 by omega), h.doc, e1, e2]
  · have := (h.st.other ⟨G + 1, k, none⟩ b (by show G ≠ G + 1; omega)).set k (.int .u8 4)
    rw [← List.map_set, stL_seti wf n k 4 (by rw [hw]; rfl)] at this
    exact this
theorem WhM.yes {D G n : Nat} {V : List Int} {wf : Nat → Bool} {pen : Int} {dc : Int → Int → Array Value} {w3 wq : World} {k : Nat} (h : WhM D G n V wf pen dc w3 k wq) (hw : wf k = true) (hDG : D < G) (x y bk kp : Int) (hg : giveL (V.getD k 0) pen = (x, y)) (hbk : bkL V wf pen k = bk) (hkp : kpL V wf pen k = kp) (q : Nat)
    (hdc : ∀ a b a' b', ((dc a b).setIfInBounds 14 (iv a')).setIfInBounds 15 (iv b') = dc a' b') :
    WhM D G n V wf pen dc w3 (k + 1) ((((wq.setCell ⟨G, k, none⟩ (.int .u8 6)).drewN q).setCell ⟨D, 14, none⟩ (iv (bk + x))).setCell ⟨D, 15, none⟩ (iv (kp + y))) := by
  obtain ⟨ps, hps, hpd⟩ := h.pd
  have e1 : bkL V wf pen (k + 1) = bk + x := by
    show bkL V wf pen k + (if wf k then (giveL (V.getD k 0) pen).1 else 0) = _
    rw [hw, if_pos rfl, hg, hbk]
  have e2 : kpL V wf pen (k + 1) = kp + y := by
    show kpL V wf pen k + (if wf k then (giveL (V.getD k 0) pen).2 else 0) = _
    rw [hw, if_pos rfl, hg, hkp]
  have hd1 : ((wq.setCell ⟨G, k, none⟩ (.int .u8 6)).drewN q).heap[D]? = some (.cells (dc bk kp) 31 (0, 0)) := by
    show (wq.setCell ⟨G, k, none⟩ (.int .u8 6)).heap[D]? = _
    rw [Below.heap_setCell _ _ _ _ (show D ≠ G by omega), h.doc, hbk, hkp]
  have hd2 := heap_setCell_same _ D 14 _ 31 (iv (bk + x)) hd1
  have hd3 := heap_setCell_same _ D 15 _ 31 (iv (kp + y)) hd2
  have hst := h.st.set k (.int .u8 6)
  rw [← List.map_set, stL_seti wf n k 6 (by rw [hw]; rfl)] at hst
  have hst2 : Blk ((wq.setCell ⟨G, k, none⟩ (.int .u8 6)).drewN q) G 45 ((ints (stL wf n (k + 1))).map (Value.int .u8)) := ⟨hst.row⟩
  have hpd2 : Blk ((wq.setCell ⟨G, k, none⟩ (.int .u8 6)).drewN q) (G + 1) 4 ps := ⟨(hpd.other ⟨G, k, none⟩ (.int .u8 6) (by show G + 1 ≠ G; omega)).row⟩
  refine ⟨?_, (hst2.other _ _ (by show G ≠ D; omega)).other _ _ (by show G ≠ D; omega), ⟨ps, hps, (hpd2.other _ _ (by show G + 1 ≠ D; omega)).other _ _ (by show G + 1 ≠ D; omega)⟩, ?_⟩
  · rw [hd3, hdc, e1, e2]
  · exact ((below_drewN (h.bel.setCell (p := ⟨G, k, none⟩) (by show D ≤ G; omega) _) q).setCell (p := ⟨D, 14, none⟩) (Nat.le_refl _) _).setCell (p := ⟨D, 15, none⟩) (Nat.le_refl _) _
set_option maxRecDepth 100000 in
set_option maxHeartbeats 6400000 in
theorem tkwhole_good (c sr : Nat) (s : Sl) (lp : Option Addr) (lc : Nat) (tp : Option Addr) (tc : Nat) (n : Int) (wp : Option Addr) (wh : List Bool) (wc : Nat) (w : World) (hc : c < 256) (hP : SaP w s lp lc tp tc) (hWh : Row w 1 brC wp wh) (hg : grB s = false) (hnw : wh.length ≤ 60) (hk : tkB c sr n = true) (he : chkL s n = 0) :
    Calls Try.prog 4 #[.agg (tkV c sr), .agg (saV s lp lc tp tc), iv n, .slice wp wh.length wc] w fun e w' => e = .returned (.bool true) ∧ Below w.heap.size w w' := by
  have hok := okS_of he
  have HW := Lib.hid (fun W => tkwakes_any W)
  have HGR := Lib.hid (fun W => great_any s lp lc tp tc W)
  rw [hg] at HGR
  obtain ⟨wb, hwb⟩ : ∃ wb, wb = (w.alloc (.cells (tkV c sr) 24)).alloc (.cells (saV s lp lc tp tc) 28) := ⟨_, rfl⟩
  have hb0 : Below w.heap.size w wb := by rw [hwb]; exact ((Below.refl _ _).alloc (Nat.le_refl _) _).alloc (by simp) _
  have hbT : wb.heap[w.heap.size]? = some (.cells (tkV c sr) 24 (0, 0)) := by rw [hwb, Below.heap_alloc _ _ _ (by simp)]; exact heap_last _ _ _ rfl
  have hbS : wb.heap[w.heap.size + 1]? = some (.cells (saV s lp lc tp tc) 28 (0, 0)) := by rw [hwb]; exact heap_last _ _ _ (by simp)
  have HXT := Lib.hid (fun wz (hz : Below wb.heap.size wb wz) => (hz.block _ (lt_heap hbT)).trans hbT)
  have HXS := Lib.hid (fun wz (hz : Below wb.heap.size wb wz) => (hz.block _ (lt_heap hbS)).trans hbS)
  have HMK := Lib.hid (fun W (h : Below wb.heap.size wb W) => make_good c sr s n lp lc tp tc W hc hk ((hP.lr.keep hb0).keep h) ((hP.tr.keep hb0).keep h) hP.lc_ hP.tc_ hP.wt (by have := hok.l4; omega) (by have := hok.t4; omega) he)
  have HSU := Lib.hid (fun p cap W (h : Nums W .i64 p (vals s)) => show Calls Try.prog 15 #[.slice p s.legs.length cap] W (fun e w' => e = .returned (.tuple #[iv s.fare, iv 0]) ∧ W = w') by
    have := sum_any (vals s) p cap W h (by rw [vals_len]; have := hok.l4; omega)
    rw [vals_len, vals_sumO hok] at this
    exact this)
  have HOK := Lib.hid hok
  have HWR := Lib.hid (hWh.keep hb0)
  have HB0 := Lib.hid hb0
  have HR0 := Lib.hid (Below.refl wb.heap.size wb)
  have nI : (wh.length : Int) ≤ 60 := by omega
  have hl4 : (s.legs.length : Int) ≤ 4 := by have := hok.l4; omega
  have hmk1 := mk_st s.legs.length (by omega)
  have hmk2 := mk_bo s.legs.length (by omega)
  have hntk := neq_tk c sr
  have hbne : (s.fare != s.fare) = false := by simp
  clear hg hnw hc hP hb0 hbT hbS hk he hWh hok
  go_enter Try.func4, Try.ntmps4
  go_wp2_with fail
  rw [← hwb]
  clear hwb
  refine (HGR.out _).mono ?_
  rintro e w2 ⟨rfl, hb2⟩
  have HB2 := Lib.hid (HR0.out.trans (hb2.mono HR0.out.size))
  clear hb2
  go_wp2_with (first
    | (refine wpList_load_row rfl 28 _ rfl (w.heap.size + 1) rfl 28 (saV s lp lc tp tc) (0, 0) _ (HXS.out _ HB2.out) Try.underlying28 rfl sizeSale ?_)
    | (refine wpList_load_row rfl 24 _ rfl w.heap.size rfl 24 (tkV c sr) (0, 0) _ (HXT.out _ HB2.out) Try.underlying24 rfl (by kernel_rfl) ?_)
    | (go_at_call 14; refine (HMK.out _ HB2.out).mono ?_; rintro e w3 ⟨lp3, lc3, tp3, tc3, vp, vc, rfl, hl3, ht3, hv3, _, _, hn3, hb3⟩
       have HB3 := Lib.hid (HB2.out.trans (hb3.mono HB2.out.size))
       have HN3 := Lib.hid hn3
       clear hb3 hn3 hl3 ht3 hv3))
  have hb4 : Below wb.heap.size wb (w3.alloc (.cells (dW c sr s lp3 lc3 tp3 tc3 vp s.legs.length vc 0 0) 31)) := HB3.out.alloc HB3.out.size _
  have hn4 : Nums (w3.alloc (.cells (dW c sr s lp3 lc3 tp3 tc3 vp s.legs.length vc 0 0) 31)) .i64 vp (vals s) := HN3.out.keep ((Below.refl _ _).alloc (Nat.le_refl _) _)
  have hd4 : (w3.alloc (.cells (dW c sr s lp3 lc3 tp3 tc3 vp s.legs.length vc 0 0) 31)).heap[w3.heap.size]? = some (.cells (dW c sr s lp3 lc3 tp3 tc3 vp s.legs.length vc 0 0) 31 (0, 0)) := heap_last _ _ _ rfl
  have hz4 : (w3.alloc (.cells (dW c sr s lp3 lc3 tp3 tc3 vp s.legs.length vc 0 0) 31)).heap.size = w3.heap.size + 1 := by simp
  refine (HSU.out _ _ _ hn4).mono ?_
  rintro e w4 ⟨rfl, hw4⟩
  have hx34 : Below w3.heap.size w3 (w3.alloc (.cells (dW c sr s lp3 lc3 tp3 tc3 vp s.legs.length vc 0 0) 31)) := (Below.refl _ _).alloc (Nat.le_refl _) _
  rw [hw4] at hb4 hn4 hd4 hz4 hx34
  have HX34 := Lib.hid hx34
  clear hx34
  clear hw4
  obtain ⟨D, hD⟩ : ∃ D, D = w3.heap.size := ⟨_, rfl⟩
  rw [← hD] at hd4 hz4 ⊢
  have HB4 := Lib.hid hb4
  have HN4 := Lib.hid hn4
  have HD4 := Lib.hid hd4
  have HZ4 := Lib.hid hz4
  have HDD := Lib.hid (show wb.heap.size ≤ D by rw [hD]; exact HB3.out.size)
  have d0 := loadL hd4 0 (v := u8v c) rfl
  have d1 := loadL hd4 1 (v := u64v sr) rfl
  have d7 := loadL hd4 7 (v := .slice vp s.legs.length vc) rfl
  have d13 := loadL hd4 13 (v := iv s.fare) rfl
  have t0 := loadL (HXT.out _ hb4) 0 (v := u8v c) rfl
  have t1 := loadL (HXT.out _ hb4) 1 (v := u64v sr) rfl
  have s1 := loadL (HXS.out _ hb4) 1 (v := .slice lp s.legs.length lc) rfl
  have s2 := loadL (HXS.out _ hb4) 2 (v := iv s.fare) rfl
  have d7' : ∀ o : Obj, (w4.alloc o).cell? ⟨D, 7, none⟩ = some (.slice vp s.legs.length vc) := fun o => (World.cell?_of_block (a := ⟨D, 7, none⟩) (Below.heap_alloc _ _ _ (lt_heap hd4))).trans d7
  have HDE := Lib.hid hD
  clear hb4 hn4 hd4 hz4 hD
  go_wp2_with fail
  have hx1 : Blk ((w4.alloc (.cells (zSt s.legs.length) 45)).alloc (.cells (zBo s.legs.length) 4)) w4.heap.size 45 ((ints (onL s.legs.length 0)).map (Value.int .u8)) :=
    ⟨by rw [Below.heap_alloc _ _ _ (by simp), heap_last _ _ _ rfl, zSt_eq, onL_zero]⟩
  have hx2 : Blk ((w4.alloc (.cells (zSt s.legs.length) 45)).alloc (.cells (zBo s.legs.length) 4)) (w4.heap.size + 1) 4 (List.replicate s.legs.length (Value.bool false)) :=
    ⟨by rw [heap_last _ _ _ (by simp), zBo_eq]⟩
  have hx3 : Below w4.heap.size w4 ((w4.alloc (.cells (zSt s.legs.length) 45)).alloc (.cells (zBo s.legs.length) 4)) := ((Below.refl _ _).alloc (Nat.le_refl _) _).alloc (by simp) _
  generalize (w4.alloc (.cells (zSt s.legs.length) 45)).alloc (.cells (zBo s.legs.length) 4) = w6 at *
  have HX1 := Lib.hid hx1
  have HX2 := Lib.hid hx2
  have HX3 := Lib.hid hx3
  clear hx1 hx2 hx3 d0 d1 d7 d13 t0 t1 s1 s2 d7'
  go_loopw [15] (fun i wr => ∃ k : Nat, i = .int .i64 k ∧ k ≤ s.legs.length ∧ Hid (Blk wr w4.heap.size 45 ((ints (onL s.legs.length k)).map (Value.int .u8))) ∧ Hid (Blk wr (w4.heap.size + 1) 4 (List.replicate s.legs.length (Value.bool false))) ∧ Hid (Below w4.heap.size w4 wr)) (fun i _ => s.legs.length - (intOf i).toNat)
  case atStart => exact ⟨0, rfl, Nat.zero_le _, HX1.out, HX2.out, HX3.out⟩
  case round =>
    obtain ⟨k, rfl, hk, h1, h2, h3⟩ := hrel
    rename World => wr
    have H1 := Lib.hid h1.out
    have H2 := Lib.hid h2.out
    have H3 := Lib.hid h3.out
    clear h1 h2 h3
    by_cases hlt : (k : Int) < (s.legs.length : Int)
    · have hk0 : (0 : Int) ≤ (k : Int) := Int.natCast_nonneg _
      have hlen : k < (onL s.legs.length k).length := by rw [onL_len]; omega
      have cw : wr.cell? ⟨w4.heap.size, k, none⟩ = some (.int .u8 (((onL s.legs.length k).getD k 0 : Nat) : Int)) := by
        rw [H1.out.cell, List.getElem?_map]
        unfold ints
        rw [List.getElem?_map, List.getElem?_eq_getElem hlen, List.getD_eq_getElem?_getD, List.getElem?_eq_getElem hlen]; rfl
      have fw := H1.out.frozen k
      have hne : ¬ w4.heap.size + 1 = w4.heap.size := by omega
      clear hlen
      generalize (onL s.legs.length k).getD k 0 = old at *
      go_wp2
      go_roundw
      case rel =>
        refine ⟨k + 1, by go_num, by omega, ?_, H2.out.other _ _ (by show w4.heap.size + 1 ≠ w4.heap.size; omega), H3.out.setCell (p := ⟨w4.heap.size, k, none⟩) (Nat.le_refl _) _⟩
        have := H1.out.set k (.int .u8 1)
        rw [← List.map_set, onL_set] at this
        exact this
      case measure => simp [intOf]; omega
    · obtain rfl : k = s.legs.length := by omega
      clear hlt hk HX1 HX2 HX3
      have hd := (H3.out.block D (by have := HZ4.out; omega)).trans HD4.out
      have HD := Lib.hid hd
      go_wp2_with (refine wpList_load_row rfl 31 _ rfl D rfl 31 _ (0, 0) _ HD.out Try.underlying31 rfl sizeDoc ?_)
      have HBC := Lib.hid (bal_call c sr s lp3 lc3 tp3 tc3 vp vc 0 0 (onL s.legs.length s.legs.length) (some ⟨w4.heap.size, 0, none⟩) (some ⟨w4.heap.size + 1, 0, none⟩) wr HOK.out (HN4.out.keep H3.out) H1.out.nums (by rw [onL_all (fun _ => false)]; exact stL_lt _ _ _) (onL_len _ _) (by
        have := bal_open (vals_nn s) (vals_sum HOK.out) HOK.out.f1
        rw [vals_len] at this
        rw [onL_all (fun _ => false)]; exact this))
      refine (HBC.out).mono ?_
      rintro e w7 ⟨rfl, hb7⟩
      have hM0 : WhM D w4.heap.size s.legs.length (vals s) (whF wh) s.pen (fun bk kp => dW c sr s lp3 lc3 tp3 tc3 vp s.legs.length vc bk kp) w3 0 w7 :=
        ⟨(hb7.block _ (lt_heap hd)).trans hd, by rw [← onL_all (whF wh)]; exact H1.out.keep hb7 H1.out.lt, ⟨_, List.length_replicate, H2.out.keep hb7 H2.out.lt⟩, by
          have a1 : Below D w3 w4 := by have := HDE.out; have h := HB4.out; rw [this]; exact HX34.out
          exact a1.trans ((H3.out.mono (by have := HZ4.out; omega)).trans (hb7.mono (by have := HZ4.out; have := H3.out.size; omega)))⟩
      have HM0 := Lib.hid hM0
      clear hM0 hb7 hd
      go_wp2
      clear H1 H2 H3 HD HBC
      have HFR := Lib.hid (show ∀ wx, Below D w3 wx → wx.heap[w.heap.size + 1]? = some (.cells (saV s lp lc tp tc) 28 (0, 0)) ∧ Nums wx .i64 vp (vals s) ∧ Row wx 1 brC wp wh ∧ Below w.heap.size w wx from fun wx hx => by
        rw [HDE.out] at hx
        have hbx : Below wb.heap.size wb wx := HB3.out.trans (hx.mono HB3.out.size)
        exact ⟨HXS.out _ hbx, HN3.out.keep hx, HWR.out.keep hbx, HB0.out.trans (hbx.mono HB0.out.size)⟩)
      go_loopw [18, 19, 20] (fun i _ _ wr => ∃ k : Nat, i = .int .i64 k ∧ k ≤ s.legs.length ∧ Hid (WhM D w4.heap.size s.legs.length (vals s) (whF wh) s.pen (fun bk kp => dW c sr s lp3 lc3 tp3 tc3 vp s.legs.length vc bk kp) w3 k wr)) (fun i _ _ _ => s.legs.length - (intOf i).toNat)
      case atStart => exact ⟨0, rfl, Nat.zero_le _, HM0.out⟩
      case round =>
        obtain ⟨k, rfl, hk, hM⟩ := hrel
        have HM := Lib.hid hM.out
        clear hM HM0
        rename World => wq
        by_cases hlt : (k : Int) < (s.legs.length : Int)
        · have hk0 : (0 : Int) ≤ (k : Int) := Int.natCast_nonneg _
          have hkl : k < s.legs.length := by omega
          have hkv : k < (vals s).length := by rw [vals_len]; exact hkl
          obtain ⟨hsa, hnv, hrw, _⟩ := HFR.out wq HM.out.bel
          obtain ⟨bv, ov, rfl, hbv, hcv⟩ := hnv.cell hkv
          have cst : ∃ old, wq.cell? ⟨w4.heap.size, k, none⟩ = some old := by
            rw [HM.out.st.cell]
            exact ⟨_, List.getElem?_eq_getElem (by simp [ints, stL_len]; exact hkl)⟩
          obtain ⟨old, cst⟩ := cst
          have fst := HM.out.st.frozen k
          obtain ⟨ps, hps, hpd⟩ := HM.out.pd
          have cpd : wq.cell? ⟨w4.heap.size + 1, k, none⟩ = some (ps[k]'(by omega)) := by rw [hpd.cell, List.getElem?_eq_getElem]
          have fpd := hpd.frozen k
          have HPD := Lib.hid hpd
          have HPS := Lib.hid hps
          generalize ps[k]'(by omega) = oldp at cpd
          have hne1 : ¬ w4.heap.size + 1 = w4.heap.size := by omega
          have hne2 : ¬ w4.heap.size = w4.heap.size + 1 := by omega
          have HKL := Lib.hid hkl
          have HKV := Lib.hid hkv
          clear hps hpd hkl hkv
          by_cases hwf : whF wh k = true
          · have HWF := Lib.hid hwf
            have hkw : k < wh.length := by
              rcases Nat.lt_or_ge k wh.length with h | h
              · exact h
              · rw [whF_out (by omega)] at hwf; cases hwf
            obtain ⟨b, o, rfl, hbl, hcell⟩ := hrw.at_ (by omega)
            have cwh := hcell k hkw 0 (.bool (whF wh k)) (by rw [whF_at hkw]; rfl)
            rw [hwf] at cwh
            simp only [Nat.mul_one, Nat.add_zero] at cwh
            have hkwI : (k : Int) < (wh.length : Int) := by omega
            have hdoc := HM.out.doc
            obtain ⟨bk, hbk⟩ : ∃ z, bkL (vals s) (whF wh) s.pen k = z := ⟨_, rfl⟩
            obtain ⟨kp, hkp⟩ : ∃ z, kpL (vals s) (whF wh) s.pen k = z := ⟨_, rfl⟩
            obtain ⟨x, y, hxy⟩ : ∃ x y, giveL ((vals s).getD k 0) s.pen = (x, y) := ⟨_, _, rfl⟩
            have hgs := give_sum (getD_nn (vals_nn s) HKV.out) HOK.out.p0
            have hb1 := bk_kp (wh := whF wh) (vals_nn s) HOK.out.p0 k (by have := HKV.out; omega)
            have hb2 := bk_kp (wh := whF wh) (vals_nn s) HOK.out.p0 (k + 1) (by have := HKV.out; omega)
            have hb3 := take_le (vals_nn s) (k + 1)
            rw [vals_sum HOK.out] at hb3
            have hb4 := HOK.out.f1
            have hv0 := getD_nn (vals_nn s) HKV.out
            have hts := take_sum (vals s) k HKV.out
            have hnn := nn_rem (vals_nn s) 0 k
            rw [List.drop_zero] at hnn
            have e1 : bkL (vals s) (whF wh) s.pen (k + 1) = bk + x := by
              show bkL (vals s) (whF wh) s.pen k + (if whF wh k then (giveL ((vals s).getD k 0) s.pen).1 else 0) = _
              rw [hwf, if_pos rfl, hxy, hbk]
            have e2 : kpL (vals s) (whF wh) s.pen (k + 1) = kp + y := by
              show kpL (vals s) (whF wh) s.pen k + (if whF wh k then (giveL ((vals s).getD k 0) s.pen).2 else 0) = _
              rw [hwf, if_pos rfl, hxy, hkp]
            rw [e1, e2] at hb2
            rw [hbk, hkp] at hb1
            rw [hxy] at hgs
            simp only at hgs
            rw [hbk, hkp] at hdoc
            have HGV := Lib.hid (fun W : World => (give_any ((vals s).getD k 0) s.pen (by omega) W).mono (R' := fun e w' => e = .returned (.tuple #[iv x, iv y]) ∧ ∃ q, w' = W.drewN q) (by rintro e w' ⟨rfl, rfl⟩; exact ⟨by simp only [gvV]; rw [hxy], 0, by rw [World.drewN_zero]⟩))
            have HXY := Lib.hid hxy
            have HBK := Lib.hid hbk
            have HKP := Lib.hid hkp
            obtain ⟨v, hv⟩ : ∃ v, (vals s).getD k 0 = v := ⟨_, rfl⟩
            rw [hv] at hgs HGV hcv hv0 hts
            have x0 : 0 ≤ x := hgs.2.1
            have y0 : 0 ≤ y := hgs.2.2.1
            have yp : y ≤ s.pen := hgs.2.2.2
            have xv : x + y = v := hgs.1
            have v1 : v ≤ 1125899906842624 := by omega
            have q1 : 0 ≤ bk + x := by omega
            have q2 : bk + x ≤ 1125899906842624 := by omega
            have q3 : 0 ≤ kp + y := by omega
            have q4 : kp + y ≤ 1125899906842624 := by omega
            have HDOC := Lib.hid hdoc
            have HNV := Lib.hid (show ∀ wx, Below D w3 wx → wx.cell? ⟨bv, ov + k, none⟩ = some (iv v) ∧ wx.cell? ⟨w.heap.size + 1, 4, none⟩ = some (iv s.pen) from fun wx hx => by
              obtain ⟨h1, h2, _, _⟩ := HFR.out wx hx
              obtain ⟨b', o', e1, _, e3⟩ := h2.cell HKV.out
              simp only [Option.some.injEq, Addr.mk.injEq] at e1
              obtain ⟨rfl, rfl, _⟩ := e1
              rw [hv] at e3
              exact ⟨e3, loadL h1 4 rfl⟩)
            clear hcell hnv hrw hsa hwf hcv hdoc hbk hkp hxy hgs hb1 hb2 hb3 hb4 hts hnn e1 e2 hv cpd fpd
            go_wp2_with fail
            obtain ⟨w5, hw5⟩ : ∃ w5, w5 = wq.setCell ⟨w4.heap.size, k, none⟩ (.int .u8 6) := ⟨_, rfl⟩
            rw [← hw5]
            have hb5 : Below D w3 w5 := by rw [hw5]; exact HM.out.bel.setCell (p := ⟨w4.heap.size, k, none⟩) (by have := HZ4.out; show D ≤ w4.heap.size; omega) _
            have hd5 : w5.heap[D]? = some (.cells (dW c sr s lp3 lc3 tp3 tc3 (some ⟨bv, ov, none⟩) s.legs.length vc bk kp) 31 (0, 0)) := by
              rw [hw5, Below.heap_setCell _ _ _ _ (show D ≠ w4.heap.size by have := HZ4.out; omega)]; exact HDOC.out
            obtain ⟨g1, g2⟩ := HNV.out w5 hb5
            have g7 := loadL hd5 7 (v := .slice (some ⟨bv, ov, none⟩) s.legs.length vc) rfl
            have g14 := loadL hd5 14 (v := iv bk) rfl
            have g15 := loadL hd5 15 (v := iv kp) rfl
            have f14 := frozen_of_row w5 D 14 _ _ hd5
            have f15 := frozen_of_row w5 D 15 _ _ hd5
            have HW5 := Lib.hid hw5
            clear hb5 hd5 hw5 cst fst
            go_quiet ((go_at_call 10; exact Calls.quiet_of (HGV.out _)))
            go_wp2
            go_roundw
            case rel =>
              refine ⟨k + 1, by go_num, by have := HKL.out; omega, ?_⟩
              have := HM.out.yes HWF.out (by have := HZ4.out; omega) x y bk kp HXY.out HBK.out HKP.out nq (fun a b a' b' => rfl)
              rw [← HW5.out] at this
              exact this
            case measure => simp [intOf]; have := HKL.out; omega
          · have hwf' : whF wh k = false := by simpa using hwf
            have HWF := Lib.hid hwf'
            by_cases hin : (k : Int) < (wh.length : Int)
            · obtain ⟨b, o, rfl, hbl, hcell⟩ := hrw.at_ (by omega)
              have cwh := hcell k (by omega) 0 (.bool (whF wh k)) (by rw [whF_at (by omega)]; rfl)
              rw [hwf'] at cwh
              simp only [Nat.mul_one, Nat.add_zero] at cwh
              clear hcell hnv hrw hsa hwf hwf' hcv
              go_wp2
              go_roundw
              case rel => exact ⟨k + 1, by go_num, by have := HKL.out; omega, HM.out.no HWF.out (by have := HZ4.out; omega) _⟩
              case measure => simp [intOf]; have := HKL.out; omega
            · clear hnv hrw hsa hwf hwf' hcv
              go_wp2
              go_roundw
              case rel => exact ⟨k + 1, by go_num, by have := HKL.out; omega, HM.out.no HWF.out (by have := HZ4.out; omega) _⟩
              case measure => simp [intOf]; have := HKL.out; omega
        · obtain rfl : k = s.legs.length := by omega
          obtain ⟨_, hnv, _, hbw⟩ := HFR.out wq HM.out.bel
          have HBW := Lib.hid hbw
          have HDC := Lib.hid HM.out.doc
          have hvl := vals_len s
          have HBC := Lib.hid (bal_call c sr s lp3 lc3 tp3 tc3 vp vc (bkL (vals s) (whF wh) s.pen s.legs.length) (kpL (vals s) (whF wh) s.pen s.legs.length) (stL (whF wh) s.legs.length s.legs.length) (some ⟨w4.heap.size, 0, none⟩) (some ⟨w4.heap.size + 1, 0, none⟩) wq HOK.out hnv HM.out.st.nums (stL_lt _ _ _) (stL_len _ _ _) (by
            have := bal_zero (wh := whF wh) (pen := s.pen) (vals_nn s) (vals_sum HOK.out) HOK.out.f1 HOK.out.p0
            rw [hvl] at this
            exact this))
          clear hnv hbw hvl hlt hk
          go_wp2_with (first
            | (refine wpList_load_row rfl 31 _ rfl D rfl 31 _ (0, 0) _ HDC.out Try.underlying31 rfl sizeDoc ?_)
            | (go_at_call 12; refine (HBC.out).mono ?_; rintro e w8 ⟨rfl, hb8⟩
               have HB8 := Lib.hid (HBW.out.trans (hb8.mono HBW.out.size))
               clear hb8)
            | (go_at_call 9; refine (HW.out _).mono ?_; rintro e w9 ⟨rfl, hb9⟩))
          go_ret
          exact ⟨rfl, HB8.out.trans (hb9.mono HB8.out.size)⟩
theorem grB_len {s : Sl} (h : grB s = false) : s.legs.length ≤ 1000 ∧ s.taxes.length ≤ 1000 := by
  unfold grB at h
  simp only [Bool.or_eq_false_iff, decide_eq_false_iff_not] at h
  omega
theorem tkwhole_any (c sr : Nat) (s : Sl) (lp : Option Addr) (lc : Nat) (tp : Option Addr) (tc : Nat) (n : Int) (wp : Option Addr) (wh : List Bool) (wc : Nat) (w : World) (hc : c < 256) (hP : SaP w s lp lc tp tc) (hWh : Row w 1 brC wp wh) :
    Calls Try.prog 4 #[.agg (tkV c sr), .agg (saV s lp lc tp tc), iv n, .slice wp wh.length wc] w fun e w' => e = .returned (.bool true) ∧ Below w.heap.size w w' := by
  by_cases hg : grB s = true ∨ 60 < wh.length
  · exact tkwhole_gate c sr s lp lc tp tc n wp wh.length wc w hg
  · have hg1 : grB s = false := by
      cases h : grB s with
      | false => rfl
      | true => exact absurd (.inl h) hg
    obtain ⟨h1, h2⟩ := grB_len hg1
    by_cases hno : tkB c sr n = false ∨ chkL s n ≠ 0
    · exact tkwhole_bad c sr s lp lc tp tc n wp wh.length wc w hc hP hg1 (by omega) h1 h2 hno
    · exact tkwhole_good c sr s lp lc tp tc n wp wh wc w hc hP hWh hg1 (by omega) (by
        cases h : tkB c sr n with
        | false => exact absurd (.inl h) hno
        | true => rfl) (by
        rcases Decidable.em (chkL s n = 0) with h | h
        · exact h
        · exact absurd (.inr h) hno)
section
open Go.ChangeShapes Go.WideShapes Go.ChangeAt Go.ChangeMaps
set_option maxRecDepth 100000 in
theorem open_bools {H : Type} {enc : TypeId × Value → H} {W : World} {base : Nat} {sp : Nat → Bool} {held : Bool} {r : Reach} {b0 : Nat} {v : Value} {d : DataW H} {p : List MemPlace} (hv : Value.okWide Try.prog W r b0 33 v) (h : DataW.Trod enc Try.prog W base sp held 33 v d p) :
    ∃ (q : Option Addr) (B : List Bool) (c : Nat), v = .slice q B.length c ∧ Row W 1 brC q B := by
  obtain ⟨a0, len, cap, rfl⟩ := okWide_slice Try.underlying33 hv
  obtain ⟨fuel, hf⟩ := h
  obtain ⟨q, L, c, he, _, hR, _⟩ := row_open (Q := fun _ => True) (ec := brC) (v := .slice a0 len cap) Try.underlying33 cellsBo (by decide) (fun _ => rfl) (fun n cs y hy _ => by
    obtain ⟨b, hb, _⟩ := DataW.trod_bool Try.underlying4 hy
    exact ⟨b, hb, trivial⟩) (by simpa [Value.cells] using hf)
  exact ⟨q, L, c, he, hR⟩
end
end Go.Proofs.Ytkdfhmlamjhedaa
