/- The walk of TicketTaxes. -/
import Derived.Test.YtkdfhmlamjhedaaTkTaP
import Derived.Test.YtkdfhmlamjhedaaTkWhX
import Derived.BigQuiet
import Derived.BigRegion
namespace Go.Proofs.Ytkdfhmlamjhedaa
open Go.Shelf Go.RowKit Go.Lib Go.Money Go.Pror Go.Tick

set_option maxRecDepth 100000 in
set_option maxHeartbeats 6400000 in
theorem tktaxes_good (s : Sl) (lp : Option Addr) (lc : Nat) (tp : Option Addr) (tc : Nat) (n i k : Int) (w : World) (hP : SaP w s lp lc tp tc) (hg : grB s = false) (h0 : s.taxes.length ≠ 0) :
    Calls Try.prog 7 #[.agg (saV s lp lc tp tc), iv n, iv i, iv k] w fun e w' => e = .returned (.bool true) ∧ Below w.heap.size w w' := by
  have hgl : s.legs.length ≤ 60 ∧ s.taxes.length ≤ 60 := by
    unfold grB at hg
    simp only [Bool.or_eq_false_iff, decide_eq_false_iff_not] at hg
    omega
  have HW := Lib.hid (fun W => tkwakes_any W)
  have HGR := Lib.hid (fun W => great_any s lp lc tp tc W)
  rw [hg] at HGR
  obtain ⟨wb, hwb⟩ : ∃ wb, wb = w.alloc (.cells (saV s lp lc tp tc) 28) := ⟨_, rfl⟩
  have hb0 : Below w.heap.size w wb := by rw [hwb]; exact (Below.refl _ _).alloc (Nat.le_refl _) _
  have hbS : wb.heap[w.heap.size]? = some (.cells (saV s lp lc tp tc) 28 (0, 0)) := by rw [hwb]; exact heap_last _ _ _ rfl
  have HXS := Lib.hid (fun wz (hz : Below wb.heap.size wb wz) => (hz.block _ (lt_heap hbS)).trans hbS)
  have HCK := Lib.hid (fun W (h : Below wb.heap.size wb W) => tkcheck_any s n lp lc tp tc W ((hP.lr.keep hb0).keep h) ((hP.tr.keep hb0).keep h) (by omega) (by omega))
  have HPR := Lib.hid (fun W (h : Below wb.heap.size wb W) => price_any s lp tp lc tc W ((hP.tr.keep hb0).keep h) (by omega))
  have HOW := Lib.hid (fun W (h : Below wb.heap.size wb W) => own_any s lp lc tp tc W ((hP.lr.keep hb0).keep h) ((hP.tr.keep hb0).keep h) hP.lc_ hP.tc_ (by omega) (by omega))
  obtain ⟨c, hc⟩ : ∃ c, c = chkL s n := ⟨_, rfl⟩
  rw [← hc] at HCK
  have HC := Lib.hid hc
  have hcc : (c != c) = false := by simp
  have HLL := Lib.hid (And.intro hgl.1 hgl.2)
  clear hc
  have HB0 := Lib.hid hb0
  have HR0 := Lib.hid (Below.refl wb.heap.size wb)
  have hl1 : (1 : Int) ≤ (s.taxes.length : Int) := by omega
  have hl2 : (s.taxes.length : Int) ≤ 60 := by omega
  have z0 : (s.taxes.length == 0) = false := by simpa using h0
  have z1 : ((s.taxes.length : Int) == 0) = false := by simpa using h0
  obtain ⟨a, ha, ha2⟩ := place i (n := s.taxes.length) (by omega)
  obtain ⟨b, hb, hb2⟩ := place k (n := s.taxes.length) (by omega)
  have HA := Lib.hid ha
  have HB := Lib.hid hb
  have HA2 := Lib.hid ha2
  have HB2 := Lib.hid hb2
  have HT0 := Lib.hid (show 0 < s.taxes.length by omega)
  have d3 : wb.cell? ⟨w.heap.size, 3, none⟩ = some (.slice tp s.taxes.length tc) := loadL hbS 3 rfl
  clear ha hb ha2 hb2 hg hP hb0 hbS hgl h0
  go_enter Try.func7, Try.ntmps7
  go_wp2_with fail
  rw [← hwb]
  clear hwb
  refine (HGR.out _).mono ?_
  rintro e w2 ⟨rfl, hb2⟩
  have hbx := HR0.out.trans (hb2.mono HR0.out.size)
  have HBW := Lib.hid hbx
  have d3 : w2.cell? ⟨w.heap.size, 3, none⟩ = some (.slice tp s.taxes.length tc) := loadL (HXS.out _ hbx) 3 rfl
  clear hb2 hbx
  rcases HA2.out with hA | ⟨A0, hA, A1, A2, A3⟩
  all_goals
    rcases HB2.out with hB | ⟨B0, hB, B1, B2, B3⟩
  all_goals
    have za : (0 : Int) ≤ (a : Int) := Int.natCast_nonneg _
    have zb : (0 : Int) ≤ (b : Int) := Int.natCast_nonneg _
    have la : (a : Int) < (s.taxes.length : Int) := by have := HA.out; omega
    have lb : (b : Int) < (s.taxes.length : Int) := by have := HB.out; omega
    go_wp2_with fail
    go_quiet (fail)
    have hbd := below_drewN HBW.out nq
    have HBD := Lib.hid hbd
    have d3' : (w2.drewN nq).cell? ⟨w.heap.size, 3, none⟩ = some (.slice tp s.taxes.length tc) := loadL (HXS.out _ hbd) 3 rfl
    clear hbd
    generalize w2.drewN nq = wd at *
    go_wp2_with (first
      | (refine wpList_load_row rfl 28 _ rfl w.heap.size rfl 28 (saV s lp lc tp tc) (0, 0) _ (HXS.out _ HBD.out) Try.underlying28 rfl sizeSale ?_)
      | (go_at_call 20; refine (HOW.out _ HBD.out).mono ?_; rintro e w5 ⟨p5, q5, p6, q6, rfl, hq5, hq6, hr5, hr6, hn5, hb5⟩
         have HB5 := Lib.hid (HBD.out.trans (hb5.mono HBD.out.size))
         have HQ := Lib.hid (And.intro hq5 hq6)
         have HN5 := Lib.hid hn5
         have HR5 := Lib.hid hr5
         clear hq5 hq6 hr5 hr6 hn5 hb5))
    obtain ⟨g, rfl, hot, hap⟩ := HN5.out HT0.out
    have HAP := Lib.hid hap
    clear hap HN5
    obtain ⟨w6, hw6⟩ : ∃ w6, w6 = w5.alloc (.cells (saV s p5 q5 (some ⟨g, 0, none⟩) q6) 28) := ⟨_, rfl⟩
    have hx : Below w5.heap.size w5 w6 := by rw [hw6]; exact (Below.refl _ _).alloc (Nat.le_refl _) _
    have hD6 : w6.heap[w5.heap.size]? = some (.cells (saV s p5 q5 (some ⟨g, 0, none⟩) q6) 28 (0, 0)) := by rw [hw6]; exact heap_last _ _ _ rfl
    rw [← hw6]
    clear hw6
    have hgD : g ≠ w5.heap.size := by have := hot.lt; omega
    have hge : wb.heap.size ≤ g := by have := hot.ge; have := HBD.out.size; omega
    have hDe : wb.heap.size ≤ w5.heap.size := HB5.out.size
    have HB6 := Lib.hid (HB5.out.trans (hx.mono HB5.out.size))
    have HO6 := Lib.hid (hot.keep hx)
    have HR6 := Lib.hid ((HR5.out.keep hx).row)
    generalize w5.heap.size = D at *
    have HGE := Lib.hid (And.intro hgD (And.intro hge hDe))
    have HD6 := Lib.hid hD6
    obtain ⟨xa, hxa⟩ : ∃ x, x = s.taxes[a]! := ⟨_, rfl⟩
    obtain ⟨xb, hxb⟩ : ∃ x, x = s.taxes[b]! := ⟨_, rfl⟩
    have ca0 := HO6.out.c0 HA.out
    have ca1 := HO6.out.c1 HA.out
    have cb0 := HO6.out.c0 HB.out
    have cb1 := HO6.out.c1 HB.out
    rw [← hxa] at ca0 ca1
    rw [← hxb] at cb0 cb1
    have fa0 := HO6.out.fr (a * 2)
    have fa1 := HO6.out.fr (a * 2 + 1)
    have fb0 := HO6.out.fr (b * 2)
    have fb1 := HO6.out.fr (b * 2 + 1)
    have d6 : w6.cell? ⟨D, 3, none⟩ = some (.slice (some ⟨g, 0, none⟩) s.taxes.length q6) := loadL hD6 3 rfl
    have HS1 := Lib.hid (HO6.out.set a xb)
    have HA' := Lib.hid (show b < (s.taxes.set a xb).length by rw [List.length_set]; exact HB.out)
    have eb0 := HS1.out.c0 HA'.out
    have eb1 := HS1.out.c1 HA'.out
    have gb0 := HS1.out.fr (b * 2)
    have gb1 := HS1.out.fr (b * 2 + 1)
    have d7 : ((w6.setCell ⟨g, a * 2, none⟩ (str xb.code)).setCell ⟨g, a * 2 + 1, none⟩ (iv xb.am)).cell? ⟨D, 3, none⟩ = some (.slice (some ⟨g, 0, none⟩) s.taxes.length q6) := loadL (by rw [Below.heap_setCell _ _ _ _ (show D ≠ g by omega), Below.heap_setCell _ _ _ _ (show D ≠ g by omega)]; exact hD6) 3 rfl
    have HXA := Lib.hid hxa
    have HXB := Lib.hid hxb
    clear hxa hxb hD6 hgD hge hDe hx hot d3'
    go_region
    have hk7 : ∀ j, j ≠ g → ((((w6.setCell ⟨g, a * 2, none⟩ (str xb.code)).setCell ⟨g, a * 2 + 1, none⟩ (iv xb.am)).setCell ⟨g, b * 2, none⟩ (str xa.code)).setCell ⟨g, b * 2 + 1, none⟩ (iv xa.am)).drew.heap[j]? = w6.heap[j]? := fun j hj =>
      (Below.heap_setCell _ _ _ _ hj).trans ((Below.heap_setCell _ _ _ _ hj).trans ((Below.heap_setCell _ _ _ _ hj).trans (Below.heap_setCell _ _ _ _ hj)))
    have hs7 : ((((w6.setCell ⟨g, a * 2, none⟩ (str xb.code)).setCell ⟨g, a * 2 + 1, none⟩ (iv xb.am)).setCell ⟨g, b * 2, none⟩ (str xa.code)).setCell ⟨g, b * 2 + 1, none⟩ (iv xa.am)).drew.heap.size = w6.heap.size := by simp [World.setCell, World.drew]
    have hO7 : OT ((((w6.setCell ⟨g, a * 2, none⟩ (str xb.code)).setCell ⟨g, a * 2 + 1, none⟩ (iv xb.am)).setCell ⟨g, b * 2, none⟩ (str xa.code)).setCell ⟨g, b * 2 + 1, none⟩ (iv xa.am)).drew (wd.heap.size + 2) g (sw s a b).taxes := by
      have h := HS1.out.set b xa
      rw [HXA.out, HXB.out] at h ⊢
      exact ⟨h.ge, h.at_⟩
    have hB7 : Below wb.heap.size wb ((((w6.setCell ⟨g, a * 2, none⟩ (str xb.code)).setCell ⟨g, a * 2 + 1, none⟩ (iv xb.am)).setCell ⟨g, b * 2, none⟩ (str xa.code)).setCell ⟨g, b * 2 + 1, none⟩ (iv xa.am)).drew :=
      ((((HB6.out.setCell (p := ⟨g, a * 2, none⟩) HGE.out.2.1 _).setCell (p := ⟨g, a * 2 + 1, none⟩) HGE.out.2.1 _).setCell (p := ⟨g, b * 2, none⟩) HGE.out.2.1 _).setCell (p := ⟨g, b * 2 + 1, none⟩) HGE.out.2.1 _).drew
    have HR7 := Lib.hid (HR6.out.keepN g HAP.out (Nat.le_of_eq hs7.symm) hk7)
    have HO7 := Lib.hid hO7
    have HB7 := Lib.hid hB7
    have HD7 := Lib.hid ((hk7 D (fun e => HGE.out.1 e.symm)).trans HD6.out)
    clear hk7 hs7 hO7 hB7 ca0 ca1 cb0 cb1 fa0 fa1 fb0 fb1 d6 eb0 eb1 gb0 gb1 d7 HS1 HA' HR6 HO6 HB6 HD6
    generalize ((((w6.setCell _ _).setCell _ _).setCell _ _).setCell _ _).drew = w7 at *
    go_wp2_with fail
    have HCS := Lib.hid (fun W (h : Below w7.heap.size w7 W) => show Calls Try.prog 16 #[.agg (saV s p5 q5 (some ⟨g, 0, none⟩) q6), iv n] W (fun e w' => e = .returned (iv c) ∧ Below W.heap.size W w') by
      have := tkcheck_any (sw s a b) n p5 q5 (some ⟨g, 0, none⟩) q6 W (HR7.out.keep h) ((HO7.out.keep h).row) (show s.legs.length ≤ 1000 by have := HLL.out; omega) (by rw [sw_len]; have := HLL.out; omega)
      rw [saV_sw, sw_chk s HA.out HB.out, ← HC.out] at this
      exact this)
    have HPS := Lib.hid (fun W (h : Below w7.heap.size w7 W) => show Calls Try.prog 17 #[.agg (saV s p5 q5 (some ⟨g, 0, none⟩) q6)] W (PriceP (amts (sw s a b)) W) by
      have := price_any (sw s a b) p5 (some ⟨g, 0, none⟩) q5 q6 W ((HO7.out.keep h).row) (by rw [sw_len]; have := HLL.out; omega)
      rw [show (#[str (sw s a b).name, .slice p5 (sw s a b).legs.length q5, iv (sw s a b).fare, .slice (some ⟨g, 0, none⟩) (sw s a b).taxes.length q6, iv (sw s a b).pen] : Array Value) = saV (sw s a b) p5 q5 (some ⟨g, 0, none⟩) q6 from rfl, saV_sw] at this
      exact this)
    refine wp_region_held (S := fun w' => w'.heap[w.heap.size]? = some (.cells (saV s lp lc tp tc) 28 (0, 0)) ∧ w'.heap[D]? = some (.cells (saV s p5 q5 (some ⟨g, 0, none⟩) q6) 28 (0, 0))) (by kernel_rfl) ?_
    change wpAnyH _ _ _ _ _ _ _ _ (World.drew _)
    have HX8 := Lib.hid (Below.refl w7.heap.size w7).drew
    have HB8 := Lib.hid HB7.out.drew
    have HXD := Lib.hid (fun W (h : Below w7.heap.size w7 W) => (h.block _ (lt_heap HD7.out)).trans HD7.out)
    have HS8 := Lib.hid (And.intro (HXS.out _ HB8.out) (HXD.out _ HX8.out))
    refine wpAnyH_take (i := 0) (oi := ⟨some 69, .load 28 (.tmp 4), _, _, _, none⟩) (v := .agg (saV s lp lc tp tc)) rfl (by kernel_rfl) (by kernel_rfl) (by kernel_rfl) (fun _ _ _ h => h) (Or.inl ⟨by rfl, fun w' hS => by have c0 := loadL hS.1 0 rfl; have c1 := loadL hS.1 1 rfl; have c2 := loadL hS.1 2 rfl; have c3 := loadL hS.1 3 rfl; have c4 := loadL hS.1 4 rfl; go_simp⟩) HS8.out ?_
    simp only [Act.put, List.setIfInBounds_toArray, List.set_cons_zero, List.set_cons_succ]
    refine wpAnyH_take (i := 1) (oi := ⟨some 70, .move (.tmp 1), _, _, _, none⟩) (v := iv n) rfl (by kernel_rfl) (by kernel_rfl) (by kernel_rfl) (fun _ _ _ h => h) (Or.inl ⟨by rfl, fun w' hS => by go_simp⟩) HS8.out ?_
    simp only [Act.put, List.setIfInBounds_toArray, List.set_cons_zero, List.set_cons_succ]
    refine wpAnyH_take (i := 3) (oi := ⟨some 72, .load 28 (.tmp 11), _, _, _, none⟩) (v := .agg (saV s p5 q5 (some ⟨g, 0, none⟩) q6)) rfl (by kernel_rfl) (by kernel_rfl) (by kernel_rfl) (fun _ _ _ h => h) (Or.inl ⟨by rfl, fun w' hS => by have c0 := loadL hS.2 0 rfl; have c1 := loadL hS.2 1 rfl; have c2 := loadL hS.2 2 rfl; have c3 := loadL hS.2 3 rfl; have c4 := loadL hS.2 4 rfl; go_simp⟩) HS8.out ?_
    simp only [Act.put, List.setIfInBounds_toArray, List.set_cons_zero, List.set_cons_succ]
    refine wpAnyH_take (i := 4) (oi := ⟨some 73, .move (.tmp 1), _, _, _, none⟩) (v := iv n) rfl (by kernel_rfl) (by kernel_rfl) (by kernel_rfl) (fun _ _ _ h => h) (Or.inl ⟨by rfl, fun w' hS => by go_simp⟩) HS8.out ?_
    simp only [Act.put, List.setIfInBounds_toArray, List.set_cons_zero, List.set_cons_succ]
    refine wpAnyH_ready (rs := [2]) (by kernel_rfl) (by simp) (AllReadyH.cons (o := ⟨some 71, .call ⟨.value (.func 16), #[.tmp 69, .tmp 70], _⟩, _, _, _, none⟩) rfl (fun K hK => ?_) AllReadyH.nil)
    go_simp
    refine (HCK.out _ HB8.out).mono ?_
    rintro e w9 ⟨rfl, hb9⟩
    have HX9 := Lib.hid (HX8.out.trans (hb9.mono HX8.out.size))
    have HB9 := Lib.hid (HB8.out.trans (hb9.mono HB8.out.size))
    have HS9 := Lib.hid (And.intro (HXS.out _ HB9.out) (HXD.out _ HX9.out))
    clear hb9
    refine hK.out _ _ HS9.out (fun _ => ?_)
    clear hK K
    refine wpAnyH_ready (rs := [5]) (by kernel_rfl) (by simp) (AllReadyH.cons (o := ⟨some 74, .call ⟨.value (.func 16), #[.tmp 72, .tmp 73], _⟩, _, _, _, none⟩) rfl (fun K hK => ?_) AllReadyH.nil)
    go_simp
    refine (HCS.out _ HX9.out).mono ?_
    rintro e w10 ⟨rfl, hb10⟩
    have HX10 := Lib.hid (HX9.out.trans (hb10.mono HX9.out.size))
    have HB10 := Lib.hid (HB9.out.trans (hb10.mono HB9.out.size))
    have HS10 := Lib.hid (And.intro (HXS.out _ HB10.out) (HXD.out _ HX10.out))
    clear hb10
    refine hK.out _ _ HS10.out (fun _ => ?_)
    clear hK K
    refine wpAnyH_take (i := 6) (oi := ⟨some 75, .binOp .neq 38 (.tmp 71) (.tmp 74) 38, _, _, _, none⟩) (v := .bool false) rfl (by kernel_rfl) (by kernel_rfl) (by kernel_rfl) (fun _ _ _ h => h) (Or.inl ⟨by rfl, fun w' hS => by go_simp⟩) HS10.out ?_
    simp only [Act.put, List.setIfInBounds_toArray, List.set_cons_zero, List.set_cons_succ]
    refine wpAnyH_done (by kernel_rfl) ?_ _
    by_cases hc0 : c = 0
    · subst hc0
      have hsum := sw_sum s HA.out HB.out (n := n) HC.out.symm
      obtain ⟨X, E, hXE⟩ : ∃ X E, pv (sumO 0 (amts s)) = .tuple #[iv X, iv E] := ⟨_, _, rfl⟩
      have HP2 := Lib.hid (fun W (h : Below wb.heap.size wb W) => show Calls Try.prog 17 #[.agg (saV s lp lc tp tc)] W (fun e w' => e = .returned (.tuple #[iv X, iv E]) ∧ Below W.heap.size W w') from
        (HPR.out W h).mono fun e w' ⟨r, he, hr, hb⟩ => ⟨by rw [he, hr hsum.1, hXE], hb⟩)
      have HP3 := Lib.hid (fun W (h : Below w7.heap.size w7 W) => show Calls Try.prog 17 #[.agg (saV s p5 q5 (some ⟨g, 0, none⟩) q6)] W (fun e w' => e = .returned (.tuple #[iv X, iv E]) ∧ Below W.heap.size W w') from
        (HPS.out W h).mono fun e w' ⟨r, he, hr, hb⟩ => ⟨by rw [he, hr hsum.2.1, hsum.2.2, hXE], hb⟩)
      clear hsum hXE HPR HPS
      go_wp2_with (first
        | (refine wpList_load_row rfl 28 _ rfl w.heap.size rfl 28 (saV s lp lc tp tc) (0, 0) _ (HXS.out _ HB10.out) Try.underlying28 rfl sizeSale ?_)
        | (refine wpList_load_row rfl 28 _ rfl w.heap.size rfl 28 (saV s lp lc tp tc) (0, 0) _ (HXS.out _ HB11.out) Try.underlying28 rfl sizeSale ?_)
        | (go_at_call 16; refine (HCK.out _ HB10.out).mono ?_; rintro e w11 ⟨rfl, hb11⟩
           have HX11 := Lib.hid (HX10.out.trans (hb11.mono HX10.out.size))
           have HB11 := Lib.hid (HB10.out.trans (hb11.mono HB10.out.size))
           clear hb11))
      refine (HP2.out _ HB11.out).mono ?_
      rintro e w12 ⟨rfl, hb12⟩
      have HX12 := Lib.hid (HX11.out.trans (hb12.mono HX11.out.size))
      have HB12 := Lib.hid (HB11.out.trans (hb12.mono HB11.out.size))
      clear hb12
      go_wp2_with (refine wpList_load_row rfl 28 _ rfl D rfl 28 (saV s p5 q5 (some ⟨g, 0, none⟩) q6) (0, 0) _ (HXD.out _ HX12.out) Try.underlying28 rfl sizeSale ?_)
      refine (HP3.out _ HX12.out).mono ?_
      rintro e w13 ⟨rfl, hb13⟩
      have HB13 := Lib.hid (HB12.out.trans (hb13.mono HB12.out.size))
      clear hb13
      go_wp2_with (go_at_call 9; refine (HW.out _).mono ?_; rintro e w14 ⟨rfl, hb14⟩)
      go_ret
      exact ⟨rfl, HB0.out.trans ((HB13.out.mono HB0.out.size).trans (hb14.mono (by have := HB0.out.size; have := HB13.out.size; omega)))⟩
    · go_wp2_with (first
        | (refine wpList_load_row rfl 28 _ rfl w.heap.size rfl 28 (saV s lp lc tp tc) (0, 0) _ (HXS.out _ HB10.out) Try.underlying28 rfl sizeSale ?_)
        | (go_at_call 16; refine (HCK.out _ HB10.out).mono ?_; rintro e w11 ⟨rfl, hb11⟩
           have HB11 := Lib.hid (HB10.out.trans (hb11.mono HB10.out.size))
           clear hb11)
        | (go_at_call 9; refine (HW.out _).mono ?_; rintro e w12 ⟨rfl, hb12⟩))
      go_ret
      exact ⟨rfl, HB0.out.trans ((HB11.out.mono HB0.out.size).trans (hb12.mono (by have := HB0.out.size; have := HB11.out.size; omega)))⟩
end Go.Proofs.Ytkdfhmlamjhedaa
