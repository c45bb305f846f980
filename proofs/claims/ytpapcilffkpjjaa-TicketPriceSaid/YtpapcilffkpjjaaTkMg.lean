/- Contract of Make, where the sale may be. -/
import Derived.Test.YtpapcilffkpjjaaTkMa
import Derived.Deep.RegionHeld
namespace Go.Proofs.Ytpapcilffkpjjaa
open Go.Shelf Go.RowKit Go.Lib Go.Money Go.Pror Go.Tick

abbrev docV (c sr : Nat) (s : Sl) (lp : Option Addr) (lc : Nat) (tp : Option Addr) (tc : Nat) (vp : Option Addr) (n vc : Nat) : Array Value :=
  #[u8v c, u64v sr, str s.name, .slice lp s.legs.length lc, iv s.fare, .slice tp s.taxes.length tc, iv s.pen, .slice vp n vc, .int .u8 0, .int .u64 0, .int .u8 0, .int .u64 0, iv 0, iv s.fare, iv 0, iv 0, iv 0]
theorem docV_one (c sr : Nat) (s : Sl) (lp : Option Addr) (lc : Nat) (tp : Option Addr) (tc : Nat) (vp : Option Addr) (n vc : Nat) : (docV c sr s lp lc tp tc vp n vc).all (·.oneCell') = true := by kernel_rfl
/-- what coupons are worth -/
def vals (s : Sl) : List Int := ints (shareL s.fare.toNat (s.legs.map Lg.wt))
theorem vals_len (s : Sl) : (vals s).length = s.legs.length := by
  unfold vals shareL; rw [ints_len, given_len]; simp
/-- what a sale that may be has -/
structure OkS (s : Sl) : Prop where
  l1 : 1 ≤ s.legs.length
  l4 : s.legs.length ≤ 4
  t4 : s.taxes.length ≤ 4
  f0 : 0 ≤ s.fare
  f1 : s.fare ≤ 1125899906842624
  p0 : 0 ≤ s.pen
  p1 : s.pen ≤ 1125899906842624
  w0 : 0 < (s.legs.map Lg.wt).sum
theorem okS_of {s : Sl} {n : Int} (h : chkL s n = 0) : OkS s := by
  have ht := tst_of_chk h
  have h2 := ht 2 (by omega)
  have h3 := ht 3 (by omega)
  have h4 := ht 4 (by omega)
  have h5 := ht 5 (by omega)
  have h7 := ht 7 (by omega)
  simp only [tst, Bool.and_eq_true, decide_eq_true_eq, amt_iff] at h2 h3 h4 h5 h7
  refine ⟨h2.1, h2.2, h5, h4.1, h4.2, h7.1, h7.2, ?_⟩
  obtain ⟨name, legs, fare, taxes, pen⟩ := s
  simp only at h2 h3
  match legs, h2, h3 with
  | a :: l, _, h3 =>
    have := List.all_eq_true.1 h3 a (by simp)
    unfold legB at this
    simp only [Bool.and_eq_true, decide_eq_true_eq] at this
    simp only [List.map_cons, List.sum_cons]
    omega
theorem vals_share {s : Sl} (h : OkS s) : shareR s.fare (s.legs.map Lg.wt) = (vals s, 0) := by
  unfold shareR vals
  rw [if_neg (by have := h.l4; simp; omega), if_neg (by have := h.w0; omega), if_neg (by have := h.f0; have := h.f1; omega)]
theorem loadL {w : World} {g : Nat} {cs : Array Value} {ty : TypeId} (h : w.heap[g]? = some (.cells cs ty (0, 0))) (i : Nat) {v : Value} (hv : cs[i]? = some v) : w.cell? ⟨g, i, none⟩ = some v := (cell_arr h i).trans hv
set_option maxRecDepth 100000 in
set_option maxHeartbeats 3200000 in
theorem make_good (c sr : Nat) (s : Sl) (n : Int) (lp : Option Addr) (lc : Nat) (tp : Option Addr) (tc : Nat) (w : World) (hc : c < 256) (hk : tkB c sr n = true) (hL : Row w 3 lgC lp s.legs) (hT : Row w 2 txC tp s.taxes) (hlc : s.legs.length ≤ lc) (htc : s.taxes.length ≤ tc) (hw : ∀ x ∈ s.legs, x.wt ≤ 4294967295) (hl : s.legs.length ≤ 1000) (ht : s.taxes.length ≤ 1000) (he : chkL s n = 0) :
    Calls Try.prog 14 #[.agg (tkV c sr), .agg (saV s lp lc tp tc), iv n] w fun e w' => ∃ lp' lc' tp' tc' vp vc, e = .returned (.tuple #[.agg (docV c sr s lp' lc' tp' tc' vp s.legs.length vc), iv 0]) ∧ s.legs.length ≤ lc' ∧ s.taxes.length ≤ tc' ∧ s.legs.length ≤ vc ∧ Row w' 3 lgC lp' s.legs ∧ Row w' 2 txC tp' s.taxes ∧ Nums w' .i64 vp (vals s) ∧ Below w.heap.size w w' := by
  have hok := okS_of he
  obtain ⟨wb, hwb⟩ : ∃ wb, wb = ((w.alloc (.cells (tkV c sr) 24)).alloc (.cells (saV s lp lc tp tc) 28)).alloc (.cells zDoc 31) := ⟨_, rfl⟩
  have hb0 : Below w.heap.size w wb := by rw [hwb]; exact (((Below.refl _ _).alloc (Nat.le_refl _) _).alloc (by simp) _).alloc (by simp; omega) _
  have hws : wb.heap.size = w.heap.size + 3 := by rw [hwb]; simp
  have hbT : wb.heap[w.heap.size]? = some (.cells (tkV c sr) 24 (0, 0)) := by rw [hwb, Below.heap_alloc _ _ _ (by simp; omega), Below.heap_alloc _ _ _ (by simp)]; exact heap_last _ _ _ rfl
  have hbS : wb.heap[w.heap.size + 1]? = some (.cells (saV s lp lc tp tc) 28 (0, 0)) := by rw [hwb, Below.heap_alloc _ _ _ (by simp)]; exact heap_last _ _ _ (by simp)
  have hbD : wb.heap[w.heap.size + 1 + 1]? = some (.cells zDoc 31 (0, 0)) := by rw [hwb]; exact heap_last _ _ _ (by simp)
  have HXT := Lib.hid (fun wz (hz : Below wb.heap.size wb wz) => (hz.block _ (lt_heap hbT)).trans hbT)
  have HXS := Lib.hid (fun wz (hz : Below wb.heap.size wb wz) => (hz.block _ (lt_heap hbS)).trans hbS)
  have HXD := Lib.hid (fun wz (hz : Below wb.heap.size wb wz) => (hz.block _ (lt_heap hbD)).trans hbD)
  have HT := Lib.hid (fun W => ticket_any c sr n hc W)
  rw [hk] at HT
  have HC := Lib.hid (fun W (h : Below wb.heap.size wb W) => tkcheck_any s n lp lc tp tc W ((hL.keep hb0).keep h) ((hT.keep hb0).keep h) hl ht)
  rw [he] at HC
  have HWT := Lib.hid (fun W (h : Below wb.heap.size wb W) => weights_any s.legs lp lc W ((hL.keep hb0).keep h) hl)
  have hwl : (s.legs.map Lg.wt).length = s.legs.length := by simp
  obtain ⟨A, hA⟩ : ∃ A : Nat, s.fare = (A : Int) := ⟨s.fare.toNat, by have := hok.f0; omega⟩
  have HSH := Lib.hid (fun W p (h : Nums W .u32 p (ints (s.legs.map Lg.wt))) => show Calls Try.prog 28 #[iv s.fare, .slice p s.legs.length s.legs.length] W (fun e w' => ∃ g cap', e = .returned (.tuple #[.slice (some ⟨g, 0, none⟩) s.legs.length cap', iv 0]) ∧ W.heap.size ≤ g ∧ s.legs.length ≤ cap' ∧ Nums w' .i64 (some ⟨g, 0, none⟩) (vals s) ∧ Below W.heap.size W w') by
    have hsh := vals_share hok
    rw [hA] at hsh ⊢
    have := share_new hsh p s.legs.length W h (fun x hx => by obtain ⟨y, hy, rfl⟩ := List.mem_map.1 hx; exact hw y hy) (by have := hok.l4; simp; omega) hok.w0 (by have := hok.f1; omega)
    rw [hwl, vals_len] at this
    exact this)
  clear hA
  have HCL := Lib.hid (fun W (h : Below wb.heap.size wb W) => tkclone_any s lp lc tp tc W ((hL.keep hb0).keep h) ((hT.keep hb0).keep h) hlc htc hl ht)
  have HB0 := Lib.hid (Below.refl wb.heap.size wb)
  have HWS := Lib.hid hws
  have HW := Lib.hid hb0
  clear hc hk hb0 hL hT hl ht he hlc htc hw hwl hok hbT hbS hbD hws
  go_enter Try.func14, Try.ntmps14
  go_wp2_with fail
  rw [← hwb]
  clear hwb
  refine (HT.out _).mono ?_
  rintro e w2 ⟨rfl, hb2⟩
  have HB2 := Lib.hid (HB0.out.trans (hb2.mono HB0.out.size))
  clear hb2 HB0 HT
  go_wp2_with (first
    | (refine wpList_load_row rfl 28 _ rfl (w.heap.size + 1) rfl 28 (saV s lp lc tp tc) (0, 0) _ (HXS.out _ HB2.out) Try.underlying28 rfl sizeSale ?_)
    | (go_at_call 16; refine (HC.out _ HB2.out).mono ?_; rintro e w3 ⟨rfl, hb3⟩
       have HB3 := Lib.hid (HB2.out.trans (hb3.mono HB2.out.size))
       clear hb3))
  have HB3' := Lib.hid HB3.out.drew
  clear HC
  refine wp_region_held (S := fun w' => w'.heap[w.heap.size]? = some (.cells (tkV c sr) 24 (0, 0)) ∧ w'.heap[w.heap.size + 1]? = some (.cells (saV s lp lc tp tc) 28 (0, 0))) (by kernel_rfl) ?_
  change wpAnyH _ _ _ _ _ _ _ _ (World.drew _)
  have HS3 := Lib.hid (And.intro (HXT.out _ HB3'.out) (HXS.out _ HB3'.out))
  refine wpAnyH_take (i := 0) (oi := ⟨some 24, .fieldAddr 28 (.tmp 4) 2, _, _, _, none⟩) (v := .pointer (some ⟨w.heap.size + 1, 2, none⟩)) rfl (by kernel_rfl) (by kernel_rfl) (by kernel_rfl) (fun _ _ _ h => h) (Or.inl ⟨by rfl, fun w' hS => by go_simp⟩) HS3.out ?_
  simp only [Act.put, List.setIfInBounds_toArray, List.set_cons_zero, List.set_cons_succ]
  refine wpAnyH_take (i := 1) (oi := ⟨some 25, .load 2 (.tmp 24), _, _, _, none⟩) (v := iv s.fare) rfl (by kernel_rfl) (by kernel_rfl) (by kernel_rfl) (fun _ _ _ h => h) (Or.inl ⟨by rfl, fun w' hS => by have c := loadL hS.2 2 rfl; go_simp⟩) HS3.out ?_
  simp only [Act.put, List.setIfInBounds_toArray, List.set_cons_zero, List.set_cons_succ]
  refine wpAnyH_take (i := 2) (oi := ⟨some 26, .fieldAddr 28 (.tmp 4) 1, _, _, _, none⟩) (v := .pointer (some ⟨w.heap.size + 1, 1, none⟩)) rfl (by kernel_rfl) (by kernel_rfl) (by kernel_rfl) (fun _ _ _ h => h) (Or.inl ⟨by rfl, fun w' hS => by go_simp⟩) HS3.out ?_
  simp only [Act.put, List.setIfInBounds_toArray, List.set_cons_zero, List.set_cons_succ]
  refine wpAnyH_take (i := 3) (oi := ⟨some 27, .load 25 (.tmp 26), _, _, _, none⟩) (v := .slice lp s.legs.length lc) rfl (by kernel_rfl) (by kernel_rfl) (by kernel_rfl) (fun _ _ _ h => h) (Or.inl ⟨by rfl, fun w' hS => by have c := loadL hS.2 1 rfl; go_simp⟩) HS3.out ?_
  simp only [Act.put, List.setIfInBounds_toArray, List.set_cons_zero, List.set_cons_succ]
  refine wpAnyH_ready (rs := [4]) (by kernel_rfl) (by simp) (AllReadyH.cons (o := ⟨some 28, .call ⟨.value (.func 29), #[.tmp 27], _⟩, _, _, _, none⟩) rfl (fun K hK => ?_) AllReadyH.nil)
  go_simp
  refine (HWT.out _ HB3'.out).mono ?_
  rintro e w4 ⟨p4, rfl, hn4, hb4⟩
  have HB4 := Lib.hid (HB3'.out.trans (hb4.mono HB3'.out.size))
  have HN4 := Lib.hid hn4
  have HS4 := Lib.hid (And.intro (HXT.out _ HB4.out) (HXS.out _ HB4.out))
  clear hn4 hb4
  refine hK.out _ _ HS4.out (fun _ => ?_)
  clear hK K
  refine wpAnyH_ready (rs := [5]) (by kernel_rfl) (by simp) (AllReadyH.cons (o := ⟨some 29, .call ⟨.value (.func 28), #[.tmp 25, .tmp 28], _⟩, _, _, _, none⟩) rfl (fun K hK => ?_) AllReadyH.nil)
  go_simp
  refine (HSH.out _ _ HN4.out).mono ?_
  rintro e w5 ⟨g5, q5, rfl, hg5, hq5, hn5, hb5⟩
  have HG5 := Lib.hid (Nat.le_trans (show wb.heap.size ≤ w4.heap.size from HB4.out.size) hg5)
  have HB5 := Lib.hid (HB4.out.trans (hb5.mono HB4.out.size))
  have HQ5 := Lib.hid hq5
  have HN5 := Lib.hid hn5
  have HS5 := Lib.hid (And.intro (HXT.out _ HB5.out) (HXS.out _ HB5.out))
  clear hq5 hn5 hb5 hg5
  refine hK.out _ _ HS5.out (fun _ => ?_)
  clear hK K
  refine wpAnyH_take (i := 6) (oi := ⟨some 23, .move (.tmp 29), _, _, _, none⟩) (v := .tuple #[.slice (some ⟨g5, 0, none⟩) s.legs.length q5, iv 0]) rfl (by kernel_rfl) (by kernel_rfl) (by kernel_rfl) (fun _ _ _ h => h) (Or.inl ⟨by rfl, fun w' hS => by go_simp⟩) HS5.out ?_
  simp only [Act.put, List.setIfInBounds_toArray, List.set_cons_zero, List.set_cons_succ]
  refine wpAnyH_take (i := 7) (oi := ⟨some 30, .extract (.tmp 23) 0, _, _, _, none⟩) (v := .slice (some ⟨g5, 0, none⟩) s.legs.length q5) rfl (by kernel_rfl) (by kernel_rfl) (by kernel_rfl) (fun _ _ _ h => h) (Or.inl ⟨by rfl, fun w' hS => by go_simp⟩) HS5.out ?_
  simp only [Act.put, List.setIfInBounds_toArray, List.set_cons_zero, List.set_cons_succ]
  refine wpAnyH_take (i := 8) (oi := ⟨some 31, .extract (.tmp 23) 1, _, _, _, none⟩) (v := iv 0) rfl (by kernel_rfl) (by kernel_rfl) (by kernel_rfl) (fun _ _ _ h => h) (Or.inl ⟨by rfl, fun w' hS => by go_simp⟩) HS5.out ?_
  simp only [Act.put, List.setIfInBounds_toArray, List.set_cons_zero, List.set_cons_succ]
  refine wpAnyH_take (i := 9) (oi := ⟨some 9, .assign (.tmp 30), _, _, _, none⟩) (v := .slice (some ⟨g5, 0, none⟩) s.legs.length q5) rfl (by kernel_rfl) (by kernel_rfl) (by kernel_rfl) (fun _ _ _ h => h) (Or.inl ⟨by rfl, fun w' hS => by go_simp⟩) HS5.out ?_
  simp only [Act.put, List.setIfInBounds_toArray, List.set_cons_zero, List.set_cons_succ]
  refine wpAnyH_take (i := 10) (oi := ⟨some 10, .assign (.tmp 31), _, _, _, none⟩) (v := iv 0) rfl (by kernel_rfl) (by kernel_rfl) (by kernel_rfl) (fun _ _ _ h => h) (Or.inl ⟨by rfl, fun w' hS => by go_simp⟩) HS5.out ?_
  simp only [Act.put, List.setIfInBounds_toArray, List.set_cons_zero, List.set_cons_succ]
  refine wpAnyH_done (by kernel_rfl) ?_ _
  go_wp2
  refine wp_region_held (S := fun w' => w'.heap[w.heap.size]? = some (.cells (tkV c sr) 24 (0, 0)) ∧ w'.heap[w.heap.size + 1]? = some (.cells (saV s lp lc tp tc) 28 (0, 0))) (by kernel_rfl) ?_
  change wpAnyH _ _ _ _ _ _ _ _ (World.drew _)
  have HB5' := Lib.hid HB5.out.drew
  have HN5' := Lib.hid (show Nums w5.drew .i64 (some ⟨g5, 0, none⟩) (vals s) from ⟨HN5.out.at_⟩)
  have HS5' := Lib.hid (And.intro (HXT.out _ HB5'.out) (HXS.out _ HB5'.out))
  refine wpAnyH_take (i := 0) (oi := ⟨some 36, .load 24 (.tmp 3), _, _, _, none⟩) (v := .agg (tkV c sr)) rfl (by kernel_rfl) (by kernel_rfl) (by kernel_rfl) (fun _ _ _ h => h) (Or.inl ⟨by rfl, fun w' hS => by have c0 := loadL hS.1 0 rfl; have c1 := loadL hS.1 1 rfl; go_simp⟩) HS5'.out ?_
  simp only [Act.put, List.setIfInBounds_toArray, List.set_cons_zero, List.set_cons_succ]
  refine wpAnyH_take (i := 1) (oi := ⟨some 37, .load 28 (.tmp 4), _, _, _, none⟩) (v := .agg (saV s lp lc tp tc)) rfl (by kernel_rfl) (by kernel_rfl) (by kernel_rfl) (fun _ _ _ h => h) (Or.inl ⟨by rfl, fun w' hS => by have c0 := loadL hS.2 0 rfl; have c1 := loadL hS.2 1 rfl; have c2 := loadL hS.2 2 rfl; have c3 := loadL hS.2 3 rfl; have c4 := loadL hS.2 4 rfl; go_simp⟩) HS5'.out ?_
  simp only [Act.put, List.setIfInBounds_toArray, List.set_cons_zero, List.set_cons_succ]
  refine wpAnyH_take (i := 3) (oi := ⟨some 39, .move (.tmp 9), _, _, _, none⟩) (v := .slice (some ⟨g5, 0, none⟩) s.legs.length q5) rfl (by kernel_rfl) (by kernel_rfl) (by kernel_rfl) (fun _ _ _ h => h) (Or.inl ⟨by rfl, fun w' hS => by go_simp⟩) HS5'.out ?_
  simp only [Act.put, List.setIfInBounds_toArray, List.set_cons_zero, List.set_cons_succ]
  refine wpAnyH_take (i := 4) (oi := ⟨some 40, .fieldAddr 28 (.tmp 4) 2, _, _, _, none⟩) (v := .pointer (some ⟨w.heap.size + 1, 2, none⟩)) rfl (by kernel_rfl) (by kernel_rfl) (by kernel_rfl) (fun _ _ _ h => h) (Or.inl ⟨by rfl, fun w' hS => by go_simp⟩) HS5'.out ?_
  simp only [Act.put, List.setIfInBounds_toArray, List.set_cons_zero, List.set_cons_succ]
  refine wpAnyH_take (i := 5) (oi := ⟨some 41, .load 2 (.tmp 40), _, _, _, none⟩) (v := iv s.fare) rfl (by kernel_rfl) (by kernel_rfl) (by kernel_rfl) (fun _ _ _ h => h) (Or.inl ⟨by rfl, fun w' hS => by have c := loadL hS.2 2 rfl; go_simp⟩) HS5'.out ?_
  simp only [Act.put, List.setIfInBounds_toArray, List.set_cons_zero, List.set_cons_succ]
  refine wpAnyH_ready (rs := [2]) (by kernel_rfl) (by simp) (AllReadyH.cons (o := ⟨some 38, .call ⟨.value (.func 30), #[.tmp 37], _⟩, _, _, _, none⟩) rfl (fun K hK => ?_) AllReadyH.nil)
  go_simp
  refine (HCL.out _ HB5'.out).mono ?_
  rintro e w6 ⟨lp6, lc6, tp6, tc6, rfl, hl6, ht6, hL6, hT6, hb6⟩
  have HB6 := Lib.hid (HB5'.out.trans (hb6.mono HB5'.out.size))
  have HL6 := Lib.hid hl6
  have HT6 := Lib.hid ht6
  have HLR6 := Lib.hid hL6
  have HTR6 := Lib.hid hT6
  have HN6 := Lib.hid (HN5'.out.keep hb6)
  have HS6 := Lib.hid (And.intro (HXT.out _ HB6.out) (HXS.out _ HB6.out))
  have HD6 := Lib.hid (HXD.out _ HB6.out)
  clear hl6 ht6 hL6 hT6 hb6
  refine hK.out _ _ HS6.out (fun _ => ?_)
  clear hK K
  refine wpAnyH_take (i := 6) (oi := ⟨some 42, .build 31 #[(0, .tmp 36), (1, .tmp 38), (2, .tmp 39), (6, .tmp 41)], _, _, _, none⟩) (v := .agg (docV c sr s lp6 lc6 tp6 tc6 (some ⟨g5, 0, none⟩) s.legs.length q5)) rfl (by kernel_rfl) (by kernel_rfl) (by kernel_rfl) (fun _ _ _ h => h) (Or.inl ⟨by rfl, fun w' hS => by go_simp⟩) HS6.out ?_
  simp only [Act.put, List.setIfInBounds_toArray, List.set_cons_zero, List.set_cons_succ]
  refine wpAnyH_ready (rs := [7]) (by kernel_rfl) (by simp) (AllReadyH.cons (o := ⟨none, .store 31 (.tmp 6) (.tmp 42), _, _, _, none⟩) rfl (fun K hK => ?_) AllReadyH.nil)
  rw [if_pos (by rfl)]
  refine wp_store_row 31 _ _ rfl (w.heap.size + 1 + 1) (docV c sr s lp6 lc6 tp6 tc6 (some ⟨g5, 0, none⟩) s.legs.length q5) rfl rfl 31 zDoc HD6.out sizeDoc rfl (docV_one _ _ _ _ _ _ _ _ _ _) ?_
  have HS7 := Lib.hid (show (w6.setRow (w.heap.size + 1 + 1) (docV c sr s lp6 lc6 tp6 tc6 (some ⟨g5, 0, none⟩) s.legs.length q5)).heap[w.heap.size]? = some (.cells (tkV c sr) 24 (0, 0)) ∧ (w6.setRow (w.heap.size + 1 + 1) (docV c sr s lp6 lc6 tp6 tc6 (some ⟨g5, 0, none⟩) s.legs.length q5)).heap[w.heap.size + 1]? = some (.cells (saV s lp lc tp tc) 28 (0, 0)) from ⟨(other_setR _ _ _ (by omega) _).trans HS6.out.1, (other_setR _ _ _ (by omega) _).trans HS6.out.2⟩)
  refine hK.out _ _ HS7.out (fun _ => ?_)
  clear hK K
  refine wpAnyH_take (i := 8) (oi := ⟨some 7, .assign (.const (.int .i64 0)), _, _, _, none⟩) (v := iv 0) rfl (by kernel_rfl) (by kernel_rfl) (by kernel_rfl) (fun _ _ _ h => h) (Or.inl ⟨by rfl, fun w' hS => by go_simp⟩) HS7.out ?_
  simp only [Act.put, List.setIfInBounds_toArray, List.set_cons_zero, List.set_cons_succ]
  refine wpAnyH_done (by kernel_rfl) ?_ _
  go_wp2
  have hk7 : ∀ b, b ≠ w.heap.size + 1 + 1 → (w6.setRow (w.heap.size + 1 + 1) (docV c sr s lp6 lc6 tp6 tc6 (some ⟨g5, 0, none⟩) s.legs.length q5)).heap[b]? = w6.heap[b]? := fun b hb => other_setR _ _ _ hb _
  refine bodyPost_ret (results_cell_tmp_row rfl _ _ (w.heap.size + 1 + 1) 31 (docV c sr s lp6 lc6 tp6 tc6 (some ⟨g5, 0, none⟩) s.legs.length q5) (0, 0) _ rfl (setRow_heap _ _ _ _ _ _ HD6.out) Try.underlying31 rfl sizeDoc) rfl ?_
  have hz := HWS.out
  have hz5 := HB5'.out.size
  refine ⟨lp6, lc6, tp6, tc6, some ⟨g5, 0, none⟩, q5, rfl, HL6.out, HT6.out, HQ5.out, (HLR6.out.keepA (by rw [size_setRow]; exact Nat.le_refl _) (fun b hb _ => hk7 b (by omega))).row, (HTR6.out.keepA (by rw [size_setRow]; exact Nat.le_refl _) (fun b hb _ => hk7 b (by omega))).row, ?_, below_setR (HW.out.trans (HB6.out.mono (by omega))) (by omega) _⟩
  refine ⟨fun h0 => ?_⟩
  obtain ⟨b, o, e1, e2, e3⟩ := HN6.out.at_ h0
  simp only [Option.some.injEq, Addr.mk.injEq] at e1
  obtain ⟨rfl, rfl, _⟩ := e1
  have hg := HG5.out
  exact ⟨g5, 0, rfl, by rw [size_setRow]; exact e2, fun j hj => (World.cell?_of_block (a := ⟨g5, 0 + j, none⟩) (hk7 g5 (by omega))).trans (e3 j hj)⟩
end Go.Proofs.Ytpapcilffkpjjaa
