/- TicketPrice's walk: a sale that may be. -/
import Derived.Test.YtpapcilffkpjjaaTkSm
import Derived.Test.YtpapcilffkpjjaaTkPrP
import Derived.Test.YtpapcilffkpjjaaTkOpen
import Derived.Deep.RegionHeld
import Derived.IntWalk
namespace Go.Proofs.Ytpapcilffkpjjaa
open Go.Shelf Go.RowKit Go.Lib Go.Money Go.Pror Go.Tick

theorem check_b (p : Int) (h0 : 0 ≤ p) (h1 : p ≤ 1125899906842624) (w : World) : Calls Try.prog 18 #[iv p] w fun e w' => e = .returned (iv 0) ∧ Below w.heap.size w w' :=
  (check_any p w).mono fun e w' ⟨he, hw⟩ => ⟨by rw [he]; have : may p = true := (may_iff p).2 (by omega); simp [chk, this], hw ▸ Below.refl _ _⟩
theorem grB_len60 {s : Sl} (h : grB s = false) : s.legs.length ≤ 60 ∧ s.taxes.length ≤ 60 := by
  unfold grB at h
  simp only [Bool.or_eq_false_iff, decide_eq_false_iff_not] at h
  omega
theorem saV_add (s : Sl) (x : Tax) (p : Option Addr) (q : Nat) (tp : Option Addr) (tc : Nat) : saV (addT s x) p q tp tc = #[str s.name, .slice p s.legs.length q, iv s.fare, .slice tp (s.taxes.length + 1) tc, iv s.pen] := by
  simp [saV, addT]
theorem row2 (w : World) (u v : Value) (T : TypeId) : RowF (w.alloc (.cells #[u, v] T)) (fun _ => True) (.slice (some ⟨w.heap.size, 0, none⟩) 1 1) 1 [u, v] :=
  ⟨_, 1, rfl, Nat.le_refl _, fun _ => ⟨w.heap.size, 0, rfl, trivial, fun j x hx => by
    rw [Nat.zero_add, cell_arr (heap_last _ _ _ rfl)]
    rw [← List.getElem?_toArray] at hx
    exact hx⟩⟩
set_option maxRecDepth 100000 in
set_option maxHeartbeats 4000000 in
theorem tkprice_good (s : Sl) (lp : Option Addr) (lc : Nat) (tp : Option Addr) (tc : Nat) (n : Int) (x : Tax) (w : World) (hP : SaP w s lp lc tp tc) (hg : grB s = false) (hc : chkL s n = 0) :
    Calls Try.prog 5 #[.agg (saV s lp lc tp tc), iv n, .agg #[str x.code, iv x.am]] w fun e w' => e = .returned (.bool true) ∧ Below w.heap.size w w' := by
  obtain ⟨hgl, hgt⟩ := grB_len60 hg
  obtain ⟨hnn, p, hps, hpe, hpf0, hp0, hp1⟩ := price_ok hc
  have HGR := Lib.hid (fun W => great_any s lp lc tp tc W)
  rw [hg] at HGR
  have HW := Lib.hid (fun W => tkwakes_any W)
  obtain ⟨wb, hwb⟩ : ∃ wb, wb = (w.alloc (.cells (saV s lp lc tp tc) 28)).alloc (.cells #[str x.code, iv x.am] 48) := ⟨_, rfl⟩
  have hb0 : Below w.heap.size w wb := by rw [hwb]; exact ((Below.refl _ _).alloc (Nat.le_refl _) _).alloc (by simp) _
  have hbS : wb.heap[w.heap.size]? = some (.cells (saV s lp lc tp tc) 28 (0, 0)) := by rw [hwb, Below.heap_alloc _ _ _ (by simp)]; exact heap_last _ _ _ rfl
  have hbX : wb.heap[w.heap.size + 1]? = some (.cells #[str x.code, iv x.am] 48 (0, 0)) := by rw [hwb]; exact heap_last _ _ _ (by simp)
  have HXS := Lib.hid (fun wz (hz : Below wb.heap.size wb wz) => (hz.block _ (lt_heap hbS)).trans hbS)
  have HXX := Lib.hid (fun wz (hz : Below wb.heap.size wb wz) => (hz.block _ (lt_heap hbX)).trans hbX)
  have HCK := Lib.hid (fun W (h : Below wb.heap.size wb W) => show Calls Try.prog 16 #[.agg (saV s lp lc tp tc), iv n] W (fun e w' => e = .returned (iv 0) ∧ Below W.heap.size W w') by
    have := tkcheck_any s n lp lc tp tc W ((hP.lr.keep hb0).keep h) ((hP.tr.keep hb0).keep h) (by omega) (by omega)
    rw [hc] at this; exact this)
  have HPR := Lib.hid (fun W (h : Below wb.heap.size wb W) => show Calls Try.prog 17 #[.agg (saV s lp lc tp tc)] W (fun e w' => e = .returned (.tuple #[iv p, iv 0]) ∧ Below W.heap.size W w') from
    (price_any s lp tp lc tc W ((hP.tr.keep hb0).keep h) (by omega)).mono fun e w' ⟨r, he, hr, hb⟩ => ⟨by rw [he, hr hnn, hps]; rfl, hb⟩)
  have HOW := Lib.hid (fun W (h : Below wb.heap.size wb W) => own_any s lp lc tp tc W ((hP.lr.keep hb0).keep h) ((hP.tr.keep hb0).keep h) hP.lc_ hP.tc_ (by omega) (by omega))
  have HO2 := Lib.hid (fun W (h : Below wb.heap.size wb W) => own_any' s lp lc tp tc W ((hP.lr.keep hb0).keep h) ((hP.tr.keep hb0).keep h) hP.lc_ hP.tc_ (by omega) (by omega))
  have HCM := Lib.hid (fun W => check_b p hp0 hp1 W)
  have HSM := Lib.hid (fun p5 q5 p6 q6 W (h : Below wb.heap.size wb W) (h1 : Row W 3 lgC p5 s.legs) (h2 : Row W 2 txC p6 s.taxes) => same_yes s lp p5 tp p6 lc q5 tc q6 W (by omega) (by omega) ((hP.tr.keep hb0).keep h) h2 ((hP.lr.keep hb0).keep h) h1)
  have HSN := Lib.hid (fun p5 q5 p6 q6 W (h : Below wb.heap.size wb W) (h1 : Row W 3 lgC p5 s.legs) => same_no s (addT s x) lp p5 tp p6 lc q5 tc q6 W (by omega) (by simp [addT]; omega) rfl rfl rfl ((hP.lr.keep hb0).keep h) h1)
  have HCO := Lib.hid (fun p5 q5 p6 q6 W (h1 : Row W 3 lgC p5 s.legs) (h2 : Row W 2 txC p6 (addT s x).taxes) => tkcheck_any (addT s x) n p5 q5 p6 q6 W h1 h2 (show s.legs.length ≤ 1000 by omega) (by simp [addT]; omega))
  have HPO := Lib.hid (fun p5 q5 p6 q6 W (h2 : Row W 2 txC p6 (addT s x).taxes) => price_any (addT s x) p5 p6 q5 q6 W h2 (by simp [addT]; omega))
  have HLL := Lib.hid (And.intro hgl hgt)
  have HPB := Lib.hid (And.intro hp0 hp1)
  have hpf : decide (p < s.fare) = false := by simp; omega
  have HB0 := Lib.hid hb0
  have HR0 := Lib.hid (Below.refl wb.heap.size wb)
  have HPE := Lib.hid hpe
  have HNN := Lib.hid hnn
  have HCC := Lib.hid hc
  clear hgl hgt hnn hps hpe hpf0 hp0 hp1 hb0 hbS hbX hP hg hc
  go_enter Try.func5, Try.ntmps5
  go_wp2_with fail
  rw [← hwb]
  clear hwb
  refine (HGR.out _).mono ?_
  rintro e w2 ⟨rfl, hb2⟩
  have HB2 := Lib.hid (HR0.out.trans (hb2.mono HR0.out.size))
  clear hb2
  go_wp2_with (first
    | (refine wpList_load_row rfl 28 _ rfl w.heap.size rfl 28 (saV s lp lc tp tc) (0, 0) _ (HXS.out _ HB2.out) Try.underlying28 rfl sizeSale ?_)
    | (refine wpList_load_row rfl 28 _ rfl w.heap.size rfl 28 (saV s lp lc tp tc) (0, 0) _ (HXS.out _ HB3.out) Try.underlying28 rfl sizeSale ?_)
    | (go_at_call 16; refine (HCK.out _ HB2.out).mono ?_; rintro e w3 ⟨rfl, hb3⟩
       have HB3 := Lib.hid (HB2.out.trans (hb3.mono HB2.out.size))
       clear hb3)
    | (go_at_call 17; refine (HPR.out _ HB3.out).mono ?_; rintro e w4 ⟨rfl, hb4⟩
       have HB4' := Lib.hid (HB3.out.trans (hb4.mono HB3.out.size))
       clear hb4))
  refine wp_region_held (S := fun w' => w'.heap[w.heap.size]? = some (.cells (saV s lp lc tp tc) 28 (0, 0))) (by kernel_rfl) ?_
  change wpAnyH _ _ _ _ _ _ _ _ (World.drew _)
  have HB4 := Lib.hid HB4'.out.drew
  have HS4 := Lib.hid (HXS.out _ HB4.out)
  refine wpAnyH_take (i := 0) (oi := ⟨some 40, .move (.tmp 9), _, _, _, none⟩) (v := .int .i64 0) rfl (by kernel_rfl) (by kernel_rfl) (by kernel_rfl) (fun _ _ _ h => h) (Or.inl ⟨by rfl, fun w' hS => by go_simp⟩) HS4.out ?_
  simp only [Act.put, List.setIfInBounds_toArray, List.set_cons_zero, List.set_cons_succ]
  refine wpAnyH_take (i := 1) (oi := ⟨some 41, .binOp .neq 38 (.tmp 40) (.const (.int .i64 0)) 38, _, _, _, none⟩) (v := .bool false) rfl (by kernel_rfl) (by kernel_rfl) (by kernel_rfl) (fun _ _ _ h => h) (Or.inl ⟨by rfl, fun w' hS => by go_simp⟩) HS4.out ?_
  simp only [Act.put, List.setIfInBounds_toArray, List.set_cons_zero, List.set_cons_succ]
  refine wpAnyH_take (i := 2) (oi := ⟨some 42, .move (.tmp 41), _, _, _, none⟩) (v := .bool false) rfl (by kernel_rfl) (by kernel_rfl) (by kernel_rfl) (fun _ _ _ h => h) (Or.inl ⟨by rfl, fun w' hS => by go_simp⟩) HS4.out ?_
  simp only [Act.put, List.setIfInBounds_toArray, List.set_cons_zero, List.set_cons_succ]
  refine wpAnyH_take (i := 3) (oi := ⟨some 43, .move (.tmp 8), _, _, _, some (2, false)⟩) (v := iv p) rfl (by kernel_rfl) (by kernel_rfl) (by kernel_rfl) (fun _ _ _ h => h) (Or.inl ⟨by rfl, fun w' hS => by go_simp⟩) HS4.out ?_
  simp only [Act.put, List.setIfInBounds_toArray, List.set_cons_zero, List.set_cons_succ]
  refine wpAnyH_take (i := 4) (oi := ⟨some 44, .fieldAddr 28 (.tmp 3) 2, _, _, _, some (2, false)⟩) (v := .pointer (some ⟨w.heap.size, 2, none⟩)) rfl (by kernel_rfl) (by kernel_rfl) (by kernel_rfl) (fun _ _ _ h => h) (Or.inl ⟨by rfl, fun w' hS => by go_simp⟩) HS4.out ?_
  simp only [Act.put, List.setIfInBounds_toArray, List.set_cons_zero, List.set_cons_succ]
  refine wpAnyH_take (i := 5) (oi := ⟨some 45, .load 2 (.tmp 44), _, _, _, some (2, false)⟩) (v := iv s.fare) rfl (by kernel_rfl) (by kernel_rfl) (by kernel_rfl) (fun _ _ _ h => h) (Or.inl ⟨by rfl, fun w' hS => by have c2 := loadL hS 2 rfl; go_simp⟩) HS4.out ?_
  simp only [Act.put, List.setIfInBounds_toArray, List.set_cons_zero, List.set_cons_succ]
  refine wpAnyH_take (i := 6) (oi := ⟨some 46, .binOp .lss 2 (.tmp 43) (.tmp 45) 2, _, _, _, some (2, false)⟩) (v := .bool false) rfl (by kernel_rfl) (by kernel_rfl) (by kernel_rfl) (fun _ _ _ h => h) (Or.inl ⟨by rfl, fun w' hS => by go_simp⟩) HS4.out ?_
  simp only [Act.put, List.setIfInBounds_toArray, List.set_cons_zero, List.set_cons_succ]
  refine wpAnyH_take (i := 7) (oi := ⟨some 47, .pick (.tmp 42) (.const (.bool true)) (.tmp 46), _, _, _, none⟩) (v := .bool false) rfl (by kernel_rfl) (by kernel_rfl) (by kernel_rfl) (fun _ _ _ h => h) (Or.inl ⟨by rfl, fun w' hS => by go_simp⟩) HS4.out ?_
  simp only [Act.put, List.setIfInBounds_toArray, List.set_cons_zero, List.set_cons_succ]
  refine wpAnyH_take (i := 8) (oi := ⟨some 48, .move (.tmp 47), _, _, _, none⟩) (v := .bool false) rfl (by kernel_rfl) (by kernel_rfl) (by kernel_rfl) (fun _ _ _ h => h) (Or.inl ⟨by rfl, fun w' hS => by go_simp⟩) HS4.out ?_
  simp only [Act.put, List.setIfInBounds_toArray, List.set_cons_zero, List.set_cons_succ]
  refine wpAnyH_take (i := 9) (oi := ⟨some 49, .move (.tmp 8), _, _, _, some (8, false)⟩) (v := iv p) rfl (by kernel_rfl) (by kernel_rfl) (by kernel_rfl) (fun _ _ _ h => h) (Or.inl ⟨by rfl, fun w' hS => by go_simp⟩) HS4.out ?_
  simp only [Act.put, List.setIfInBounds_toArray, List.set_cons_zero, List.set_cons_succ]
  refine wpAnyH_ready (rs := [10]) (by kernel_rfl) (by simp) (AllReadyH.cons (o := ⟨some 50, .call ⟨.value (.func 18), #[.tmp 49], _⟩, _, _, _, some (8, false)⟩) rfl (fun K hK => ?_) AllReadyH.nil)
  go_simp
  refine (HCM.out _).mono ?_
  rintro e w5 ⟨rfl, hb5⟩
  have HB5 := Lib.hid (HB4.out.trans (hb5.mono HB4.out.size))
  clear hb5
  have HS5 := Lib.hid (HXS.out _ HB5.out)
  refine hK.out _ _ HS5.out (fun _ => ?_)
  clear hK K
  refine wpAnyH_take (i := 11) (oi := ⟨some 51, .binOp .neq 38 (.tmp 50) (.const (.int .i64 0)) 38, _, _, _, some (8, false)⟩) (v := .bool false) rfl (by kernel_rfl) (by kernel_rfl) (by kernel_rfl) (fun _ _ _ h => h) (Or.inl ⟨by rfl, fun w' hS => by go_simp⟩) HS5.out ?_
  simp only [Act.put, List.setIfInBounds_toArray, List.set_cons_zero, List.set_cons_succ]
  refine wpAnyH_take (i := 12) (oi := ⟨some 52, .pick (.tmp 48) (.const (.bool true)) (.tmp 51), _, _, _, none⟩) (v := .bool false) rfl (by kernel_rfl) (by kernel_rfl) (by kernel_rfl) (fun _ _ _ h => h) (Or.inl ⟨by rfl, fun w' hS => by go_simp⟩) HS5.out ?_
  simp only [Act.put, List.setIfInBounds_toArray, List.set_cons_zero, List.set_cons_succ]
  refine wpAnyH_take (i := 13) (oi := ⟨some 53, .move (.tmp 52), _, _, _, none⟩) (v := .bool false) rfl (by kernel_rfl) (by kernel_rfl) (by kernel_rfl) (fun _ _ _ h => h) (Or.inl ⟨by rfl, fun w' hS => by go_simp⟩) HS5.out ?_
  simp only [Act.put, List.setIfInBounds_toArray, List.set_cons_zero, List.set_cons_succ]
  refine wpAnyH_take (i := 14) (oi := ⟨some 54, .load 28 (.tmp 3), _, _, _, some (13, false)⟩) (v := .agg (saV s lp lc tp tc)) rfl (by kernel_rfl) (by kernel_rfl) (by kernel_rfl) (fun _ _ _ h => h) (Or.inl ⟨by rfl, fun w' hS => by have c0 := loadL hS 0 rfl; have c1 := loadL hS 1 rfl; have c2 := loadL hS 2 rfl; have c3 := loadL hS 3 rfl; have c4 := loadL hS 4 rfl; go_simp⟩) HS5.out ?_
  simp only [Act.put, List.setIfInBounds_toArray, List.set_cons_zero, List.set_cons_succ]
  refine wpAnyH_take (i := 15) (oi := ⟨some 55, .load 28 (.tmp 3), _, _, _, some (13, false)⟩) (v := .agg (saV s lp lc tp tc)) rfl (by kernel_rfl) (by kernel_rfl) (by kernel_rfl) (fun _ _ _ h => h) (Or.inl ⟨by rfl, fun w' hS => by have c0 := loadL hS 0 rfl; have c1 := loadL hS 1 rfl; have c2 := loadL hS 2 rfl; have c3 := loadL hS 3 rfl; have c4 := loadL hS 4 rfl; go_simp⟩) HS5.out ?_
  simp only [Act.put, List.setIfInBounds_toArray, List.set_cons_zero, List.set_cons_succ]
  refine wpAnyH_ready (rs := [16]) (by kernel_rfl) (by simp) (AllReadyH.cons (o := ⟨some 56, .call ⟨.value (.func 20), #[.tmp 55], _⟩, _, _, _, some (13, false)⟩) rfl (fun K hK => ?_) AllReadyH.nil)
  go_simp
  refine (HOW.out _ HB5.out).mono ?_
  rintro e w6 ⟨p5, q5, p6, q6, rfl, hq5, hq6, hr5, hr6, _, hb6⟩
  have HB6 := Lib.hid (HB5.out.trans (hb6.mono HB5.out.size))
  have HSA := Lib.hid (HSM.out p5 q5 p6 q6 w6 HB6.out hr5.row hr6.row)
  clear hb6 hq5 hq6 hr5 hr6
  have HS6 := Lib.hid (HXS.out _ HB6.out)
  refine hK.out _ _ HS6.out (fun _ => ?_)
  clear hK K
  refine wpAnyH_ready (rs := [17]) (by kernel_rfl) (by simp) (AllReadyH.cons (o := ⟨some 57, .call ⟨.value (.func 19), #[.tmp 54, .tmp 56], _⟩, _, _, _, some (13, false)⟩) rfl (fun K hK => ?_) AllReadyH.nil)
  go_simp
  refine (HSA.out).mono ?_
  rintro e w7 ⟨rfl, hb7⟩
  have HB7 := Lib.hid (HB6.out.trans (hb7.mono HB6.out.size))
  clear hb7 HSA
  have HS7 := Lib.hid (HXS.out _ HB7.out)
  refine hK.out _ _ HS7.out (fun _ => ?_)
  clear hK K
  refine wpAnyH_take (i := 18) (oi := ⟨some 58, .unOp .not 4 (.tmp 57), _, _, _, some (13, false)⟩) (v := .bool false) rfl (by kernel_rfl) (by kernel_rfl) (by kernel_rfl) (fun _ _ _ h => h) (Or.inl ⟨by rfl, fun w' hS => by go_simp⟩) HS7.out ?_
  simp only [Act.put, List.setIfInBounds_toArray, List.set_cons_zero, List.set_cons_succ]
  refine wpAnyH_take (i := 19) (oi := ⟨some 59, .pick (.tmp 53) (.const (.bool true)) (.tmp 58), _, _, _, none⟩) (v := .bool false) rfl (by kernel_rfl) (by kernel_rfl) (by kernel_rfl) (fun _ _ _ h => h) (Or.inl ⟨by rfl, fun w' hS => by go_simp⟩) HS7.out ?_
  simp only [Act.put, List.setIfInBounds_toArray, List.set_cons_zero, List.set_cons_succ]
  refine wpAnyH_done (by kernel_rfl) ?_ _
  go_upto_region 10 with (first
    | (refine wpList_load_row rfl 28 _ rfl w.heap.size rfl 28 (saV s lp lc tp tc) (0, 0) _ (HXS.out _ HB7.out) Try.underlying28 rfl sizeSale ?_)
    | (go_at_call 20; refine (HO2.out _ HB7.out).mono ?_; rintro e w8 ⟨p8, q8, p9, q9, rfl, hq8, hq9, hr8, hr9, _, hb8, ho8, hap8⟩
       have HB8 := Lib.hid (HB7.out.trans (hb8.mono HB7.out.size))
       have HR8 := Lib.hid hr8.row
       have HO8 := Lib.hid ho8
       have HAP := Lib.hid hap8
       have HZ8 := Lib.hid hb8.size
       clear hb8 hq8 hq9 hr8 hr9 ho8 hap8))
  obtain ⟨w9, hw9⟩ : ∃ w9, w9 = w8.alloc (.cells (saV s p8 q8 p9 q9) 28) := ⟨_, rfl⟩
  have hx9 : Below w8.heap.size w8 w9 := by rw [hw9]; exact (Below.refl _ _).alloc (Nat.le_refl _) _
  have hD9 : w9.heap[w8.heap.size]? = some (.cells (saV s p8 q8 p9 q9) 28 (0, 0)) := by rw [hw9]; exact heap_last _ _ _ rfl
  have HO9 := Lib.hid (show w9.ownsRow (w7.heap.size + 2) 48 2 (.slice p9 s.taxes.length q9) s.taxes.length (s.taxes.flatMap txC) by rw [hw9]; exact HO8.out.alloc _)
  rw [← hw9]
  clear hw9
  have HB9 := Lib.hid (HB8.out.trans (hx9.mono HB8.out.size))
  have HR9 := Lib.hid (HR8.out.keep hx9)
  have HZ9 := Lib.hid (show w8.heap.size < w9.heap.size from lt_heap hD9)
  have HOL := Lib.hid (show ∀ b, (Value.slice p9 s.taxes.length q9).ownBlock = some b → w7.heap.size + 2 ≤ b ∧ b < w8.heap.size from fun b hb => HO8.out.lt b hb)
  have HBW := Lib.hid (show wb.heap.size ≤ w7.heap.size from HB7.out.size)
  have HRB := Lib.hid (show 0 < s.legs.length → ∀ q, p8 = some q → q.block < w8.heap.size from fun h0 q hq => by
    obtain ⟨b, o, h1, h2, _⟩ := HR8.out.at_ h0
    rw [h1] at hq
    simp only [Option.some.injEq] at hq
    rw [← hq]; exact h2)
  generalize w8.heap.size = D at *
  have HD9 := Lib.hid hD9
  have d3 : w9.cell? ⟨D, 3, none⟩ = some (.slice p9 s.taxes.length q9) := loadL hD9 3 rfl
  have x0 : w9.cell? ⟨w.heap.size + 1, 0, none⟩ = some (str x.code) := loadL (HXX.out _ HB9.out) 0 rfl
  have x1 : w9.cell? ⟨w.heap.size + 1, 1, none⟩ = some (iv x.am) := loadL (HXX.out _ HB9.out) 1 rfl
  have HR1 := Lib.hid (row2 w9 (str x.code) (iv x.am) 48)
  clear hx9 hD9
  go_wp2_with (at_builtin; refine wl_appF 26 48 (.agg #[.string ⟨#[]⟩, .int .i64 0]) 2 24 par_tax Try.underlying26 rfl (by decide) (by decide) (w7.heap.size + 2) (.slice p9 s.taxes.length q9) s.taxes.length (s.taxes.flatMap txC) (by rfl) (HO9.out.alloc _) (.slice (some ⟨w9.heap.size, 0, none⟩) 1 1) (fun _ => True) 1 [str x.code, iv x.am] rfl HR1.out rfl (by intro u hu; simp at hu; rcases hu with rfl | rfl <;> rfl) (by have := HLL.out.2; omega) (by have := HZ9.out; have := HZ8.out; simp; omega) ?_)
  intro v10 w10 ho hg hbk
  have ho' : w10.ownsRow (w7.heap.size + 2) 48 2 v10 (s.taxes ++ [x]).length ((s.taxes ++ [x]).flatMap txC) := by
    have e1 : (s.taxes ++ [x]).length = s.taxes.length + 1 := by simp
    have e2 : (s.taxes ++ [x]).flatMap txC = s.taxes.flatMap txC ++ [str x.code, iv x.am] := by rw [List.flatMap_append]; rfl
    rw [e1, e2]; exact ho
  obtain ⟨p10, q10, rfl, hq10, hr10⟩ := row_of_own (L := s.taxes ++ [x]) (enc := txC) (k := 2) (fun _ => rfl) rfl ho'
  have hk10 : ∀ b, b < w9.heap.size → (Value.slice p9 s.taxes.length q9).ownBlock ≠ some b → w10.heap[b]? = w9.heap[b]? := fun b hb hne => (hg.block b (by simp; omega) (Ne.symm hne)).trans (Below.heap_alloc _ _ _ hb)
  have hsz10 : w9.heap.size < w10.heap.size := by have := hg.size; simp at this; omega
  have hB10 : Below wb.heap.size wb w10 := (HB9.out.alloc HB9.out.size _).grown hg (by have := HB9.out.size; simp; omega) (fun k hk => by have := HOL.out k hk; have := HBW.out; omega)
  have hD10 : w10.heap[D]? = some (.cells (saV s p8 q8 p9 q9) 28 (0, 0)) := (hk10 D HZ9.out (fun e => by have := HOL.out D e; omega)).trans HD9.out
  have f10 : w10.frozen? ⟨D, 3, none⟩ = false := frozen_of_row _ _ _ _ _ hD10
  have c10 : w10.cell? ⟨D, 3, none⟩ = some (.slice p9 s.taxes.length q9) := loadL hD10 3 rfl
  obtain ⟨N, hN⟩ : ∃ N, N = (s.taxes ++ [x]).length := ⟨_, rfl⟩
  rw [← hN]
  have hD11 : (w10.setCell ⟨D, 3, none⟩ (.slice p10 N q10)).heap[D]? = some (.cells (saV (addT s x) p8 q8 p10 q10) 28 (0, 0)) := by
    have h := heap_setCell_same w10 D 3 _ 28 (.slice p10 N q10) hD10
    rw [hN] at h ⊢
    exact h
  have hr8 : Row w10 3 lgC p8 s.legs := ⟨fun h0 => by
    obtain ⟨b, o, h1, h2, h3⟩ := HR9.out.at_ h0
    have hne : (Value.slice p9 s.taxes.length q9).ownBlock ≠ some b := fun e => by have := HAP.out h0 _ h1 b e; simp at this
    exact ⟨b, o, h1, Nat.lt_trans h2 hsz10, fun j hj i v hi => (World.cell?_of_block (a := ⟨b, o + j * 3 + i, none⟩) (hk10 b h2 hne)).trans (h3 j hj i v hi)⟩⟩
  have hDB : wb.heap.size ≤ D := Nat.le_trans HBW.out HZ8.out
  have hB11 : Below wb.heap.size wb (w10.setCell ⟨D, 3, none⟩ (.slice p10 N q10)) := hB10.setCell (p := ⟨D, 3, none⟩) hDB _
  have hk11 : ∀ b, b ≠ D → (w10.setCell ⟨D, 3, none⟩ (.slice p10 N q10)).heap[b]? = w10.heap[b]? := fun b hb => Below.heap_setCell _ _ _ _ hb
  have hs11 : w10.heap.size ≤ (w10.setCell ⟨D, 3, none⟩ (.slice p10 N q10)).heap.size := by simp [World.setCell]
  have hr8' : Row (w10.setCell ⟨D, 3, none⟩ (.slice p10 N q10)) 3 lgC p8 s.legs := hr8.keepN D (fun h0 q hq e => by have := HRB.out h0 q hq; omega) hs11 hk11
  have hr10' : Row (w10.setCell ⟨D, 3, none⟩ (.slice p10 N q10)) 2 txC p10 (addT s x).taxes := hr10.row.keepN D (fun h0 q hq e => by
    have hob : (Value.slice p10 (s.taxes ++ [x]).length q10).ownBlock = some q.block := by rw [hq]; rfl
    rcases hbk with h | h
    · have := HOL.out q.block (h ▸ hob); omega
    · rw [hob] at h; simp at h; have := HZ9.out; omega) hs11 hk11
  obtain ⟨w11, hw11⟩ : ∃ w11, w11 = w10.setCell ⟨D, 3, none⟩ (.slice p10 N q10) := ⟨_, rfl⟩
  rw [← hw11] at hD11 hB11 hr8' hr10'
  have HW11 := Lib.hid hw11
  have HD11 := Lib.hid hD11
  have HB11 := Lib.hid hB11
  have HRL := Lib.hid (fun W (h : Below w11.heap.size w11 W) => hr8'.keep h)
  have HRT := Lib.hid (fun W (h : Below w11.heap.size w11 W) => hr10'.keep h)
  have HXD := Lib.hid (fun W (h : Below w11.heap.size w11 W) => (h.block _ (lt_heap hD11)).trans hD11)
  have HR11 := Lib.hid (Below.refl w11.heap.size w11)
  have HN := Lib.hid hN
  have hNl : (N : Int) ≤ 61 := by rw [hN]; simp; have := HLL.out.2; omega
  have HNT := Lib.hid (show N = s.taxes.length + 1 by rw [hN]; simp)
  have HQP := Lib.hid (fun W (h : Below w11.heap.size w11 W) => show Calls Try.prog 17 #[.agg (saV (addT s x) p8 q8 p10 q10)] W (fun e w' => ∃ X E r, e = .returned (.tuple #[iv X, iv E]) ∧ (X, E) = pairV r ∧ (nonneg (amts (addT s x)) → r = sumO 0 (amts (addT s x))) ∧ Below W.heap.size W w') by
    exact (HPO.out p8 q8 p10 q10 W (hr10'.keep h)).mono fun e w' ⟨r, he, hr, hb⟩ => ⟨_, _, r, he, rfl, hr, hb⟩)
  have HQS := Lib.hid (fun W (h : Below w11.heap.size w11 W) => show Calls Try.prog 19 #[.agg (saV s lp lc tp tc), .agg (saV (addT s x) p8 q8 p10 q10)] W (fun e w' => e = .returned (.bool false) ∧ Below W.heap.size W w') by
    exact HSN.out p8 q8 p10 q10 W (HB11.out.trans (h.mono HB11.out.size)) (hr8'.keep h))
  obtain ⟨c2, hc2⟩ : ∃ c2, c2 = chkL (addT s x) n := ⟨_, rfl⟩
  have HQC := Lib.hid (fun W (h : Below w11.heap.size w11 W) => show Calls Try.prog 16 #[.agg (saV (addT s x) p8 q8 p10 q10), iv n] W (fun e w' => e = .returned (iv c2) ∧ Below W.heap.size W w') by
    rw [hc2]
    exact HCO.out p8 q8 p10 q10 W (hr8'.keep h) (hr10'.keep h))
  have HC2 := Lib.hid hc2
  have d3' : w10.cell? ⟨D, 3, none⟩ = some (.slice p9 s.taxes.length q9) := c10
  have HTO := Lib.hid (fun W (h : Below w11.heap.size w11 W) => show W.cell? ⟨D, 3, none⟩ = some (.slice p10 N q10) by
    have := cell_arr ((h.block _ (lt_heap hD11)).trans hD11) 3
    rw [this, hN]; rfl)
  clear d3 x0 x1 ho ho' hg hbk hq10 hr10 hk10 hsz10 hB10 hD10 hD11 hr8 hr8' hr10' hk11 hs11 hB11 hDB hN hc2 hw11 c10
  clear HR1 HO9 HOL HAP HRB HD9 HO8 HR8 HR9 HB8 HB9 HB2 HB3 HB4 HB4' HB5 HB6 HS4 HS5 HS6 HS7 HPO HCO HSN HO2 HOW HCK HPR HSM HCM HGR
  go_upto_region 11 with fail
  rw [← HW11.out]
  go_upto_region 15 with (first
    | (refine wpList_load_row rfl 28 _ rfl D rfl 28 (saV (addT s x) p8 q8 p10 q10) (0, 0) _ (HXD.out _ HR11.out) Try.underlying28 rfl sizeSale ?_)
    | (refine wpList_load_row rfl 28 _ rfl D rfl 28 (saV (addT s x) p8 q8 p10 q10) (0, 0) _ (HXD.out _ HX12.out) Try.underlying28 rfl sizeSale ?_)
    | (refine wpList_load_row rfl 28 _ rfl w.heap.size rfl 28 (saV s lp lc tp tc) (0, 0) _ (HXS.out _ HB12.out) Try.underlying28 rfl sizeSale ?_)
    | (refine wpList_load_row rfl 28 _ rfl D rfl 28 (saV (addT s x) p8 q8 p10 q10) (0, 0) _ (HXD.out _ HX13.out) Try.underlying28 rfl sizeSale ?_)
    | (go_at_call 17; refine (HQP.out _ HR11.out).mono ?_; rintro e w12 ⟨X, E, r, rfl, hpr, hr, hb12⟩
       have HX12 := Lib.hid (HR11.out.trans (hb12.mono HR11.out.size))
       have HB12 := Lib.hid (HB11.out.trans (HX12.out.mono HB11.out.size))
       have HPR2 := Lib.hid (And.intro hpr hr)
       clear hpr hr hb12)
    | (go_at_call 19; refine (HQS.out _ HX12.out).mono ?_; rintro e w13 ⟨rfl, hb13⟩
       have HX13 := Lib.hid (HX12.out.trans (hb13.mono HX12.out.size))
       clear hb13)
    | (go_at_call 16; refine (HQC.out _ HX13.out).mono ?_; rintro e w14 ⟨rfl, hb14⟩
       have HX14 := Lib.hid (HX13.out.trans (hb14.mono HX13.out.size))
       clear hb14))
  have hB14 := HB11.out.trans (HX14.out.mono HB11.out.size)
  have HB14 := Lib.hid hB14
  have HF := Lib.hid (HB0.out.trans (hB14.mono HB0.out.size))
  have x0 : w14.cell? ⟨w.heap.size + 1, 0, none⟩ = some (str x.code) := loadL (HXX.out _ hB14) 0 rfl
  have x1 : w14.cell? ⟨w.heap.size + 1, 1, none⟩ = some (iv x.am) := loadL (HXX.out _ hB14) 1 rfl
  have d3 := HTO.out _ HX14.out
  clear hB14 HQP HQS HQC HTO HXD HRL HRT HW11 d3' f10
  by_cases h0 : c2 = 0
  · have hck := HC2.out.symm.trans h0
    obtain ⟨hnn2, hsum, hle⟩ := add_ok HPE.out hck
    have h6 : (s.taxes ++ [x]).all taxB = true := tst_of_chk hck 6 (by omega)
    rw [List.all_append, Bool.and_eq_true] at h6
    have h7 := h6.2
    simp only [List.all_cons, List.all_nil, Bool.and_true, taxB, Bool.and_eq_true] at h7
    obtain ⟨ha0, ha1⟩ := (amt_iff _).1 h7.2
    have hr := HPR2.out.2 hnn2
    have hXE := HPR2.out.1
    rw [hr, hsum] at hXE
    obtain ⟨hX, hE⟩ := Prod.mk.inj hXE
    have hN4 : (N : Int) ≤ 4 := by have := HNT.out; omega
    obtain ⟨hp0, hp1⟩ := HPB.out
    clear hck hnn2 hsum hle h6 h7 hr hXE HPR2 HC2 HNT
    subst h0
    subst hE
    have hsm : IntKind.i64.wrap (p + x.am) = p + x.am := IntWalk.i64_in _ (by omega)
    subst hX
    go_wp2_with (go_at_call 9; refine (HW.out _).mono ?_; rintro e w15 ⟨rfl, hb15⟩)
    go_ret
    exact ⟨rfl, HF.out.trans (hb15.mono HF.out.size)⟩
  · have hc : ((c2 : Int) == 0) = false := by simpa using h0
    have hbad := add_bad (x := x) HCC.out (by rw [← HC2.out]; exact h0)
    have HBD := Lib.hid hbad
    clear hbad h0
    by_cases g1 : (4 : Int) < (N : Int)
    · clear HBD
      go_wp2_with (go_at_call 9; refine (HW.out _).mono ?_; rintro e w15 ⟨rfl, hb15⟩)
      go_ret
      exact ⟨rfl, HF.out.trans (hb15.mono HF.out.size)⟩
    · by_cases g2 : x.code.length = 2
      · have g2' : (x.code.length : Int) = 2 := by omega
        by_cases g3 : x.am < 0
        · clear HBD g2
          go_wp2_with (go_at_call 9; refine (HW.out _).mono ?_; rintro e w15 ⟨rfl, hb15⟩)
          go_ret
          exact ⟨rfl, HF.out.trans (hb15.mono HF.out.size)⟩
        · by_cases g4 : E = 0
          · have hlet : ∃ a b : UInt8, x.code = [a, b] ∧ (a.toNat < 65 ∨ 90 < a.toNat ∨ b.toNat < 65 ∨ 90 < b.toNat) := by
              rcases HBD.out with h | h | h | h | h
              · have := HNT.out; omega
              · exact absurd g2 h
              · exact absurd h g3
              · have := h _ HPR2.out.2
                have hp := HPR2.out.1
                rw [this] at hp
                have := (Prod.mk.inj hp).2
                omega
              · exact h
            obtain ⟨a, b, hab, hlt⟩ := hlet
            clear HBD HPR2
            subst g4
            rw [hab] at x0 g2'
            clear g2 hab
            have hlt' : (a.toNat : Int) < 65 ∨ (¬ (a.toNat : Int) < 65 ∧ 90 < (a.toNat : Int)) ∨ (¬ (a.toNat : Int) < 65 ∧ ¬ 90 < (a.toNat : Int) ∧ (b.toNat : Int) < 65) ∨ (¬ (a.toNat : Int) < 65 ∧ ¬ 90 < (a.toNat : Int) ∧ ¬ (b.toNat : Int) < 65 ∧ 90 < (b.toNat : Int)) := by omega
            clear hlt
            have e0 : (⟨#[a, b]⟩ : ByteArray)[0]'(by show 0 < #[a, b].size; simp) = a := rfl
            have e1 : (⟨#[a, b]⟩ : ByteArray)[1]'(by show 1 < #[a, b].size; simp) = b := rfl
            rcases hlt' with k1 | ⟨k1, k2⟩ | ⟨k1, k2, k3⟩ | ⟨k1, k2, k3, k4⟩
            · go_wp2_with (go_at_call 9; refine (HW.out _).mono ?_; rintro e w15 ⟨rfl, hb15⟩)
              go_ret
              exact ⟨rfl, HF.out.trans (hb15.mono HF.out.size)⟩
            · go_wp2_with (go_at_call 9; refine (HW.out _).mono ?_; rintro e w15 ⟨rfl, hb15⟩)
              go_ret
              exact ⟨rfl, HF.out.trans (hb15.mono HF.out.size)⟩
            · go_wp2_with (go_at_call 9; refine (HW.out _).mono ?_; rintro e w15 ⟨rfl, hb15⟩)
              go_ret
              exact ⟨rfl, HF.out.trans (hb15.mono HF.out.size)⟩
            · go_wp2_with (go_at_call 9; refine (HW.out _).mono ?_; rintro e w15 ⟨rfl, hb15⟩)
              go_ret
              exact ⟨rfl, HF.out.trans (hb15.mono HF.out.size)⟩
          · have g4' : ¬ E = 0 := g4
            clear HBD g2 HPR2
            go_wp2_with (go_at_call 9; refine (HW.out _).mono ?_; rintro e w15 ⟨rfl, hb15⟩)
            go_ret
            exact ⟨rfl, HF.out.trans (hb15.mono HF.out.size)⟩
      · have g2' : ¬ (x.code.length : Int) = 2 := by omega
        clear HBD g2
        go_wp2_with (go_at_call 9; refine (HW.out _).mono ?_; rintro e w15 ⟨rfl, hb15⟩)
        go_ret
        exact ⟨rfl, HF.out.trans (hb15.mono HF.out.size)⟩
end Go.Proofs.Ytpapcilffkpjjaa
