/- TicketAlone, of whatever tickets and sales. -/
import Derived.Test.YtkdfhmlamjhedaaTkAlW
namespace Go.Proofs.Ytkdfhmlamjhedaa
open Go.Shelf Go.RowKit Go.Lib Go.Money Go.Pror Go.Tick

set_option maxRecDepth 100000 in
set_option maxHeartbeats 1600000 in
theorem tkalone_any (c1 sr1 c2 sr2 : Nat) (s : Sl) (lp : Option Addr) (lc : Nat) (tp : Option Addr) (tc : Nat) (o : Sl) (lp2 : Option Addr) (lc2 : Nat) (tp2 : Option Addr) (tc2 : Nat) (n : Int) (w : World) (hc1 : c1 < 256) (hc2 : c2 < 256) (hP : SaP w s lp lc tp tc) (hP2 : SaP w o lp2 lc2 tp2 tc2) :
    Calls Try.prog 6 #[.agg (tkV c1 sr1), .agg (tkV c2 sr2), .agg (saV s lp lc tp tc), .agg (saV o lp2 lc2 tp2 tc2), iv n] w fun e w' => e = .returned (.bool true) ∧ Below w.heap.size w w' := by
  by_cases hall : grB s = false ∧ grB o = false ∧ o.legs.length = s.legs.length
  · exact tkalone_good c1 sr1 c2 sr2 s lp lc tp tc o lp2 lc2 tp2 tc2 n w hc1 hc2 hP hP2 hall.1 hall.2.1 hall.2.2
  have HW := Lib.hid (fun W => tkwakes_any W)
  have HG1 := Lib.hid (fun W => great_any s lp lc tp tc W)
  have HG2 := Lib.hid (fun W => great_any o lp2 lc2 tp2 tc2 W)
  obtain ⟨wb, hwb⟩ : ∃ wb, wb = (((w.alloc (.cells (tkV c1 sr1) 24)).alloc (.cells (tkV c2 sr2) 24)).alloc (.cells (saV s lp lc tp tc) 28)).alloc (.cells (saV o lp2 lc2 tp2 tc2) 28) := ⟨_, rfl⟩
  have hb0 : Below w.heap.size w wb := by rw [hwb]; exact ((((Below.refl _ _).alloc (Nat.le_refl _) _).alloc (by simp) _).alloc (by simp; omega) _).alloc (by simp; omega) _
  have h3 : wb.heap[w.heap.size + 1 + 1]? = some (.cells (saV s lp lc tp tc) 28 (0, 0)) := by rw [hwb, Below.heap_alloc _ _ _ (by simp)]; exact heap_last _ _ _ (by simp)
  have h4 : wb.heap[w.heap.size + 1 + 1 + 1]? = some (.cells (saV o lp2 lc2 tp2 tc2) 28 (0, 0)) := by rw [hwb]; exact heap_last _ _ _ (by simp)
  have HXO := Lib.hid (fun wz (hz : Below wb.heap.size wb wz) => (hz.block _ (lt_heap h4)).trans h4)
  have HXS := Lib.hid (fun wz (hz : Below wb.heap.size wb wz) => (hz.block _ (lt_heap h3)).trans h3)
  have HFL := Lib.hid (fun W (h : Below w.heap.size w W) => flat_row (enc := lgC) (k := 3) (fun _ => rfl) (hP2.lr.keep h) hP2.lc_)
  have HLG := Lib.hid (flat_len (enc := lgC) (k := 3) (fun _ => rfl) o.legs)
  have HB0 := Lib.hid hb0
  have HR0 := Lib.hid (Below.refl wb.heap.size wb)
  obtain ⟨b1, hb1⟩ : ∃ b, grB s = b := ⟨_, rfl⟩
  obtain ⟨b2, hb2⟩ : ∃ b, grB o = b := ⟨_, rfl⟩
  rw [hb1] at HG1
  rw [hb2] at HG2
  cases b1
  · cases b2
    · have hlen : o.legs.length ≠ s.legs.length := fun h => hall ⟨hb1, hb2, h⟩
      have hl2 := (grB_len hb2).1
      have HLO := Lib.hid hl2
      have hne : ((o.legs.length : Int) != (s.legs.length : Int)) = true := by simp; omega
      have hneN : (o.legs.length != s.legs.length) = true := by simp; omega
      clear hall hb1 hb2 hP hP2 hb0 h3 h4 hlen hl2
      go_enter Try.func6, Try.ntmps6
      go_wp2_with fail
      rw [← hwb]
      clear hwb
      refine (HG1.out _).mono ?_
      rintro e w2 ⟨rfl, hb2⟩
      have HB2 := Lib.hid (HR0.out.trans (hb2.mono HR0.out.size))
      clear hb2
      have hO2 := HXO.out _ HB2.out
      have o0 : w2.cell? ⟨w.heap.size + 1 + 1 + 1, 0, none⟩ = some (str o.name) := loadL hO2 0 rfl
      have o1 : w2.cell? ⟨w.heap.size + 1 + 1 + 1, 1, none⟩ = some (.slice lp2 o.legs.length lc2) := loadL hO2 1 rfl
      have o2 : w2.cell? ⟨w.heap.size + 1 + 1 + 1, 2, none⟩ = some (iv o.fare) := loadL hO2 2 rfl
      have o3 : w2.cell? ⟨w.heap.size + 1 + 1 + 1, 3, none⟩ = some (.slice tp2 o.taxes.length tc2) := loadL hO2 3 rfl
      have o4 : w2.cell? ⟨w.heap.size + 1 + 1 + 1, 4, none⟩ = some (iv o.pen) := loadL hO2 4 rfl
      clear hO2
      go_wp2_with (first
        | (at_builtin; refine wl_appF 25 58 (.agg #[.int .u8 0, .int .u16 0, .int .u32 0]) 3 8 par_leg Try.underlying25 rfl (by decide) (by decide) (w3.setCell ⟨w.heap.size + 1 + 1 + 1, 2, none⟩ (iv s.fare)).heap.size (.slice none 0 0) 0 [] rfl (World.ownsRow_nil _ _ _ _) (.slice lp2 o.legs.length lc2) _ o.legs.length (o.legs.flatMap lgC) rfl (HFL.out _ HX4.out) HLG.out (one_lg _) (by have := HLO.out; omega) (Nat.le_refl _) ?_)
        | (go_at_call 8; refine (HG2.out _).mono ?_; rintro e w3 ⟨rfl, hb3⟩
           have hbx := HB2.out.trans (hb3.mono HB2.out.size)
           have hO3 := HXO.out _ hbx
           have hS3 := HXS.out _ hbx
           have e2 : w3.cell? ⟨w.heap.size + 1 + 1, 2, none⟩ = some (iv s.fare) := loadL hS3 2 rfl
           have e3 : w3.cell? ⟨w.heap.size + 1 + 1 + 1, 2, none⟩ = some (iv o.fare) := loadL hO3 2 rfl
           have f3 : w3.frozen? ⟨w.heap.size + 1 + 1 + 1, 2, none⟩ = false := frozen_of_row _ _ _ _ _ hO3
           have hO4 : (w3.setCell ⟨w.heap.size + 1 + 1 + 1, 2, none⟩ (iv s.fare)).heap[w.heap.size + 1 + 1 + 1]? = some (.cells #[str o.name, .slice lp2 o.legs.length lc2, iv s.fare, .slice tp2 o.taxes.length tc2, iv o.pen] 28 (0, 0)) := heap_setCell_same w3 _ 2 _ 28 _ hO3
           have hS4 : (w3.setCell ⟨w.heap.size + 1 + 1 + 1, 2, none⟩ (iv s.fare)).heap[w.heap.size + 1 + 1]? = some (.cells (saV s lp lc tp tc) 28 (0, 0)) := (Below.heap_setCell _ _ _ _ (show w.heap.size + 1 + 1 ≠ w.heap.size + 1 + 1 + 1 by omega)).trans hS3
           have e4 : (w3.setCell ⟨w.heap.size + 1 + 1 + 1, 2, none⟩ (iv s.fare)).cell? ⟨w.heap.size + 1 + 1 + 1, 1, none⟩ = some (.slice lp2 o.legs.length lc2) := loadL hO4 1 rfl
           have HX4 := Lib.hid (show Below w.heap.size w (w3.setCell ⟨w.heap.size + 1 + 1 + 1, 2, none⟩ (iv s.fare)) from (HB0.out.trans (hbx.mono HB0.out.size)).setCell (p := ⟨w.heap.size + 1 + 1 + 1, 2, none⟩) (by show _ ≤ w.heap.size + 1 + 1 + 1; omega) _)
           have HO4 := Lib.hid hO4
           have HS4 := Lib.hid hS4
           clear hb3 hbx hO3 hS3 hO4 hS4))
      intro v5 w5 ho hg _
      rw [Nat.zero_add, List.nil_append] at ho
      obtain ⟨p5, q5, rfl, hq5, hr5⟩ := row_of_own (enc := lgC) (k := 3) (fun _ => rfl) rfl ho
      have hb5 := (Below.refl (w3.setCell ⟨w.heap.size + 1 + 1 + 1, 2, none⟩ (iv s.fare)).heap.size (w3.setCell ⟨w.heap.size + 1 + 1 + 1, 2, none⟩ (iv s.fare))).grown hg (Nat.le_refl _) (fun k hk => by cases hk)
      have hO5 := (hb5.block _ (lt_heap HO4.out)).trans HO4.out
      have hS5 := (hb5.block _ (lt_heap HS4.out)).trans HS4.out
      have e5 : w5.cell? ⟨w.heap.size + 1 + 1 + 1, 1, none⟩ = some (.slice lp2 o.legs.length lc2) := loadL hO5 1 rfl
      have f5 : w5.frozen? ⟨w.heap.size + 1 + 1 + 1, 1, none⟩ = false := frozen_of_row _ _ _ _ _ hO5
      have e6 : (w5.setCell ⟨w.heap.size + 1 + 1 + 1, 1, none⟩ (.slice p5 o.legs.length q5)).cell? ⟨w.heap.size + 1 + 1 + 1, 1, none⟩ = some (.slice p5 o.legs.length q5) := loadL (heap_setCell_same w5 _ 1 _ 28 _ hO5) 1 rfl
      have e7 : (w5.setCell ⟨w.heap.size + 1 + 1 + 1, 1, none⟩ (.slice p5 o.legs.length q5)).cell? ⟨w.heap.size + 1 + 1, 1, none⟩ = some (.slice lp s.legs.length lc) := loadL ((Below.heap_setCell _ _ _ _ (show w.heap.size + 1 + 1 ≠ w.heap.size + 1 + 1 + 1 by omega)).trans hS5) 1 rfl
      have HX6 := Lib.hid (show Below w.heap.size w (w5.setCell ⟨w.heap.size + 1 + 1 + 1, 1, none⟩ (.slice p5 o.legs.length q5)) from (HX4.out.trans (hb5.mono HX4.out.size)).setCell (p := ⟨w.heap.size + 1 + 1 + 1, 1, none⟩) (by show _ ≤ w.heap.size + 1 + 1 + 1; omega) _)
      clear ho hg hq5 hr5 hb5 hO5 hS5 e2 e3 f3 e4
      go_wp2_with (go_at_call 9; refine (HW.out _).mono ?_; rintro e w7 ⟨rfl, hb7⟩)
      go_ret
      exact ⟨rfl, HX6.out.trans (hb7.mono HX6.out.size)⟩
    · clear hall hb1 hb2 hP hP2 hb0 h3 h4
      go_enter Try.func6, Try.ntmps6
      go_wp2_with fail
      rw [← hwb]
      clear hwb
      refine (HG1.out _).mono ?_
      rintro e w2 ⟨rfl, hb2⟩
      have HB2 := Lib.hid (HR0.out.trans (hb2.mono HR0.out.size))
      clear hb2
      have hO2 := HXO.out _ HB2.out
      have o0 : w2.cell? ⟨w.heap.size + 1 + 1 + 1, 0, none⟩ = some (str o.name) := loadL hO2 0 rfl
      have o1 : w2.cell? ⟨w.heap.size + 1 + 1 + 1, 1, none⟩ = some (.slice lp2 o.legs.length lc2) := loadL hO2 1 rfl
      have o2 : w2.cell? ⟨w.heap.size + 1 + 1 + 1, 2, none⟩ = some (iv o.fare) := loadL hO2 2 rfl
      have o3 : w2.cell? ⟨w.heap.size + 1 + 1 + 1, 3, none⟩ = some (.slice tp2 o.taxes.length tc2) := loadL hO2 3 rfl
      have o4 : w2.cell? ⟨w.heap.size + 1 + 1 + 1, 4, none⟩ = some (iv o.pen) := loadL hO2 4 rfl
      clear hO2
      go_wp2_with (first
        | (go_at_call 8; refine (HG2.out _).mono ?_; rintro e w3 ⟨rfl, hb3⟩
           have HB3 := Lib.hid (HB0.out.trans ((HB2.out.trans (hb3.mono HB2.out.size)).mono HB0.out.size))
           clear hb3)
        | (go_at_call 9; refine (HW.out _).mono ?_; rintro e w7 ⟨rfl, hb7⟩))
      go_ret
      exact ⟨rfl, HB3.out.trans (hb7.mono HB3.out.size)⟩
  · clear hall hb1 hb2 hP hP2 hb0 h3 h4
    go_enter Try.func6, Try.ntmps6
    go_wp2_with fail
    rw [← hwb]
    clear hwb
    refine (HG1.out _).mono ?_
    rintro e w2 ⟨rfl, hb2⟩
    have HB2 := Lib.hid (HB0.out.trans ((HR0.out.trans (hb2.mono HR0.out.size)).mono HB0.out.size))
    clear hb2
    go_wp2_with (go_at_call 9; refine (HW.out _).mono ?_; rintro e w7 ⟨rfl, hb7⟩)
    go_ret
    exact ⟨rfl, HB2.out.trans (hb7.mono HB2.out.size)⟩
end Go.Proofs.Ytkdfhmlamjhedaa
