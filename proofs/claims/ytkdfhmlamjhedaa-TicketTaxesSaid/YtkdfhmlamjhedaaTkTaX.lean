/- TicketTaxes, of whatever sale. -/
import Derived.Test.YtkdfhmlamjhedaaTkTaW
namespace Go.Proofs.Ytkdfhmlamjhedaa
open Go.Shelf Go.RowKit Go.Lib Go.Money Go.Pror Go.Tick

set_option maxRecDepth 100000 in
set_option maxHeartbeats 1600000 in
theorem tktaxes_any (s : Sl) (lp : Option Addr) (lc : Nat) (tp : Option Addr) (tc : Nat) (n i k : Int) (w : World) (hP : SaP w s lp lc tp tc) :
    Calls Try.prog 7 #[.agg (saV s lp lc tp tc), iv n, iv i, iv k] w fun e w' => e = .returned (.bool true) ∧ Below w.heap.size w w' := by
  by_cases hg0 : grB s = false ∧ s.taxes.length ≠ 0
  · exact tktaxes_good s lp lc tp tc n i k w hP hg0.1 hg0.2
  have HW := Lib.hid (fun W => tkwakes_any W)
  have HGR := Lib.hid (fun W => great_any s lp lc tp tc W)
  obtain ⟨wb, hwb⟩ : ∃ wb, wb = w.alloc (.cells (saV s lp lc tp tc) 28) := ⟨_, rfl⟩
  have hb0 : Below w.heap.size w wb := by rw [hwb]; exact (Below.refl _ _).alloc (Nat.le_refl _) _
  have hbS : wb.heap[w.heap.size]? = some (.cells (saV s lp lc tp tc) 28 (0, 0)) := by rw [hwb]; exact heap_last _ _ _ rfl
  have HXS := Lib.hid (fun wz (hz : Below wb.heap.size wb wz) => (hz.block _ (lt_heap hbS)).trans hbS)
  have HB0 := Lib.hid hb0
  have HR0 := Lib.hid (Below.refl wb.heap.size wb)
  obtain ⟨bg, hbg⟩ : ∃ b, grB s = b := ⟨_, rfl⟩
  rw [hbg] at HGR
  cases bg
  · have h0 : s.taxes.length = 0 := by
      by_cases h : s.taxes.length = 0
      · exact h
      · exact absurd ⟨hbg, h⟩ hg0
    have z0 : (s.taxes.length == 0) = true := by simpa using h0
    have z1 : ((s.taxes.length : Int) == 0) = true := by simpa using h0
    clear hg0 hb0 hbS hbg hP h0
    go_enter Try.func7, Try.ntmps7
    go_wp2_with fail
    rw [← hwb]
    clear hwb
    refine (HGR.out _).mono ?_
    rintro e w2 ⟨rfl, hb2⟩
    have hbx := HR0.out.trans (hb2.mono HR0.out.size)
    have HB2 := Lib.hid (HB0.out.trans (hbx.mono HB0.out.size))
    have d3 : w2.cell? ⟨w.heap.size, 3, none⟩ = some (.slice tp s.taxes.length tc) := loadL (HXS.out _ hbx) 3 rfl
    clear hb2 hbx
    go_wp2_with (go_at_call 9; refine (HW.out _).mono ?_; rintro e w3 ⟨rfl, hb3⟩)
    go_ret
    exact ⟨rfl, HB2.out.trans (hb3.mono HB2.out.size)⟩
  · clear hg0 hb0 hbS hbg hP
    go_enter Try.func7, Try.ntmps7
    go_wp2_with fail
    rw [← hwb]
    clear hwb
    refine (HGR.out _).mono ?_
    rintro e w2 ⟨rfl, hb2⟩
    have HB2 := Lib.hid (HB0.out.trans ((HR0.out.trans (hb2.mono HR0.out.size)).mono HB0.out.size))
    clear hb2
    go_wp2_with (go_at_call 9; refine (HW.out _).mono ?_; rintro e w3 ⟨rfl, hb3⟩)
    go_ret
    exact ⟨rfl, HB2.out.trans (hb3.mono HB2.out.size)⟩
end Go.Proofs.Ytkdfhmlamjhedaa
