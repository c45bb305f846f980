/- TicketPrice, of whatever sale, number and tax. -/
import Derived.Test.YtpapcilffkpjjaaTkPcW
namespace Go.Proofs.Ytpapcilffkpjjaa
open Go.Shelf Go.RowKit Go.Lib Go.Money Go.Pror Go.Tick

set_option maxRecDepth 100000 in
set_option maxHeartbeats 1600000 in
theorem tkprice_any (s : Sl) (lp : Option Addr) (lc : Nat) (tp : Option Addr) (tc : Nat) (n : Int) (x : Tax) (w : World) (hP : SaP w s lp lc tp tc) :
    Calls Try.prog 5 #[.agg (saV s lp lc tp tc), iv n, .agg #[str x.code, iv x.am]] w fun e w' => e = .returned (.bool true) ∧ Below w.heap.size w w' := by
  by_cases hall : grB s = false ∧ chkL s n = 0
  · exact tkprice_good s lp lc tp tc n x w hP hall.1 hall.2
  have HGR := Lib.hid (fun W => great_any s lp lc tp tc W)
  have HW := Lib.hid (fun W => tkwakes_any W)
  obtain ⟨wb, hwb⟩ : ∃ wb, wb = (w.alloc (.cells (saV s lp lc tp tc) 28)).alloc (.cells #[str x.code, iv x.am] 48) := ⟨_, rfl⟩
  have hb0 : Below w.heap.size w wb := by rw [hwb]; exact ((Below.refl _ _).alloc (Nat.le_refl _) _).alloc (by simp) _
  have hbS : wb.heap[w.heap.size]? = some (.cells (saV s lp lc tp tc) 28 (0, 0)) := by rw [hwb, Below.heap_alloc _ _ _ (by simp)]; exact heap_last _ _ _ rfl
  have HXS := Lib.hid (fun wz (hz : Below wb.heap.size wb wz) => (hz.block _ (lt_heap hbS)).trans hbS)
  have HB0 := Lib.hid hb0
  have HR0 := Lib.hid (Below.refl wb.heap.size wb)
  obtain ⟨b1, hb1⟩ : ∃ b, grB s = b := ⟨_, rfl⟩
  rw [hb1] at HGR
  cases b1
  · obtain ⟨hgl, hgt⟩ := grB_len60 hb1
    obtain ⟨c, hcc⟩ : ∃ c, c = chkL s n := ⟨_, rfl⟩
    have HCK := Lib.hid (fun W (h : Below wb.heap.size wb W) => show Calls Try.prog 16 #[.agg (saV s lp lc tp tc), iv n] W (fun e w' => e = .returned (iv c) ∧ Below W.heap.size W w') by
      have := tkcheck_any s n lp lc tp tc W ((hP.lr.keep hb0).keep h) ((hP.tr.keep hb0).keep h) (by omega) (by omega)
      rw [← hcc] at this; exact this)
    have hce : c = 1 ∨ c = 90 ∨ c = 7 := by
      rw [hcc]
      rcases chk_cases s n with ⟨h3, _⟩ | ⟨k, hk, h3, _⟩
      · exact absurd ⟨hb1, h3⟩ hall
      · rw [h3]
        match k, hk with
        | 0, _ => exact .inl rfl
        | 1, _ => exact .inr (.inl rfl)
        | 2, _ => exact .inr (.inl rfl)
        | 3, _ => exact .inr (.inl rfl)
        | 4, _ => exact .inr (.inl rfl)
        | 5, _ => exact .inr (.inl rfl)
        | 6, _ => exact .inr (.inl rfl)
        | 7, _ => exact .inr (.inl rfl)
        | 8, _ => exact .inr (.inr rfl)
        | k + 9, hk => exact absurd hk (by omega)
    clear hall hb1 hP hb0 hbS hgl hgt hcc
    rcases hce with rfl | rfl | rfl
    all_goals
      go_enter Try.func5, Try.ntmps5
      go_wp2_with fail
      rw [← hwb]
      clear hwb
      refine (HGR.out _).mono ?_
      rintro e w2 ⟨rfl, hb2⟩
      have HB2 := Lib.hid (HR0.out.trans (hb2.mono HR0.out.size))
      clear hb2
      go_wp2_with (first
        | (refine wpList_load_row rfl 28 _ rfl w.heap.size rfl 28 (saV s lp lc tp tc) (0, 0) _ (HXS.out _ HB2.out) Try.underlying28 rfl sizeSale ?_)
        | (go_at_call 16; refine (HCK.out _ HB2.out).mono ?_; rintro e w3 ⟨rfl, hb3⟩
           have HF := Lib.hid (HB0.out.trans ((HB2.out.trans (hb3.mono HB2.out.size)).mono HB0.out.size))
           clear hb3)
        | (go_at_call 9; refine (HW.out _).mono ?_; rintro e w15 ⟨rfl, hb15⟩))
      go_ret
      exact ⟨rfl, HF.out.trans (hb15.mono HF.out.size)⟩
  · clear hall hb1 hP hb0 hbS
    go_enter Try.func5, Try.ntmps5
    go_wp2_with fail
    rw [← hwb]
    clear hwb
    refine (HGR.out _).mono ?_
    rintro e w2 ⟨rfl, hb2⟩
    have HF := Lib.hid (HB0.out.trans ((HR0.out.trans (hb2.mono HR0.out.size)).mono HB0.out.size))
    clear hb2
    go_wp2_with (go_at_call 9; refine (HW.out _).mono ?_; rintro e w15 ⟨rfl, hb15⟩)
    go_ret
    exact ⟨rfl, HF.out.trans (hb15.mono HF.out.size)⟩
end Go.Proofs.Ytpapcilffkpjjaa
