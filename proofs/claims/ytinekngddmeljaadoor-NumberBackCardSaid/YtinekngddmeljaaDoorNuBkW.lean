/- The walk of NumberBack: texts and tickets are each other's. -/
import Derived.Test.YtinekngddmeljaaDoorNuL
namespace Go.Proofs.YtinekngddmeljaaDoor
open Go.RowKit Go.Shelf Go.Number

theorem parse_two (t : Tx) : ∃ c2 s2 er2, parseL t = (c2, s2, er2) ∧ ((er2 = 0 ∧ c2 < 256 ∧ textL c2 s2 = (t, 0)) ∨ (((er2 : Nat) : Int) ≠ 0 ∧ c2 = 0 ∧ s2 = 0)) := by
  rcases h : parseL t with ⟨c2, s2, er2⟩
  refine ⟨_, _, _, rfl, ?_⟩
  by_cases he : er2 = 0
  · subst he
    obtain ⟨h1, h2⟩ := full_parse h
    exact .inl ⟨rfl, by have := h1.1; omega, by rw [text_in h1, h2]⟩
  · have := parse_err t (by rw [h]; exact he)
    rw [h] at this
    exact .inr ⟨by omega, this.1, this.2⟩
set_option maxRecDepth 100000 in
set_option maxHeartbeats 3200000 in
theorem nback_any (c s : Nat) (hc : c < 256) (t : Tx) (B : Nat) (w : World) (htab : Tab B w) (hB : B ≤ w.heap.size) : Calls Tryd.prog 5 #[.agg (tkV c s), str t] w fun e w' => e = .returned (.bool true) ∧ Below w.heap.size w w' := by
  have hsz : (tx t).size = t.length := tx_size t
  obtain ⟨wb, hwb⟩ : ∃ wb, wb = w.alloc (.cells (tkV c s) 24) := ⟨_, rfl⟩
  have hbw : Below w.heap.size w wb := by rw [hwb]; exact (Below.refl _ _).alloc (Nat.le_refl _) _
  have hb0 : wb.heap[w.heap.size]? = some (.cells (tkV c s) 24 (0, 0)) := by rw [hwb]; exact World.alloc_heap_new w _
  have hws : wb.heap.size = w.heap.size + 1 := by rw [hwb, size_a]
  have CB : ∀ wz : World, Below wb.heap.size wb wz → wz.heap[w.heap.size]? = some (.cells (tkV c s) 24 (0, 0)) := fun wz hz => (hz.block _ (by rw [hws]; exact Nat.lt_succ_self _)).trans hb0
  have HCB := Lib.hid CB
  have HFIN := Lib.hid (show ∀ wz : World, Below wb.heap.size wb wz → Below w.heap.size w wz from fun wz hz => hbw.trans (hz.mono hbw.size))
  have HT := Lib.hid (show ∀ wz : World, Below wb.heap.size wb wz → Tab B wz ∧ B ≤ wz.heap.size from fun wz hz => ⟨htab.on ((hbw.mono hB).trans (hz.mono (Nat.le_trans hB hbw.size))), Nat.le_trans hB (Nat.le_trans hbw.size hz.size)⟩)
  have HB0 := Lib.hid (Below.refl wb.heap.size wb)
  have H1 := Lib.hid (text_any c s hc B wb (HT.out _ HB0.out).1 (HT.out _ HB0.out).2)
  have HM := Lib.hid (fun W => rmay_any c s W)
  have H3 := Lib.hid (fun W (h : Below wb.heap.size wb W) => tells_any B W (HT.out _ h).1 (HT.out _ h).2)
  have HPT := Lib.hid (fun W => parse_any t W)
  clear CB hb0 hws
  have HW := Lib.hid hwb
  by_cases hl : (2000 : Int) < (t.length : Int)
  · clear hwb htab hB
    go_enter Tryd.func5, Tryd.ntmps5
    go_wp2
    rw [← HW.out]
    go_ret
    exact ⟨rfl, HFIN.out _ HB0.out⟩
  obtain ⟨c2, s2, er2, hp2, hor⟩ := parse_two t
  unfold paV at HPT
  rw [hp2] at HPT
  clear hp2
  have hmay : (∃ m : Tx, textL c s = (m, 0) ∧ decide (may c s) = true ∧ m.length = 14 ∧ parseL m = (c, s, 0)) ∨ (textL c s = ([], 1) ∧ decide (may c s) = false) := by
    by_cases h : may c s
    · exact .inl ⟨full c s, text_in h, decide_eq_true h, full_len c s, parse_full h⟩
    · exact .inr ⟨text_out h, decide_eq_false h⟩
  rcases hor with ⟨rfl, hc2, ht2⟩ | ⟨he2, rfl, rfl⟩
  · have H2 := Lib.hid (fun W (h : Below wb.heap.size wb W) => show Calls Tryd.prog 9 #[.agg (tkV c2 s2)] W (fun e w' => e = .returned (.tuple #[str t, .int .i64 0]) ∧ Below W.heap.size W w') by
      have := text_any c2 s2 hc2 B W (HT.out _ h).1 (HT.out _ h).2
      rw [ht2] at this
      exact this)
    clear ht2 hc2 htab hB hbw
    rcases hmay with ⟨m, hm1, hm2, hm3, hm4⟩ | ⟨hm1, hm2⟩
    · rw [hm1] at H1
      rw [hm2] at HM
      have HPM := Lib.hid (fun W => parse_any m W)
      unfold paV at HPM
      rw [hm4] at HPM
      have hmz : (tx m).size = 14 := by rw [tx_size]; exact hm3
      have hml : (m.length : Int) = 14 := by omega
      clear hm1 hm2 hm3 hm4
      go_enter Tryd.func5, Tryd.ntmps5
      go_wp2_with fail
      go_at_call 9
      rw [← hwb]
      clear hwb
      refine (H1.out).mono ?_
      rintro e w1 ⟨rfl, hb1⟩
      have HB1 := Lib.hid hb1
      have c0 : w1.cell? ⟨w.heap.size, 0, none⟩ = some (.int .u8 (c : Int)) := cell_of_arr (HCB.out _ hb1) 0
      have c1 : w1.cell? ⟨w.heap.size, 1, none⟩ = some (.int .u64 (s : Int)) := cell_of_arr (HCB.out _ hb1) 1
      clear hb1
      go_wp2_with (go_at_call 14; refine (HM.out _).mono ?_; rintro e w2 ⟨rfl, hb2⟩; have HB2 := Lib.hid (HB1.out.trans (hb2.mono HB1.out.size)); clear hb2)
      go_at_call 12
      refine (HPM.out _).mono ?_
      rintro e w3 ⟨rfl, hb3⟩
      have HB3 := Lib.hid (HB2.out.trans (hb3.mono HB2.out.size))
      have HB4 := Lib.hid (HB3.out.alloc HB3.out.size (.cells (tkV c s) 24))
      have d0 : ∀ o, (w3.alloc o).cell? ⟨w.heap.size, 0, none⟩ = some (.int .u8 (c : Int)) := fun o => cell_of_arr (HCB.out _ (HB3.out.alloc HB3.out.size o)) 0
      have d1 : ∀ o, (w3.alloc o).cell? ⟨w.heap.size, 1, none⟩ = some (.int .u64 (s : Int)) := fun o => cell_of_arr (HCB.out _ (HB3.out.alloc HB3.out.size o)) 1
      clear hb3
      go_wp2_with fail
      go_at_call 12
      refine (HPT.out _).mono ?_
      rintro e w5 ⟨rfl, hb5⟩
      have hb5' := HB4.out.trans (hb5.mono HB4.out.size)
      have HB6 := Lib.hid (hb5'.alloc hb5'.size (.cells (tkV c2 s2) 24))
      clear hb5 hb5'
      go_wp2_with (go_at_call 9; refine (H2.out _ HB6.out).mono ?_; rintro e w7 ⟨rfl, hb7⟩; have HB7 := Lib.hid (HB6.out.trans (hb7.mono HB6.out.size)); clear hb7)
      go_at_call 11
      refine (H3.out _ HB7.out).mono ?_
      rintro e w8 ⟨rfl, hb8⟩
      have HB8 := Lib.hid (HB7.out.trans (hb8.mono HB7.out.size))
      clear hb8
      go_wp2
      go_ret
      exact ⟨rfl, HFIN.out _ HB8.out⟩
    · rw [hm1] at H1
      rw [hm2] at HM
      clear hm1 hm2
      go_enter Tryd.func5, Tryd.ntmps5
      go_wp2_with fail
      go_at_call 9
      rw [← hwb]
      clear hwb
      refine (H1.out).mono ?_
      rintro e w1 ⟨rfl, hb1⟩
      have HB1 := Lib.hid hb1
      have c0 : w1.cell? ⟨w.heap.size, 0, none⟩ = some (.int .u8 (c : Int)) := cell_of_arr (HCB.out _ hb1) 0
      have c1 : w1.cell? ⟨w.heap.size, 1, none⟩ = some (.int .u64 (s : Int)) := cell_of_arr (HCB.out _ hb1) 1
      clear hb1
      go_wp2_with (go_at_call 14; refine (HM.out _).mono ?_; rintro e w2 ⟨rfl, hb2⟩; have HB2 := Lib.hid (HB1.out.trans (hb2.mono HB1.out.size)); clear hb2)
      go_at_call 12
      refine (HPT.out _).mono ?_
      rintro e w5 ⟨rfl, hb5⟩
      have hb5' := HB2.out.trans (hb5.mono HB2.out.size)
      have HB6 := Lib.hid (hb5'.alloc hb5'.size (.cells (tkV c2 s2) 24))
      clear hb5 hb5'
      go_wp2_with (go_at_call 9; refine (H2.out _ HB6.out).mono ?_; rintro e w7 ⟨rfl, hb7⟩; have HB7 := Lib.hid (HB6.out.trans (hb7.mono HB6.out.size)); clear hb7)
      go_at_call 11
      refine (H3.out _ HB7.out).mono ?_
      rintro e w8 ⟨rfl, hb8⟩
      have HB8 := Lib.hid (HB7.out.trans (hb8.mono HB7.out.size))
      clear hb8
      go_wp2
      go_ret
      exact ⟨rfl, HFIN.out _ HB8.out⟩
  · clear htab hB hbw
    rcases hmay with ⟨m, hm1, hm2, hm3, hm4⟩ | ⟨hm1, hm2⟩
    · rw [hm1] at H1
      rw [hm2] at HM
      have HPM := Lib.hid (fun W => parse_any m W)
      unfold paV at HPM
      rw [hm4] at HPM
      have hmz : (tx m).size = 14 := by rw [tx_size]; exact hm3
      have hml : (m.length : Int) = 14 := by omega
      clear hm1 hm2 hm3 hm4
      go_enter Tryd.func5, Tryd.ntmps5
      go_wp2_with fail
      go_at_call 9
      rw [← hwb]
      clear hwb
      refine (H1.out).mono ?_
      rintro e w1 ⟨rfl, hb1⟩
      have HB1 := Lib.hid hb1
      have c0 : w1.cell? ⟨w.heap.size, 0, none⟩ = some (.int .u8 (c : Int)) := cell_of_arr (HCB.out _ hb1) 0
      have c1 : w1.cell? ⟨w.heap.size, 1, none⟩ = some (.int .u64 (s : Int)) := cell_of_arr (HCB.out _ hb1) 1
      clear hb1
      go_wp2_with (go_at_call 14; refine (HM.out _).mono ?_; rintro e w2 ⟨rfl, hb2⟩; have HB2 := Lib.hid (HB1.out.trans (hb2.mono HB1.out.size)); clear hb2)
      go_at_call 12
      refine (HPM.out _).mono ?_
      rintro e w3 ⟨rfl, hb3⟩
      have HB3 := Lib.hid (HB2.out.trans (hb3.mono HB2.out.size))
      have HB4 := Lib.hid (HB3.out.alloc HB3.out.size (.cells (tkV c s) 24))
      have d0 : ∀ o, (w3.alloc o).cell? ⟨w.heap.size, 0, none⟩ = some (.int .u8 (c : Int)) := fun o => cell_of_arr (HCB.out _ (HB3.out.alloc HB3.out.size o)) 0
      have d1 : ∀ o, (w3.alloc o).cell? ⟨w.heap.size, 1, none⟩ = some (.int .u64 (s : Int)) := fun o => cell_of_arr (HCB.out _ (HB3.out.alloc HB3.out.size o)) 1
      clear hb3
      go_wp2_with fail
      go_at_call 12
      refine (HPT.out _).mono ?_
      rintro e w5 ⟨rfl, hb5⟩
      have hb5' := HB4.out.trans (hb5.mono HB4.out.size)
      have HB6 := Lib.hid (hb5'.alloc hb5'.size (.cells tk0 24))
      clear hb5 hb5'
      go_wp2_with fail
      go_at_call 11
      refine (H3.out _ HB6.out).mono ?_
      rintro e w8 ⟨rfl, hb8⟩
      have HB8 := Lib.hid (HB6.out.trans (hb8.mono HB6.out.size))
      clear hb8
      go_wp2
      go_ret
      exact ⟨rfl, HFIN.out _ HB8.out⟩
    · rw [hm1] at H1
      rw [hm2] at HM
      clear hm1 hm2
      go_enter Tryd.func5, Tryd.ntmps5
      go_wp2_with fail
      go_at_call 9
      rw [← hwb]
      clear hwb
      refine (H1.out).mono ?_
      rintro e w1 ⟨rfl, hb1⟩
      have HB1 := Lib.hid hb1
      have c0 : w1.cell? ⟨w.heap.size, 0, none⟩ = some (.int .u8 (c : Int)) := cell_of_arr (HCB.out _ hb1) 0
      have c1 : w1.cell? ⟨w.heap.size, 1, none⟩ = some (.int .u64 (s : Int)) := cell_of_arr (HCB.out _ hb1) 1
      clear hb1
      go_wp2_with (go_at_call 14; refine (HM.out _).mono ?_; rintro e w2 ⟨rfl, hb2⟩; have HB2 := Lib.hid (HB1.out.trans (hb2.mono HB1.out.size)); clear hb2)
      go_at_call 12
      refine (HPT.out _).mono ?_
      rintro e w5 ⟨rfl, hb5⟩
      have hb5' := HB2.out.trans (hb5.mono HB2.out.size)
      have HB6 := Lib.hid (hb5'.alloc hb5'.size (.cells tk0 24))
      clear hb5 hb5'
      go_wp2_with fail
      go_at_call 11
      refine (H3.out _ HB6.out).mono ?_
      rintro e w8 ⟨rfl, hb8⟩
      have HB8 := Lib.hid (HB6.out.trans (hb8.mono HB6.out.size))
      clear hb8
      go_wp2
      go_ret
      exact ⟨rfl, HFIN.out _ HB8.out⟩
end Go.Proofs.YtinekngddmeljaaDoor
