/- The walks of NumberTexts and NumberParses. -/
import Derived.Test.YtinekngddmeljaaDoorNuL
namespace Go.Proofs.YtinekngddmeljaaDoor
open Go.RowKit Go.Shelf Go.Number

set_option maxRecDepth 100000 in
set_option maxHeartbeats 1600000 in
theorem ntexts_any (c s : Nat) (hc : c < 256) (B : Nat) (w : World) (htab : Tab B w) (hB : B ≤ w.heap.size) : Calls Tryd.prog 3 #[.agg (tkV c s)] w fun e w' => e = .returned (.bool true) ∧ Below w.heap.size w w' := by
  obtain ⟨wb, hwb⟩ : ∃ wb, wb = w.alloc (.cells (tkV c s) 24) := ⟨_, rfl⟩
  have hbw : Below w.heap.size w wb := by rw [hwb]; exact (Below.refl _ _).alloc (Nat.le_refl _) _
  have hb0 : wb.heap[w.heap.size]? = some (.cells (tkV c s) 24 (0, 0)) := by rw [hwb]; exact World.alloc_heap_new w _
  have hws : wb.heap.size = w.heap.size + 1 := by rw [hwb, size_a]
  have CB : ∀ wz : World, Below wb.heap.size wb wz → wz.heap[w.heap.size]? = some (.cells (tkV c s) 24 (0, 0)) := fun wz hz => (hz.block _ (by rw [hws]; exact Nat.lt_succ_self _)).trans hb0
  have HCB := Lib.hid CB
  have HFIN := Lib.hid (show ∀ wz : World, Below wb.heap.size wb wz → Below w.heap.size w wz from fun wz hz => hbw.trans (hz.mono hbw.size))
  have HT := Lib.hid (show ∀ wz : World, Below wb.heap.size wb wz → Tab B wz ∧ B ≤ wz.heap.size from fun wz hz => ⟨htab.on ((hbw.mono hB).trans (hz.mono (Nat.le_trans hB hbw.size))), Nat.le_trans hB (Nat.le_trans hbw.size hz.size)⟩)
  have HB0 := Lib.hid (Below.refl wb.heap.size wb)
  have H1 := Lib.hid (text_any c s hc B wb (HT.out _ HB0.out).1 (HT.out _ HB0.out).2)
  have H2 := Lib.hid (fun W => rtext_any c s hc W)
  have H3 := Lib.hid (fun W (h : Below wb.heap.size wb W) => tells_any B W (HT.out _ h).1 (HT.out _ h).2)
  clear CB hb0 hbw hws htab hB
  generalize textL c s = r at *
  obtain ⟨tr, er⟩ := r
  go_enter Tryd.func3, Tryd.ntmps3
  go_wp2_with fail
  go_at_call 9
  rw [← hwb]
  refine (H1.out).mono ?_
  rintro e w1 ⟨rfl, hb1⟩
  have HB1 := Lib.hid hb1
  have c0 : w1.cell? ⟨w.heap.size, 0, none⟩ = some (.int .u8 (c : Int)) := cell_of_arr (HCB.out _ hb1) 0
  have c1 : w1.cell? ⟨w.heap.size, 1, none⟩ = some (.int .u64 (s : Int)) := cell_of_arr (HCB.out _ hb1) 1
  clear hb1
  go_wp2_with (go_at_call 10; refine (H2.out _).mono ?_; rintro e w2 ⟨rfl, hb2⟩; have HB2 := Lib.hid (HB1.out.trans (hb2.mono HB1.out.size)); clear hb2)
  go_at_call 11
  refine (H3.out _ HB2.out).mono ?_
  rintro e w3 ⟨rfl, hb3⟩
  have HB3 := Lib.hid (HB2.out.trans (hb3.mono HB2.out.size))
  clear hb3
  go_wp2
  go_ret
  exact ⟨rfl, HFIN.out _ HB3.out⟩
set_option maxRecDepth 100000 in
set_option maxHeartbeats 1600000 in
theorem nparses_any (t : Tx) (B : Nat) (w : World) (htab : Tab B w) (hB : B ≤ w.heap.size) : Calls Tryd.prog 4 #[str t] w fun e w' => e = .returned (.bool true) ∧ Below w.heap.size w w' := by
  have hsz : (tx t).size = t.length := tx_size t
  have HT := Lib.hid (show ∀ wz : World, Below w.heap.size w wz → Tab B wz ∧ B ≤ wz.heap.size from fun wz hz => ⟨htab.on (hz.mono hB), Nat.le_trans hB hz.size⟩)
  have H1 := Lib.hid (fun W => parse_any t W)
  have H2 := Lib.hid (fun W => rparse_any t W)
  have H3 := Lib.hid (fun W (h : Below w.heap.size w W) => tells_any B W (HT.out _ h).1 (HT.out _ h).2)
  have HB0 := Lib.hid (Below.refl w.heap.size w)
  clear htab hB
  unfold paV at H1 H2
  generalize parseL t = r at *
  obtain ⟨c, s, er⟩ := r
  by_cases hl : (2000 : Int) < (t.length : Int)
  · go_enter Tryd.func4, Tryd.ntmps4
    go_wp2
    go_ret
    exact ⟨rfl, HB0.out⟩
  go_enter Tryd.func4, Tryd.ntmps4
  go_wp2_with (go_at_call 12; refine (H1.out _).mono ?_; rintro e w1 ⟨rfl, hb1⟩; have HB1 := Lib.hid (hb1.alloc hb1.size (.cells (tkV c s) 24)); have HS1 := Lib.hid (World.alloc_heap_new w1 (.cells (tkV c s) 24)); clear hb1)
  go_at_call 13
  refine (H2.out _).mono ?_
  rintro e w2 ⟨rfl, hb2⟩
  have HB2 := Lib.hid ((HB1.out.trans (hb2.mono HB1.out.size)).alloc (HB1.out.trans (hb2.mono HB1.out.size)).size (.cells (tkV c s) 24))
  have hz1 : w1.heap.size < w2.heap.size := by have := hb2.size; rw [size_a] at this; omega
  have hc1 : w2.heap[w1.heap.size]? = some (.cells (tkV c s) 24 (0, 0)) := (hb2.block _ (by rw [size_a]; exact Nat.lt_succ_self _)).trans HS1.out
  have d0 : w2.cell? ⟨w1.heap.size, 0, none⟩ = some (.int .u8 (c : Int)) := cell_of_arr hc1 0
  have d1 : w2.cell? ⟨w1.heap.size, 1, none⟩ = some (.int .u64 (s : Int)) := cell_of_arr hc1 1
  have hc2 : ∀ o, (w2.alloc o).heap[w1.heap.size]? = some (.cells (tkV c s) 24 (0, 0)) := fun o => (Below.heap_alloc _ _ _ hz1).trans hc1
  have e0 : ∀ o, (w2.alloc o).cell? ⟨w1.heap.size, 0, none⟩ = some (.int .u8 (c : Int)) := fun o => cell_of_arr (hc2 o) 0
  have e1 : ∀ o, (w2.alloc o).cell? ⟨w1.heap.size, 1, none⟩ = some (.int .u64 (s : Int)) := fun o => cell_of_arr (hc2 o) 1
  clear hb2 hc1 hc2
  go_wp2_with fail
  go_at_call 11
  refine (H3.out _ HB2.out).mono ?_
  rintro e w3 ⟨rfl, hb3⟩
  have HB3 := Lib.hid (HB2.out.trans (hb3.mono HB2.out.size))
  clear hb3
  go_wp2
  go_ret
  exact ⟨rfl, HB3.out⟩
end Go.Proofs.YtinekngddmeljaaDoor
