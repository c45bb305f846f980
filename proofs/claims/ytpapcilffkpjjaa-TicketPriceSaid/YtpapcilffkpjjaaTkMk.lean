/- Contracts of clone and own: a sale with rows of its own. -/
import Derived.Test.YtpapcilffkpjjaaTkB
import Derived.Deep.RegionLaw
namespace Go.Proofs.Ytpapcilffkpjjaa
open Go.Shelf Go.RowKit Go.Lib Go.Money Go.Pror Go.Tick

theorem sizeSale : (Try.prog.info? 28).map (·.size) = some 5 := by kernel_rfl
theorem set2c {W : World} {g : Nat} {x0 x1 x2 x3 x4 : Value} {ty : TypeId} (h : W.heap[g]? = some (.cells #[x0, x1, x2, x3, x4] ty (0, 0))) (a b : Value) :
    ((W.setCell ⟨g, 1, none⟩ a).setCell ⟨g, 3, none⟩ b).heap[g]? = some (.cells #[x0, a, x2, b, x4] ty (0, 0)) := by
  have h1 : (W.setCell ⟨g, 1, none⟩ a).heap[g]? = some (.cells #[x0, a, x2, x3, x4] ty (0, 0)) := heap_setCell_same W g 1 _ ty _ h
  exact heap_setCell_same _ g 3 _ ty _ h1
theorem set5c {W : World} {g : Nat} {x0 x1 x2 x3 x4 : Value} {ty : TypeId} (h : W.heap[g]? = some (.cells #[x0, x1, x2, x3, x4] ty (0, 0))) (a b c d e : Value) :
    (((((W.setCell ⟨g, 0, none⟩ a).setCell ⟨g, 1, none⟩ b).setCell ⟨g, 2, none⟩ c).setCell ⟨g, 3, none⟩ d).setCell ⟨g, 4, none⟩ e).heap[g]? = some (.cells #[a, b, c, d, e] ty (0, 0)) := by
  have h1 : (W.setCell ⟨g, 0, none⟩ a).heap[g]? = some (.cells #[a, x1, x2, x3, x4] ty (0, 0)) := heap_setCell_same W g 0 _ ty _ h
  have h2 : ((W.setCell ⟨g, 0, none⟩ a).setCell ⟨g, 1, none⟩ b).heap[g]? = some (.cells #[a, b, x2, x3, x4] ty (0, 0)) := heap_setCell_same _ g 1 _ ty _ h1
  have h3 : (((W.setCell ⟨g, 0, none⟩ a).setCell ⟨g, 1, none⟩ b).setCell ⟨g, 2, none⟩ c).heap[g]? = some (.cells #[a, b, c, x3, x4] ty (0, 0)) := heap_setCell_same _ g 2 _ ty _ h2
  have h4 : ((((W.setCell ⟨g, 0, none⟩ a).setCell ⟨g, 1, none⟩ b).setCell ⟨g, 2, none⟩ c).setCell ⟨g, 3, none⟩ d).heap[g]? = some (.cells #[a, b, c, d, x4] ty (0, 0)) := heap_setCell_same _ g 3 _ ty _ h3
  exact heap_setCell_same _ g 4 _ ty _ h4
abbrev zSale : Array Value := #[.string ⟨#[]⟩, .slice none 0 0, iv 0, .slice none 0 0, iv 0]
set_option maxRecDepth 100000 in
set_option maxHeartbeats 1600000 in
theorem tkclone_any (s : Sl) (lp : Option Addr) (lc : Nat) (tp : Option Addr) (tc : Nat) (w : World) (hL : Row w 3 lgC lp s.legs) (hT : Row w 2 txC tp s.taxes) (hlc : s.legs.length ≤ lc) (htc : s.taxes.length ≤ tc) (hl : s.legs.length ≤ 1000) (ht : s.taxes.length ≤ 1000) :
    Calls Try.prog 30 #[.agg (saV s lp lc tp tc)] w fun e w' => ∃ lp' lc' tp' tc', e = .returned (.agg (saV s lp' lc' tp' tc')) ∧ s.legs.length ≤ lc' ∧ s.taxes.length ≤ tc' ∧ RowA w' (w.heap.size + 2) 3 lgC lp' s.legs ∧ RowA w' (w.heap.size + 2) 2 txC tp' s.taxes ∧ Below w.heap.size w w' := by
  obtain ⟨wb, hwb⟩ : ∃ wb, wb = (w.alloc (.cells (saV s lp lc tp tc) 28)).alloc (.cells zSale 28) := ⟨_, rfl⟩
  have hb0 : Below w.heap.size w wb := by rw [hwb]; exact ((Below.refl _ _).alloc (Nat.le_refl _) _).alloc (by simp) _
  have hws : wb.heap.size = w.heap.size + 2 := by rw [hwb]; simp
  have hbB : wb.heap[w.heap.size]? = some (.cells (saV s lp lc tp tc) 28 (0, 0)) := by rw [hwb, Below.heap_alloc _ _ _ (by simp)]; exact heap_last _ _ _ rfl
  have hbR : wb.heap[w.heap.size + 1]? = some (.cells zSale 28 (0, 0)) := by rw [hwb]; exact heap_last _ _ _ (by simp)
  have HBB := Lib.hid (fun wz (hz : Below wb.heap.size wb wz) => (hz.block _ (lt_heap hbB)).trans hbB)
  have HBR := Lib.hid (fun wz (hz : Below wb.heap.size wb wz) => (hz.block _ (lt_heap hbR)).trans hbR)
  have HL := Lib.hid (fun W (h : Below wb.heap.size wb W) => clleg_any s.legs lp lc W ((hL.keep hb0).keep h) hlc (by omega))
  have HT := Lib.hid (fun W (h : Below wb.heap.size wb W) => cltax_any s.taxes tp tc W ((hT.keep hb0).keep h) htc (by omega))
  have HB0 := Lib.hid (show Below wb.heap.size wb wb.drew from (Below.refl _ wb).drew)
  have hR0 := HBB.out _ HB0.out
  have c1 : wb.drew.cell? ⟨w.heap.size, 1, none⟩ = some (.slice lp s.legs.length lc) := cell_arr hR0 1
  have c3 : wb.drew.cell? ⟨w.heap.size, 3, none⟩ = some (.slice tp s.taxes.length tc) := cell_arr hR0 3
  have HW := Lib.hid hb0
  have HWS := Lib.hid hws
  clear hL hT hlc htc hl ht hbB hbR hR0 hb0 hws
  go_enter Try.func30, Try.ntmps30
  go_wp2_with fail
  rw [← hwb]
  clear hwb
  go_region_law
    (go_simp
     first
       | (refine (HL.out _ HB0.out).mono ?_
          rintro e w1 ⟨p1, q1, rfl, hq1, hr1, hb1⟩
          have hz := HB0.out.trans (hb1.mono HB0.out.size)
          have d3 : w1.cell? ⟨w.heap.size, 3, none⟩ = some (.slice tp s.taxes.length tc) := cell_arr (HBB.out _ hz) 3
          have HQ1 := Lib.hid hq1
          have HR1 := Lib.hid (hr1.mono (base' := w.heap.size + 2) (by have := HB0.out.size; have := HWS.out; omega))
          have HB1 := Lib.hid hz
          clear hb1 hq1 hr1 hz)
       | (refine (HT.out _ HB1.out).mono ?_
          rintro e w2 ⟨p2, q2, rfl, hq2, hr2, hb2⟩
          have hz := HB1.out.trans (hb2.mono HB1.out.size)
          have HR1' := Lib.hid (HR1.out.keep hb2)
          have hA := HBB.out _ hz
          have e0 : w2.cell? ⟨w.heap.size, 0, none⟩ = some (str s.name) := cell_arr hA 0
          have e1 : w2.cell? ⟨w.heap.size, 1, none⟩ = some (.slice lp s.legs.length lc) := cell_arr hA 1
          have e2 : w2.cell? ⟨w.heap.size, 2, none⟩ = some (iv s.fare) := cell_arr hA 2
          have e3 : w2.cell? ⟨w.heap.size, 3, none⟩ = some (.slice tp s.taxes.length tc) := cell_arr hA 3
          have e4 : w2.cell? ⟨w.heap.size, 4, none⟩ = some (iv s.pen) := cell_arr hA 4
          have f1 : w2.frozen? ⟨w.heap.size, 1, none⟩ = false := frozen_of_row _ _ _ _ _ hA
          have f3 : w2.frozen? ⟨w.heap.size, 3, none⟩ = false := frozen_of_row _ _ _ _ _ hA
          have HQ2 := Lib.hid hq2
          have HR2 := Lib.hid (hr2.mono (base' := w.heap.size + 2) (by have := HB1.out.size; have := HWS.out; omega))
          have HB2 := Lib.hid hz
          have HAA := Lib.hid hA
          clear hb2 hq2 hr2 hz hA))
  all_goals
    have HR := Lib.hid (HBR.out _ HB2.out)
    have hz2 : w.heap.size + 2 ≤ w2.heap.size := by have := HB2.out.size; have := HWS.out; omega
    have hA5 := set2c HAA.out (.slice p1 s.legs.length q1) (.slice p2 s.taxes.length q2)
    have h5 : Below w.heap.size w2 ((w2.setCell ⟨w.heap.size, 1, none⟩ (.slice p1 s.legs.length q1)).setCell ⟨w.heap.size, 3, none⟩ (.slice p2 s.taxes.length q2)) := ((Below.refl w.heap.size w2).setCell (p := ⟨w.heap.size, 1, none⟩) (Nat.le_refl _) _).setCell (p := ⟨w.heap.size, 3, none⟩) (Nat.le_refl _) _
    have hk5 : ∀ b, w.heap.size + 1 ≤ b → ((w2.setCell ⟨w.heap.size, 1, none⟩ (.slice p1 s.legs.length q1)).setCell ⟨w.heap.size, 3, none⟩ (.slice p2 s.taxes.length q2)).heap[b]? = w2.heap[b]? := fun b hb =>
      (Below.heap_setCell _ _ _ _ (show b ≠ w.heap.size by omega)).trans (Below.heap_setCell _ _ _ _ (show b ≠ w.heap.size by omega))
    have hR5 := (hk5 _ (Nat.le_refl _)).trans HR.out
    have HL5 := Lib.hid (HR1'.out.keepA h5.size (fun b hb _ => hk5 b (by omega)))
    have HT5 := Lib.hid (HR2.out.keepA h5.size (fun b hb _ => hk5 b (by omega)))
    have HB5 := Lib.hid (HW.out.trans ((HB2.out.mono (by have := HWS.out; omega)).trans h5))
    have hz5 := Nat.le_trans hz2 h5.size
    clear hk5 e0 e1 e2 e3 e4 f1 f3
    generalize (w2.setCell _ _).setCell _ _ = w5 at *
    have e0 : w5.cell? ⟨w.heap.size, 0, none⟩ = some (str s.name) := cell_arr hA5 0
    have e1 : w5.cell? ⟨w.heap.size, 1, none⟩ = some (.slice p1 s.legs.length q1) := cell_arr hA5 1
    have e2 : w5.cell? ⟨w.heap.size, 2, none⟩ = some (iv s.fare) := cell_arr hA5 2
    have e3 : w5.cell? ⟨w.heap.size, 3, none⟩ = some (.slice p2 s.taxes.length q2) := cell_arr hA5 3
    have e4 : w5.cell? ⟨w.heap.size, 4, none⟩ = some (iv s.pen) := cell_arr hA5 4
    have r0 : w5.cell? ⟨w.heap.size + 1, 0, none⟩ = some (.string ⟨#[]⟩) := cell_arr hR5 0
    have r1 : w5.cell? ⟨w.heap.size + 1, 1, none⟩ = some (.slice none 0 0) := cell_arr hR5 1
    have r2 : w5.cell? ⟨w.heap.size + 1, 2, none⟩ = some (iv 0) := cell_arr hR5 2
    have r3 : w5.cell? ⟨w.heap.size + 1, 3, none⟩ = some (.slice none 0 0) := cell_arr hR5 3
    have r4 : w5.cell? ⟨w.heap.size + 1, 4, none⟩ = some (iv 0) := cell_arr hR5 4
    have f0 := frozen_of_row w5 (w.heap.size + 1) 0 _ _ hR5
    have f1 := frozen_of_row w5 (w.heap.size + 1) 1 _ _ hR5
    have f2 := frozen_of_row w5 (w.heap.size + 1) 2 _ _ hR5
    have f3 := frozen_of_row w5 (w.heap.size + 1) 3 _ _ hR5
    have f4 := frozen_of_row w5 (w.heap.size + 1) 4 _ _ hR5
    have HR5 := Lib.hid hR5
    clear hA5 hR5 h5
    go_wp2
    refine bodyPost_ret (results_cell_row rfl _ _ (w.heap.size + 1) 28 _ (0, 0) _ rfl (set5c HR5.out _ _ _ _ _) Try.underlying28 rfl sizeSale) rfl ?_
    have hS : ∀ v0 v1 v2 v3 v4 b, b ≠ w.heap.size + 1 → (((((w5.setCell ⟨w.heap.size + 1, 0, none⟩ v0).setCell ⟨w.heap.size + 1, 1, none⟩ v1).setCell ⟨w.heap.size + 1, 2, none⟩ v2).setCell ⟨w.heap.size + 1, 3, none⟩ v3).setCell ⟨w.heap.size + 1, 4, none⟩ v4).heap[b]? = w5.heap[b]? := fun v0 v1 v2 v3 v4 b hb =>
      (Below.heap_setCell _ _ _ _ hb).trans ((Below.heap_setCell _ _ _ _ hb).trans ((Below.heap_setCell _ _ _ _ hb).trans ((Below.heap_setCell _ _ _ _ hb).trans (Below.heap_setCell _ _ _ _ hb))))
    refine ⟨p1, q1, p2, q2, rfl, HQ1.out, HQ2.out, HL5.out.keepA (by simp [World.setCell]) (fun b hb _ => hS _ _ _ _ _ b (by omega)), HT5.out.keepA (by simp [World.setCell]) (fun b hb _ => hS _ _ _ _ _ b (by omega)), ?_⟩
    exact ((((HB5.out.setCell (Nat.le_succ _) _).setCell (Nat.le_succ _) _).setCell (Nat.le_succ _) _).setCell (Nat.le_succ _) _).setCell (Nat.le_succ _) _
end Go.Proofs.Ytpapcilffkpjjaa
