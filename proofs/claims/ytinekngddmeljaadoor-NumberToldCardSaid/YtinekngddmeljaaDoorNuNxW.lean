/- The walk of NumberNext: the next serial, the next carrier. -/
import Derived.Test.YtinekngddmeljaaDoorNuL
namespace Go.Proofs.YtinekngddmeljaaDoor
open Go.RowKit Go.Shelf Go.Number

theorem tx_two (c s : Nat) : (∃ m : Tx, textL c s = (m, 0) ∧ m.length = 14 ∧ (∀ h : 13 < (tx m).size, (((tx m)[13]'h).toNat : Int) = 48 + (chk (body c s) : Int)) ∧ may c s) ∨ textL c s = ([], 1) := by
  by_cases h : may c s
  · refine .inl ⟨full c s, text_in h, full_len c s, fun h13 => ?_, h⟩
    have hb := body_len c s
    have e : (full c s)[13]'(by rw [full_len]; omega) = UInt8.ofNat (48 + chk (body c s) % 10) := by
      unfold full
      rw [List.getElem_append_right (by omega)]
      simp only [hb]
      rfl
    have e2 : (((tx (full c s))[13]'h13).toNat : Int) = (((full c s)[13]'(by rw [full_len]; omega)).toNat : Int) := rfl
    have := chk_lt (body c s)
    rw [e2, e, UInt8.toNat_ofNat']
    omega
  · exact .inr (text_out h)
theorem chk_next {c s : Nat} (h1 : may c s) (h2 : may c (s + 1)) : (chk (body c (s + 1)) : Int) = ((chk (body c s) : Int) + 1) % 7 := by
  unfold chk; rw [val_body h1, val_body h2]; omega
theorem chk_other {c s : Nat} (h1 : may c s) (h2 : may (c + 1) s) : (chk (body (c + 1) s) : Int) = ((chk (body c s) : Int) + 4) % 7 := by
  unfold chk; rw [val_body h1, val_body h2]; omega
theorem below_drewN (B : Nat) (w : World) (m : Nat) : Below B w (w.drewN m) := ⟨rfl, rfl, rfl, Nat.le_refl _, fun _ _ => rfl⟩
set_option maxRecDepth 100000 in
set_option maxHeartbeats 6400000 in
theorem nnext_any (c s : Nat) (hc : c < 256) (hs : s < 18446744073709551616) (B : Nat) (w : World) (htab : Tab B w) (hB : B ≤ w.heap.size) : Calls Tryd.prog 8 #[.agg (tkV c s)] w fun e w' => e = .returned (.bool true) ∧ Below w.heap.size w w' := by
  obtain ⟨wb, hwb⟩ : ∃ wb, wb = w.alloc (.cells (tkV c s) 24) := ⟨_, rfl⟩
  have hbw : Below w.heap.size w wb := by rw [hwb]; exact (Below.refl _ _).alloc (Nat.le_refl _) _
  have hb0 : wb.heap[w.heap.size]? = some (.cells (tkV c s) 24 (0, 0)) := by rw [hwb]; exact World.alloc_heap_new w _
  have hws : wb.heap.size = w.heap.size + 1 := by rw [hwb, size_a]
  have CB : ∀ wz : World, Below wb.heap.size wb wz → wz.heap[w.heap.size]? = some (.cells (tkV c s) 24 (0, 0)) := fun wz hz => (hz.block _ (by rw [hws]; exact Nat.lt_succ_self _)).trans hb0
  have HCB := Lib.hid CB
  have HFIN := Lib.hid (show ∀ wz : World, Below wb.heap.size wb wz → Below w.heap.size w wz from fun wz hz => hbw.trans (hz.mono hbw.size))
  have HT := Lib.hid (show ∀ wz : World, Below wb.heap.size wb wz → Tab B wz ∧ B ≤ wz.heap.size from fun wz hz => ⟨htab.on ((hbw.mono hB).trans (hz.mono (Nat.le_trans hB hbw.size))), Nat.le_trans hB (Nat.le_trans hbw.size hz.size)⟩)
  have HB0 := Lib.hid (Below.refl wb.heap.size wb)
  have H3 := Lib.hid (fun W (h : Below wb.heap.size wb W) => tells_any B W (HT.out _ h).1 (HT.out _ h).2)
  obtain ⟨s1, hs1, hw1⟩ : ∃ s1 : Nat, s1 = (s + 1) % 18446744073709551616 ∧ IntKind.u64.wrap ((s : Int) + 1) = (s1 : Int) := ⟨_, rfl, by rw [IntKind.wrap_u64]; omega⟩
  obtain ⟨c1, hc1, hw2⟩ : ∃ c1 : Nat, c1 = (c + 1) % 256 ∧ IntKind.u8.wrap ((c : Int) + 1) = (c1 : Int) := ⟨_, rfl, by rw [IntKind.wrap_u8]; omega⟩
  have T1 := Lib.hid (fun W (h : Below wb.heap.size wb W) => text_any c s hc B W (HT.out _ h).1 (HT.out _ h).2)
  have T2 := Lib.hid (fun W (h : Below wb.heap.size wb W) => text_any c s1 hc B W (HT.out _ h).1 (HT.out _ h).2)
  have T3 := Lib.hid (fun W (h : Below wb.heap.size wb W) => text_any c1 s (by omega) B W (HT.out _ h).1 (HT.out _ h).2)
  have R1 : ∀ m m' : Tx, textL c s = (m, 0) → textL c s1 = (m', 0) → (chk (body c s1) : Int) = ((chk (body c s) : Int) + 1) % 7 := fun m m' h1 h2 => by
    by_cases g1 : may c s
    · by_cases g2 : may c s1
      · have : s1 = s + 1 := by have := g1.2.2; omega
        subst this
        exact chk_next g1 g2
      · rw [text_out g2] at h2; simp at h2
    · rw [text_out g1] at h1; simp at h1
  have R2 : ∀ m m' : Tx, textL c s = (m, 0) → textL c1 s = (m', 0) → (chk (body c1 s) : Int) = ((chk (body c s) : Int) + 4) % 7 := fun m m' h1 h2 => by
    by_cases g1 : may c s
    · by_cases g2 : may c1 s
      · have : c1 = c + 1 := by have := g1.1; omega
        subst this
        exact chk_other g1 g2
      · rw [text_out g2] at h2; simp at h2
    · rw [text_out g1] at h1; simp at h1
  have k1 := chk_lt (body c s)
  have k2 := chk_lt (body c s1)
  have k3 := chk_lt (body c1 s)
  have X1 := tx_two c s
  have X2 := tx_two c s1
  have X3 := tx_two c1 s
  have hc0 : (0 : Int) ≤ (c : Int) := Int.natCast_nonneg _
  have hs0 : (0 : Int) ≤ (s : Int) := Int.natCast_nonneg _
  generalize textL c s = r1 at *
  generalize textL c s1 = r2 at *
  generalize textL c1 s = r3 at *
  generalize chk (body c s) = D1 at *
  generalize chk (body c s1) = D2 at *
  generalize chk (body c1 s) = D3 at *
  have k1' : (D1 : Int) ≤ 6 := by omega
  have k2' : (D2 : Int) ≤ 6 := by omega
  have k3' : (D3 : Int) ≤ 6 := by omega
  have k10 : (0 : Int) ≤ (D1 : Int) := Int.natCast_nonneg _
  have k20 : (0 : Int) ≤ (D2 : Int) := Int.natCast_nonneg _
  have k30 : (0 : Int) ≤ (D3 : Int) := Int.natCast_nonneg _
  clear CB hb0 hbw hws htab hB hs1 hc1 k1 k2 k3 hc hs
  rcases X1 with ⟨m1, rfl, l1, b1, _⟩ | rfl
  · rcases X2 with ⟨m2, rfl, l2, b2, _⟩ | rfl
    · rcases X3 with ⟨m3, rfl, l3, b3, _⟩ | rfl
      · have E1 := R1 _ _ rfl rfl
        have hne1 : ((D2 : Int) != ((D1 : Int) + 1) % 7) = false := by rw [← E1]; simp
        clear E1
        have E2 := R2 _ _ rfl rfl
        have hne2 : ((D3 : Int) != ((D1 : Int) + 4) % 7) = false := by rw [← E2]; simp
        clear E2
        have z1 : (tx m1).size = 14 := by rw [tx_size]; exact l1
        have i1 : (m1.length : Int) = 14 := by omega
        have h1 : 13 < (tx m1).size := by omega
        have b1 := b1 h1
        clear l1
        have z2 : (tx m2).size = 14 := by rw [tx_size]; exact l2
        have i2 : (m2.length : Int) = 14 := by omega
        have h2 : 13 < (tx m2).size := by omega
        have b2 := b2 h2
        clear l2
        have z3 : (tx m3).size = 14 := by rw [tx_size]; exact l3
        have i3 : (m3.length : Int) = 14 := by omega
        have h3 : 13 < (tx m3).size := by omega
        have b3 := b3 h3
        clear l3
        clear R1 R2
        go_enter Tryd.func8, Tryd.ntmps8
        go_wp2_with fail
        go_at_call 9
        rw [← hwb]
        clear hwb
        refine (T1.out _ HB0.out).mono ?_
        rintro e w1 ⟨rfl, hb1⟩
        have q0 : w1.cell? ⟨w.heap.size, 0, none⟩ = some (.int .u8 (c : Int)) := cell_of_arr (HCB.out _ hb1) 0
        have q1 : w1.cell? ⟨w.heap.size, 1, none⟩ = some (.int .u64 (s : Int)) := cell_of_arr (HCB.out _ hb1) 1
        have q2 : ∀ o, (w1.alloc o).cell? ⟨w.heap.size, 1, none⟩ = some (.int .u64 (s : Int)) := fun o => cell_of_arr (HCB.out _ (hb1.alloc hb1.size o)) 1
        have HB1 := Lib.hid (hb1.alloc hb1.size (.cells (tkV c s1) 24))
        clear hb1
        go_wp2_with fail
        go_at_call 9
        refine (T2.out _ HB1.out).mono ?_
        rintro e w2 ⟨rfl, hb2⟩
        have hb2' := HB1.out.trans (hb2.mono HB1.out.size)
        have HB2 := Lib.hid hb2'
        have HQ2 := Lib.hid (fun wz (h : Below wb.heap.size wb wz) => show wz.cell? ⟨w.heap.size, 0, none⟩ = some (.int .u8 (c : Int)) ∧ wz.cell? ⟨w.heap.size, 1, none⟩ = some (.int .u64 (s : Int)) from ⟨cell_of_arr (HCB.out _ h) 0, cell_of_arr (HCB.out _ h) 1⟩)
        clear q0 q1 q2 hb2 hb2'
        go_wp2_with fail
        go_quiet (fail)
        obtain ⟨wd, hwd⟩ : ∃ wd, wd = w2.drewN nq := ⟨_, rfl⟩
        have hbd : Below wb.heap.size wb wd := by rw [hwd]; exact HB2.out.trans (below_drewN _ _ _)
        rw [← hwd]
        clear hwd
        obtain ⟨q0, q1⟩ := HQ2.out _ hbd
        have q2 : ∀ o, (wd.alloc o).cell? ⟨w.heap.size, 0, none⟩ = some (.int .u8 (c : Int)) := fun o => (HQ2.out _ (hbd.alloc hbd.size o)).1
        have HB3 := Lib.hid (hbd.alloc hbd.size (.cells (tkV c1 s) 24))
        clear hbd
        go_wp2_with fail
        go_at_call 9
        refine (T3.out _ HB3.out).mono ?_
        rintro e w4 ⟨rfl, hb4⟩
        have HB4 := Lib.hid (HB3.out.trans (hb4.mono HB3.out.size))
        clear hb4 q0 q1 q2
        go_wp2_with fail
        go_quiet (fail)
        go_wp2_with fail
        go_at_call 11
        refine (H3.out _ (HB4.out.trans (below_drewN _ _ _))).mono ?_
        rintro e w5 ⟨rfl, hb5⟩
        have HB5 := Lib.hid (HB4.out.trans ((below_drewN _ _ _).trans (hb5.mono HB4.out.size)))
        clear hb5
        go_wp2
        go_ret
        exact ⟨rfl, HFIN.out _ HB5.out⟩
      · have E1 := R1 _ _ rfl rfl
        have hne1 : ((D2 : Int) != ((D1 : Int) + 1) % 7) = false := by rw [← E1]; simp
        clear E1
        have z1 : (tx m1).size = 14 := by rw [tx_size]; exact l1
        have i1 : (m1.length : Int) = 14 := by omega
        have h1 : 13 < (tx m1).size := by omega
        have b1 := b1 h1
        clear l1
        have z2 : (tx m2).size = 14 := by rw [tx_size]; exact l2
        have i2 : (m2.length : Int) = 14 := by omega
        have h2 : 13 < (tx m2).size := by omega
        have b2 := b2 h2
        clear l2
        clear R1 R2
        go_enter Tryd.func8, Tryd.ntmps8
        go_wp2_with fail
        go_at_call 9
        rw [← hwb]
        clear hwb
        refine (T1.out _ HB0.out).mono ?_
        rintro e w1 ⟨rfl, hb1⟩
        have q0 : w1.cell? ⟨w.heap.size, 0, none⟩ = some (.int .u8 (c : Int)) := cell_of_arr (HCB.out _ hb1) 0
        have q1 : w1.cell? ⟨w.heap.size, 1, none⟩ = some (.int .u64 (s : Int)) := cell_of_arr (HCB.out _ hb1) 1
        have q2 : ∀ o, (w1.alloc o).cell? ⟨w.heap.size, 1, none⟩ = some (.int .u64 (s : Int)) := fun o => cell_of_arr (HCB.out _ (hb1.alloc hb1.size o)) 1
        have HB1 := Lib.hid (hb1.alloc hb1.size (.cells (tkV c s1) 24))
        clear hb1
        go_wp2_with fail
        go_at_call 9
        refine (T2.out _ HB1.out).mono ?_
        rintro e w2 ⟨rfl, hb2⟩
        have hb2' := HB1.out.trans (hb2.mono HB1.out.size)
        have HB2 := Lib.hid hb2'
        have HQ2 := Lib.hid (fun wz (h : Below wb.heap.size wb wz) => show wz.cell? ⟨w.heap.size, 0, none⟩ = some (.int .u8 (c : Int)) ∧ wz.cell? ⟨w.heap.size, 1, none⟩ = some (.int .u64 (s : Int)) from ⟨cell_of_arr (HCB.out _ h) 0, cell_of_arr (HCB.out _ h) 1⟩)
        clear q0 q1 q2 hb2 hb2'
        go_wp2_with fail
        go_quiet (fail)
        obtain ⟨wd, hwd⟩ : ∃ wd, wd = w2.drewN nq := ⟨_, rfl⟩
        have hbd : Below wb.heap.size wb wd := by rw [hwd]; exact HB2.out.trans (below_drewN _ _ _)
        rw [← hwd]
        clear hwd
        obtain ⟨q0, q1⟩ := HQ2.out _ hbd
        have q2 : ∀ o, (wd.alloc o).cell? ⟨w.heap.size, 0, none⟩ = some (.int .u8 (c : Int)) := fun o => (HQ2.out _ (hbd.alloc hbd.size o)).1
        have HB3 := Lib.hid (hbd.alloc hbd.size (.cells (tkV c1 s) 24))
        clear hbd
        go_wp2_with fail
        go_at_call 9
        refine (T3.out _ HB3.out).mono ?_
        rintro e w4 ⟨rfl, hb4⟩
        have HB4 := Lib.hid (HB3.out.trans (hb4.mono HB3.out.size))
        clear hb4 q0 q1 q2
        go_wp2_with fail
        go_quiet (fail)
        go_wp2_with fail
        go_at_call 11
        refine (H3.out _ (HB4.out.trans (below_drewN _ _ _))).mono ?_
        rintro e w5 ⟨rfl, hb5⟩
        have HB5 := Lib.hid (HB4.out.trans ((below_drewN _ _ _).trans (hb5.mono HB4.out.size)))
        clear hb5
        go_wp2
        go_ret
        exact ⟨rfl, HFIN.out _ HB5.out⟩
    · rcases X3 with ⟨m3, rfl, l3, b3, _⟩ | rfl
      · have E2 := R2 _ _ rfl rfl
        have hne2 : ((D3 : Int) != ((D1 : Int) + 4) % 7) = false := by rw [← E2]; simp
        clear E2
        have z1 : (tx m1).size = 14 := by rw [tx_size]; exact l1
        have i1 : (m1.length : Int) = 14 := by omega
        have h1 : 13 < (tx m1).size := by omega
        have b1 := b1 h1
        clear l1
        have z3 : (tx m3).size = 14 := by rw [tx_size]; exact l3
        have i3 : (m3.length : Int) = 14 := by omega
        have h3 : 13 < (tx m3).size := by omega
        have b3 := b3 h3
        clear l3
        clear R1 R2
        go_enter Tryd.func8, Tryd.ntmps8
        go_wp2_with fail
        go_at_call 9
        rw [← hwb]
        clear hwb
        refine (T1.out _ HB0.out).mono ?_
        rintro e w1 ⟨rfl, hb1⟩
        have q0 : w1.cell? ⟨w.heap.size, 0, none⟩ = some (.int .u8 (c : Int)) := cell_of_arr (HCB.out _ hb1) 0
        have q1 : w1.cell? ⟨w.heap.size, 1, none⟩ = some (.int .u64 (s : Int)) := cell_of_arr (HCB.out _ hb1) 1
        have q2 : ∀ o, (w1.alloc o).cell? ⟨w.heap.size, 1, none⟩ = some (.int .u64 (s : Int)) := fun o => cell_of_arr (HCB.out _ (hb1.alloc hb1.size o)) 1
        have HB1 := Lib.hid (hb1.alloc hb1.size (.cells (tkV c s1) 24))
        clear hb1
        go_wp2_with fail
        go_at_call 9
        refine (T2.out _ HB1.out).mono ?_
        rintro e w2 ⟨rfl, hb2⟩
        have hb2' := HB1.out.trans (hb2.mono HB1.out.size)
        have HB2 := Lib.hid hb2'
        have HQ2 := Lib.hid (fun wz (h : Below wb.heap.size wb wz) => show wz.cell? ⟨w.heap.size, 0, none⟩ = some (.int .u8 (c : Int)) ∧ wz.cell? ⟨w.heap.size, 1, none⟩ = some (.int .u64 (s : Int)) from ⟨cell_of_arr (HCB.out _ h) 0, cell_of_arr (HCB.out _ h) 1⟩)
        clear q0 q1 q2 hb2 hb2'
        go_wp2_with fail
        go_quiet (fail)
        obtain ⟨wd, hwd⟩ : ∃ wd, wd = w2.drewN nq := ⟨_, rfl⟩
        have hbd : Below wb.heap.size wb wd := by rw [hwd]; exact HB2.out.trans (below_drewN _ _ _)
        rw [← hwd]
        clear hwd
        obtain ⟨q0, q1⟩ := HQ2.out _ hbd
        have q2 : ∀ o, (wd.alloc o).cell? ⟨w.heap.size, 0, none⟩ = some (.int .u8 (c : Int)) := fun o => (HQ2.out _ (hbd.alloc hbd.size o)).1
        have HB3 := Lib.hid (hbd.alloc hbd.size (.cells (tkV c1 s) 24))
        clear hbd
        go_wp2_with fail
        go_at_call 9
        refine (T3.out _ HB3.out).mono ?_
        rintro e w4 ⟨rfl, hb4⟩
        have HB4 := Lib.hid (HB3.out.trans (hb4.mono HB3.out.size))
        clear hb4 q0 q1 q2
        go_wp2_with fail
        go_quiet (fail)
        go_wp2_with fail
        go_at_call 11
        refine (H3.out _ (HB4.out.trans (below_drewN _ _ _))).mono ?_
        rintro e w5 ⟨rfl, hb5⟩
        have HB5 := Lib.hid (HB4.out.trans ((below_drewN _ _ _).trans (hb5.mono HB4.out.size)))
        clear hb5
        go_wp2
        go_ret
        exact ⟨rfl, HFIN.out _ HB5.out⟩
      · have z1 : (tx m1).size = 14 := by rw [tx_size]; exact l1
        have i1 : (m1.length : Int) = 14 := by omega
        have h1 : 13 < (tx m1).size := by omega
        have b1 := b1 h1
        clear l1
        clear R1 R2
        go_enter Tryd.func8, Tryd.ntmps8
        go_wp2_with fail
        go_at_call 9
        rw [← hwb]
        clear hwb
        refine (T1.out _ HB0.out).mono ?_
        rintro e w1 ⟨rfl, hb1⟩
        have q0 : w1.cell? ⟨w.heap.size, 0, none⟩ = some (.int .u8 (c : Int)) := cell_of_arr (HCB.out _ hb1) 0
        have q1 : w1.cell? ⟨w.heap.size, 1, none⟩ = some (.int .u64 (s : Int)) := cell_of_arr (HCB.out _ hb1) 1
        have q2 : ∀ o, (w1.alloc o).cell? ⟨w.heap.size, 1, none⟩ = some (.int .u64 (s : Int)) := fun o => cell_of_arr (HCB.out _ (hb1.alloc hb1.size o)) 1
        have HB1 := Lib.hid (hb1.alloc hb1.size (.cells (tkV c s1) 24))
        clear hb1
        go_wp2_with fail
        go_at_call 9
        refine (T2.out _ HB1.out).mono ?_
        rintro e w2 ⟨rfl, hb2⟩
        have hb2' := HB1.out.trans (hb2.mono HB1.out.size)
        have HB2 := Lib.hid hb2'
        have HQ2 := Lib.hid (fun wz (h : Below wb.heap.size wb wz) => show wz.cell? ⟨w.heap.size, 0, none⟩ = some (.int .u8 (c : Int)) ∧ wz.cell? ⟨w.heap.size, 1, none⟩ = some (.int .u64 (s : Int)) from ⟨cell_of_arr (HCB.out _ h) 0, cell_of_arr (HCB.out _ h) 1⟩)
        clear q0 q1 q2 hb2 hb2'
        go_wp2_with fail
        go_quiet (fail)
        obtain ⟨wd, hwd⟩ : ∃ wd, wd = w2.drewN nq := ⟨_, rfl⟩
        have hbd : Below wb.heap.size wb wd := by rw [hwd]; exact HB2.out.trans (below_drewN _ _ _)
        rw [← hwd]
        clear hwd
        obtain ⟨q0, q1⟩ := HQ2.out _ hbd
        have q2 : ∀ o, (wd.alloc o).cell? ⟨w.heap.size, 0, none⟩ = some (.int .u8 (c : Int)) := fun o => (HQ2.out _ (hbd.alloc hbd.size o)).1
        have HB3 := Lib.hid (hbd.alloc hbd.size (.cells (tkV c1 s) 24))
        clear hbd
        go_wp2_with fail
        go_at_call 9
        refine (T3.out _ HB3.out).mono ?_
        rintro e w4 ⟨rfl, hb4⟩
        have HB4 := Lib.hid (HB3.out.trans (hb4.mono HB3.out.size))
        clear hb4 q0 q1 q2
        go_wp2_with fail
        go_quiet (fail)
        go_wp2_with fail
        go_at_call 11
        refine (H3.out _ (HB4.out.trans (below_drewN _ _ _))).mono ?_
        rintro e w5 ⟨rfl, hb5⟩
        have HB5 := Lib.hid (HB4.out.trans ((below_drewN _ _ _).trans (hb5.mono HB4.out.size)))
        clear hb5
        go_wp2
        go_ret
        exact ⟨rfl, HFIN.out _ HB5.out⟩
  · rcases X2 with ⟨m2, rfl, l2, b2, _⟩ | rfl
    · rcases X3 with ⟨m3, rfl, l3, b3, _⟩ | rfl
      · have z2 : (tx m2).size = 14 := by rw [tx_size]; exact l2
        have i2 : (m2.length : Int) = 14 := by omega
        have h2 : 13 < (tx m2).size := by omega
        have b2 := b2 h2
        clear l2
        have z3 : (tx m3).size = 14 := by rw [tx_size]; exact l3
        have i3 : (m3.length : Int) = 14 := by omega
        have h3 : 13 < (tx m3).size := by omega
        have b3 := b3 h3
        clear l3
        clear R1 R2
        go_enter Tryd.func8, Tryd.ntmps8
        go_wp2_with fail
        go_at_call 9
        rw [← hwb]
        clear hwb
        refine (T1.out _ HB0.out).mono ?_
        rintro e w1 ⟨rfl, hb1⟩
        have q0 : w1.cell? ⟨w.heap.size, 0, none⟩ = some (.int .u8 (c : Int)) := cell_of_arr (HCB.out _ hb1) 0
        have q1 : w1.cell? ⟨w.heap.size, 1, none⟩ = some (.int .u64 (s : Int)) := cell_of_arr (HCB.out _ hb1) 1
        have q2 : ∀ o, (w1.alloc o).cell? ⟨w.heap.size, 1, none⟩ = some (.int .u64 (s : Int)) := fun o => cell_of_arr (HCB.out _ (hb1.alloc hb1.size o)) 1
        have HB1 := Lib.hid (hb1.alloc hb1.size (.cells (tkV c s1) 24))
        clear hb1
        go_wp2_with fail
        go_at_call 9
        refine (T2.out _ HB1.out).mono ?_
        rintro e w2 ⟨rfl, hb2⟩
        have hb2' := HB1.out.trans (hb2.mono HB1.out.size)
        have HB2 := Lib.hid hb2'
        have HQ2 := Lib.hid (fun wz (h : Below wb.heap.size wb wz) => show wz.cell? ⟨w.heap.size, 0, none⟩ = some (.int .u8 (c : Int)) ∧ wz.cell? ⟨w.heap.size, 1, none⟩ = some (.int .u64 (s : Int)) from ⟨cell_of_arr (HCB.out _ h) 0, cell_of_arr (HCB.out _ h) 1⟩)
        clear q0 q1 q2 hb2 hb2'
        go_wp2_with fail
        go_quiet (fail)
        obtain ⟨wd, hwd⟩ : ∃ wd, wd = w2.drewN nq := ⟨_, rfl⟩
        have hbd : Below wb.heap.size wb wd := by rw [hwd]; exact HB2.out.trans (below_drewN _ _ _)
        rw [← hwd]
        clear hwd
        obtain ⟨q0, q1⟩ := HQ2.out _ hbd
        have q2 : ∀ o, (wd.alloc o).cell? ⟨w.heap.size, 0, none⟩ = some (.int .u8 (c : Int)) := fun o => (HQ2.out _ (hbd.alloc hbd.size o)).1
        have HB3 := Lib.hid (hbd.alloc hbd.size (.cells (tkV c1 s) 24))
        clear hbd
        go_wp2_with fail
        go_at_call 9
        refine (T3.out _ HB3.out).mono ?_
        rintro e w4 ⟨rfl, hb4⟩
        have HB4 := Lib.hid (HB3.out.trans (hb4.mono HB3.out.size))
        clear hb4 q0 q1 q2
        go_wp2_with fail
        go_quiet (fail)
        go_wp2_with fail
        go_at_call 11
        refine (H3.out _ (HB4.out.trans (below_drewN _ _ _))).mono ?_
        rintro e w5 ⟨rfl, hb5⟩
        have HB5 := Lib.hid (HB4.out.trans ((below_drewN _ _ _).trans (hb5.mono HB4.out.size)))
        clear hb5
        go_wp2
        go_ret
        exact ⟨rfl, HFIN.out _ HB5.out⟩
      · have z2 : (tx m2).size = 14 := by rw [tx_size]; exact l2
        have i2 : (m2.length : Int) = 14 := by omega
        have h2 : 13 < (tx m2).size := by omega
        have b2 := b2 h2
        clear l2
        clear R1 R2
        go_enter Tryd.func8, Tryd.ntmps8
        go_wp2_with fail
        go_at_call 9
        rw [← hwb]
        clear hwb
        refine (T1.out _ HB0.out).mono ?_
        rintro e w1 ⟨rfl, hb1⟩
        have q0 : w1.cell? ⟨w.heap.size, 0, none⟩ = some (.int .u8 (c : Int)) := cell_of_arr (HCB.out _ hb1) 0
        have q1 : w1.cell? ⟨w.heap.size, 1, none⟩ = some (.int .u64 (s : Int)) := cell_of_arr (HCB.out _ hb1) 1
        have q2 : ∀ o, (w1.alloc o).cell? ⟨w.heap.size, 1, none⟩ = some (.int .u64 (s : Int)) := fun o => cell_of_arr (HCB.out _ (hb1.alloc hb1.size o)) 1
        have HB1 := Lib.hid (hb1.alloc hb1.size (.cells (tkV c s1) 24))
        clear hb1
        go_wp2_with fail
        go_at_call 9
        refine (T2.out _ HB1.out).mono ?_
        rintro e w2 ⟨rfl, hb2⟩
        have hb2' := HB1.out.trans (hb2.mono HB1.out.size)
        have HB2 := Lib.hid hb2'
        have HQ2 := Lib.hid (fun wz (h : Below wb.heap.size wb wz) => show wz.cell? ⟨w.heap.size, 0, none⟩ = some (.int .u8 (c : Int)) ∧ wz.cell? ⟨w.heap.size, 1, none⟩ = some (.int .u64 (s : Int)) from ⟨cell_of_arr (HCB.out _ h) 0, cell_of_arr (HCB.out _ h) 1⟩)
        clear q0 q1 q2 hb2 hb2'
        go_wp2_with fail
        go_quiet (fail)
        obtain ⟨wd, hwd⟩ : ∃ wd, wd = w2.drewN nq := ⟨_, rfl⟩
        have hbd : Below wb.heap.size wb wd := by rw [hwd]; exact HB2.out.trans (below_drewN _ _ _)
        rw [← hwd]
        clear hwd
        obtain ⟨q0, q1⟩ := HQ2.out _ hbd
        have q2 : ∀ o, (wd.alloc o).cell? ⟨w.heap.size, 0, none⟩ = some (.int .u8 (c : Int)) := fun o => (HQ2.out _ (hbd.alloc hbd.size o)).1
        have HB3 := Lib.hid (hbd.alloc hbd.size (.cells (tkV c1 s) 24))
        clear hbd
        go_wp2_with fail
        go_at_call 9
        refine (T3.out _ HB3.out).mono ?_
        rintro e w4 ⟨rfl, hb4⟩
        have HB4 := Lib.hid (HB3.out.trans (hb4.mono HB3.out.size))
        clear hb4 q0 q1 q2
        go_wp2_with fail
        go_quiet (fail)
        go_wp2_with fail
        go_at_call 11
        refine (H3.out _ (HB4.out.trans (below_drewN _ _ _))).mono ?_
        rintro e w5 ⟨rfl, hb5⟩
        have HB5 := Lib.hid (HB4.out.trans ((below_drewN _ _ _).trans (hb5.mono HB4.out.size)))
        clear hb5
        go_wp2
        go_ret
        exact ⟨rfl, HFIN.out _ HB5.out⟩
    · rcases X3 with ⟨m3, rfl, l3, b3, _⟩ | rfl
      · have z3 : (tx m3).size = 14 := by rw [tx_size]; exact l3
        have i3 : (m3.length : Int) = 14 := by omega
        have h3 : 13 < (tx m3).size := by omega
        have b3 := b3 h3
        clear l3
        clear R1 R2
        go_enter Tryd.func8, Tryd.ntmps8
        go_wp2_with fail
        go_at_call 9
        rw [← hwb]
        clear hwb
        refine (T1.out _ HB0.out).mono ?_
        rintro e w1 ⟨rfl, hb1⟩
        have q0 : w1.cell? ⟨w.heap.size, 0, none⟩ = some (.int .u8 (c : Int)) := cell_of_arr (HCB.out _ hb1) 0
        have q1 : w1.cell? ⟨w.heap.size, 1, none⟩ = some (.int .u64 (s : Int)) := cell_of_arr (HCB.out _ hb1) 1
        have q2 : ∀ o, (w1.alloc o).cell? ⟨w.heap.size, 1, none⟩ = some (.int .u64 (s : Int)) := fun o => cell_of_arr (HCB.out _ (hb1.alloc hb1.size o)) 1
        have HB1 := Lib.hid (hb1.alloc hb1.size (.cells (tkV c s1) 24))
        clear hb1
        go_wp2_with fail
        go_at_call 9
        refine (T2.out _ HB1.out).mono ?_
        rintro e w2 ⟨rfl, hb2⟩
        have hb2' := HB1.out.trans (hb2.mono HB1.out.size)
        have HB2 := Lib.hid hb2'
        have HQ2 := Lib.hid (fun wz (h : Below wb.heap.size wb wz) => show wz.cell? ⟨w.heap.size, 0, none⟩ = some (.int .u8 (c : Int)) ∧ wz.cell? ⟨w.heap.size, 1, none⟩ = some (.int .u64 (s : Int)) from ⟨cell_of_arr (HCB.out _ h) 0, cell_of_arr (HCB.out _ h) 1⟩)
        clear q0 q1 q2 hb2 hb2'
        go_wp2_with fail
        go_quiet (fail)
        obtain ⟨wd, hwd⟩ : ∃ wd, wd = w2.drewN nq := ⟨_, rfl⟩
        have hbd : Below wb.heap.size wb wd := by rw [hwd]; exact HB2.out.trans (below_drewN _ _ _)
        rw [← hwd]
        clear hwd
        obtain ⟨q0, q1⟩ := HQ2.out _ hbd
        have q2 : ∀ o, (wd.alloc o).cell? ⟨w.heap.size, 0, none⟩ = some (.int .u8 (c : Int)) := fun o => (HQ2.out _ (hbd.alloc hbd.size o)).1
        have HB3 := Lib.hid (hbd.alloc hbd.size (.cells (tkV c1 s) 24))
        clear hbd
        go_wp2_with fail
        go_at_call 9
        refine (T3.out _ HB3.out).mono ?_
        rintro e w4 ⟨rfl, hb4⟩
        have HB4 := Lib.hid (HB3.out.trans (hb4.mono HB3.out.size))
        clear hb4 q0 q1 q2
        go_wp2_with fail
        go_quiet (fail)
        go_wp2_with fail
        go_at_call 11
        refine (H3.out _ (HB4.out.trans (below_drewN _ _ _))).mono ?_
        rintro e w5 ⟨rfl, hb5⟩
        have HB5 := Lib.hid (HB4.out.trans ((below_drewN _ _ _).trans (hb5.mono HB4.out.size)))
        clear hb5
        go_wp2
        go_ret
        exact ⟨rfl, HFIN.out _ HB5.out⟩
      · clear R1 R2
        go_enter Tryd.func8, Tryd.ntmps8
        go_wp2_with fail
        go_at_call 9
        rw [← hwb]
        clear hwb
        refine (T1.out _ HB0.out).mono ?_
        rintro e w1 ⟨rfl, hb1⟩
        have q0 : w1.cell? ⟨w.heap.size, 0, none⟩ = some (.int .u8 (c : Int)) := cell_of_arr (HCB.out _ hb1) 0
        have q1 : w1.cell? ⟨w.heap.size, 1, none⟩ = some (.int .u64 (s : Int)) := cell_of_arr (HCB.out _ hb1) 1
        have q2 : ∀ o, (w1.alloc o).cell? ⟨w.heap.size, 1, none⟩ = some (.int .u64 (s : Int)) := fun o => cell_of_arr (HCB.out _ (hb1.alloc hb1.size o)) 1
        have HB1 := Lib.hid (hb1.alloc hb1.size (.cells (tkV c s1) 24))
        clear hb1
        go_wp2_with fail
        go_at_call 9
        refine (T2.out _ HB1.out).mono ?_
        rintro e w2 ⟨rfl, hb2⟩
        have hb2' := HB1.out.trans (hb2.mono HB1.out.size)
        have HB2 := Lib.hid hb2'
        have HQ2 := Lib.hid (fun wz (h : Below wb.heap.size wb wz) => show wz.cell? ⟨w.heap.size, 0, none⟩ = some (.int .u8 (c : Int)) ∧ wz.cell? ⟨w.heap.size, 1, none⟩ = some (.int .u64 (s : Int)) from ⟨cell_of_arr (HCB.out _ h) 0, cell_of_arr (HCB.out _ h) 1⟩)
        clear q0 q1 q2 hb2 hb2'
        go_wp2_with fail
        go_quiet (fail)
        obtain ⟨wd, hwd⟩ : ∃ wd, wd = w2.drewN nq := ⟨_, rfl⟩
        have hbd : Below wb.heap.size wb wd := by rw [hwd]; exact HB2.out.trans (below_drewN _ _ _)
        rw [← hwd]
        clear hwd
        obtain ⟨q0, q1⟩ := HQ2.out _ hbd
        have q2 : ∀ o, (wd.alloc o).cell? ⟨w.heap.size, 0, none⟩ = some (.int .u8 (c : Int)) := fun o => (HQ2.out _ (hbd.alloc hbd.size o)).1
        have HB3 := Lib.hid (hbd.alloc hbd.size (.cells (tkV c1 s) 24))
        clear hbd
        go_wp2_with fail
        go_at_call 9
        refine (T3.out _ HB3.out).mono ?_
        rintro e w4 ⟨rfl, hb4⟩
        have HB4 := Lib.hid (HB3.out.trans (hb4.mono HB3.out.size))
        clear hb4 q0 q1 q2
        go_wp2_with fail
        go_quiet (fail)
        go_wp2_with fail
        go_at_call 11
        refine (H3.out _ (HB4.out.trans (below_drewN _ _ _))).mono ?_
        rintro e w5 ⟨rfl, hb5⟩
        have HB5 := Lib.hid (HB4.out.trans ((below_drewN _ _ _).trans (hb5.mono HB4.out.size)))
        clear hb5
        go_wp2
        go_ret
        exact ⟨rfl, HFIN.out _ HB5.out⟩
end Go.Proofs.YtinekngddmeljaaDoor
