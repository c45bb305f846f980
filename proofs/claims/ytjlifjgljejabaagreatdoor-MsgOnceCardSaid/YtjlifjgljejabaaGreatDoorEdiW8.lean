/- Contract of edi.areShort. -/
import Derived.Test.YtjlifjgljejabaaGreatDoorEdiW6
namespace Go.Proofs.YtjlifjgljejabaaGreatDoor
open Go.RowKit Go.Edi

theorem shortS_no {s : Sg} (h : ¬ s.els.length ≤ 16) : shortS s = false := by unfold shortS; rw [decide_eq_false h]; rfl
theorem shortS_ok {s : Sg} (h : s.els.length ≤ 16) : shortS s = s.els.all shortE := by unfold shortS; rw [decide_eq_true h]; rfl
set_option maxRecDepth 100000 in
set_option maxHeartbeats 3200000 in
theorem areShort_any (l : List Sg) (v : Value) (w : World) (hv : SegsF w (· < w.heap.size) v l) (hfit : sane l) :
    Calls Tryz.prog 58 #[v] w fun e w' => e = .returned (.bool (decide (l.length ≤ 64) && l.all shortS)) ∧ Below w.heap.size w w' := by
  have HF := Lib.hid hfit
  obtain ⟨xs, ⟨p, cap, rfl, hnc, hp⟩, hxs⟩ := hv
  have HP := Lib.hid hp
  have HXS := Lib.hid hxs
  clear hp hxs hfit
  by_cases h64 : (64 : Int) < (l.length : Int)
  · have HA := Lib.hid (show (decide (l.length ≤ 64) && l.all shortS) = false by rw [decide_eq_false (by omega)]; rfl)
    go_enter Tryz.func58, Tryz.ntmps58
    go_wp2
    go_ret
    exact ⟨ret_bool HA.out.symm, Below.refl _ _⟩
  · have HS := Lib.hid (show (decide (l.length ≤ 64) && l.all shortS) = l.all shortS by rw [decide_eq_true (by omega)]; rfl)
    go_enter Tryz.func58, Tryz.ntmps58
    go_wp2
    go_loopw [12] (fun i wr => ∃ k : Nat, i = .int .i64 k ∧ k ≤ l.length ∧ (l.take k).all shortS = true ∧ Below w.heap.size w wr) (fun i _ => l.length - (intOf i).toNat)
    case atStart => exact ⟨0, rfl, Nat.zero_le _, rfl, Below.refl _ _⟩
    case round =>
      obtain ⟨k, rfl, hk, hal, hb⟩ := hrel
      by_cases hlt : (k : Int) < (l.length : Int)
      · have hkl : k < l.length := by omega
        have hk0 : (0 : Int) ≤ (k : Int) := Int.natCast_nonneg _
        obtain ⟨b, o, rfl, hF, hc⟩ := HP.out (by omega)
        obtain ⟨hc1, pe, cape, ys, hc2, hnce, hrow, hel⟩ := seg_cells hc HXS.out (hb.block b hF) hkl
        have h1 := all_snoc shortS l k hkl
        have h2 := all_false shortS l k hkl
        have h3 := HF.out.2 _ (List.getElem_mem hkl)
        generalize l[k]'hkl = y at *
        have HB := Lib.hid (hb.alloc hb.size (.cells #[str y.tag, .slice pe y.els.length cape] 59))
        by_cases h16 : (16 : Int) < (y.els.length : Int)
        · have HA := Lib.hid (show l.all shortS = false from h2 (shortS_no (by omega)))
          clear hal hb h1 h2 hc h3 hrow hel
          go_wp2
          go_ret
          exact ⟨ret_bool (by rw [HS.out, HA.out]), HB.out⟩
        · have HSS := Lib.hid (shortS_ok (s := y) (by omega))
          have HAL := Lib.hid hal
          have H1 := Lib.hid h1
          have H2 := Lib.hid h2
          have H3 := Lib.hid h3
          have HROW := Lib.hid hrow
          have HEL := Lib.hid hel
          clear hal hb h1 h2 hc h3 hrow hel
          go_wp2
          go_loopw [23] (fun i wr2 => ∃ j : Nat, i = .int .i64 j ∧ j ≤ y.els.length ∧ (y.els.take j).all shortE = true ∧ Below w.heap.size w wr2) (fun i _ => y.els.length - (intOf i).toNat)
          case atStart => exact ⟨0, rfl, Nat.zero_le _, rfl, HB.out⟩
          case round =>
            obtain ⟨j, rfl, hj, hal2, hb2⟩ := hrel
            have HB2 := Lib.hid hb2
            by_cases hlt2 : (j : Int) < (y.els.length : Int)
            · have hjl : j < y.els.length := by omega
              have hj0 : (0 : Int) ≤ (j : Int) := Int.natCast_nonneg _
              obtain ⟨pr, capr, hre, _, hpr⟩ := HROW.out
              simp only [Value.slice.injEq, true_and] at hre
              obtain ⟨rfl, rfl⟩ := hre
              obtain ⟨b2, o2, rfl, hF2, hc3⟩ := hpr (by omega)
              obtain ⟨pj, capj, hcj, hncj, hst⟩ := el_cell hc3 HEL.out (hb2.block b2 hF2) hjl
              have g1 := all_snoc shortE y.els j hjl
              have g2 := all_false shortE y.els j hjl
              have g3 := H3.out.2 _ (List.getElem_mem hjl)
              generalize y.els[j]'hjl = z at *
              have hq := isShortElem_any z (.slice pj z.length capj) wr (hst.kept (old_kept hb2 (Nat.le_refl _))) g3.2
              by_cases hz : shortE z = true
              · rw [hz] at hq
                have HQ := Lib.hid hq
                have HA := Lib.hid (show (y.els.take (j + 1)).all shortE = true by rw [g1, hal2, hz]; rfl)
                clear hal2 hb2 g1 g2 g3 hc3 hst hq
                go_wp2_with (go_at_call 86; refine (HQ.out).mono ?_)
                first | rintro e w5 rfl hb5 | rintro e w5 ⟨rfl, hb5⟩
                have HB5 := Lib.hid (HB2.out.trans (hb5.mono HB2.out.size))
                clear hb5
                go_wp2
                go_roundw
                case rel => exact ⟨j + 1, by go_num, by omega, HA.out, HB5.out⟩
                case measure => simp [intOf]; omega
              · have hzf : shortE z = false := by simpa using hz
                rw [hzf] at hq
                have HQ := Lib.hid hq
                have HA := Lib.hid (show l.all shortS = false from H2.out (by rw [HSS.out]; exact g2 hzf))
                clear hal2 hb2 g1 g2 g3 hc3 hst hq
                go_wp2_with (go_at_call 86; refine (HQ.out).mono ?_)
                first | rintro e w5 rfl hb5 | rintro e w5 ⟨rfl, hb5⟩
                have HB5 := Lib.hid (HB2.out.trans (hb5.mono HB2.out.size))
                clear hb5
                go_wp2
                go_ret
                exact ⟨ret_bool (by rw [HS.out, HA.out]), HB5.out⟩
            · obtain rfl : j = y.els.length := by omega
              rw [List.take_length] at hal2
              have HA := Lib.hid (show (l.take (k + 1)).all shortS = true by rw [H1.out, HAL.out, HSS.out, hal2]; rfl)
              clear hal2 hb2
              go_wp2
              go_roundw
              case rel => exact ⟨k + 1, by go_num, by omega, HA.out, HB2.out⟩
              case measure => simp [intOf]; omega
      · obtain rfl : k = l.length := by omega
        rw [List.take_length] at hal
        have HA := Lib.hid hal
        have HB := Lib.hid hb
        clear hal hb
        go_wp2
        go_ret
        exact ⟨ret_bool (by rw [HS.out, HA.out]), HB.out⟩
end Go.Proofs.YtjlifjgljejabaaGreatDoor
