/- Contracts of edi.arePlain and edi.areShort. -/
import Derived.Test.YtjlifjgljejabaaGreatDoorEdiW6
namespace Go.Proofs.YtjlifjgljejabaaGreatDoor
open Go.RowKit Go.Edi

def plnE (e : List Tx) : Bool := e.all (fun c => c.all pln)
def plnT (c : Tx) : Bool := c.all pln
theorem plainS_eq (s : Sg) : plainS s = s.els.all plnE := rfl
theorem plnE_eq (e : List Tx) : plnE e = e.all plnT := rfl
set_option maxRecDepth 100000 in
set_option maxHeartbeats 3200000 in
theorem arePlain_any (l : List Sg) (v : Value) (w : World) (hv : SegsF w (· < w.heap.size) v l) (hfit : sane l) :
    Calls Tryz.prog 57 #[v] w fun e w' => e = .returned (.bool (l.all plainS)) ∧ Below w.heap.size w w' := by
  have HF := Lib.hid hfit
  obtain ⟨xs, ⟨p, cap, rfl, hnc, hp⟩, hxs⟩ := hv
  have HP := Lib.hid hp
  have HXS := Lib.hid hxs
  have hbz : (l.length : Int) ≤ 1000000000000 := by have := hfit.1; omega
  clear hp hxs hfit
  go_enter Tryz.func57, Tryz.ntmps57
  go_wp2
  go_loopw [11] (fun i wr => ∃ k : Nat, i = .int .i64 k ∧ k ≤ l.length ∧ (l.take k).all plainS = true ∧ Below w.heap.size w wr) (fun i _ => l.length - (intOf i).toNat)
  case atStart => exact ⟨0, rfl, Nat.zero_le _, rfl, Below.refl _ _⟩
  case round =>
    obtain ⟨k, rfl, hk, hal, hb⟩ := hrel
    by_cases hlt : (k : Int) < (l.length : Int)
    · have hkl : k < l.length := by omega
      have hk0 : (0 : Int) ≤ (k : Int) := Int.natCast_nonneg _
      obtain ⟨b, o, rfl, hF, hc⟩ := HP.out (by omega)
      obtain ⟨hc1, pe, cape, ys, hc2, hnce, hrow, hel⟩ := seg_cells hc HXS.out (hb.block b hF) hkl
      have h1 := all_snoc plainS l k hkl
      have h2 := all_false plainS l k hkl
      have h3 := HF.out.2 _ (List.getElem_mem hkl)
      generalize l[k]'hkl = y at *
      have hbe : (y.els.length : Int) ≤ 1000000000000 := by omega
      have HB := Lib.hid (hb.alloc hb.size (.cells #[str y.tag, .slice pe y.els.length cape] 59))
      have HAL := Lib.hid hal
      have H1 := Lib.hid h1
      have H2 := Lib.hid h2
      have H3 := Lib.hid h3
      have HROW := Lib.hid hrow
      have HEL := Lib.hid hel
      clear hal hb h1 h2 hc h3 hrow hel
      go_wp2
      go_loopw [18] (fun i wr2 => ∃ j : Nat, i = .int .i64 j ∧ j ≤ y.els.length ∧ (y.els.take j).all plnE = true ∧ Below w.heap.size w wr2) (fun i _ => y.els.length - (intOf i).toNat)
      case atStart => exact ⟨0, rfl, Nat.zero_le _, rfl, HB.out⟩
      case round =>
        obtain ⟨j, rfl, hj, hal2, hb2⟩ := hrel
        have HB2 := Lib.hid hb2
        by_cases hlt2 : (j : Int) < (y.els.length : Int)
        · have hjl : j < y.els.length := by omega
          have hj0 : (0 : Int) ≤ (j : Int) := Int.natCast_nonneg _
          obtain ⟨pr, capr, hre, _, hpr⟩ := HROW.out
          simp only [Value.slice.injEq, true_and] at hre
          obtain ⟨rfl, rfl⟩ := hre
          obtain ⟨b2, o2, rfl, hF2, hc3⟩ := hpr (by omega)
          obtain ⟨pj, capj, hcj, hncj, hst⟩ := el_cell hc3 HEL.out (hb2.block b2 hF2) hjl
          have g1 := all_snoc plnE y.els j hjl
          have g2 := all_false plnE y.els j hjl
          have g3 := H3.out.2 _ (List.getElem_mem hjl)
          generalize y.els[j]'hjl = z at *
          have hbz2 : (z.length : Int) ≤ 1000000000000 := by omega
          have HAL2 := Lib.hid hal2
          have G1 := Lib.hid g1
          have G2 := Lib.hid g2
          have G3 := Lib.hid g3
          have HST := Lib.hid hst
          clear hal2 hb2 g1 g2 g3 hc3 hst
          go_wp2
          go_loopw [24] (fun i wr3 => ∃ m : Nat, i = .int .i64 m ∧ m ≤ z.length ∧ (z.take m).all plnT = true ∧ Below w.heap.size w wr3) (fun i _ => z.length - (intOf i).toNat)
          case atStart => exact ⟨0, rfl, Nat.zero_le _, rfl, HB2.out⟩
          case round =>
            obtain ⟨m, rfl, hm, hal3, hb3⟩ := hrel
            have HB3 := Lib.hid hb3
            by_cases hlt3 : (m : Int) < (z.length : Int)
            · have hml : m < z.length := by omega
              have hm0 : (0 : Int) ≤ (m : Int) := Int.natCast_nonneg _
              obtain ⟨pq, capq, hqe, _, hpq⟩ := HST.out
              simp only [Value.slice.injEq, true_and] at hqe
              obtain ⟨rfl, rfl⟩ := hqe
              obtain ⟨b3, o3, rfl, hF3, hc4⟩ := hpq (by omega)
              have hck : wr.cell? ⟨b3, o3 + m, none⟩ = some (str (z[m]'hml)) := (World.cell?_of_block (a := ⟨b3, o3 + m, none⟩) (hb3.block b3 hF3)).trans (hc4 m _ (by rw [List.getElem?_map, List.getElem?_eq_getElem hml]; rfl))
              have e1 := all_snoc plnT z m hml
              have e2 := all_false plnT z m hml
              have e3 := G3.out.2 _ (List.getElem_mem hml)
              generalize z[m]'hml = t at *
              have HQ := isPlainText_any t
              by_cases ht : t.all pln = true
              · have HA := Lib.hid (show (z.take (m + 1)).all plnT = true by rw [e1, hal3]; exact ht)
                have hq := fun w => HQ w e3
                rw [ht] at hq
                clear hal3 hb3 e1 e2 e3 hc4 HQ
                go_wp2_with (go_at_call 85; refine (hq _).mono ?_)
                first | rintro e w5 rfl hb5 | rintro e w5 ⟨rfl, hb5⟩
                have HB5 := Lib.hid (HB3.out.trans (hb5.mono HB3.out.size))
                clear hb5
                go_wp2
                go_roundw
                case rel => exact ⟨m + 1, by go_num, by omega, HA.out, HB5.out⟩
                case measure => simp [intOf]; omega
              · have htf : t.all pln = false := by simpa using ht
                have HA := Lib.hid (show l.all plainS = false from H2.out (by rw [plainS_eq]; exact G2.out (by rw [plnE_eq]; exact e2 htf)))
                have hq := fun w => HQ w e3
                rw [htf] at hq
                clear hal3 hb3 e1 e2 e3 hc4 HQ
                go_wp2_with (go_at_call 85; refine (hq _).mono ?_)
                first | rintro e w5 rfl hb5 | rintro e w5 ⟨rfl, hb5⟩
                have HB5 := Lib.hid (HB3.out.trans (hb5.mono HB3.out.size))
                clear hb5
                go_wp2
                go_ret
                exact ⟨ret_bool HA.out.symm, HB5.out⟩
            · obtain rfl : m = z.length := by omega
              rw [List.take_length] at hal3
              have HA := Lib.hid (show (y.els.take (j + 1)).all plnE = true by rw [G1.out, HAL2.out, plnE_eq, hal3]; rfl)
              clear hal3 hb3
              go_wp2
              go_roundw
              case rel => exact ⟨j + 1, by go_num, by omega, HA.out, HB3.out⟩
              case measure => simp [intOf]; omega
        · obtain rfl : j = y.els.length := by omega
          rw [List.take_length] at hal2
          have HA := Lib.hid (show (l.take (k + 1)).all plainS = true by rw [H1.out, HAL.out, plainS_eq, hal2]; rfl)
          clear hal2 hb2
          go_wp2
          go_roundw
          case rel => exact ⟨k + 1, by go_num, by omega, HA.out, HB2.out⟩
          case measure => simp [intOf]; omega
    · obtain rfl : k = l.length := by omega
      rw [List.take_length] at hal
      have HA := Lib.hid hal
      have HB := Lib.hid hb
      clear hal hb
      go_wp2
      go_ret
      exact ⟨ret_bool HA.out.symm, HB.out⟩
end Go.Proofs.YtjlifjgljejabaaGreatDoor
