/- Contract of edi.areWhole. -/
import Derived.Test.YtjlifjgljejabaaGreatDoorEdiW5
namespace Go.Proofs.YtjlifjgljejabaaGreatDoor
open Go.RowKit Go.Edi

def nonE (e : List Tx) : Bool := decide (0 < e.length)
theorem wholeS_eq (s : Sg) : wholeS s = (isTag s.tag && s.els.all nonE) := rfl
theorem nonE_t {z : List Tx} (h : ¬ (z.length : Int) = 0) : nonE z = true := decide_eq_true (by omega)
theorem nonE_f {z : List Tx} (h : (z.length : Int) = 0) : nonE z = false := decide_eq_false (by omega)
/-- an element's row, met in a later world -/
theorem el_cell {w wr : World} {F : Nat → Prop} {b o j : Nat} {ys : List Value} {els : List (List Tx)} (hc : ∀ j u, ys[j]? = some u → w.cell? ⟨b, o + j, none⟩ = some u) (hs : ElC w F els ys) (hb : wr.heap[b]? = w.heap[b]?) (hj : j < els.length) :
    ∃ p cap, wr.cell? ⟨b, o + j, none⟩ = some (.slice p els[j].length cap) ∧ els[j].length ≤ cap ∧ StrsF w F (.slice p els[j].length cap) els[j] := by
  obtain ⟨v, h1, h2⟩ := hs.get j hj
  have hw := h2
  obtain ⟨p, cap, rfl, h3, _⟩ := h2
  exact ⟨p, cap, (World.cell?_of_block (a := ⟨b, o + j, none⟩) hb).trans (hc _ _ h1), h3, hw⟩
/-- none of the lists is longer than a number of the machine -/
def sane (l : List Sg) : Prop := l.length ≤ 1000000000000 ∧ ∀ s ∈ l, s.els.length ≤ 1000000000000 ∧ ∀ e ∈ s.els, e.length ≤ 1000000000000 ∧ ∀ t ∈ e, t.length ≤ 1000000000000
set_option maxRecDepth 100000 in
set_option maxHeartbeats 3200000 in
theorem areWhole_any (l : List Sg) (v : Value) (w : World) (hv : SegsF w (· < w.heap.size) v l) (hfit : sane l) :
    Calls Tryz.prog 56 #[v] w fun e w' => e = .returned (.bool (l.all wholeS)) ∧ Below w.heap.size w w' := by
  have HF := Lib.hid hfit
  obtain ⟨xs, ⟨p, cap, rfl, hnc, hp⟩, hxs⟩ := hv
  have HP := Lib.hid hp
  have HXS := Lib.hid hxs
  have hbz : (l.length : Int) ≤ 1000000000000 := by have := hfit.1; omega
  clear hp hxs hfit
  go_enter Tryz.func56, Tryz.ntmps56
  go_wp2
  go_loopw [9] (fun i wr => ∃ k : Nat, i = .int .i64 k ∧ k ≤ l.length ∧ (l.take k).all wholeS = true ∧ Below w.heap.size w wr) (fun i _ => l.length - (intOf i).toNat)
  case atStart => exact ⟨0, rfl, Nat.zero_le _, rfl, Below.refl _ _⟩
  case round =>
    obtain ⟨k, rfl, hk, hal, hb⟩ := hrel
    by_cases hlt : (k : Int) < (l.length : Int)
    · have hkl : k < l.length := by omega
      have hk0 : (0 : Int) ≤ (k : Int) := Int.natCast_nonneg _
      obtain ⟨b, o, rfl, hF, hc⟩ := HP.out (by omega)
      obtain ⟨hc1, pe, cape, ys, hc2, hnce, hrow, hel⟩ := seg_cells hc HXS.out (hb.block b hF) hkl
      have h1 := all_snoc wholeS l k hkl
      have h2 := all_false wholeS l k hkl
      have h3 := (HF.out.2 _ (List.getElem_mem hkl)).1
      generalize l[k]'hkl = y at *
      have hbe : (y.els.length : Int) ≤ 1000000000000 := by omega
      have HB := Lib.hid (hb.alloc hb.size (.cells #[str y.tag, .slice pe y.els.length cape] 59))
      have hq := isTag_any y.tag
      by_cases htg : isTag y.tag = true
      · rw [htg] at hq
        have HAL := Lib.hid hal
        have H1 := Lib.hid h1
        have H2 := Lib.hid h2
        have HROW := Lib.hid hrow
        have HEL := Lib.hid hel
        clear hal hb h1 h2 hc h3 hrow hel
        go_wp2_with (go_at_call 84; refine (hq _).mono ?_; rintro e w' ⟨rfl, rfl⟩)
        go_loopw [20] (fun i wr2 => ∃ j : Nat, i = .int .i64 j ∧ j ≤ y.els.length ∧ (y.els.take j).all nonE = true ∧ Below w.heap.size w wr2) (fun i _ => y.els.length - (intOf i).toNat)
        case atStart => exact ⟨0, rfl, Nat.zero_le _, rfl, HB.out⟩
        case round =>
          obtain ⟨j, rfl, hj, hal2, hb2⟩ := hrel
          have HB2 := Lib.hid hb2
          by_cases hlt2 : (j : Int) < (y.els.length : Int)
          · have hjl : j < y.els.length := by omega
            have hj0 : (0 : Int) ≤ (j : Int) := Int.natCast_nonneg _
            obtain ⟨pr, capr, hre, _, hpr⟩ := HROW.out
            simp only [Value.slice.injEq, true_and] at hre
            obtain ⟨rfl, rfl⟩ := hre
            obtain ⟨b2, o2, rfl, hF2, hc3⟩ := hpr (by omega)
            obtain ⟨pj, capj, hcj, hncj, _⟩ := el_cell hc3 HEL.out (hb2.block b2 hF2) hjl
            have g1 := all_snoc nonE y.els j hjl
            have g2 := all_false nonE y.els j hjl
            generalize y.els[j]'hjl = z at *
            have hz0 : (0 : Int) ≤ (z.length : Int) := Int.natCast_nonneg _
            by_cases hz : (z.length : Int) = 0
            · have HA := Lib.hid (show l.all wholeS = false from H2.out (by rw [wholeS_eq, htg, g2 (nonE_f hz)]; rfl))
              clear hal2 hb2 g1 g2 hc3
              go_wp2
              go_ret
              exact ⟨ret_bool HA.out.symm, HB2.out⟩
            · have HA := Lib.hid (show (y.els.take (j + 1)).all nonE = true by rw [g1, hal2, nonE_t hz]; rfl)
              clear hal2 hb2 g1 g2 hc3
              go_wp2
              go_roundw
              case rel => exact ⟨j + 1, by go_num, by omega, HA.out, HB2.out⟩
              case measure => simp [intOf]; omega
          · obtain rfl : j = y.els.length := by omega
            rw [List.take_length] at hal2
            have HA := Lib.hid (show (l.take (k + 1)).all wholeS = true by rw [H1.out, HAL.out, wholeS_eq, htg, hal2]; rfl)
            clear hal2 hb2
            go_wp2
            go_roundw
            case rel => exact ⟨k + 1, by go_num, by omega, HA.out, HB2.out⟩
            case measure => simp [intOf]; omega
      · rw [show isTag y.tag = false by simpa using htg] at hq
        have HA := Lib.hid (show l.all wholeS = false from h2 (by rw [wholeS_eq, show isTag y.tag = false by simpa using htg]; rfl))
        clear hal hb h1 h2 hc h3 hrow hel
        go_wp2_with (go_at_call 84; refine (hq _).mono ?_; rintro e w' ⟨rfl, rfl⟩)
        go_ret
        exact ⟨ret_bool HA.out.symm, HB.out⟩
    · obtain rfl : k = l.length := by omega
      rw [List.take_length] at hal
      have HA := Lib.hid hal
      have HB := Lib.hid hb
      clear hal hb
      go_wp2
      go_ret
      exact ⟨ret_bool HA.out.symm, HB.out⟩
end Go.Proofs.YtjlifjgljejabaaGreatDoor
