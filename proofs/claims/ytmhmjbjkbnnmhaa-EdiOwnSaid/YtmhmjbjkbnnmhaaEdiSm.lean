/- Contract of the document's Same, of two lists of the same segments. -/
import Derived.Test.YtmhmjbjkbnnmhaaEdiW6
namespace Go.Proofs.Ytmhmjbjkbnnmhaa
open Go.RowKit Go.Edi

set_option maxRecDepth 100000 in
set_option maxHeartbeats 6400000 in
theorem same_any (l : List Sg) (va vb : Value) (w : World) (ha : SegsF w (· < w.heap.size) va l) (hb : SegsF w (· < w.heap.size) vb l) (hfit : sane l) :
    Calls Try.prog 5 #[va, vb] w fun e w' => e = .returned (.bool true) ∧ Below w.heap.size w w' := by
  have HF := Lib.hid hfit
  obtain ⟨xa, ⟨pa, capa, rfl, hna, hpa⟩, hxa⟩ := ha
  obtain ⟨xb, ⟨pb, capb, rfl, hnb, hpb⟩, hxb⟩ := hb
  have HPA := Lib.hid hpa
  have HXA := Lib.hid hxa
  have HPB := Lib.hid hpb
  have HXB := Lib.hid hxb
  have hbz : (l.length : Int) ≤ 1000000000000 := by have := hfit.1; omega
  clear hpa hxa hpb hxb hfit
  go_enter Try.func5, Try.ntmps5
  go_wp2
  go_loopw [5] (fun i wr => ∃ k : Nat, i = .int .i64 k ∧ k ≤ l.length ∧ Below w.heap.size w wr) (fun i _ => l.length - (intOf i).toNat)
  case atStart => exact ⟨0, rfl, Nat.zero_le _, Below.refl _ _⟩
  case round =>
    obtain ⟨k, rfl, hk, hbl⟩ := hrel
    have HB := Lib.hid hbl
    by_cases hlt : (k : Int) < (l.length : Int)
    · have hkl : k < l.length := by omega
      have hk0 : (0 : Int) ≤ (k : Int) := Int.natCast_nonneg _
      obtain ⟨ba, oa, rfl, hFa, hca⟩ := HPA.out (by omega)
      obtain ⟨bb, ob, rfl, hFb, hcb⟩ := HPB.out (by omega)
      have HCA := Lib.hid hca
      have HCB := Lib.hid hcb
      obtain ⟨a1, pea, capea, ysa, a2, _, rowa, ela⟩ := seg_cells (wr := wr) hca HXA.out (hbl.block ba hFa) hkl
      obtain ⟨b1, peb, capeb, ysb, b2, _, rowb, elb⟩ := seg_cells (wr := wr) hcb HXB.out (hbl.block bb hFb) hkl
      have h3 := (HF.out.2 _ (List.getElem_mem hkl))
      have A2 : ∀ wz : World, Below w.heap.size w wz → wz.cell? ⟨ba, oa + k * 2 + 1, none⟩ = some (.slice pea (l[k]'hkl).els.length capea) := fun wz hz =>
        (World.cell?_of_block (a := ⟨ba, oa + k * 2 + 1, none⟩) ((hz.block ba hFa).trans (hbl.block ba hFa).symm)).trans a2
      have B2 : ∀ wz : World, Below w.heap.size w wz → wz.cell? ⟨bb, ob + k * 2 + 1, none⟩ = some (.slice peb (l[k]'hkl).els.length capeb) := fun wz hz =>
        (World.cell?_of_block (a := ⟨bb, ob + k * 2 + 1, none⟩) ((hz.block bb hFb).trans (hbl.block bb hFb).symm)).trans b2
      generalize l[k]'hkl = y at *
      have HA2 := Lib.hid A2
      have HB2 := Lib.hid B2
      have HRA := Lib.hid rowa
      have HRB := Lib.hid rowb
      have HEA := Lib.hid ela
      have HEB := Lib.hid elb
      have H3 := Lib.hid h3
      have hbe : (y.els.length : Int) ≤ 1000000000000 := by have := h3.1; omega
      clear hbl hca hcb rowa rowb ela elb h3 A2 B2
      go_wp2
      go_region
      go_wp2
      go_loopw [6] (fun i wr => ∃ j : Nat, i = .int .i64 j ∧ j ≤ y.els.length ∧ Below w.heap.size w wr) (fun i _ => y.els.length - (intOf i).toNat)
      case atStart => exact ⟨0, rfl, Nat.zero_le _, HB.out.drew⟩
      case round =>
        obtain ⟨j, rfl, hj, hbl⟩ := hrel
        have HBJ := Lib.hid hbl
        have a2 := HA2.out _ hbl
        have b2 := HB2.out _ hbl
        by_cases hlt2 : (j : Int) < (y.els.length : Int)
        · have hjl : j < y.els.length := by omega
          have hj0 : (0 : Int) ≤ (j : Int) := Int.natCast_nonneg _
          obtain ⟨pr, capr, hre, _, hpr⟩ := HRA.out
          simp only [Value.slice.injEq, true_and] at hre
          obtain ⟨rfl, rfl⟩ := hre
          obtain ⟨b2a, o2a, rfl, hF2a, hc3a⟩ := hpr (by omega)
          obtain ⟨pr, capr, hre, _, hpr⟩ := HRB.out
          simp only [Value.slice.injEq, true_and] at hre
          obtain ⟨rfl, rfl⟩ := hre
          obtain ⟨b2b, o2b, rfl, hF2b, hc3b⟩ := hpr (by omega)
          obtain ⟨pja, capja, hcja, _, hsta⟩ := el_cell hc3a HEA.out (hbl.block b2a hF2a) hjl
          obtain ⟨pjb, capjb, hcjb, _, hstb⟩ := el_cell hc3b HEB.out (hbl.block b2b hF2b) hjl
          have g3 := H3.out.2 _ (List.getElem_mem hjl)
          generalize y.els[j]'hjl = z at *
          have hbz2 : (z.length : Int) ≤ 1000000000000 := by have := g3.1; omega
          have HSTA := Lib.hid hsta
          have HSTB := Lib.hid hstb
          clear hbl hc3a hc3b hsta hstb g3
          go_wp2
          go_loopw [9] (fun i wr => ∃ m : Nat, i = .int .i64 m ∧ m ≤ z.length ∧ Below w.heap.size w wr) (fun i _ => z.length - (intOf i).toNat)
          case atStart => exact ⟨0, rfl, Nat.zero_le _, HBJ.out⟩
          case round =>
            obtain ⟨m, rfl, hm, hbl⟩ := hrel
            have HBM := Lib.hid hbl
            by_cases hlt3 : (m : Int) < (z.length : Int)
            · have hml : m < z.length := by omega
              have hm0 : (0 : Int) ≤ (m : Int) := Int.natCast_nonneg _
              obtain ⟨pq, capq, hqe, _, hpq⟩ := HSTA.out
              simp only [Value.slice.injEq, true_and] at hqe
              obtain ⟨rfl, rfl⟩ := hqe
              obtain ⟨b3a, o3a, rfl, hF3a, hc4a⟩ := hpq (by omega)
              obtain ⟨pq, capq, hqe, _, hpq⟩ := HSTB.out
              simp only [Value.slice.injEq, true_and] at hqe
              obtain ⟨rfl, rfl⟩ := hqe
              obtain ⟨b3b, o3b, rfl, hF3b, hc4b⟩ := hpq (by omega)
              have hcka : wr.cell? ⟨b3a, o3a + m, none⟩ = some (str (z[m]'hml)) := (World.cell?_of_block (a := ⟨b3a, o3a + m, none⟩) (hbl.block b3a hF3a)).trans (hc4a m _ (by rw [List.getElem?_map, List.getElem?_eq_getElem hml]; rfl))
              have hckb : wr.cell? ⟨b3b, o3b + m, none⟩ = some (str (z[m]'hml)) := (World.cell?_of_block (a := ⟨b3b, o3b + m, none⟩) (hbl.block b3b hF3b)).trans (hc4b m _ (by rw [List.getElem?_map, List.getElem?_eq_getElem hml]; rfl))
              generalize z[m]'hml = t at *
              clear hbl hc4a hc4b
              go_wp2
              go_region
              go_wp2
              go_roundw
              case rel => exact ⟨m + 1, by go_num, by omega, HBM.out.drew⟩
              case measure => simp [intOf]; omega
            · clear hbl
              go_wp2
              go_roundw
              case rel => exact ⟨j + 1, by go_num, by omega, HBM.out⟩
              case measure => simp [intOf]; omega
        · clear hbl
          go_wp2
          go_roundw
          case rel => exact ⟨k + 1, by go_num, by omega, HBJ.out⟩
          case measure => simp [intOf]; omega
    · go_wp2
      go_ret
      exact ⟨rfl, HB.out⟩
end Go.Proofs.Ytmhmjbjkbnnmhaa
