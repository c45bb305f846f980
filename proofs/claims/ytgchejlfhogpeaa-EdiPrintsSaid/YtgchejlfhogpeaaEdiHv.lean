/- Contract of the statements' heavy: where it answers false, the segments are few and short. -/
import Derived.Test.YtgchejlfhogpeaaEdiLt
namespace Go.Proofs.Ytgchejlfhogpeaa
open Go.RowKit Go.Edi

/-- what heavy answers -/
def HvA (l : List Sg) (e : Ending) : Prop := ∃ r, e = .returned (.bool r) ∧ (r = false → light l)
set_option maxRecDepth 100000 in
set_option maxHeartbeats 1600000 in
theorem heavy_any (l : List Sg) (v : Value) (w : World) (ha : SegsF w (· < w.heap.size) v l) :
    Calls Try.prog 6 #[v] w fun e w' => HvA l e ∧ Below w.heap.size w w' := by
  obtain ⟨xa, ⟨pa, capa, rfl, hna, hpa⟩, hxa⟩ := ha
  have HPA := Lib.hid hpa
  have HXA := Lib.hid hxa
  clear hpa hxa
  by_cases h80 : (80 : Int) < (l.length : Int)
  · go_enter Try.func6, Try.ntmps6
    go_wp2
    go_ret
    exact ⟨⟨true, rfl, fun h => absurd h (by simp)⟩, Below.refl _ _⟩
  go_enter Try.func6, Try.ntmps6
  go_wp2
  go_loopw [3, 4] (fun u i wr => ∃ (k : Nat) (n : Nat), i = .int .i64 k ∧ u = .int .i64 n ∧ n ≤ 3000 ∧ k ≤ l.length ∧ (∀ s ∈ l.take k, lightS s) ∧ Below w.heap.size w wr) (fun _ i _ => l.length - (intOf i).toNat)
  case atStart => exact ⟨0, 0, rfl, rfl, by omega, Nat.zero_le _, by simp, Below.refl _ _⟩
  case round =>
    obtain ⟨k, n, rfl, rfl, hn, hk, hli, hbl⟩ := hrel
    have HB := Lib.hid hbl
    have HLI := Lib.hid hli
    by_cases hlt : (k : Int) < (l.length : Int)
    · have hkl : k < l.length := by omega
      have hk0 : (0 : Int) ≤ (k : Int) := Int.natCast_nonneg _
      obtain ⟨ba, oa, rfl, hFa, hca⟩ := HPA.out (by omega)
      obtain ⟨a1, pea, capea, ysa, a2, _, rowa, ela⟩ := seg_cells (wr := wr) hca HXA.out (hbl.block ba hFa) hkl
      have A2 : ∀ wz : World, Below w.heap.size w wz → wz.cell? ⟨ba, oa + k * 2 + 1, none⟩ = some (.slice pea (l[k]'hkl).els.length capea) := fun wz hz =>
        (World.cell?_of_block (a := ⟨ba, oa + k * 2 + 1, none⟩) ((hz.block ba hFa).trans (hbl.block ba hFa).symm)).trans a2
      have HSN := Lib.hid (mem_snoc (P := lightS) l k hkl hli)
      generalize l[k]'hkl = y at *
      have HA2 := Lib.hid A2
      have HRA := Lib.hid rowa
      have HEA := Lib.hid ela
      have hsz : (tx y.tag).size = y.tag.length := by simp [tx, ByteArray.size]
      clear hbl hca rowa ela A2 hli
      by_cases h300 : (300 : Int) < (y.tag.length : Int)
      · go_wp2
        go_ret
        exact ⟨⟨true, rfl, fun h => absurd h (by simp)⟩, HB.out⟩
      by_cases h40 : (40 : Int) < (y.els.length : Int)
      · go_wp2
        go_ret
        exact ⟨⟨true, rfl, fun h => absurd h (by simp)⟩, HB.out⟩
      go_wp2
      go_loopw [3, 5] (fun u i wr => ∃ (j : Nat) (n : Nat), i = .int .i64 j ∧ u = .int .i64 n ∧ n ≤ 3000 ∧ j ≤ y.els.length ∧ (∀ e ∈ y.els.take j, lightE e) ∧ Below w.heap.size w wr) (fun _ i _ => y.els.length - (intOf i).toNat)
      case atStart => exact ⟨0, n, rfl, rfl, hn, Nat.zero_le _, by simp, HB.out⟩
      case round =>
        obtain ⟨j, n, rfl, rfl, hn, hj, hli2, hbl⟩ := hrel
        have HBJ := Lib.hid hbl
        have HLJ := Lib.hid hli2
        have a2 := HA2.out _ hbl
        by_cases hlt2 : (j : Int) < (y.els.length : Int)
        · have hjl : j < y.els.length := by omega
          have hj0 : (0 : Int) ≤ (j : Int) := Int.natCast_nonneg _
          obtain ⟨pr, capr, hre, _, hpr⟩ := HRA.out
          simp only [Value.slice.injEq, true_and] at hre
          obtain ⟨rfl, rfl⟩ := hre
          obtain ⟨b2a, o2a, rfl, hF2a, hc3a⟩ := hpr (by omega)
          obtain ⟨pja, capja, hcja, _, hsta⟩ := el_cell (wr := wr) hc3a HEA.out (hbl.block b2a hF2a) hjl
          have J2 : ∀ wz : World, Below w.heap.size w wz → wz.cell? ⟨b2a, o2a + j, none⟩ = some (.slice pja (y.els[j]'hjl).length capja) := fun wz hz =>
            (World.cell?_of_block (a := ⟨b2a, o2a + j, none⟩) ((hz.block b2a hF2a).trans (hbl.block b2a hF2a).symm)).trans hcja
          have HSE := Lib.hid (mem_snoc (P := lightE) y.els j hjl hli2)
          generalize y.els[j]'hjl = z at *
          have HSTA := Lib.hid hsta
          have HJ2 := Lib.hid J2
          clear hbl hc3a hsta J2 hli2
          by_cases hz40 : (40 : Int) < (z.length : Int)
          · go_wp2
            go_ret
            exact ⟨⟨true, rfl, fun h => absurd h (by simp)⟩, HBJ.out⟩
          go_wp2
          go_loopw [3, 6] (fun u i wr => ∃ (m : Nat) (n : Nat), i = .int .i64 m ∧ u = .int .i64 n ∧ n ≤ 3000 ∧ m ≤ z.length ∧ (∀ t ∈ z.take m, t.length ≤ 3000) ∧ Below w.heap.size w wr) (fun _ i _ => z.length - (intOf i).toNat)
          case atStart => exact ⟨0, n, rfl, rfl, hn, Nat.zero_le _, by simp, HBJ.out⟩
          case round =>
            obtain ⟨m, n, rfl, rfl, hn, hm, hli3, hbl⟩ := hrel
            have HBM := Lib.hid hbl
            have HLM := Lib.hid hli3
            have a2 := HA2.out _ hbl
            have j2 := HJ2.out _ hbl
            have hn0 : (0 : Int) ≤ (n : Int) := Int.natCast_nonneg _
            have hn3 : (n : Int) ≤ 3000 := by omega
            by_cases hlt3 : (m : Int) < (z.length : Int)
            · have hml : m < z.length := by omega
              have hm0 : (0 : Int) ≤ (m : Int) := Int.natCast_nonneg _
              obtain ⟨pq, capq, hqe, _, hpq⟩ := HSTA.out
              simp only [Value.slice.injEq, true_and] at hqe
              obtain ⟨rfl, rfl⟩ := hqe
              obtain ⟨b3a, o3a, rfl, hF3a, hc4a⟩ := hpq (by omega)
              have hcka : wr.cell? ⟨b3a, o3a + m, none⟩ = some (str (z[m]'hml)) := (World.cell?_of_block (a := ⟨b3a, o3a + m, none⟩) (hbl.block b3a hF3a)).trans (hc4a m _ (by rw [List.getElem?_map, List.getElem?_eq_getElem hml]; rfl))
              have HST := Lib.hid (mem_snoc (P := fun t => List.length t ≤ 3000) z m hml hli3)
              generalize z[m]'hml = t at *
              have hszt : (tx t).size = t.length := by simp [tx, ByteArray.size]
              clear hbl hc4a hli3
              have ht0 : (0 : Int) ≤ (t.length : Int) := Int.natCast_nonneg _
              have hsub : wrap64 (3000 - (n : Int)) = 3000 - (n : Int) := by unfold wrap64; omega
              by_cases htn : 3000 - (n : Int) < (t.length : Int)
              · go_wp2
                go_ret
                exact ⟨⟨true, rfl, fun h => absurd h (by simp)⟩, HBM.out⟩
              · have hle : n + t.length ≤ 3000 := by omega
                have htl : t.length ≤ 3000 := by omega
                have HLE3 := Lib.hid hle
                have HTL3 := Lib.hid htl
                clear hle htl
                go_wp2
                go_roundw
                case rel => exact ⟨m + 1, n + t.length, by go_num, by rw [Int.natCast_add], HLE3.out, by omega, HST.out HTL3.out, HBM.out⟩
                case measure => simp [intOf]; omega
            · obtain rfl : m = z.length := by omega
              rw [List.take_length] at hli3
              have HLE := Lib.hid (HSE.out ⟨by omega, hli3⟩)
              clear hbl hli3
              go_wp2
              go_roundw
              case rel => exact ⟨j + 1, n, by go_num, rfl, by omega, by omega, HLE.out, HBM.out⟩
              case measure => simp [intOf]; omega
        · obtain rfl : j = y.els.length := by omega
          rw [List.take_length] at hli2
          have HLS := Lib.hid (HSN.out ⟨by omega, by omega, hli2⟩)
          clear hbl hli2
          go_wp2
          go_roundw
          case rel => exact ⟨k + 1, n, by go_num, rfl, by omega, by omega, HLS.out, HBJ.out⟩
          case measure => simp [intOf]; omega
    · obtain rfl : k = l.length := by omega
      rw [List.take_length] at hli
      have HLL := Lib.hid (show light l from ⟨by omega, hli⟩)
      clear hbl hli
      go_wp2
      go_ret
      exact ⟨⟨false, rfl, fun _ => HLL.out⟩, HB.out⟩
end Go.Proofs.Ytgchejlfhogpeaa
