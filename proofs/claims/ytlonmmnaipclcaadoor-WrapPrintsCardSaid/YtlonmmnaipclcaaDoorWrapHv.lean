/- Contract of the statements' heavy (of an interchange): where it answers false, the segments are few and short. -/
import Derived.Test.YtlonmmnaipclcaaDoorEdiLt
import Derived.Test.YtlonmmnaipclcaaDoorEdiSm
import Derived.Test.YtlonmmnaipclcaaDoorWrapO
import Derived.Test.YtlonmmnaipclcaaDoorEdiSn
namespace Go.Proofs.YtlonmmnaipclcaaDoor
open Go.RowKit Go.Edi Go.Wrap

/-- what heavy answers -/
def WhA (l : List Sg) (e : Ending) : Prop := ∃ r, e = .returned (.bool r) ∧ (r = false → light l)
set_option maxRecDepth 100000 in
set_option maxHeartbeats 3200000 in
theorem wheavy_any (f t r : Value) (l : List Sg) (v : Value) (w : World) (ha : SegsF w (· < w.heap.size) v l) :
    Calls Tryd.prog 10 #[.agg #[f, t, r, v]] w fun e w' => WhA l e ∧ Below w.heap.size w w' := by
  obtain ⟨p0, cap0, rfl⟩ := segs_slice ha
  obtain ⟨wb, hwb⟩ : ∃ wb, wb = w.alloc (.cells #[f, t, r, .slice p0 l.length cap0] 25) := ⟨_, rfl⟩
  have hbw : Below w.heap.size w wb := by rw [hwb]; exact (Below.refl _ _).alloc (Nat.le_refl _) _
  have hws : wb.heap.size = w.heap.size + 1 := by rw [hwb, size_a]
  have hb0 : wb.heap[w.heap.size]? = some (.cells #[f, t, r, .slice p0 l.length cap0] 25 (0, 0)) := by rw [hwb]; exact at_last _ _
  have ha2 := ha.kept (w' := wb) (F' := (· < wb.heap.size)) (fun b hb => ⟨Nat.lt_of_lt_of_le hb hbw.size, hbw.block b hb⟩)
  obtain ⟨xa, ⟨pa, capa, hpe, hna, hpa⟩, hxa⟩ := ha2
  simp only [Value.slice.injEq, true_and] at hpe
  obtain ⟨rfl, rfl⟩ := hpe
  have HPA := Lib.hid hpa
  have HXA := Lib.hid hxa
  have HBW := Lib.hid hbw
  have HWS := Lib.hid hws
  have HB0 := Lib.hid hb0
  have C3 : ∀ wz : World, Below wb.heap.size wb wz → wz.cell? ⟨w.heap.size, 3, none⟩ = some (.slice p0 l.length cap0) := fun wz hz =>
    (World.cell?_of_block (a := ⟨w.heap.size, 3, none⟩) (hz.block _ (by rw [hws]; exact Nat.lt_succ_self _))).trans (cell_of_arr hb0 3)
  have HC3 := Lib.hid C3
  have FIN : ∀ wz : World, Below wb.heap.size wb wz → Below w.heap.size w wz := fun wz hz => hbw.trans (hz.mono hbw.size)
  have HFIN := Lib.hid FIN
  clear hpa hxa hb0 hbw ha C3 FIN
  have c3 := HC3.out _ (Below.refl _ _)
  rw [hwb] at c3
  by_cases h80 : (80 : Int) < (l.length : Int)
  · go_enter Tryd.func10, Tryd.ntmps10
    go_wp2
    go_ret
    exact ⟨⟨true, rfl, fun h => absurd h (by simp)⟩, by rw [← hwb]; exact HBW.out⟩
  go_enter Tryd.func10, Tryd.ntmps10
  go_wp2
  rw [← hwb]
  clear c3 hwb hws
  go_loopw [3, 4] (fun u i wr => ∃ (k : Nat) (n : Nat), i = .int .i64 k ∧ u = .int .i64 n ∧ n ≤ 3000 ∧ k ≤ l.length ∧ (∀ s ∈ l.take k, lightS s) ∧ Below wb.heap.size wb wr) (fun _ i _ => l.length - (intOf i).toNat)
  case atStart => exact ⟨0, 0, rfl, rfl, by omega, Nat.zero_le _, by simp, Below.refl _ _⟩
  case round =>
    obtain ⟨k, n, rfl, rfl, hn, hk, hli, hbl⟩ := hrel
    have HB := Lib.hid hbl
    have HLI := Lib.hid hli
    have c3 := HC3.out _ hbl
    by_cases hlt : (k : Int) < (l.length : Int)
    · have hkl : k < l.length := by omega
      have hk0 : (0 : Int) ≤ (k : Int) := Int.natCast_nonneg _
      obtain ⟨ba, oa, rfl, hFa, hca⟩ := HPA.out (by omega)
      obtain ⟨a1, pea, capea, ysa, a2, _, rowa, ela⟩ := seg_cells (wr := wr) hca HXA.out (hbl.block ba hFa) hkl
      have HSN := Lib.hid (mem_snoc (P := lightS) l k hkl hli)
      generalize l[k]'hkl = y at *
      have HRA := Lib.hid rowa
      have HEA := Lib.hid ela
      have hsz : (tx y.tag).size = y.tag.length := by simp [tx, ByteArray.size]
      have HBO := Lib.hid (hbl.alloc hbl.size (.cells #[str y.tag, .slice pea y.els.length capea] 36))
      have mm : (wr.alloc (.cells #[str y.tag, .slice pea y.els.length capea] 36)).cell? ⟨wr.heap.size, 1, none⟩ = some (.slice pea y.els.length capea) := World.cell?_alloc_at _ _ _ _ rfl
      clear hbl hca rowa ela hli
      by_cases h300 : (300 : Int) < (y.tag.length : Int)
      · go_wp2
        go_ret
        exact ⟨⟨true, rfl, fun h => absurd h (by simp)⟩, HFIN.out _ HBO.out⟩
      by_cases h40 : (40 : Int) < (y.els.length : Int)
      · go_wp2
        go_ret
        exact ⟨⟨true, rfl, fun h => absurd h (by simp)⟩, HFIN.out _ HBO.out⟩
      go_wp2
      generalize wr.alloc (.cells #[str y.tag, .slice pea y.els.length capea] 36) = wo at *
      clear a1 a2 c3
      generalize wr.heap.size = M at *
      go_loopw [3, 6] (fun u i wr => ∃ (j : Nat) (n : Nat), i = .int .i64 j ∧ u = .int .i64 n ∧ n ≤ 3000 ∧ j ≤ y.els.length ∧ (∀ e ∈ y.els.take j, lightE e) ∧ wo = wr) (fun _ i _ => y.els.length - (intOf i).toNat)
      case atStart => exact ⟨0, n, rfl, rfl, hn, Nat.zero_le _, by simp, rfl⟩
      case round =>
        obtain ⟨j, n, rfl, rfl, hn, hj, hli2, rfl⟩ := hrel
        have HLJ := Lib.hid hli2
        by_cases hlt2 : (j : Int) < (y.els.length : Int)
        · have hjl : j < y.els.length := by omega
          have hj0 : (0 : Int) ≤ (j : Int) := Int.natCast_nonneg _
          obtain ⟨pr, capr, hre, _, hpr⟩ := HRA.out
          simp only [Value.slice.injEq, true_and] at hre
          obtain ⟨rfl, rfl⟩ := hre
          obtain ⟨b2a, o2a, rfl, hF2a, hc3a⟩ := hpr (by omega)
          obtain ⟨pja, capja, hcja, _, hsta⟩ := el_cell (wr := wo) hc3a HEA.out (HBO.out.block b2a hF2a) hjl
          have HSE := Lib.hid (mem_snoc (P := lightE) y.els j hjl hli2)
          generalize y.els[j]'hjl = z at *
          have HSTA := Lib.hid hsta
          clear hc3a hsta hli2
          by_cases hz40 : (40 : Int) < (z.length : Int)
          · go_wp2
            go_ret
            exact ⟨⟨true, rfl, fun h => absurd h (by simp)⟩, HFIN.out _ HBO.out⟩
          go_wp2
          go_loopw [3, 7] (fun u i wr => ∃ (m : Nat) (n : Nat), i = .int .i64 m ∧ u = .int .i64 n ∧ n ≤ 3000 ∧ m ≤ z.length ∧ (∀ t ∈ z.take m, t.length ≤ 3000) ∧ wo = wr) (fun _ i _ => z.length - (intOf i).toNat)
          case atStart => exact ⟨0, n, rfl, rfl, hn, Nat.zero_le _, by simp, rfl⟩
          case round =>
            obtain ⟨m, n, rfl, rfl, hn, hm, hli3, rfl⟩ := hrel
            have HLM := Lib.hid hli3
            have hn0 : (0 : Int) ≤ (n : Int) := Int.natCast_nonneg _
            have hn3 : (n : Int) ≤ 3000 := by omega
            by_cases hlt3 : (m : Int) < (z.length : Int)
            · have hml : m < z.length := by omega
              have hm0 : (0 : Int) ≤ (m : Int) := Int.natCast_nonneg _
              obtain ⟨pq, capq, hqe, _, hpq⟩ := HSTA.out
              simp only [Value.slice.injEq, true_and] at hqe
              obtain ⟨rfl, rfl⟩ := hqe
              obtain ⟨b3a, o3a, rfl, hF3a, hc4a⟩ := hpq (by omega)
              have hcka : wo.cell? ⟨b3a, o3a + m, none⟩ = some (str (z[m]'hml)) := (World.cell?_of_block (a := ⟨b3a, o3a + m, none⟩) (HBO.out.block b3a hF3a)).trans (hc4a m _ (by rw [List.getElem?_map, List.getElem?_eq_getElem hml]; rfl))
              have HST := Lib.hid (mem_snoc (P := fun t => List.length t ≤ 3000) z m hml hli3)
              generalize z[m]'hml = t at *
              have hszt : (tx t).size = t.length := by simp [tx, ByteArray.size]
              clear hc4a hli3
              have ht0 : (0 : Int) ≤ (t.length : Int) := Int.natCast_nonneg _
              have hsub : wrap64 (3000 - (n : Int)) = 3000 - (n : Int) := by unfold wrap64; omega
              by_cases htn : 3000 - (n : Int) < (t.length : Int)
              · go_wp2
                go_ret
                exact ⟨⟨true, rfl, fun h => absurd h (by simp)⟩, HFIN.out _ HBO.out⟩
              · have hle : n + t.length ≤ 3000 := by omega
                have htl : t.length ≤ 3000 := by omega
                have HLE3 := Lib.hid hle
                have HTL3 := Lib.hid htl
                clear hle htl
                go_wp2
                go_roundw
                case rel => exact ⟨m + 1, n + t.length, by go_num, by rw [Int.natCast_add], HLE3.out, by omega, HST.out HTL3.out, trivial⟩
                case measure => simp [intOf]; omega
            · obtain rfl : m = z.length := by omega
              rw [List.take_length] at hli3
              have HLE := Lib.hid (HSE.out ⟨by omega, hli3⟩)
              clear hli3
              go_wp2
              go_roundw
              case rel => exact ⟨j + 1, n, by go_num, rfl, by omega, by omega, HLE.out, trivial⟩
              case measure => simp [intOf]; omega
        · obtain rfl : j = y.els.length := by omega
          rw [List.take_length] at hli2
          have HLS := Lib.hid (HSN.out ⟨by omega, by omega, hli2⟩)
          clear hli2
          go_wp2
          go_roundw
          case rel => exact ⟨k + 1, n, by go_num, rfl, by omega, by omega, HLS.out, HBO.out⟩
          case measure => simp [intOf]; omega
    · obtain rfl : k = l.length := by omega
      rw [List.take_length] at hli
      have HLL := Lib.hid (show light l from ⟨by omega, hli⟩)
      clear hbl hli
      go_wp2
      go_ret
      exact ⟨⟨false, rfl, fun _ => HLL.out⟩, HFIN.out _ HB.out⟩
end Go.Proofs.YtlonmmnaipclcaaDoor
