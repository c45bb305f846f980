/- The walk of the statements' own. -/
import Derived.Test.YtgchejlfhogpeaaEdiOw
import Derived.Deep.RegionLaw
namespace Go.Proofs.Ytgchejlfhogpeaa
open Go.RowKit Go.Edi

set_option maxRecDepth 100000 in
set_option maxHeartbeats 6400000 in
theorem own_any (l : List Sg) (v : Value) (w : World) (hv : SegsF w (· < w.heap.size) v l) (hs : small l) :
    Calls Try.prog 7 #[v] w fun e w' => OwA l w.heap.size e w' ∧ Below w.heap.size w w' := by
  obtain ⟨xa, ⟨pa, capa, rfl, hna, hpa⟩, hxa⟩ := hv
  have HPA := Lib.hid hpa
  have HXA := Lib.hid hxa
  have HSM := Lib.hid hs
  have hl1 := hs.1
  clear hpa hxa hs
  go_enter Try.func7, Try.ntmps7
  go_wp2
  go_loopw [3, 4] (fun u i wr => ∃ (k : Nat) (F : Nat → Prop) (p : Option Addr) (cap : Nat), i = .int .i64 k ∧ u = .slice p k cap ∧ k ≤ l.length ∧ OwO w.heap.size F (l.take k) (.slice p k cap) wr ∧ Below w.heap.size w wr) (fun _ i _ => l.length - (intOf i).toNat)
  case atStart => exact ⟨0, _, none, 0, rfl, rfl, Nat.zero_le _, OwO.begin0 _ _, Below.refl _ _⟩
  case round =>
    obtain ⟨k, F, p, cap, rfl, rfl, hk, ho, hbl⟩ := hrel
    have HB := Lib.hid hbl
    have HO := Lib.hid ho
    by_cases hlt : (k : Int) < (l.length : Int)
    · have hkl : k < l.length := by omega
      have hk0 : (0 : Int) ≤ (k : Int) := Int.natCast_nonneg _
      obtain ⟨ba, oa, rfl, hFa, hca⟩ := HPA.out (by omega)
      obtain ⟨a1, pea, capea, ysa, a2, _, rowa, ela⟩ := seg_cells (wr := wr) hca HXA.out (hbl.block ba hFa) hkl
      have A2 : ∀ wz : World, Below w.heap.size w wz → wz.cell? ⟨ba, oa + k * 2 + 1, none⟩ = some (.slice pea (l[k]'hkl).els.length capea) := fun wz hz =>
        (World.cell?_of_block (a := ⟨ba, oa + k * 2 + 1, none⟩) ((hz.block ba hFa).trans (hbl.block ba hFa).symm)).trans a2
      have HTK := Lib.hid (show l.take (k + 1) = l.take k ++ [l[k]'hkl] from (List.take_append_getElem hkl).symm)
      have HSK := Lib.hid (HSM.out.2 _ (List.getElem_mem hkl))
      generalize l[k]'hkl = y at *
      have HA2 := Lib.hid A2
      have HRA := Lib.hid rowa
      have HEA := Lib.hid ela
      have hy1 := HSK.out.1
      clear hbl hca rowa ela A2 ho
      go_wp2
      have HI := Lib.hid (HO.out.begin HB.out.size y.tag)
      have HBI := Lib.hid (HB.out.alloc HB.out.size (.cells #[str y.tag, .slice none 0 0] 32))
      obtain ⟨wo, rfl⟩ : ∃ wo : World, wo = wr := ⟨_, rfl⟩
      generalize wo.heap.size = g at *
      clear a1 a2 HO HB
      go_loopw [6] (fun i wr => ∃ (j : Nat) (F' : Nat → Prop) (ve : Value), i = .int .i64 j ∧ j ≤ y.els.length ∧ OwI w.heap.size g F' (l.take k) y.tag (y.els.take j) (.slice p k cap) ve wr ∧ Below w.heap.size w wr) (fun i _ => y.els.length - (intOf i).toNat)
      case atStart => exact ⟨0, _, _, rfl, Nat.zero_le _, HI.out, HBI.out⟩
      case round =>
        clear HI HBI
        obtain ⟨j, F', ve, rfl, hj, hi, hbl⟩ := hrel
        have HB := Lib.hid hbl
        have HI := Lib.hid hi
        have a2 := HA2.out _ hbl
        have HJL := Lib.hid (show (y.els.take j).length = j by rw [List.length_take]; omega)
        by_cases hlt2 : (j : Int) < (y.els.length : Int)
        · have hjl : j < y.els.length := by omega
          have hj0 : (0 : Int) ≤ (j : Int) := Int.natCast_nonneg _
          obtain ⟨pr, capr, hre, _, hpr⟩ := HRA.out
          simp only [Value.slice.injEq, true_and] at hre
          obtain ⟨rfl, rfl⟩ := hre
          obtain ⟨b2a, o2a, rfl, hF2a, hc3a⟩ := hpr (by omega)
          obtain ⟨pja, capja, hcja, _, hsta⟩ := el_cell (wr := wr) hc3a HEA.out (hbl.block b2a hF2a) hjl
          have HTJ := Lib.hid (show y.els.take (j + 1) = y.els.take j ++ [y.els[j]'hjl] from (List.take_append_getElem hjl).symm)
          have HSE := Lib.hid (HSK.out.2 _ (List.getElem_mem hjl))
          generalize y.els[j]'hjl = z at *
          have HST := Lib.hid (StrsF.kept hsta (old_kept (hbl.alloc hbl.size (.cells #[] 9)).drew (Nat.le_refl _)))
          obtain ⟨ys, hys, hyc⟩ := HI.out.els
          rw [HJL.out] at hys
          have HYS := Lib.hid hys
          have HYC := Lib.hid hyc
          obtain ⟨pe, cape, rfl⟩ := own_slice hys
          obtain ⟨_, cg, fg, hglt⟩ := HI.out.cells
          have D1 : ∀ o : Obj, (wr.alloc o).cell? ⟨ba, oa + k * 2 + 1, none⟩ = some (.slice (some ⟨b2a, o2a, none⟩) y.els.length capea) := fun o => HA2.out _ (hbl.alloc hbl.size o)
          have D2 : ∀ o : Obj, (wr.alloc o).cell? ⟨b2a, o2a + j, none⟩ = some (.slice pja z.length capja) := fun o => (World.cell?_of_block (a := ⟨b2a, o2a + j, none⟩) (Below.heap_alloc _ _ _ (Nat.lt_of_lt_of_le hF2a hbl.size))).trans hcja
          have D3 : ∀ o : Obj, (wr.alloc o).cell? ⟨g, 1, none⟩ = some (.slice pe j cape) := fun o => (World.cell?_of_block (a := ⟨g, 1, none⟩) (Below.heap_alloc _ _ _ hglt)).trans cg
          have HGL := Lib.hid hglt
          have HNG := Lib.hid (own_not HYS.out HI.out.hg (by decide))
          clear hi hbl hc3a hsta hpr hys hyc hglt
          go_wp2
          go_region_law (first
            | (rw [if_pos (by rfl)]
               refine st_appF 33 9 (.string ⟨#[]⟩) 1 16 par_str Try.underlying33 rfl (by decide) (by decide) w.heap.size (.slice (some ⟨wr.heap.size, 0, none⟩) 0 0) 0 [] rfl (own_keep (World.ownsRow_made wr #[] 0 HB.out.size (by decide) rfl) (fun _ _ => rfl)) (.slice pja z.length capja) _ z.length (z.map str) rfl HST.out (by simp) (one_strs z) (by have := HSE.out; omega) (by have := HB.out.size; simp; omega) ?_
               intro v1 w2 ho1 hgr1 hbk1
               rw [Nat.zero_add, List.nil_append] at ho1
               obtain ⟨p1, cap1, rfl⟩ := own_slice ho1
               have hg1 : ∀ b, b < wr.heap.size → w2.heap[b]? = wr.heap[b]? := fun b hb => (hgr1.block b (by simp; omega) (by simp [Value.ownBlock]; omega)).trans (Below.heap_alloc _ _ _ hb)
               have C3 : w2.cell? ⟨g, 1, none⟩ = some (.slice pe j cape) := (World.cell?_of_block (a := ⟨g, 1, none⟩) (hg1 g HGL.out)).trans cg
               have hs2 : wr.heap.size + 1 ≤ w2.heap.size := by have := hgr1.size; simpa using this
               have C4 : ∀ o : Obj, (w2.alloc o).cell? ⟨g, 1, none⟩ = some (.slice pe j cape) := fun o => (World.cell?_of_block (a := ⟨g, 1, none⟩) (Below.heap_alloc _ _ _ (Nat.lt_of_lt_of_le HGL.out (Nat.le_trans (Nat.le_succ _) hs2)))).trans C3
               have H1 := Lib.hid ho1
               have HG1 := Lib.hid hg1
               have HS2 := Lib.hid hs2
               have HGR1 := Lib.hid hgr1
               have HK1 := Lib.hid hbk1
               clear ho1 hg1 hs2 hgr1 hbk1)
            | (rw [if_pos (by rfl)]
               refine st_app1 30 33 (.slice none 0 0) 1 24 par_strs Try.underlying30 rfl (by decide) (by decide) w.heap.size (.slice pe j cape) j ys rfl (own_keep HYS.out (fun b e => (Below.heap_alloc _ _ _ (by have := (HYS.out.lt b e).2; have := HS2.out; omega)).trans (HG1.out b (HYS.out.lt b e).2))) w2.heap.size 1 [.slice p1 z.length cap1] 33 (0, 0) rfl rfl (at_last _ _) (by intro u hu; simp at hu; subst hu; rfl) (by have := HJL.out; have := HSK.out.1; omega) (by have := HB.out.size; have := HS2.out; simp; omega) ?_
               intro v2 w4 ho2 hgr2 hbk2
               obtain ⟨p2, cap2, rfl⟩ := own_slice ho2
               have hg4 : w4.heap[g]? = wr.heap[g]? := (hgr2.block g (by have := HGL.out; have := HS2.out; simp; omega) HNG.out).trans ((Below.heap_alloc _ _ _ (by have := HGL.out; have := HS2.out; omega)).trans (HG1.out g HGL.out))
               have C5 : w4.cell? ⟨g, 1, none⟩ = some (.slice pe j cape) := (World.cell?_of_block (a := ⟨g, 1, none⟩) hg4).trans cg
               have F5 : w4.frozen? ⟨g, 1, none⟩ = false := (World.frozen?_of_block (a := ⟨g, 1, none⟩) hg4).trans fg
               have H2 := Lib.hid ho2
               have HGR2 := Lib.hid hgr2
               have HK2 := Lib.hid hbk2
               clear ho2 hgr2 hbk2 hg4))
          all_goals
            obtain ⟨⟨F2, hE⟩, hBE⟩ := step_elem HI.out HJL.out HTJ.out HYC.out HYS.out HK1.out H1.out HGR1.out H2.out HGR2.out HK2.out HB.out HB.out.size
            have HE := Lib.hid hE
            have HBE := Lib.hid hBE
            clear hE hBE C3 C4 C5 F5 D1 D2 D3 cg fg a2 hcja
            go_wp2
            go_roundw
            case rel => exact ⟨j + 1, F2, _, by go_num, by omega, HE.out, HBE.out⟩
            case measure => simp [intOf]; omega
        · obtain rfl : j = y.els.length := by omega
          rw [List.take_length] at HI
          have HL0 := Lib.hid (show (l.take k).length = k by rw [List.length_take]; omega)
          obtain ⟨xs, hxs, hxc⟩ := HI.out.out
          rw [HL0.out] at hxs
          obtain ⟨ys, hys, _⟩ := HI.out.els
          obtain ⟨pe, cape, rfl⟩ := own_slice hys
          have HXS := Lib.hid hxs
          have HXC := Lib.hid hxc
          obtain ⟨cg0, cg, fg, hglt⟩ := HI.out.cells
          have HGL := Lib.hid hglt
          clear hi hbl hxs hxc hys hglt
          go_wp2_with (at_builtin; refine wl_app1 22 32 (.agg #[.string ⟨#[]⟩, .slice none 0 0]) 2 40 par_seg Try.underlying22 rfl (by decide) (by decide) w.heap.size (.slice p k cap) k xs rfl (HXS.out.alloc _) wr.heap.size 1 [str y.tag, .slice pe y.els.length cape] 32 (0, 0) rfl rfl (at_last _ _) (by intro u hu; simp at hu; rcases hu with rfl | rfl <;> rfl) (by omega) (by have := HB.out.size; simp; omega) ?_)
          intro v' w3 ho hgr hbk
          obtain ⟨p', cap', rfl⟩ := own_slice ho
          have HSG := Lib.hid (HI.out.seg (by rw [HL0.out]; exact HXS.out) HXC.out (by rw [HL0.out]; exact ho) hgr (by simpa using hbk))
          have HB3 := Lib.hid ((HB.out.alloc HB.out.size _).grown hgr (by have := HB.out.size; simp; omega) (fun k hk => (HXS.out.lt k hk).1))
          clear ho hgr hbk cg0 cg fg
          go_wp2
          go_roundw
          case rel => exact ⟨k + 1, _, p', cap', by go_num, rfl, by omega, by rw [HTK.out]; exact HSG.out, HB3.out⟩
          case measure => simp [intOf]; omega
    · obtain rfl : k = l.length := by omega
      rw [List.take_length] at HO
      clear hbl ho
      go_wp2
      go_ret
      exact ⟨⟨_, _, rfl, HO.out⟩, HB.out⟩
end Go.Proofs.Ytgchejlfhogpeaa
