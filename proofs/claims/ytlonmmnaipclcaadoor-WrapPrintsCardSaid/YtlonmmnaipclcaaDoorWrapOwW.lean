/- The walk of the statements' own (of an interchange). -/
import Derived.Test.YtlonmmnaipclcaaDoorEdiOw
import Derived.Test.YtlonmmnaipclcaaDoorWrapO
import Derived.Test.YtlonmmnaipclcaaDoorWrapHv
import Derived.Test.YtlonmmnaipclcaaDoorWrapP
import Derived.Deep.RegionLaw
namespace Go.Proofs.YtlonmmnaipclcaaDoor
open Go.RowKit Go.Edi Go.Wrap

theorem set_arr0 {W : World} {g : Nat} {A : Array Value} {ty : TypeId} (h : W.heap[g]? = some (.cells A ty (0, 0))) (i : Nat) (u : Value) : (W.setCell ⟨g, i, none⟩ u).heap[g]? = some (.cells (A.setIfInBounds i u) ty (0, 0)) := set_arr h i u
/-- what own answers -/
def WoA (f t r : Nat) (l : List Sg) (B : Nat) (e : Ending) (w' : World) : Prop := ∃ vo F, e = .returned (.agg (wrV f t r vo)) ∧ OwO B F l vo w' ∧ B ≤ w'.heap.size
theorem OwO.set {B : Nat} {F : Nat → Prop} {l0 : List Sg} {vo : Value} {w w' : World} (h : OwO B F l0 vo w) (hk : ∀ b, B ≤ b → w'.heap[b]? = w.heap[b]?) (hs : w.heap.size ≤ w'.heap.size) : OwO B F l0 vo w' := by
  obtain ⟨xs, a1, a2⟩ := h.out
  exact ⟨⟨xs, own_keep a1 (fun b e => hk b (a1.lt b e).1), a2.kept (fun b hF => ⟨hF, hk b (h.fz b hF).1⟩)⟩, fun b hF => ⟨(h.fz b hF).1, by have := (h.fz b hF).2.1; omega, (h.fz b hF).2.2⟩⟩
set_option maxRecDepth 100000 in
set_option maxHeartbeats 12800000 in
theorem wown_any (f t r : Nat) (l : List Sg) (v : Value) (w : World) (hv : SegsF w (· < w.heap.size) v l) (hs : small l) :
    Calls Tryd.prog 11 #[.agg (wrV f t r v)] w fun e w' => WoA f t r l (w.heap.size + 2) e w' ∧ Below w.heap.size w w' := by
  obtain ⟨p0, cap0, rfl⟩ := segs_slice hv
  obtain ⟨wb, hwb⟩ : ∃ wb, wb = (w.alloc (.cells (wrV f t r (.slice p0 l.length cap0)) 25)).alloc (.cells #[.int .u8 0, .int .u8 0, .int .u64 0, .slice none 0 0] 25) := ⟨_, rfl⟩
  have hbw : Below w.heap.size w wb := by rw [hwb]; exact ((Below.refl _ _).alloc (Nat.le_refl _) _).alloc (by rw [size_a]; exact Nat.le_succ _) _
  have hws : wb.heap.size = w.heap.size + 2 := by rw [hwb, size_a, size_a]
  have hb0 : wb.heap[w.heap.size]? = some (.cells (wrV f t r (.slice p0 l.length cap0)) 25 (0, 0)) := by rw [hwb]; exact (Below.heap_alloc _ _ _ (by rw [size_a]; exact Nat.lt_succ_self _)).trans (at_last _ _)
  have hb1 : wb.heap[w.heap.size + 1]? = some (.cells #[.int .u8 0, .int .u8 0, .int .u64 0, .slice none 0 0] 25 (0, 0)) := by
    have := at_last (w.alloc (.cells (wrV f t r (.slice p0 l.length cap0)) 25)) (.cells #[.int .u8 0, .int .u8 0, .int .u64 0, .slice none 0 0] 25)
    rw [size_a] at this
    rw [hwb]; exact this
  have ha2 := hv.kept (w' := wb) (F' := (· < wb.heap.size)) (fun b hb => ⟨Nat.lt_of_lt_of_le hb hbw.size, hbw.block b hb⟩)
  obtain ⟨xa, ⟨pa, capa, hpe, hna, hpa⟩, hxa⟩ := ha2
  simp only [Value.slice.injEq, true_and] at hpe
  obtain ⟨rfl, rfl⟩ := hpe
  have HPA := Lib.hid hpa
  have HXA := Lib.hid hxa
  have HSM := Lib.hid hs
  have hl1 := hs.1
  have HBW := Lib.hid hbw
  have HWS := Lib.hid hws
  have HX0 := Lib.hid (show ∀ wz : World, Below wb.heap.size wb wz → wz.heap[w.heap.size]? = some (.cells (wrV f t r (.slice p0 l.length cap0)) 25 (0, 0)) from fun wz hz => (hz.block _ (by rw [hws]; omega)).trans hb0)
  have HX1 := Lib.hid (show ∀ wz : World, Below wb.heap.size wb wz → wz.heap[w.heap.size + 1]? = some (.cells #[.int .u8 0, .int .u8 0, .int .u64 0, .slice none 0 0] 25 (0, 0)) from fun wz hz => (hz.block _ (by rw [hws]; omega)).trans hb1)
  have C3 : ∀ wz : World, Below wb.heap.size wb wz → wz.cell? ⟨w.heap.size, 3, none⟩ = some (.slice p0 l.length cap0) := fun wz hz => cell_of_arr (HX0.out wz hz) 3
  have HC3 := Lib.hid C3
  clear hpa hxa hb0 hb1 hbw hv hs C3
  go_enter Tryd.func11, Tryd.ntmps11
  go_wp2
  rw [← hwb]
  clear hwb hws
  go_loopw [3, 4] (fun u i wr => ∃ (k : Nat) (F : Nat → Prop) (p : Option Addr) (cap : Nat), i = .int .i64 k ∧ u = .slice p k cap ∧ k ≤ l.length ∧ OwO wb.heap.size F (l.take k) (.slice p k cap) wr ∧ Below wb.heap.size wb wr) (fun _ i _ => l.length - (intOf i).toNat)
  case atStart => exact ⟨0, _, none, 0, rfl, rfl, Nat.zero_le _, OwO.begin0 _ _, Below.refl _ _⟩
  case round =>
    obtain ⟨k, F, p, cap, rfl, rfl, hk, ho, hbl⟩ := hrel
    have HB := Lib.hid hbl
    have HO := Lib.hid ho
    have c3 := HC3.out _ hbl
    by_cases hlt : (k : Int) < (l.length : Int)
    · have hkl : k < l.length := by omega
      have hk0 : (0 : Int) ≤ (k : Int) := Int.natCast_nonneg _
      obtain ⟨ba, oa, rfl, hFa, hca⟩ := HPA.out (by omega)
      obtain ⟨a1, pea, capea, ysa, a2, _, rowa, ela⟩ := seg_cells (wr := wr) hca HXA.out (hbl.block ba hFa) hkl
      have A2 : ∀ wz : World, Below wb.heap.size wb wz → wz.cell? ⟨ba, oa + k * 2 + 1, none⟩ = some (.slice pea (l[k]'hkl).els.length capea) := fun wz hz =>
        (World.cell?_of_block (a := ⟨ba, oa + k * 2 + 1, none⟩) ((hz.block ba hFa).trans (hbl.block ba hFa).symm)).trans a2
      have HTK := Lib.hid (show l.take (k + 1) = l.take k ++ [l[k]'hkl] from (List.take_append_getElem hkl).symm)
      have HSK := Lib.hid (HSM.out.2 _ (List.getElem_mem hkl))
      generalize l[k]'hkl = y at *
      have HA2 := Lib.hid A2
      have HRA := Lib.hid rowa
      have HEA := Lib.hid ela
      have hy1 := HSK.out.1
      clear hbl hca rowa ela A2 ho
      go_wp2
      have HI := Lib.hid (HO.out.begin HB.out.size y.tag)
      have HBI := Lib.hid (HB.out.alloc HB.out.size (.cells #[str y.tag, .slice none 0 0] 36))
      obtain ⟨wo, rfl⟩ : ∃ wo : World, wo = wr := ⟨_, rfl⟩
      generalize wo.heap.size = g at *
      clear a1 a2 c3 HO HB
      go_loopw [6] (fun i wr => ∃ (j : Nat) (F' : Nat → Prop) (ve : Value), i = .int .i64 j ∧ j ≤ y.els.length ∧ OwI wb.heap.size g F' (l.take k) y.tag (y.els.take j) (.slice p k cap) ve wr ∧ Below wb.heap.size wb wr) (fun i _ => y.els.length - (intOf i).toNat)
      case atStart => exact ⟨0, _, _, rfl, Nat.zero_le _, HI.out, HBI.out⟩
      case round =>
        clear HI HBI
        obtain ⟨j, F', ve, rfl, hj, hi, hbl⟩ := hrel
        have HB := Lib.hid hbl
        have HI := Lib.hid hi
        have a2 := HA2.out _ hbl
        have c3 := HC3.out _ hbl
        have HJL := Lib.hid (show (y.els.take j).length = j by rw [List.length_take]; omega)
        by_cases hlt2 : (j : Int) < (y.els.length : Int)
        · have hjl : j < y.els.length := by omega
          have hj0 : (0 : Int) ≤ (j : Int) := Int.natCast_nonneg _
          obtain ⟨pr, capr, hre, _, hpr⟩ := HRA.out
          simp only [Value.slice.injEq, true_and] at hre
          obtain ⟨rfl, rfl⟩ := hre
          obtain ⟨b2a, o2a, rfl, hF2a, hc3a⟩ := hpr (by omega)
          obtain ⟨pja, capja, hcja, _, hsta⟩ := el_cell (wr := wr) hc3a HEA.out (hbl.block b2a hF2a) hjl
          have HTJ := Lib.hid (show y.els.take (j + 1) = y.els.take j ++ [y.els[j]'hjl] from (List.take_append_getElem hjl).symm)
          have HSE := Lib.hid (HSK.out.2 _ (List.getElem_mem hjl))
          generalize y.els[j]'hjl = z at *
          have HST := Lib.hid (StrsF.kept hsta (old_kept (hbl.alloc hbl.size (.cells #[] 9)).drew (Nat.le_refl _)))
          obtain ⟨ys, hys, hyc⟩ := HI.out.els
          rw [HJL.out] at hys
          have HYS := Lib.hid hys
          have HYC := Lib.hid hyc
          obtain ⟨pe, cape, rfl⟩ := own_slice hys
          obtain ⟨_, cg, fg, hglt⟩ := HI.out.cells
          have D0 : ∀ o : Obj, (wr.alloc o).cell? ⟨w.heap.size, 3, none⟩ = some (.slice (some ⟨ba, oa, none⟩) l.length cap0) := fun o => HC3.out _ (hbl.alloc hbl.size o)
          have D1 : ∀ o : Obj, (wr.alloc o).cell? ⟨ba, oa + k * 2 + 1, none⟩ = some (.slice (some ⟨b2a, o2a, none⟩) y.els.length capea) := fun o => HA2.out _ (hbl.alloc hbl.size o)
          have D2 : ∀ o : Obj, (wr.alloc o).cell? ⟨b2a, o2a + j, none⟩ = some (.slice pja z.length capja) := fun o => (World.cell?_of_block (a := ⟨b2a, o2a + j, none⟩) (Below.heap_alloc _ _ _ (Nat.lt_of_lt_of_le hF2a hbl.size))).trans hcja
          have D3 : ∀ o : Obj, (wr.alloc o).cell? ⟨g, 1, none⟩ = some (.slice pe j cape) := fun o => (World.cell?_of_block (a := ⟨g, 1, none⟩) (Below.heap_alloc _ _ _ hglt)).trans cg
          have HGL := Lib.hid hglt
          have HNG := Lib.hid (own_not HYS.out HI.out.hg (by decide))
          clear hi hbl hc3a hsta hpr hys hyc hglt
          go_wp2
          go_region_law (first
            | (rw [if_pos (by rfl)]
               refine st_appF 48 9 (.string ⟨#[]⟩) 1 16 par_str Tryd.underlying48 rfl (by decide) (by decide) wb.heap.size (.slice (some ⟨wr.heap.size, 0, none⟩) 0 0) 0 [] rfl (own_keep (World.ownsRow_made wr #[] 0 HB.out.size (by decide) rfl) (fun _ _ => rfl)) (.slice pja z.length capja) _ z.length (z.map str) rfl HST.out (by simp) (one_strs z) (by have := HSE.out; omega) (by have := HB.out.size; simp; omega) ?_
               intro v1 w2 ho1 hgr1 hbk1
               rw [Nat.zero_add, List.nil_append] at ho1
               obtain ⟨p1, cap1, rfl⟩ := own_slice ho1
               have hg1 : ∀ b, b < wr.heap.size → w2.heap[b]? = wr.heap[b]? := fun b hb => (hgr1.block b (by simp; omega) (by simp [Value.ownBlock]; omega)).trans (Below.heap_alloc _ _ _ hb)
               have C3 : w2.cell? ⟨g, 1, none⟩ = some (.slice pe j cape) := (World.cell?_of_block (a := ⟨g, 1, none⟩) (hg1 g HGL.out)).trans cg
               have hs2 : wr.heap.size + 1 ≤ w2.heap.size := by have := hgr1.size; simpa using this
               have C4 : ∀ o : Obj, (w2.alloc o).cell? ⟨g, 1, none⟩ = some (.slice pe j cape) := fun o => (World.cell?_of_block (a := ⟨g, 1, none⟩) (Below.heap_alloc _ _ _ (Nat.lt_of_lt_of_le HGL.out (Nat.le_trans (Nat.le_succ _) hs2)))).trans C3
               have H1 := Lib.hid ho1
               have HG1 := Lib.hid hg1
               have HS2 := Lib.hid hs2
               have HGR1 := Lib.hid hgr1
               have HK1 := Lib.hid hbk1
               clear ho1 hg1 hs2 hgr1 hbk1)
            | (rw [if_pos (by rfl)]
               refine st_app1 34 48 (.slice none 0 0) 1 24 par_strs Tryd.underlying34 rfl (by decide) (by decide) wb.heap.size (.slice pe j cape) j ys rfl (own_keep HYS.out (fun b e => (Below.heap_alloc _ _ _ (by have := (HYS.out.lt b e).2; have := HS2.out; omega)).trans (HG1.out b (HYS.out.lt b e).2))) w2.heap.size 1 [.slice p1 z.length cap1] 48 (0, 0) rfl rfl (at_last _ _) (by intro u hu; simp at hu; subst hu; rfl) (by have := HJL.out; have := HSK.out.1; omega) (by have := HB.out.size; have := HS2.out; simp; omega) ?_
               intro v2 w4 ho2 hgr2 hbk2
               obtain ⟨p2, cap2, rfl⟩ := own_slice ho2
               have hg4 : w4.heap[g]? = wr.heap[g]? := (hgr2.block g (by have := HGL.out; have := HS2.out; simp; omega) HNG.out).trans ((Below.heap_alloc _ _ _ (by have := HGL.out; have := HS2.out; omega)).trans (HG1.out g HGL.out))
               have C5 : w4.cell? ⟨g, 1, none⟩ = some (.slice pe j cape) := (World.cell?_of_block (a := ⟨g, 1, none⟩) hg4).trans cg
               have F5 : w4.frozen? ⟨g, 1, none⟩ = false := (World.frozen?_of_block (a := ⟨g, 1, none⟩) hg4).trans fg
               have H2 := Lib.hid ho2
               have HGR2 := Lib.hid hgr2
               have HK2 := Lib.hid hbk2
               clear ho2 hgr2 hbk2 hg4))
          all_goals
            obtain ⟨⟨F2, hE⟩, hBE⟩ := step_elem HI.out HJL.out HTJ.out HYC.out HYS.out HK1.out H1.out HGR1.out H2.out HGR2.out HK2.out HB.out HB.out.size
            have HE := Lib.hid hE
            have HBE := Lib.hid hBE
            clear hE hBE C3 C4 C5 F5 D0 D1 D2 D3 cg fg a2 c3 hcja
            go_wp2
            go_roundw
            case rel => exact ⟨j + 1, F2, _, by go_num, by omega, HE.out, HBE.out⟩
            case measure => simp [intOf]; omega
        · obtain rfl : j = y.els.length := by omega
          rw [List.take_length] at HI
          have HL0 := Lib.hid (show (l.take k).length = k by rw [List.length_take]; omega)
          obtain ⟨xs, hxs, hxc⟩ := HI.out.out
          rw [HL0.out] at hxs
          obtain ⟨ys, hys, _⟩ := HI.out.els
          obtain ⟨pe, cape, rfl⟩ := own_slice hys
          have HXS := Lib.hid hxs
          have HXC := Lib.hid hxc
          obtain ⟨cg0, cg, fg, hglt⟩ := HI.out.cells
          have HGL := Lib.hid hglt
          clear hi hbl hxs hxc hys hglt
          go_wp2_with (at_builtin; refine wl_app1 23 36 (.agg #[.string ⟨#[]⟩, .slice none 0 0]) 2 40 par_seg Tryd.underlying23 rfl (by decide) (by decide) wb.heap.size (.slice p k cap) k xs rfl (HXS.out.alloc _) wr.heap.size 1 [str y.tag, .slice pe y.els.length cape] 36 (0, 0) rfl rfl (at_last _ _) (by intro u hu; simp at hu; rcases hu with rfl | rfl <;> rfl) (by omega) (by have := HB.out.size; simp; omega) ?_)
          intro v' w3 ho hgr hbk
          obtain ⟨p', cap', rfl⟩ := own_slice ho
          have HSG := Lib.hid (HI.out.seg (by rw [HL0.out]; exact HXS.out) HXC.out (by rw [HL0.out]; exact ho) hgr (by simpa using hbk))
          have HB3 := Lib.hid ((HB.out.alloc HB.out.size _).grown hgr (by have := HB.out.size; simp; omega) (fun k hk => (HXS.out.lt k hk).1))
          clear ho hgr hbk cg0 cg fg
          go_wp2
          go_roundw
          case rel => exact ⟨k + 1, _, p', cap', by go_num, rfl, by omega, by rw [HTK.out]; exact HSG.out, HB3.out⟩
          case measure => simp [intOf]; omega
    · obtain rfl : k = l.length := by omega
      rw [List.take_length] at HO
      have q0 : wr.cell? ⟨w.heap.size, 0, none⟩ = some (.int .u8 (f : Int)) := cell_of_arr (HX0.out _ hbl) 0
      have q1 : wr.cell? ⟨w.heap.size, 1, none⟩ = some (.int .u8 (t : Int)) := cell_of_arr (HX0.out _ hbl) 1
      have q2 : wr.cell? ⟨w.heap.size, 2, none⟩ = some (.int .u64 (r : Int)) := cell_of_arr (HX0.out _ hbl) 2
      have g3 : wr.frozen? ⟨w.heap.size, 3, none⟩ = false := frozen_of_arr (HX0.out _ hbl) 3
      have hX1 := HX1.out _ hbl
      have hX0 := HX0.out _ hbl
      have hY0 := set_arr0 hX0 3 (.slice p l.length cap)
      have hY1 := (Below.heap_setCell wr ⟨w.heap.size, 3, none⟩ (.slice p l.length cap) (w.heap.size + 1) (by show w.heap.size + 1 ≠ w.heap.size; omega)).trans hX1
      obtain ⟨ws, hws⟩ : ∃ ws, ws = wr.setCell ⟨w.heap.size, 3, none⟩ (.slice p l.length cap) := ⟨_, rfl⟩
      rw [← hws] at hY0 hY1
      have HWS2 := Lib.hid hws
      have HY1 := Lib.hid hY1
      have z0 : ws.cell? ⟨w.heap.size, 0, none⟩ = some (.int .u8 (f : Int)) := cell_of_arr hY0 0
      have z1 : ws.cell? ⟨w.heap.size, 1, none⟩ = some (.int .u8 (t : Int)) := cell_of_arr hY0 1
      have z2 : ws.cell? ⟨w.heap.size, 2, none⟩ = some (.int .u64 (r : Int)) := cell_of_arr hY0 2
      have z3 : ws.cell? ⟨w.heap.size, 3, none⟩ = some (.slice p l.length cap) := cell_of_arr hY0 3
      have r0 : ws.cell? ⟨w.heap.size + 1, 0, none⟩ = some (.int .u8 0) := cell_of_arr hY1 0
      have r1 : ws.cell? ⟨w.heap.size + 1, 1, none⟩ = some (.int .u8 0) := cell_of_arr hY1 1
      have r2 : ws.cell? ⟨w.heap.size + 1, 2, none⟩ = some (.int .u64 0) := cell_of_arr hY1 2
      have r3 : ws.cell? ⟨w.heap.size + 1, 3, none⟩ = some (.slice none 0 0) := cell_of_arr hY1 3
      have f0 : ws.frozen? ⟨w.heap.size + 1, 0, none⟩ = false := frozen_of_arr hY1 0
      have f1 : ws.frozen? ⟨w.heap.size + 1, 1, none⟩ = false := frozen_of_arr hY1 1
      have f2 : ws.frozen? ⟨w.heap.size + 1, 2, none⟩ = false := frozen_of_arr hY1 2
      have f3 : ws.frozen? ⟨w.heap.size + 1, 3, none⟩ = false := frozen_of_arr hY1 3
      rw [hws] at z0 z1 z2 z3 r0 r1 r2 r3 f0 f1 f2 f3
      clear hws hbl ho hX0 hX1 hY0 hY1
      go_wp2
      (try simp only [Exit.inBlock, Exit.then])
      refine bodyPost_ret (results_cell_row rfl _ _ (w.heap.size + 1) 25 (wrV f t r (.slice p l.length cap)) (0, 0) _ rfl (by rw [← HWS2.out]; exact set4n HY1.out _ _ _ _) Tryd.underlying25 rfl sizeWrap) rfl ?_
      have hk : ∀ b, w.heap.size + 2 ≤ b → (((((wr.setCell ⟨w.heap.size, 3, none⟩ (.slice p l.length cap)).setCell ⟨w.heap.size + 1, 0, none⟩ (.int .u8 (f : Int))).setCell ⟨w.heap.size + 1, 1, none⟩ (.int .u8 (t : Int))).setCell ⟨w.heap.size + 1, 2, none⟩ (.int .u64 (r : Int))).setCell ⟨w.heap.size + 1, 3, none⟩ (.slice p l.length cap)).heap[b]? = wr.heap[b]? := fun b hb =>
        (keep4 _ _ _ _ _ _ _ (by omega)).trans (Below.heap_setCell _ _ _ _ (by show b ≠ w.heap.size; omega))
      have hO := HO.out
      rw [HWS.out] at hO
      have hbs := HB.out.size
      rw [HWS.out] at hbs
      have hB1 : Below w.heap.size w wr := HBW.out.trans (HB.out.mono HBW.out.size)
      refine ⟨⟨_, F, rfl, hO.set hk (by simp [World.setCell]), by simpa [World.setCell] using hbs⟩, ?_⟩
      exact ((((hB1.setCell (p := ⟨w.heap.size, 3, none⟩) (Nat.le_refl _) _).setCell (p := ⟨w.heap.size + 1, 0, none⟩) (Nat.le_succ _) _).setCell (p := ⟨w.heap.size + 1, 1, none⟩) (Nat.le_succ _) _).setCell (p := ⟨w.heap.size + 1, 2, none⟩) (Nat.le_succ _) _).setCell (p := ⟨w.heap.size + 1, 3, none⟩) (Nat.le_succ _) _
end Go.Proofs.YtlonmmnaipclcaaDoor
