/- The reader's methods that end a component, an element, a segment. -/
import Derived.Test.YtjlifjgljejabaaGreatDoorEdiR2
import Derived.Deep.RegionLaw
namespace Go.Proofs.YtjlifjgljejabaaGreatDoor
open Go.RowKit Go.Edi

theorem RdV.drew {B g : Nat} {F : Nat → Prop} {s : RS} {vn vs ve vl vw : Value} {w : World} (h : RdV B g F s vn vs ve vl vw w) : RdV B g F s vn vs ve vl vw w.drew :=
  h.to ⟨Nat.le_refl _, fun _ _ _ _ => rfl⟩ h.hg h.vn rfl rfl rfl rfl
set_option maxRecDepth 100000 in
set_option maxHeartbeats 1600000 in
theorem endComp_v {B g : Nat} {F : Nat → Prop} {s : RS} {vn vs ve vl vw : Value} (w : World) (h : RdV B g F s vn vs ve vl vw w) (hBw : B ≤ w.heap.size) (hbd : s.el.length ≤ 1000) :
    Calls Tryz.prog 173 #[.pointer (some ⟨g, 0, none⟩)] w fun e w' => e = .returned (.tuple #[]) ∧ RdAt B g (endComp s) w' ∧ Below B w w' := by
  have HR := Lib.hid h.drew
  have HBL := Lib.hid hbd
  have HBw := Lib.hid hBw
  have HBd := Lib.hid (show Below B w w.drew from (Below.refl B w).drew)
  have HTW := Lib.hid (takeWord_v _ h.drew hBw)
  obtain ⟨p, cap, rfl⟩ := own_slice h.el
  have c4 : w.cell? ⟨g, 4, none⟩ = some (.slice p s.el.length cap) := (h.cell 4).trans rfl
  clear h hBw hbd
  go_enter Tryz.func173, Tryz.ntmps173
  go_wp2
  go_region_law (first
    | (go_simp
       refine (HTW.out).mono ?_
       rintro e w4 ⟨rfl, ⟨vw4, h4⟩, hb4⟩
       have c4b : w4.cell? ⟨g, 4, none⟩ = some (.slice p s.el.length cap) := (h4.cell 4).trans rfl
       have H4 := Lib.hid h4
       have HB4 := Lib.hid (HBd.out.trans hb4)
       have c4c : ∀ o, (w4.alloc o).cell? ⟨g, 4, none⟩ = some (.slice p s.el.length cap) := fun o => (World.cell?_of_block (a := ⟨g, 4, none⟩) (Below.heap_alloc _ _ _ H4.out.lt)).trans c4b
       clear h4 hb4)
    | (rw [if_pos (by rfl)]
       refine st_app1 62 9 (.string ⟨#[]⟩) 1 16 par_str Tryz.underlying62 rfl (by decide) (by decide) B (.slice p s.el.length cap) s.el.length (s.el.map str) rfl (H4.out.el.alloc _) w4.heap.size 1 [str s.wd] 9 (0, 0) rfl rfl (at_last _ _) (by intro u hu; simp at hu; subst hu; rfl) (by have := HBL.out; omega) (by have := HB4.out.size; have := HBw.out; simp; omega) ?_
       intro v' w2 ho hgr hbl
       obtain ⟨p', cap', rfl⟩ := own_slice ho
       have hng := own_not H4.out.el H4.out.hg (by decide)
       have hg2 : w2.heap[g]? = some (.cells #[vn, vs, str s.tg, ve, .slice p s.el.length cap, vw4, .bool s.wi] 125 (0, 0)) := by
         rw [hgr.block g (by have := H4.out.lt; simp; omega) hng, Below.heap_alloc _ _ _ H4.out.lt]; exact H4.out.hg
       have c4' : w2.cell? ⟨g, 4, none⟩ = some (.slice p s.el.length cap) := by simp [World.cell?, hg2]
       have f4' : w2.frozen? ⟨g, 4, none⟩ = false := by simp [World.frozen?, hg2]
       have HG2 := Lib.hid hg2
       have HO := Lib.hid ho
       have HGR := Lib.hid hgr
       have HBK := Lib.hid hbl
       clear hg2 ho hgr hbl hng))
  all_goals
    go_end0
    have h4 := H4.out
    have hc : Chg w4 w2 g (Value.slice p s.el.length cap).ownBlock := grown_alloc_owner _ HGR.out
    have hfin : RdV B g F (endComp s) vn vs ve (.slice p' (s.el.length + 1) cap') vw4 (w2.setCell ⟨g, 4, none⟩ (.slice p' (s.el.length + 1) cap')) := by
      refine h4.elem (el' := s.el ++ [s.wd]) (hc.set 4 _) ?_ ?_ (set_heap HG2.out 4 _)
      · rw [List.length_append, List.map_append]
        exact own_chg (g := g) HO.out HG2.out (by decide) ((Chg.refl w2 g none).set 4 _) (Classical.em _)
      · rcases HBK.out with e | e
        · exact Or.inl e
        · exact Or.inr ⟨_, e, by simp⟩
    exact ⟨rfl, ⟨F, _, _, _, _, _, hfin⟩, HB4.out.trans (below_chg (hc.set 4 _) h4.hB (fun k hk => (h4.el.lt k hk).1) HGR.out.os HGR.out.tape HGR.out.output (by have := HB4.out.size; have := HBw.out; omega))⟩
end Go.Proofs.YtjlifjgljejabaaGreatDoor
