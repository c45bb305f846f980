/- The reader's methods that end an element, a segment. -/
import Derived.Test.YtjlifjgljejabaaGreatDoorEdiR3
namespace Go.Proofs.YtjlifjgljejabaaGreatDoor
open Go.RowKit Go.Edi

theorem at_last_d (w : World) (o : Obj) : (w.alloc o).drew.heap[w.heap.size]? = some o := at_last w o
theorem grown_alloc_owner_d {w w' : World} {g : Nat} {row : Option Nat} (o : Obj) (h : (w.alloc o).drew.grownBy w' row) : Chg w w' g row := grown_alloc_owner o ⟨h.os, h.tape, h.output, h.size, h.block⟩
theorem size_alloc_d {B : Nat} {w : World} (o : Obj) (h : B ≤ w.heap.size) : B ≤ (w.alloc o).drew.heap.size := by
  show B ≤ (w.alloc o).heap.size
  simp; omega
set_option maxRecDepth 100000 in
set_option maxHeartbeats 1600000 in
theorem endElem_v {B g : Nat} {F : Nat → Prop} {s : RS} {vn vs ve vl vw : Value} (w : World) (h : RdV B g F s vn vs ve vl vw w) (hBw : B ≤ w.heap.size) (hbd : s.el.length ≤ 1000) (hbe : s.els.length ≤ 1000) :
    Calls Tryz.prog 168 #[.pointer (some ⟨g, 0, none⟩)] w fun e w' => e = .returned (.tuple #[]) ∧ RdAt B g (endElem s) w' ∧ Below B w w' := by
  have HE := Lib.hid (endComp_v w h hBw hbd)
  have HBE := Lib.hid hbe
  have HBw := Lib.hid hBw
  clear h hBw hbd hbe
  go_enter Tryz.func168, Tryz.ntmps168
  go_wp2_with (go_at_call 173; refine (HE.out).mono ?_)
  rintro e w1 ⟨rfl, ⟨F1, vn1, vs1, ve1, vl1, vw1, h1⟩, hb1⟩
  obtain ⟨ys, hve, hys⟩ := h1.els
  obtain ⟨pe, cape, rfl⟩ := own_slice hve
  obtain ⟨pl, capl, rfl⟩ := own_slice h1.el
  generalize hLE : (Go.Edi.endComp s).el.length = LE at *
  generalize hLS : (Go.Edi.endComp s).els.length = LS at *
  have c3 : w1.cell? ⟨g, 3, none⟩ = some (.slice pe LS cape) := (h1.cell 3).trans rfl
  have c4 : w1.cell? ⟨g, 4, none⟩ = some (.slice pl LE capl) := (h1.cell 4).trans rfl
  have c3c : ∀ o, (w1.alloc o).cell? ⟨g, 3, none⟩ = some (.slice pe LS cape) := fun o => (World.cell?_of_block (a := ⟨g, 3, none⟩) (Below.heap_alloc _ _ _ h1.lt)).trans c3
  have H1 := Lib.hid h1
  have HVE := Lib.hid hve
  have HYS := Lib.hid hys
  have HB1 := Lib.hid hb1
  have HLE := Lib.hid hLE
  have HLS := Lib.hid hLS
  clear h1 hve hys hb1 hLE hLS
  go_wp2
  go_region_law
    (rw [if_pos (by rfl)]
     refine st_app1 57 62 (.slice none 0 0) 1 24 par_strs Tryz.underlying57 rfl (by decide) (by decide) B (.slice pe LS cape) LS ys rfl ((HVE.out.alloc _).drew) w1.heap.size 1 [.slice pl LE capl] 62 (0, 0) rfl rfl (at_last_d _ _) (by intro u hu; simp at hu; subst hu; rfl) (by have := HBE.out; have := HLS.out; simp only [Go.Edi.endComp] at this; omega) (size_alloc_d _ (by have := HB1.out.size; have := HBw.out; omega)) ?_
     intro v' w2 ho hgr hbl
     obtain ⟨p', cap', rfl⟩ := own_slice ho
     have hng := own_not HVE.out H1.out.hg (by decide)
     have hg2 : w2.heap[g]? = some (.cells #[vn1, vs1, str (Go.Edi.endComp s).tg, .slice pe LS cape, .slice pl LE capl, vw1, .bool (Go.Edi.endComp s).wi] 125 (0, 0)) := by
       rw [hgr.block g (by have := H1.out.lt; show g < (w1.alloc _).heap.size; simp; omega) hng]
       exact (Below.heap_alloc _ _ _ H1.out.lt).trans H1.out.hg
     have c3' : w2.cell? ⟨g, 3, none⟩ = some (.slice pe LS cape) := by simp [World.cell?, hg2]
     have f3' : w2.frozen? ⟨g, 3, none⟩ = false := by simp [World.frozen?, hg2]
     have c4' : w2.cell? ⟨g, 4, none⟩ = some (.slice pl LE capl) := by simp [World.cell?, hg2]
     have f4' : w2.frozen? ⟨g, 4, none⟩ = false := by simp [World.frozen?, hg2]
     have HG2 := Lib.hid hg2
     have HO := Lib.hid ho
     have HGR := Lib.hid hgr
     have HBK := Lib.hid hbl
     clear hg2 ho hgr hbl hng)
  all_goals
    go_wp2
    go_end0
    have h1 := H1.out
    have hc : Chg w1 w2 g (Value.slice pe LS cape).ownBlock := grown_alloc_owner_d _ HGR.out
    have hlen := HLS.out
    have hfin : RdV B g (fun b => F1 b ∨ (Value.slice pl LE capl).ownBlock = some b) (endElem s) vn1 vs1 (.slice p' (LS + 1) cap') (.slice none 0 0) vw1 ((w2.setCell ⟨g, 3, none⟩ (.slice p' (LS + 1) cap')).setCell ⟨g, 4, none⟩ (.slice none 0 0)) := by
      refine h1.elems (ys := ys) HYS.out ((hc.set 3 _).set 4 _) ?_ ?_ ?_ (set_heap (set_heap HG2.out 3 _) 4 _)
      · rw [hlen]
        exact own_chg (g := g) HO.out HG2.out (by decide) (((Chg.refl w2 g none).set 3 _).set 4 _) (Classical.em _)
      · rw [hlen]; exact HVE.out
      · rcases HBK.out with e | e
        · exact Or.inl e
        · exact Or.inr ⟨_, e, by show w1.heap.size ≤ (w1.alloc _).heap.size; simp⟩
    exact ⟨rfl, ⟨_, _, _, _, _, _, hfin⟩, HB1.out.trans (below_chg ((hc.set 3 _).set 4 _) h1.hB (fun k hk => (HVE.out.lt k hk).1) HGR.out.os HGR.out.tape HGR.out.output (by have := HB1.out.size; have := HBw.out; omega))⟩
end Go.Proofs.YtjlifjgljejabaaGreatDoor
