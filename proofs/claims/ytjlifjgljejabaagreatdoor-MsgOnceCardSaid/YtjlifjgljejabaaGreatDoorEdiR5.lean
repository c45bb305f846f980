/- The reader's method that ends a segment. -/
import Derived.Test.YtjlifjgljejabaaGreatDoorEdiR4
namespace Go.Proofs.YtjlifjgljejabaaGreatDoor
open Go.RowKit Go.Edi

def w5 (w2 : World) (g : Nat) (v' : Value) : World := ((((w2.setCell ⟨g, 1, none⟩ v').setCell ⟨g, 2, none⟩ (str [])).setCell ⟨g, 3, none⟩ (.slice none 0 0)).setCell ⟨g, 6, none⟩ (.bool false)).setCell ⟨g, 0, none⟩ (nx g .out)
theorem endSeg_fin {B g : Nat} {F : Nat → Prop} {s : RS} {vn vs ve vl vw : Value} {w w2 : World} {o : Obj} {xs : List Value} {v' : Value} (h1 : RdV B g F s vn vs ve vl vw w) (hxs : SgC w F s.segs xs) (hvs : w.ownsRow B 59 2 vs s.segs.length xs) (hBw : B ≤ w.heap.size)
    (ho : w2.ownsRow B 59 2 v' (s.segs.length + 1) (xs ++ [str s.tg, ve])) (hgr : (w.alloc o).drew.grownBy w2 vs.ownBlock) (hbl : v'.ownBlock = vs.ownBlock ∨ v'.ownBlock = some (w.alloc o).drew.heap.size)
    (hg2 : w2.heap[g]? = some (.cells #[vn, vs, str s.tg, ve, vl, vw, .bool s.wi] 125 (0, 0))) :
    RdAt B g (endSeg s) (w5 w2 g v') ∧ Below B w (w5 w2 g v') := by
  have hc : Chg w w2 g vs.ownBlock := grown_alloc_owner_d _ hgr
  have hcc : Chg w (w5 w2 g v') g vs.ownBlock := ((((hc.set 1 v').set 2 (str [])).set 3 (.slice none 0 0)).set 6 (.bool false)).set 0 (nx g .out)
  have hch : Chg w2 (w5 w2 g v') g none := (((((Chg.refl w2 g none).set 1 v').set 2 (str [])).set 3 (.slice none 0 0)).set 6 (.bool false)).set 0 (nx g .out)
  have hb0 : Below B w w2 := below_chg hc h1.hB (fun k hk => (hvs.lt k hk).1) hgr.os hgr.tape hgr.output hBw
  have hb5 : Below B w (w5 w2 g v') := ((((hb0.setCell (p := ⟨g, 1, none⟩) h1.hB _).setCell (p := ⟨g, 2, none⟩) h1.hB _).setCell (p := ⟨g, 3, none⟩) h1.hB _).setCell (p := ⟨g, 6, none⟩) h1.hB _).setCell (p := ⟨g, 0, none⟩) h1.hB _
  have a1 := set_heap hg2 1 v'
  have a2 := set_heap a1 2 (str [])
  have a3 := set_heap a2 3 (.slice none 0 0)
  have a4 := set_heap a3 6 (.bool false)
  have a5 := set_heap a4 0 (nx g .out)
  simp only [List.setIfInBounds_toArray, List.set_cons_zero, List.set_cons_succ] at a5
  refine ⟨⟨_, _, _, _, _, _, h1.seg (xs := xs) (w' := w5 w2 g v') hxs hcc (own_chg (g := g) ho hg2 (by decide) hch (Classical.em _)) hvs ?_ a5⟩, hb5⟩
  rcases hbl with e | e
  · exact Or.inl e
  · exact Or.inr ⟨_, e, by show w.heap.size ≤ (w.alloc _).heap.size; simp⟩
set_option maxRecDepth 100000 in
set_option maxHeartbeats 1600000 in
theorem endSeg_v {B g : Nat} {F : Nat → Prop} {s : RS} {vn vs ve vl vw : Value} (w : World) (h1 : RdV B g F s vn vs ve vl vw w) (hBw : B ≤ w.heap.size) (hbe : s.segs.length ≤ 1000) :
    Does B g 155 #[.pointer (some ⟨g, 0, none⟩)] w (0, endSeg s) := by
  unfold Does
  have hmf : ∀ (fn : Fn) (first cap : Array Value) (w : World), (Instr.makeFunc fn first cap).run Tryz.prog w = .ok (.func fn first cap) w := fun _ _ _ _ => rfl
  have HBE := Lib.hid hbe
  have HBw := Lib.hid hBw
  obtain ⟨xs, hvs, hxs⟩ := h1.segs
  obtain ⟨ps, caps, rfl⟩ := own_slice hvs
  obtain ⟨ys, hve, hys⟩ := h1.els
  obtain ⟨pe, cape, rfl⟩ := own_slice hve
  generalize hLS : s.segs.length = LS at *
  generalize hLE : s.els.length = LE at *
  have c1 : w.cell? ⟨g, 1, none⟩ = some (.slice ps LS caps) := (h1.cell 1).trans rfl
  have c2 : w.cell? ⟨g, 2, none⟩ = some (str s.tg) := (h1.cell 2).trans rfl
  have c3 : w.cell? ⟨g, 3, none⟩ = some (.slice pe LE cape) := (h1.cell 3).trans rfl
  have c1c : ∀ o, (w.alloc o).cell? ⟨g, 1, none⟩ = some (.slice ps LS caps) := fun o => (World.cell?_of_block (a := ⟨g, 1, none⟩) (Below.heap_alloc _ _ _ h1.lt)).trans c1
  have H1 := Lib.hid h1
  have HVS := Lib.hid hvs
  have HXS := Lib.hid hxs
  have HLS := Lib.hid hLS
  have HLE := Lib.hid hLE
  clear h1 hvs hxs hve hys hLS hLE hbe hBw
  go_enter Tryz.func155, Tryz.ntmps155
  go_wp2
  go_region_law
    (rw [if_pos (by rfl)]
     refine st_app1 39 59 (.agg #[.string ⟨#[]⟩, .slice none 0 0]) 2 40 par_seg Tryz.underlying39 rfl (by decide) (by decide) B (.slice ps LS caps) LS xs rfl ((HVS.out.alloc _).drew) w.heap.size 1 [str s.tg, .slice pe LE cape] 59 (0, 0) rfl rfl (at_last_d _ _) (by intro u hu; simp at hu; rcases hu with rfl | rfl <;> rfl) (by have := HBE.out; omega) (size_alloc_d _ (by have := HBw.out; omega)) ?_
     intro v' w2 ho hgr hbl
     obtain ⟨p', cap', rfl⟩ := own_slice ho
     have hng := own_not HVS.out H1.out.hg (by decide)
     have hg2 : w2.heap[g]? = some (.cells #[vn, .slice ps LS caps, str s.tg, .slice pe LE cape, vl, vw, .bool s.wi] 125 (0, 0)) := by
       rw [hgr.block g (by have := H1.out.lt; show g < (w.alloc _).heap.size; simp; omega) hng]
       exact (Below.heap_alloc _ _ _ H1.out.lt).trans H1.out.hg
     have c0' : w2.cell? ⟨g, 0, none⟩ = some vn := by simp [World.cell?, hg2]
     have c1' : w2.cell? ⟨g, 1, none⟩ = some (.slice ps LS caps) := by simp [World.cell?, hg2]
     have c2' : w2.cell? ⟨g, 2, none⟩ = some (str s.tg) := by simp [World.cell?, hg2]
     have c3' : w2.cell? ⟨g, 3, none⟩ = some (.slice pe LE cape) := by simp [World.cell?, hg2]
     have c6' : w2.cell? ⟨g, 6, none⟩ = some (.bool s.wi) := by simp [World.cell?, hg2]
     have f' : ∀ j, w2.frozen? ⟨g, j, none⟩ = false := fun j => by simp [World.frozen?, hg2]
     have HG2 := Lib.hid hg2
     have HO := Lib.hid ho
     have HGR := Lib.hid hgr
     have HBK := Lib.hid hbl
     clear hg2 ho hgr hbl hng)
  all_goals
    go_wp2
    go_ret
    have e1 : Value.func (Fn.func 91) #[Value.pointer (some ⟨g, 0, none⟩)] #[] = nx g .out := rfl
    have e2 : Value.string { data := #[] } = str [] := rfl
    rw [e1, e2]
    have hlen := HLS.out
    subst hlen
    exact ⟨rfl, endSeg_fin H1.out HXS.out HVS.out HBw.out HO.out HGR.out HBK.out HG2.out⟩
end Go.Proofs.YtjlifjgljejabaaGreatDoor
