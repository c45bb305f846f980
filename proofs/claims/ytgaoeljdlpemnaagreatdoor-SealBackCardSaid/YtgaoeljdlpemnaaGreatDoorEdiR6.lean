/- The reader's methods, one for each state. -/
import Derived.Test.YtgaoeljdlpemnaaGreatDoorEdiR3
/- The reader's methods that end an element, a segment. -/
namespace Go.Proofs.YtgaoeljdlpemnaaGreatDoor
open Go.RowKit Go.Edi

theorem at_last_d (w : World) (o : Obj) : (w.alloc o).drew.heap[w.heap.size]? = some o := at_last w o
theorem grown_alloc_owner_d {w w' : World} {g : Nat} {row : Option Nat} (o : Obj) (h : (w.alloc o).drew.grownBy w' row) : Chg w w' g row := grown_alloc_owner o ⟨h.os, h.tape, h.output, h.size, h.block⟩
theorem size_alloc_d {B : Nat} {w : World} (o : Obj) (h : B ≤ w.heap.size) : B ≤ (w.alloc o).drew.heap.size := by
  show B ≤ (w.alloc o).heap.size
  simp; omega
set_option maxRecDepth 100000 in
set_option maxHeartbeats 1600000 in
theorem endElem_v {B g : Nat} {F : Nat → Prop} {s : RS} {vn vs ve vl vw : Value} (w : World) (h : RdV B g F s vn vs ve vl vw w) (hBw : B ≤ w.heap.size) (hbd : s.el.length ≤ 1000) (hbe : s.els.length ≤ 1000) :
    Calls Tryz.prog 169 #[.pointer (some ⟨g, 0, none⟩)] w fun e w' => e = .returned (.tuple #[]) ∧ RdAt B g (endElem s) w' ∧ Below B w w' := by
  have HE := Lib.hid (endComp_v w h hBw hbd)
  have HBE := Lib.hid hbe
  have HBw := Lib.hid hBw
  clear h hBw hbd hbe
  go_enter Tryz.func169, Tryz.ntmps169
  go_wp2_with (go_at_call 179; refine (HE.out).mono ?_)
  rintro e w1 ⟨rfl, ⟨F1, vn1, vs1, ve1, vl1, vw1, h1⟩, hb1⟩
  obtain ⟨ys, hve, hys⟩ := h1.els
  obtain ⟨pe, cape, rfl⟩ := own_slice hve
  obtain ⟨pl, capl, rfl⟩ := own_slice h1.el
  generalize hLE : (Go.Edi.endComp s).el.length = LE at *
  generalize hLS : (Go.Edi.endComp s).els.length = LS at *
  have c3 : w1.cell? ⟨g, 3, none⟩ = some (.slice pe LS cape) := (h1.cell 3).trans rfl
  have c4 : w1.cell? ⟨g, 4, none⟩ = some (.slice pl LE capl) := (h1.cell 4).trans rfl
  have c3c : ∀ o, (w1.alloc o).cell? ⟨g, 3, none⟩ = some (.slice pe LS cape) := fun o => (World.cell?_of_block (a := ⟨g, 3, none⟩) (Below.heap_alloc _ _ _ h1.lt)).trans c3
  have H1 := Lib.hid h1
  have HVE := Lib.hid hve
  have HYS := Lib.hid hys
  have HB1 := Lib.hid hb1
  have HLE := Lib.hid hLE
  have HLS := Lib.hid hLS
  clear h1 hve hys hb1 hLE hLS
  go_wp2
  go_region_law
    (rw [if_pos (by rfl)]
     refine st_app1 110 129 (.slice none 0 0) 1 24 par_strs Tryz.underlying110 rfl (by decide) (by decide) B (.slice pe LS cape) LS ys rfl ((HVE.out.alloc _).drew) w1.heap.size 1 [.slice pl LE capl] 129 (0, 0) rfl rfl (at_last_d _ _) (by intro u hu; simp at hu; subst hu; rfl) (by have := HBE.out; have := HLS.out; simp only [Go.Edi.endComp] at this; omega) (size_alloc_d _ (by have := HB1.out.size; have := HBw.out; omega)) ?_
     intro v' w2 ho hgr hbl
     obtain ⟨p', cap', rfl⟩ := own_slice ho
     have hng := own_not HVE.out H1.out.hg (by decide)
     have hg2 : w2.heap[g]? = some (.cells #[vn1, vs1, str (Go.Edi.endComp s).tg, .slice pe LS cape, .slice pl LE capl, vw1, .bool (Go.Edi.endComp s).wi] 131 (0, 0)) := by
       rw [hgr.block g (by have := H1.out.lt; show g < (w1.alloc _).heap.size; simp; omega) hng]
       exact (Below.heap_alloc _ _ _ H1.out.lt).trans H1.out.hg
     have c3' : w2.cell? ⟨g, 3, none⟩ = some (.slice pe LS cape) := by simp [World.cell?, hg2]
     have f3' : w2.frozen? ⟨g, 3, none⟩ = false := by simp [World.frozen?, hg2]
     have c4' : w2.cell? ⟨g, 4, none⟩ = some (.slice pl LE capl) := by simp [World.cell?, hg2]
     have f4' : w2.frozen? ⟨g, 4, none⟩ = false := by simp [World.frozen?, hg2]
     have HG2 := Lib.hid hg2
     have HO := Lib.hid ho
     have HGR := Lib.hid hgr
     have HBK := Lib.hid hbl
     clear hg2 ho hgr hbl hng)
  all_goals
    go_wp2
    go_end0
    have h1 := H1.out
    have hc : Chg w1 w2 g (Value.slice pe LS cape).ownBlock := grown_alloc_owner_d _ HGR.out
    have hlen := HLS.out
    have hfin : RdV B g (fun b => F1 b ∨ (Value.slice pl LE capl).ownBlock = some b) (endElem s) vn1 vs1 (.slice p' (LS + 1) cap') (.slice none 0 0) vw1 ((w2.setCell ⟨g, 3, none⟩ (.slice p' (LS + 1) cap')).setCell ⟨g, 4, none⟩ (.slice none 0 0)) := by
      refine h1.elems (ys := ys) HYS.out ((hc.set 3 _).set 4 _) ?_ ?_ ?_ (set_heap (set_heap HG2.out 3 _) 4 _)
      · rw [hlen]
        exact own_chg (g := g) HO.out HG2.out (by decide) (((Chg.refl w2 g none).set 3 _).set 4 _) (Classical.em _)
      · rw [hlen]; exact HVE.out
      · rcases HBK.out with e | e
        · exact Or.inl e
        · exact Or.inr ⟨_, e, by show w1.heap.size ≤ (w1.alloc _).heap.size; simp⟩
    exact ⟨rfl, ⟨_, _, _, _, _, _, hfin⟩, HB1.out.trans (below_chg ((hc.set 3 _).set 4 _) h1.hB (fun k hk => (HVE.out.lt k hk).1) HGR.out.os HGR.out.tape HGR.out.output (by have := HB1.out.size; have := HBw.out; omega))⟩
end Go.Proofs.YtgaoeljdlpemnaaGreatDoor
/- The reader's method that ends a segment. -/
namespace Go.Proofs.YtgaoeljdlpemnaaGreatDoor
open Go.RowKit Go.Edi

def w5 (w2 : World) (g : Nat) (v' : Value) : World := ((((w2.setCell ⟨g, 1, none⟩ v').setCell ⟨g, 2, none⟩ (str [])).setCell ⟨g, 3, none⟩ (.slice none 0 0)).setCell ⟨g, 6, none⟩ (.bool false)).setCell ⟨g, 0, none⟩ (nx g .out)
theorem endSeg_fin {B g : Nat} {F : Nat → Prop} {s : RS} {vn vs ve vl vw : Value} {w w2 : World} {o : Obj} {xs : List Value} {v' : Value} (h1 : RdV B g F s vn vs ve vl vw w) (hxs : SgC w F s.segs xs) (hvs : w.ownsRow B 112 2 vs s.segs.length xs) (hBw : B ≤ w.heap.size)
    (ho : w2.ownsRow B 112 2 v' (s.segs.length + 1) (xs ++ [str s.tg, ve])) (hgr : (w.alloc o).drew.grownBy w2 vs.ownBlock) (hbl : v'.ownBlock = vs.ownBlock ∨ v'.ownBlock = some (w.alloc o).drew.heap.size)
    (hg2 : w2.heap[g]? = some (.cells #[vn, vs, str s.tg, ve, vl, vw, .bool s.wi] 131 (0, 0))) :
    RdAt B g (endSeg s) (w5 w2 g v') ∧ Below B w (w5 w2 g v') := by
  have hc : Chg w w2 g vs.ownBlock := grown_alloc_owner_d _ hgr
  have hcc : Chg w (w5 w2 g v') g vs.ownBlock := ((((hc.set 1 v').set 2 (str [])).set 3 (.slice none 0 0)).set 6 (.bool false)).set 0 (nx g .out)
  have hch : Chg w2 (w5 w2 g v') g none := (((((Chg.refl w2 g none).set 1 v').set 2 (str [])).set 3 (.slice none 0 0)).set 6 (.bool false)).set 0 (nx g .out)
  have hb0 : Below B w w2 := below_chg hc h1.hB (fun k hk => (hvs.lt k hk).1) hgr.os hgr.tape hgr.output hBw
  have hb5 : Below B w (w5 w2 g v') := ((((hb0.setCell (p := ⟨g, 1, none⟩) h1.hB _).setCell (p := ⟨g, 2, none⟩) h1.hB _).setCell (p := ⟨g, 3, none⟩) h1.hB _).setCell (p := ⟨g, 6, none⟩) h1.hB _).setCell (p := ⟨g, 0, none⟩) h1.hB _
  have a1 := set_heap hg2 1 v'
  have a2 := set_heap a1 2 (str [])
  have a3 := set_heap a2 3 (.slice none 0 0)
  have a4 := set_heap a3 6 (.bool false)
  have a5 := set_heap a4 0 (nx g .out)
  simp only [List.setIfInBounds_toArray, List.set_cons_zero, List.set_cons_succ] at a5
  refine ⟨⟨_, _, _, _, _, _, h1.seg (xs := xs) (w' := w5 w2 g v') hxs hcc (own_chg (g := g) ho hg2 (by decide) hch (Classical.em _)) hvs ?_ a5⟩, hb5⟩
  rcases hbl with e | e
  · exact Or.inl e
  · exact Or.inr ⟨_, e, by show w.heap.size ≤ (w.alloc _).heap.size; simp⟩
set_option maxRecDepth 100000 in
set_option maxHeartbeats 1600000 in
theorem endSeg_v {B g : Nat} {F : Nat → Prop} {s : RS} {vn vs ve vl vw : Value} (w : World) (h1 : RdV B g F s vn vs ve vl vw w) (hBw : B ≤ w.heap.size) (hbe : s.segs.length ≤ 1000) :
    Does B g 151 #[.pointer (some ⟨g, 0, none⟩)] w (0, endSeg s) := by
  unfold Does
  have hmf : ∀ (fn : Fn) (first cap : Array Value) (w : World), (Instr.makeFunc fn first cap).run Tryz.prog w = .ok (.func fn first cap) w := fun _ _ _ _ => rfl
  have HBE := Lib.hid hbe
  have HBw := Lib.hid hBw
  obtain ⟨xs, hvs, hxs⟩ := h1.segs
  obtain ⟨ps, caps, rfl⟩ := own_slice hvs
  obtain ⟨ys, hve, hys⟩ := h1.els
  obtain ⟨pe, cape, rfl⟩ := own_slice hve
  generalize hLS : s.segs.length = LS at *
  generalize hLE : s.els.length = LE at *
  have c1 : w.cell? ⟨g, 1, none⟩ = some (.slice ps LS caps) := (h1.cell 1).trans rfl
  have c2 : w.cell? ⟨g, 2, none⟩ = some (str s.tg) := (h1.cell 2).trans rfl
  have c3 : w.cell? ⟨g, 3, none⟩ = some (.slice pe LE cape) := (h1.cell 3).trans rfl
  have c1c : ∀ o, (w.alloc o).cell? ⟨g, 1, none⟩ = some (.slice ps LS caps) := fun o => (World.cell?_of_block (a := ⟨g, 1, none⟩) (Below.heap_alloc _ _ _ h1.lt)).trans c1
  have H1 := Lib.hid h1
  have HVS := Lib.hid hvs
  have HXS := Lib.hid hxs
  have HLS := Lib.hid hLS
  have HLE := Lib.hid hLE
  clear h1 hvs hxs hve hys hLS hLE hbe hBw
  go_enter Tryz.func151, Tryz.ntmps151
  go_wp2
  go_region_law
    (rw [if_pos (by rfl)]
     refine st_app1 72 112 (.agg #[.string ⟨#[]⟩, .slice none 0 0]) 2 40 par_seg Tryz.underlying72 rfl (by decide) (by decide) B (.slice ps LS caps) LS xs rfl ((HVS.out.alloc _).drew) w.heap.size 1 [str s.tg, .slice pe LE cape] 112 (0, 0) rfl rfl (at_last_d _ _) (by intro u hu; simp at hu; rcases hu with rfl | rfl <;> rfl) (by have := HBE.out; omega) (size_alloc_d _ (by have := HBw.out; omega)) ?_
     intro v' w2 ho hgr hbl
     obtain ⟨p', cap', rfl⟩ := own_slice ho
     have hng := own_not HVS.out H1.out.hg (by decide)
     have hg2 : w2.heap[g]? = some (.cells #[vn, .slice ps LS caps, str s.tg, .slice pe LE cape, vl, vw, .bool s.wi] 131 (0, 0)) := by
       rw [hgr.block g (by have := H1.out.lt; show g < (w.alloc _).heap.size; simp; omega) hng]
       exact (Below.heap_alloc _ _ _ H1.out.lt).trans H1.out.hg
     have c0' : w2.cell? ⟨g, 0, none⟩ = some vn := by simp [World.cell?, hg2]
     have c1' : w2.cell? ⟨g, 1, none⟩ = some (.slice ps LS caps) := by simp [World.cell?, hg2]
     have c2' : w2.cell? ⟨g, 2, none⟩ = some (str s.tg) := by simp [World.cell?, hg2]
     have c3' : w2.cell? ⟨g, 3, none⟩ = some (.slice pe LE cape) := by simp [World.cell?, hg2]
     have c6' : w2.cell? ⟨g, 6, none⟩ = some (.bool s.wi) := by simp [World.cell?, hg2]
     have f' : ∀ j, w2.frozen? ⟨g, j, none⟩ = false := fun j => by simp [World.frozen?, hg2]
     have HG2 := Lib.hid hg2
     have HO := Lib.hid ho
     have HGR := Lib.hid hgr
     have HBK := Lib.hid hbl
     clear hg2 ho hgr hbl hng)
  all_goals
    go_wp2
    go_ret
    have e1 : Value.func (Fn.func 82) #[Value.pointer (some ⟨g, 0, none⟩)] #[] = nx g .out := rfl
    have e2 : Value.string { data := #[] } = str [] := rfl
    rw [e1, e2]
    have hlen := HLS.out
    subst hlen
    exact ⟨rfl, endSeg_fin H1.out HXS.out HVS.out HBw.out HO.out HGR.out HBK.out HG2.out⟩
end Go.Proofs.YtgaoeljdlpemnaaGreatDoor
namespace Go.Proofs.YtgaoeljdlpemnaaGreatDoor
open Go.RowKit Go.Edi

set_option maxRecDepth 100000 in
set_option maxHeartbeats 800000 in
theorem nextComp_v {B g : Nat} {F : Nat → Prop} {s : RS} {vn vs ve vl vw : Value} (w : World) (h : RdV B g F s vn vs ve vl vw w) (hBw : B ≤ w.heap.size) (hbd : s.el.length ≤ 1000) :
    Does B g 170 #[.pointer (some ⟨g, 0, none⟩)] w (nextComp s) := by
  unfold Does
  have HE := Lib.hid (endComp_v w h hBw hbd)
  clear h hBw hbd
  go_enter Tryz.func170, Tryz.ntmps170
  go_wp2_with (go_at_call 179; refine (HE.out).mono ?_)
  rintro e w1 ⟨rfl, ⟨F1, vn1, vs1, ve1, vl1, vw1, h1⟩, hb1⟩
  obtain ⟨pl, capl, rfl⟩ := own_slice h1.el
  have c4 : w1.cell? ⟨g, 4, none⟩ = some (.slice pl (Go.Edi.endComp s).el.length capl) := (h1.cell 4).trans rfl
  have hl : (Go.Edi.endComp s).el.length = s.el.length + 1 := by simp [Go.Edi.endComp]
  have H1 := Lib.hid h1
  have HB1 := Lib.hid hb1
  rw [hl] at c4
  clear h1 hb1 hl
  by_cases h8 : ((s.el.length + 1 : Nat) : Int) = 8
  · have HP := Lib.hid (show nextComp s = (2, Go.Edi.endComp s) by unfold nextComp; rw [if_pos (by omega)])
    go_wp2
    go_ret
    rw [HP.out]
    exact ⟨rfl, ⟨F1, _, _, _, _, _, H1.out⟩, HB1.out⟩
  · have HP := Lib.hid (show nextComp s = (0, Go.Edi.endComp s) by unfold nextComp; rw [if_neg (by omega)])
    go_wp2
    go_ret
    rw [HP.out]
    exact ⟨rfl, ⟨F1, _, _, _, _, _, H1.out⟩, HB1.out⟩
set_option maxRecDepth 100000 in
set_option maxHeartbeats 800000 in
theorem behindTag_v {B g : Nat} {F : Nat → Prop} {s : RS} {vn vs ve vl vw : Value} (c : UInt8) (w : World) (h : RdV B g F s vn vs ve vl vw w) (hBw : B ≤ w.heap.size) (hbd : Bd s) :
    Does B g 132 #[.pointer (some ⟨g, 0, none⟩), by8 c] w (behTag s c) := by
  unfold Does
  have HR := Lib.hid h
  have HA := Lib.hid (beginElem_v w h hBw)
  have HS := Lib.hid (endSeg_v w h hBw hbd.2.2.2)
  clear h hBw hbd
  by_cases h1 : (c.toNat : Int) = 43
  · have HP := Lib.hid (show behTag s c = beginElem s by unfold behTag; rw [if_pos ((eq8' 43 c).2 h1)])
    go_enter Tryz.func132, Tryz.ntmps132
    go_wp2_with (go_at_call 150; refine (HA.out).mono ?_)
    first | rintro e w1 rfl hr hb | rintro e w1 ⟨rfl, hr, hb⟩
    have H1 := Lib.hid hr
    have HB := Lib.hid hb
    clear hr hb
    go_wp2
    go_ret
    rw [HP.out]
    exact ⟨rfl, H1.out, HB.out⟩
  · by_cases h2 : (c.toNat : Int) = 39
    · have HP := Lib.hid (show behTag s c = (0, endSeg s) by unfold behTag; rw [if_neg (fun e => h1 ((eq8' 43 c).1 e)), if_pos ((eq8' 39 c).2 h2)])
      go_enter Tryz.func132, Tryz.ntmps132
      go_wp2_with (go_at_call 151; refine (HS.out).mono ?_)
      first | rintro e w1 rfl hr hb | rintro e w1 ⟨rfl, hr, hb⟩
      have H1 := Lib.hid hr
      have HB := Lib.hid hb
      clear hr hb
      go_wp2
      go_ret
      rw [HP.out]
      exact ⟨rfl, H1.out, HB.out⟩
    · have HP := Lib.hid (show behTag s c = (30, s) by unfold behTag; rw [if_neg (fun e => h1 ((eq8' 43 c).1 e)), if_neg (fun e => h2 ((eq8' 39 c).1 e))])
      go_enter Tryz.func132, Tryz.ntmps132
      go_wp2
      go_ret
      rw [HP.out]
      exact ⟨rfl, ⟨F, _, _, _, _, _, HR.out⟩, Below.refl _ _⟩
set_option maxRecDepth 100000 in
set_option maxHeartbeats 1600000 in
theorem inComp_v {B g : Nat} {F : Nat → Prop} {s : RS} {vn vs ve vl vw : Value} (c : UInt8) (w : World) (h : RdV B g F s vn vs ve vl vw w) (hBw : B ≤ w.heap.size) (hbd : Bd s) :
    Does B g 161 #[.pointer (some ⟨g, 0, none⟩), by8 c] w (inComp s c) := by
  unfold Does
  have hmf : ∀ (fn : Fn) (first cap : Array Value) (w : World), (Instr.makeFunc fn first cap).run Tryz.prog w = .ok (.func fn first cap) w := fun _ _ _ _ => rfl
  have HR := Lib.hid h
  have HBw := Lib.hid hBw
  have HBD := Lib.hid hbd
  have HE := Lib.hid (endElem_v w h hBw hbd.2.1 hbd.2.2.1)
  have HN := Lib.hid (nextComp_v w h hBw hbd.2.1)
  have HA := Lib.hid (add_v c w h hBw hbd.1)
  have c0 : w.cell? ⟨g, 0, none⟩ = some vn := (h.cell 0).trans rfl
  have f0 := h.frozen 0
  clear h hBw hbd
  by_cases h1 : (c.toNat : Int) = 43
  · have HP := Lib.hid (show inComp s c = beginElem (endElem s) by unfold inComp; rw [if_pos ((eq8' 43 c).2 h1)])
    go_enter Tryz.func161, Tryz.ntmps161
    go_wp2_with (go_at_call 169; refine (HE.out).mono ?_)
    rintro e w1 ⟨rfl, ⟨F1, vn1, vs1, ve1, vl1, vw1, h2⟩, hb⟩
    have HA1 := Lib.hid (beginElem_v w1 h2 (by have := hb.size; have := HBw.out; omega))
    have HB := Lib.hid hb
    clear h2 hb
    go_wp2_with (go_at_call 150; refine (HA1.out).mono ?_)
    first | rintro e w2 rfl hr hb | rintro e w2 ⟨rfl, hr, hb⟩
    have H1 := Lib.hid hr
    have HB2 := Lib.hid hb
    clear hr hb
    go_wp2
    go_ret
    rw [HP.out]
    exact ⟨rfl, H1.out, HB.out.trans HB2.out⟩
  · have n1 : ¬ c = 43 := fun e => h1 ((eq8' 43 c).1 e)
    by_cases h2 : (c.toNat : Int) = 58
    · have HP := Lib.hid (show inComp s c = nextComp s by unfold inComp; rw [if_neg n1, if_pos ((eq8' 58 c).2 h2)])
      clear n1
      go_enter Tryz.func161, Tryz.ntmps161
      go_wp2_with (go_at_call 170; refine (HN.out).mono ?_)
      first | rintro e w2 rfl hr hb | rintro e w2 ⟨rfl, hr, hb⟩
      have H1 := Lib.hid hr
      have HB2 := Lib.hid hb
      clear hr hb
      go_wp2
      go_ret
      rw [HP.out]
      exact ⟨rfl, H1.out, HB2.out⟩
    · have n2 : ¬ c = 58 := fun e => h2 ((eq8' 58 c).1 e)
      by_cases h3 : (c.toNat : Int) = 39
      · have HP := Lib.hid (show inComp s c = (0, endSeg (endElem s)) by unfold inComp; rw [if_neg n1, if_neg n2, if_pos ((eq8' 39 c).2 h3)])
        clear n1 n2
        go_enter Tryz.func161, Tryz.ntmps161
        go_wp2_with (go_at_call 169; refine (HE.out).mono ?_)
        rintro e w1 ⟨rfl, ⟨F1, vn1, vs1, ve1, vl1, vw1, h4⟩, hb⟩
        have HA1 := Lib.hid (endSeg_v w1 h4 (by have := hb.size; have := HBw.out; omega) (by have := HBD.out.2.2.2; exact this))
        have HB := Lib.hid hb
        clear h4 hb
        go_wp2_with (go_at_call 151; refine (HA1.out).mono ?_)
        first | rintro e w2 rfl hr hb | rintro e w2 ⟨rfl, hr, hb⟩
        have H1 := Lib.hid hr
        have HB2 := Lib.hid hb
        clear hr hb
        go_wp2
        go_ret
        rw [HP.out]
        exact ⟨rfl, H1.out, HB.out.trans HB2.out⟩
      · have n3 : ¬ c = 39 := fun e => h3 ((eq8' 39 c).1 e)
        by_cases h4 : (c.toNat : Int) = 63
        · have HP := Lib.hid (show inComp s c = (0, { s with md := .mrk }) by unfold inComp; rw [if_neg n1, if_neg n2, if_neg n3, if_pos ((eq8' 63 c).2 h4)])
          clear n1 n2 n3
          go_enter Tryz.func161, Tryz.ntmps161
          go_wp2
          go_ret
          rw [HP.out]
          have h := HR.out
          have hc := (Chg.refl w g none).set 0 (nx g .mrk)
          exact ⟨rfl, ⟨F, nx g .mrk, _, _, _, _, h.to hc (set_heap h.hg 0 _) rfl rfl rfl rfl rfl⟩, below_chg hc h.hB (fun k hk => by simp at hk) rfl rfl rfl HBw.out⟩
        · have n4 : ¬ c = 63 := fun e => h4 ((eq8' 63 c).1 e)
          have HP := Lib.hid (show inComp s c = add s c by unfold inComp; rw [if_neg n1, if_neg n2, if_neg n3, if_neg n4])
          clear n1 n2 n3 n4
          go_enter Tryz.func161, Tryz.ntmps161
          go_wp2_with (go_at_call 172; refine (HA.out).mono ?_)
          first | rintro e w2 rfl hr hb | rintro e w2 ⟨rfl, hr, hb⟩
          have H1 := Lib.hid hr
          have HB2 := Lib.hid hb
          clear hr hb
          go_wp2
          go_ret
          rw [HP.out]
          exact ⟨rfl, H1.out, HB2.out⟩
set_option maxRecDepth 100000 in
set_option maxHeartbeats 1600000 in
theorem outside_v {B g : Nat} {F : Nat → Prop} {s : RS} {vn vs ve vl vw : Value} (c : UInt8) (w : World) (h : RdV B g F s vn vs ve vl vw w) (hBw : B ≤ w.heap.size) (hbd : Bd s) :
    Does B g 82 #[.pointer (some ⟨g, 0, none⟩), by8 c] w (outS s c) := by
  unfold Does
  have hmf : ∀ (fn : Fn) (first cap : Array Value) (w : World), (Instr.makeFunc fn first cap).run Tryz.prog w = .ok (.func fn first cap) w := fun _ _ _ _ => rfl
  have HR := Lib.hid h
  have HBw := Lib.hid hBw
  obtain ⟨xs, hvs, _⟩ := h.segs
  obtain ⟨ps, caps, rfl⟩ := own_slice hvs
  have c0 : w.cell? ⟨g, 0, none⟩ = some vn := (h.cell 0).trans rfl
  have c1 : w.cell? ⟨g, 1, none⟩ = some (.slice ps s.segs.length caps) := (h.cell 1).trans rfl
  have c6 : w.cell? ⟨g, 6, none⟩ = some (.bool s.wi) := (h.cell 6).trans rfl
  have f0 := h.frozen 0
  have f6 := h.frozen 6
  have hc := ((Chg.refl w g none).set 6 (.bool true)).set 0 (nx g .tag)
  have hnew : RdV B g F { s with wi := true, md := .tag } (nx g .tag) (.slice ps s.segs.length caps) ve vl vw ((w.setCell ⟨g, 6, none⟩ (.bool true)).setCell ⟨g, 0, none⟩ (nx g .tag)) := h.to hc (set_heap (set_heap h.hg 6 _) 0 _) rfl rfl rfl rfl rfl
  have HBL := Lib.hid (below_chg hc h.hB (fun k hk => by simp at hk) rfl rfl rfl hBw)
  have HT := Lib.hid (inTag_v c _ hnew (by simpa [World.setCell] using hBw) hbd.1)
  clear h hBw hbd hvs hc hnew
  have hn0 : (0 : Int) ≤ (s.segs.length : Int) := Int.natCast_nonneg _
  by_cases h10 : (c.toNat : Int) = 10
  · by_cases h0 : (0 : Int) < (s.segs.length : Int)
    · have HP := Lib.hid (show outS s c = (0, s) by unfold outS; rw [if_pos ⟨(eq8' 10 c).2 h10, by omega⟩])
      go_enter Tryz.func82, Tryz.ntmps82
      go_wp2
      go_ret
      rw [HP.out]
      exact ⟨rfl, ⟨F, _, _, _, _, _, HR.out⟩, Below.refl _ _⟩
    · have HP := Lib.hid (show outS s c = inTag { s with wi := true, md := .tag } c by unfold outS; rw [if_neg (fun e => h0 (by omega)), if_neg (by omega)])
      have h64 : ¬ (s.segs.length : Int) = 64 := by omega
      go_enter Tryz.func82, Tryz.ntmps82
      go_wp2_with (go_at_call 104; refine (HT.out).mono ?_)
      first | rintro e w2 rfl hr hb | rintro e w2 ⟨rfl, hr, hb⟩
      have H1 := Lib.hid hr
      have HB2 := Lib.hid hb
      clear hr hb
      go_wp2
      go_ret
      rw [HP.out]
      exact ⟨rfl, H1.out, HBL.out.trans HB2.out⟩
  · have n10 : ¬ c = 10 := fun e => h10 ((eq8' 10 c).1 e)
    by_cases h64 : (s.segs.length : Int) = 64
    · have HP := Lib.hid (show outS s c = (2, s) by unfold outS; rw [if_neg (fun e => n10 e.1), if_pos (by omega)])
      clear n10
      go_enter Tryz.func82, Tryz.ntmps82
      go_wp2
      go_ret
      rw [HP.out]
      exact ⟨rfl, ⟨F, _, _, _, _, _, HR.out⟩, Below.refl _ _⟩
    · have HP := Lib.hid (show outS s c = inTag { s with wi := true, md := .tag } c by unfold outS; rw [if_neg (fun e => n10 e.1), if_neg (by omega)])
      clear n10
      go_enter Tryz.func82, Tryz.ntmps82
      go_wp2_with (go_at_call 104; refine (HT.out).mono ?_)
      first | rintro e w2 rfl hr hb | rintro e w2 ⟨rfl, hr, hb⟩
      have H1 := Lib.hid hr
      have HB2 := Lib.hid hb
      clear hr hb
      go_wp2
      go_ret
      rw [HP.out]
      exact ⟨rfl, H1.out, HBL.out.trans HB2.out⟩
/-- the method that comes next does what the plain reader's step does -/
theorem next_v {B g : Nat} {F : Nat → Prop} {s : RS} {vn vs ve vl vw : Value} (c : UInt8) (w : World) (h : RdV B g F s vn vs ve vl vw w) (hBw : B ≤ w.heap.size) (hbd : Bd s) :
    ∃ f, vn = .func (.func f) #[.pointer (some ⟨g, 0, none⟩)] #[] ∧ (f = 82 ∨ f = 104 ∨ f = 132 ∨ f = 161 ∨ f = 171) ∧ Does B g f #[.pointer (some ⟨g, 0, none⟩), by8 c] w (Go.Edi.step s c) := by
  have hv := h.vn
  unfold Go.Edi.step
  cases hmd : s.md <;> rw [hmd] at hv
  · exact ⟨_, hv, by simp, outside_v c w h hBw hbd⟩
  · exact ⟨_, hv, by simp, inTag_v c w h hBw hbd.1⟩
  · exact ⟨_, hv, by simp, behindTag_v c w h hBw hbd⟩
  · exact ⟨_, hv, by simp, inComp_v c w h hBw hbd⟩
  · exact ⟨_, hv, by simp, behindMark_v c w h hBw hbd.1⟩
end Go.Proofs.YtgaoeljdlpemnaaGreatDoor
