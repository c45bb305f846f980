/- The reader's methods that take one byte of a word, or begin an element. -/
import Derived.Test.YtjlifjgljejabaaGreatDoorEdiR
namespace Go.Proofs.YtjlifjgljejabaaGreatDoor
open Go.RowKit Go.Edi

/-- what a method of the reader does -/
def Does (B g : Nat) (f : Nat) (args : Array Value) (w : World) (r : Nat × RS) : Prop :=
  Calls Tryz.prog f args w fun e w' => e = .returned (.int .i64 (r.1 : Nat)) ∧ RdAt B g r.2 w' ∧ Below B w w'
theorem ret_i64 {a b : Int} (h : a = b) : Ending.returned (.int .i64 a) = .returned (.int .i64 b) := by rw [h]
theorem at_last (w : World) (o : Obj) : (w.alloc o).heap[w.heap.size]? = some o := by
  show (w.heap.push o)[w.heap.size]? = some o
  simp
theorem grown_alloc_owner {w w' : World} {g : Nat} {row : Option Nat} (o : Obj) (h : (w.alloc o).grownBy w' row) : Chg w w' g row := ((Chg.refl w g row).alloc o).grown h
set_option maxRecDepth 100000 in
set_option maxHeartbeats 800000 in
theorem add_v {B g : Nat} {F : Nat → Prop} {s : RS} {vn vs ve vl vw : Value} (c : UInt8) (w : World) (h : RdV B g F s vn vs ve vl vw w) (hBw : B ≤ w.heap.size) (hbd : s.wd.length ≤ 1000) :
    Does B g 171 #[.pointer (some ⟨g, 0, none⟩), by8 c] w (add s c) := by
  unfold Does
  have c5 : w.cell? ⟨g, 5, none⟩ = some vw := (h.cell 5).trans rfl
  have HR := Lib.hid h
  have HW := Lib.hid hbd
  have HBw := Lib.hid hBw
  obtain ⟨p, cap, rfl⟩ := own_slice h.wd
  clear h hbd hBw
  by_cases h256 : (s.wd.length : Int) = 256
  · have hp : add s c = (2, s) := by unfold add; rw [if_pos (by omega)]
    rw [hp]
    go_enter Tryz.func171, Tryz.ntmps171
    go_wp2
    go_ret
    exact ⟨rfl, ⟨F, _, _, _, _, _, HR.out⟩, Below.refl _ _⟩
  · by_cases hpl : pln c = true
    · have hp : add s c = (0, { s with wd := s.wd ++ [c] }) := by unfold add; rw [if_neg (by omega), if_pos hpl]
      rw [hp]
      have hq := isPlain_any c
      rw [hpl] at hq
      go_enter Tryz.func171, Tryz.ntmps171
      go_wp2_with (first
        | (go_at_call 115; refine (hq _).mono ?_; rintro e w' ⟨rfl, rfl⟩)
        | (at_builtin; refine wl_app1 54 5 (.int .u8 0) 1 1 par_u8 Tryz.underlying54 rfl (by decide) (by decide) B (.slice p s.wd.length cap) s.wd.length (Lib.byteCells s.wd) rfl (HR.out.wd.alloc _) w.heap.size 1 [by8 c] 5 (0, 0) rfl rfl (at_last _ _) (by intro u hu; simp at hu; subst hu; rfl) (by have := HW.out; omega) (by have := HBw.out; simp; omega) ?_))
      intro v' w2 ho hgr hbl
      obtain ⟨p', cap', rfl⟩ := own_slice ho
      have h := HR.out
      have hc : Chg w w2 g (Value.slice p s.wd.length cap).ownBlock := grown_alloc_owner _ hgr
      have hng := own_not h.wd h.hg (by decide)
      have hg2 : w2.heap[g]? = some (.cells #[vn, vs, str s.tg, ve, vl, .slice p s.wd.length cap, .bool s.wi] 125 (0, 0)) := by
        rw [hgr.block g (by have := h.lt; simp; omega) hng, Below.heap_alloc _ _ _ h.lt]; exact h.hg
      have HO := Lib.hid ho; clear ho
      have HG := Lib.hid hgr; clear hgr
      have HC := Lib.hid hc; clear hc
      have HBL := Lib.hid hbl; clear hbl
      have c5' : w2.cell? ⟨g, 5, none⟩ = some (.slice p s.wd.length cap) := by simp [World.cell?, hg2]
      have f5' : w2.frozen? ⟨g, 5, none⟩ = false := by simp [World.frozen?, hg2]
      have HG2 := Lib.hid hg2; clear hg2
      clear h
      go_wp2
      go_ret
      have h := HR.out
      refine ⟨rfl, ⟨F, _, _, _, _, _, h.word (wd' := s.wd ++ [c]) (HC.out.set 5 _) ?_ ?_ (set_heap HG2.out 5 _)⟩, below_chg (HC.out.set 5 _) h.hB (fun k hk => (h.wd.lt k hk).1) HG.out.os HG.out.tape HG.out.output HBw.out⟩
      · rw [← cellsByte, List.length_append]
        exact own_chg (g := g) HO.out HG2.out (by decide) ((Chg.refl w2 g none).set 5 _) (Classical.em _)
      · rcases HBL.out with e | e
        · exact Or.inl e
        · exact Or.inr ⟨_, e, by simp⟩
    · have hp : add s c = (30, s) := by unfold add; rw [if_neg (by omega), if_neg hpl]
      rw [hp]
      have hq := isPlain_any c
      rw [show pln c = false by simpa using hpl] at hq
      go_enter Tryz.func171, Tryz.ntmps171
      go_wp2_with (go_at_call 115; refine (hq _).mono ?_; rintro e w' ⟨rfl, rfl⟩)
      go_ret
      exact ⟨rfl, ⟨F, _, _, _, _, _, HR.out⟩, Below.refl _ _⟩
set_option maxRecDepth 100000 in
set_option maxHeartbeats 800000 in
theorem beginElem_v {B g : Nat} {F : Nat → Prop} {s : RS} {vn vs ve vl vw : Value} (w : World) (h : RdV B g F s vn vs ve vl vw w) (hBw : B ≤ w.heap.size) :
    Does B g 154 #[.pointer (some ⟨g, 0, none⟩)] w (beginElem s) := by
  unfold Does
  have hmf : ∀ (fn : Fn) (first cap : Array Value) (w : World), (Instr.makeFunc fn first cap).run Tryz.prog w = .ok (.func fn first cap) w := fun _ _ _ _ => rfl
  have HR := Lib.hid h
  have HBw := Lib.hid hBw
  obtain ⟨ys, hve, _⟩ := h.els
  obtain ⟨p, cap, rfl⟩ := own_slice hve
  have c3 : w.cell? ⟨g, 3, none⟩ = some (.slice p s.els.length cap) := (h.cell 3).trans rfl
  have c0 : w.cell? ⟨g, 0, none⟩ = some vn := (h.cell 0).trans rfl
  have f0 := h.frozen 0
  clear h hBw hve
  by_cases h16 : (s.els.length : Int) = 16
  · have hp : beginElem s = (2, s) := by unfold beginElem; rw [if_pos (by omega)]
    rw [hp]
    go_enter Tryz.func154, Tryz.ntmps154
    go_wp2
    go_ret
    exact ⟨rfl, ⟨F, _, _, _, _, _, HR.out⟩, Below.refl _ _⟩
  · have hp : beginElem s = (0, { s with md := .cmp }) := by unfold beginElem; rw [if_neg (by omega)]
    rw [hp]
    go_enter Tryz.func154, Tryz.ntmps154
    go_wp2
    go_ret
    have h := HR.out
    have hc := (Chg.refl w g none).set 0 (nx g .cmp)
    exact ⟨rfl, ⟨F, nx g .cmp, _, _, _, _, h.to hc (set_heap h.hg 0 _) rfl rfl rfl rfl rfl⟩, below_chg hc h.hB (fun k hk => by simp at hk) rfl rfl rfl HBw.out⟩
set_option maxRecDepth 100000 in
set_option maxHeartbeats 800000 in
theorem behindMark_v {B g : Nat} {F : Nat → Prop} {s : RS} {vn vs ve vl vw : Value} (c : UInt8) (w : World) (h : RdV B g F s vn vs ve vl vw w) (hBw : B ≤ w.heap.size) (hbd : s.wd.length ≤ 1000) :
    Does B g 170 #[.pointer (some ⟨g, 0, none⟩), by8 c] w (behMark s c) := by
  unfold Does
  have hmf : ∀ (fn : Fn) (first cap : Array Value) (w : World), (Instr.makeFunc fn first cap).run Tryz.prog w = .ok (.func fn first cap) w := fun _ _ _ _ => rfl
  have HR := Lib.hid h
  have HBw := Lib.hid hBw
  have c0 : w.cell? ⟨g, 0, none⟩ = some vn := (h.cell 0).trans rfl
  have f0 := h.frozen 0
  by_cases hsg : sgn c = true
  · have hp : behMark s c = add { s with md := .cmp } c := by unfold behMark; rw [if_pos hsg]
    rw [hp]
    have hq := isSign_any c
    rw [hsg] at hq
    have hc := (Chg.refl w g none).set 0 (nx g .cmp)
    have hnew : RdV B g F { s with md := .cmp } (nx g .cmp) vs ve vl vw (w.setCell ⟨g, 0, none⟩ (nx g .cmp)) := h.to hc (set_heap h.hg 0 _) rfl rfl rfl rfl rfl
    have hbl := below_chg hc h.hB (fun k hk => by simp at hk) rfl rfl rfl hBw
    have HA := Lib.hid (add_v c _ hnew (by simpa [World.setCell] using hBw) hbd)
    have HBL := Lib.hid hbl
    clear h hBw hnew hbl hc
    go_enter Tryz.func170, Tryz.ntmps170
    go_wp2_with (first
      | (go_at_call 151; refine (hq _).mono ?_; rintro e w' ⟨rfl, rfl⟩)
      | (go_at_call 171; refine (HA.out).mono ?_))
    rintro e w2 ⟨rfl, hr, hb2⟩
    have HR2 := Lib.hid hr
    have HB2 := Lib.hid hb2
    clear hr hb2
    go_wp2
    go_ret
    exact ⟨rfl, HR2.out, HBL.out.trans HB2.out⟩
  · have hp : behMark s c = (30, s) := by unfold behMark; rw [if_neg hsg]
    rw [hp]
    have hq := isSign_any c
    rw [show sgn c = false by simpa using hsg] at hq
    clear h hBw
    go_enter Tryz.func170, Tryz.ntmps170
    go_wp2_with (go_at_call 151; refine (hq _).mono ?_; rintro e w' ⟨rfl, rfl⟩)
    go_ret
    exact ⟨rfl, ⟨F, _, _, _, _, _, HR.out⟩, Below.refl _ _⟩
set_option maxRecDepth 100000 in
set_option maxHeartbeats 1600000 in
theorem inTag_v {B g : Nat} {F : Nat → Prop} {s : RS} {vn vs ve vl vw : Value} (c : UInt8) (w : World) (h : RdV B g F s vn vs ve vl vw w) (hBw : B ≤ w.heap.size) (hbd : s.wd.length ≤ 1000) :
    Does B g 120 #[.pointer (some ⟨g, 0, none⟩), by8 c] w (inTag s c) := by
  unfold Does
  have hmf : ∀ (fn : Fn) (first cap : Array Value) (w : World), (Instr.makeFunc fn first cap).run Tryz.prog w = .ok (.func fn first cap) w := fun _ _ _ _ => rfl
  have c5 : w.cell? ⟨g, 5, none⟩ = some vw := (h.cell 5).trans rfl
  have HR := Lib.hid h
  have HW := Lib.hid hbd
  have HBw := Lib.hid hBw
  obtain ⟨p, cap, rfl⟩ := own_slice h.wd
  clear h hbd hBw
  by_cases htg : tgc c = true
  · have hq := isOfTag_any c
    rw [htg] at hq
    go_enter Tryz.func120, Tryz.ntmps120
    go_wp2_with (first
      | (go_at_call 114; refine (hq _).mono ?_; rintro e w' ⟨rfl, rfl⟩)
      | (at_builtin; refine wl_app1 54 5 (.int .u8 0) 1 1 par_u8 Tryz.underlying54 rfl (by decide) (by decide) B (.slice p s.wd.length cap) s.wd.length (Lib.byteCells s.wd) rfl (HR.out.wd.alloc _) w.heap.size 1 [by8 c] 5 (0, 0) rfl rfl (at_last _ _) (by intro u hu; simp at hu; subst hu; rfl) (by have := HW.out; omega) (by have := HBw.out; simp; omega) ?_))
    intro v' w2 ho hgr hbl
    obtain ⟨p', cap', rfl⟩ := own_slice ho
    have h := HR.out
    have hc : Chg w w2 g (Value.slice p s.wd.length cap).ownBlock := grown_alloc_owner _ hgr
    have hng := own_not h.wd h.hg (by decide)
    have hg2 : w2.heap[g]? = some (.cells #[vn, vs, str s.tg, ve, vl, .slice p s.wd.length cap, .bool s.wi] 125 (0, 0)) := by
      rw [hgr.block g (by have := h.lt; simp; omega) hng, Below.heap_alloc _ _ _ h.lt]; exact h.hg
    have hv3 : RdV B g F { s with wd := s.wd ++ [c] } vn vs ve vl (.slice p' (s.wd.length + 1) cap') (w2.setCell ⟨g, 5, none⟩ (.slice p' (s.wd.length + 1) cap')) := by
      refine h.word (wd' := s.wd ++ [c]) (hc.set 5 _) ?_ ?_ (set_heap hg2 5 _)
      · rw [← cellsByte, List.length_append]
        exact own_chg (g := g) ho hg2 (by decide) ((Chg.refl w2 g none).set 5 _) (Classical.em _)
      · rcases hbl with e | e
        · exact Or.inl e
        · exact Or.inr ⟨_, e, by simp⟩
    have hb3 : Below B w (w2.setCell ⟨g, 5, none⟩ (.slice p' (s.wd.length + 1) cap')) := below_chg (hc.set 5 _) h.hB (fun k hk => (h.wd.lt k hk).1) hgr.os hgr.tape hgr.output HBw.out
    have c5' : w2.cell? ⟨g, 5, none⟩ = some (.slice p s.wd.length cap) := by simp [World.cell?, hg2]
    have f5' : w2.frozen? ⟨g, 5, none⟩ = false := by simp [World.frozen?, hg2]
    have HV := Lib.hid hv3
    have HB3 := Lib.hid hb3
    have hB2 : B ≤ (w2.setCell ⟨g, 5, none⟩ (.slice p' (s.wd.length + 1) cap')).heap.size := by have := HBw.out; have := hb3.size; omega
    have HTW := Lib.hid (takeWord_v _ hv3 hB2)
    clear hv3 hb3 h hc hgr hbl ho hg2 hng hB2
    by_cases h3 : (s.wd.length : Int) + 1 = 3
    · have hp : inTag s c = (0, { s with tg := s.wd ++ [c], wd := [], md := .beh }) := by unfold inTag; rw [if_pos htg, if_pos (by omega)]
      have HP := Lib.hid hp; clear hp
      go_wp2_with (go_at_call 135; refine (HTW.out).mono ?_)
      rintro e w4 rfl vw4 h4 hb4
      have c2 : w4.cell? ⟨g, 2, none⟩ = some (str s.tg) := (h4.cell 2).trans rfl
      have f2 := h4.frozen 2
      have c0 : w4.cell? ⟨g, 0, none⟩ = some vn := (h4.cell 0).trans rfl
      have f0 := h4.frozen 0
      have H4 := Lib.hid h4
      have HB4 := Lib.hid hb4
      clear h4 hb4
      go_wp2
      go_ret
      rw [HP.out]
      have h4 := H4.out
      have hc5 := ((Chg.refl w4 g none).set 2 (str (s.wd ++ [c]))).set 0 (nx g .beh)
      have hb5 := HB3.out.trans HB4.out
      refine ⟨rfl, ⟨F, nx g .beh, _, _, _, _, h4.to (s' := { s with tg := s.wd ++ [c], wd := [], md := .beh }) hc5 (set_heap (set_heap h4.hg 2 _) 0 _) rfl rfl rfl rfl rfl⟩, hb5.trans (below_chg hc5 h4.hB (fun k hk => by simp at hk) rfl rfl rfl (by have := hb5.size; have := HBw.out; omega))⟩
    · have hp : inTag s c = (0, { s with wd := s.wd ++ [c] }) := by unfold inTag; rw [if_pos htg, if_neg (by omega)]
      have HP := Lib.hid hp; clear hp
      go_wp2
      go_ret
      rw [HP.out]
      exact ⟨rfl, ⟨F, _, _, _, _, _, HV.out⟩, HB3.out⟩
  · have hp : inTag s c = (30, s) := by unfold inTag; rw [if_neg htg]
    rw [hp]
    have hq := isOfTag_any c
    rw [show tgc c = false by simpa using htg] at hq
    go_enter Tryz.func120, Tryz.ntmps120
    go_wp2_with (go_at_call 114; refine (hq _).mono ?_; rintro e w' ⟨rfl, rfl⟩)
    go_ret
    exact ⟨rfl, ⟨F, _, _, _, _, _, HR.out⟩, Below.refl _ _⟩
end Go.Proofs.YtjlifjgljejabaaGreatDoor
