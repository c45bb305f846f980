/- The reader's methods, one for each state. -/
import Derived.Test.YtjlifjgljejabaaGreatDoorEdiR5
namespace Go.Proofs.YtjlifjgljejabaaGreatDoor
open Go.RowKit Go.Edi

set_option maxRecDepth 100000 in
set_option maxHeartbeats 800000 in
theorem nextComp_v {B g : Nat} {F : Nat → Prop} {s : RS} {vn vs ve vl vw : Value} (w : World) (h : RdV B g F s vn vs ve vl vw w) (hBw : B ≤ w.heap.size) (hbd : s.el.length ≤ 1000) :
    Does B g 169 #[.pointer (some ⟨g, 0, none⟩)] w (nextComp s) := by
  unfold Does
  have HE := Lib.hid (endComp_v w h hBw hbd)
  clear h hBw hbd
  go_enter Tryz.func169, Tryz.ntmps169
  go_wp2_with (go_at_call 173; refine (HE.out).mono ?_)
  rintro e w1 ⟨rfl, ⟨F1, vn1, vs1, ve1, vl1, vw1, h1⟩, hb1⟩
  obtain ⟨pl, capl, rfl⟩ := own_slice h1.el
  have c4 : w1.cell? ⟨g, 4, none⟩ = some (.slice pl (Go.Edi.endComp s).el.length capl) := (h1.cell 4).trans rfl
  have hl : (Go.Edi.endComp s).el.length = s.el.length + 1 := by simp [Go.Edi.endComp]
  have H1 := Lib.hid h1
  have HB1 := Lib.hid hb1
  rw [hl] at c4
  clear h1 hb1 hl
  by_cases h8 : ((s.el.length + 1 : Nat) : Int) = 8
  · have HP := Lib.hid (show nextComp s = (2, Go.Edi.endComp s) by unfold nextComp; rw [if_pos (by omega)])
    go_wp2
    go_ret
    rw [HP.out]
    exact ⟨rfl, ⟨F1, _, _, _, _, _, H1.out⟩, HB1.out⟩
  · have HP := Lib.hid (show nextComp s = (0, Go.Edi.endComp s) by unfold nextComp; rw [if_neg (by omega)])
    go_wp2
    go_ret
    rw [HP.out]
    exact ⟨rfl, ⟨F1, _, _, _, _, _, H1.out⟩, HB1.out⟩
set_option maxRecDepth 100000 in
set_option maxHeartbeats 800000 in
theorem behindTag_v {B g : Nat} {F : Nat → Prop} {s : RS} {vn vs ve vl vw : Value} (c : UInt8) (w : World) (h : RdV B g F s vn vs ve vl vw w) (hBw : B ≤ w.heap.size) (hbd : Bd s) :
    Does B g 136 #[.pointer (some ⟨g, 0, none⟩), by8 c] w (behTag s c) := by
  unfold Does
  have HR := Lib.hid h
  have HA := Lib.hid (beginElem_v w h hBw)
  have HS := Lib.hid (endSeg_v w h hBw hbd.2.2.2)
  clear h hBw hbd
  by_cases h1 : (c.toNat : Int) = 43
  · have HP := Lib.hid (show behTag s c = beginElem s by unfold behTag; rw [if_pos ((eq8' 43 c).2 h1)])
    go_enter Tryz.func136, Tryz.ntmps136
    go_wp2_with (go_at_call 154; refine (HA.out).mono ?_)
    first | rintro e w1 rfl hr hb | rintro e w1 ⟨rfl, hr, hb⟩
    have H1 := Lib.hid hr
    have HB := Lib.hid hb
    clear hr hb
    go_wp2
    go_ret
    rw [HP.out]
    exact ⟨rfl, H1.out, HB.out⟩
  · by_cases h2 : (c.toNat : Int) = 39
    · have HP := Lib.hid (show behTag s c = (0, endSeg s) by unfold behTag; rw [if_neg (fun e => h1 ((eq8' 43 c).1 e)), if_pos ((eq8' 39 c).2 h2)])
      go_enter Tryz.func136, Tryz.ntmps136
      go_wp2_with (go_at_call 155; refine (HS.out).mono ?_)
      first | rintro e w1 rfl hr hb | rintro e w1 ⟨rfl, hr, hb⟩
      have H1 := Lib.hid hr
      have HB := Lib.hid hb
      clear hr hb
      go_wp2
      go_ret
      rw [HP.out]
      exact ⟨rfl, H1.out, HB.out⟩
    · have HP := Lib.hid (show behTag s c = (30, s) by unfold behTag; rw [if_neg (fun e => h1 ((eq8' 43 c).1 e)), if_neg (fun e => h2 ((eq8' 39 c).1 e))])
      go_enter Tryz.func136, Tryz.ntmps136
      go_wp2
      go_ret
      rw [HP.out]
      exact ⟨rfl, ⟨F, _, _, _, _, _, HR.out⟩, Below.refl _ _⟩
set_option maxRecDepth 100000 in
set_option maxHeartbeats 1600000 in
theorem inComp_v {B g : Nat} {F : Nat → Prop} {s : RS} {vn vs ve vl vw : Value} (c : UInt8) (w : World) (h : RdV B g F s vn vs ve vl vw w) (hBw : B ≤ w.heap.size) (hbd : Bd s) :
    Does B g 165 #[.pointer (some ⟨g, 0, none⟩), by8 c] w (inComp s c) := by
  unfold Does
  have hmf : ∀ (fn : Fn) (first cap : Array Value) (w : World), (Instr.makeFunc fn first cap).run Tryz.prog w = .ok (.func fn first cap) w := fun _ _ _ _ => rfl
  have HR := Lib.hid h
  have HBw := Lib.hid hBw
  have HBD := Lib.hid hbd
  have HE := Lib.hid (endElem_v w h hBw hbd.2.1 hbd.2.2.1)
  have HN := Lib.hid (nextComp_v w h hBw hbd.2.1)
  have HA := Lib.hid (add_v c w h hBw hbd.1)
  have c0 : w.cell? ⟨g, 0, none⟩ = some vn := (h.cell 0).trans rfl
  have f0 := h.frozen 0
  clear h hBw hbd
  by_cases h1 : (c.toNat : Int) = 43
  · have HP := Lib.hid (show inComp s c = beginElem (endElem s) by unfold inComp; rw [if_pos ((eq8' 43 c).2 h1)])
    go_enter Tryz.func165, Tryz.ntmps165
    go_wp2_with (go_at_call 168; refine (HE.out).mono ?_)
    rintro e w1 ⟨rfl, ⟨F1, vn1, vs1, ve1, vl1, vw1, h2⟩, hb⟩
    have HA1 := Lib.hid (beginElem_v w1 h2 (by have := hb.size; have := HBw.out; omega))
    have HB := Lib.hid hb
    clear h2 hb
    go_wp2_with (go_at_call 154; refine (HA1.out).mono ?_)
    first | rintro e w2 rfl hr hb | rintro e w2 ⟨rfl, hr, hb⟩
    have H1 := Lib.hid hr
    have HB2 := Lib.hid hb
    clear hr hb
    go_wp2
    go_ret
    rw [HP.out]
    exact ⟨rfl, H1.out, HB.out.trans HB2.out⟩
  · have n1 : ¬ c = 43 := fun e => h1 ((eq8' 43 c).1 e)
    by_cases h2 : (c.toNat : Int) = 58
    · have HP := Lib.hid (show inComp s c = nextComp s by unfold inComp; rw [if_neg n1, if_pos ((eq8' 58 c).2 h2)])
      clear n1
      go_enter Tryz.func165, Tryz.ntmps165
      go_wp2_with (go_at_call 169; refine (HN.out).mono ?_)
      first | rintro e w2 rfl hr hb | rintro e w2 ⟨rfl, hr, hb⟩
      have H1 := Lib.hid hr
      have HB2 := Lib.hid hb
      clear hr hb
      go_wp2
      go_ret
      rw [HP.out]
      exact ⟨rfl, H1.out, HB2.out⟩
    · have n2 : ¬ c = 58 := fun e => h2 ((eq8' 58 c).1 e)
      by_cases h3 : (c.toNat : Int) = 39
      · have HP := Lib.hid (show inComp s c = (0, endSeg (endElem s)) by unfold inComp; rw [if_neg n1, if_neg n2, if_pos ((eq8' 39 c).2 h3)])
        clear n1 n2
        go_enter Tryz.func165, Tryz.ntmps165
        go_wp2_with (go_at_call 168; refine (HE.out).mono ?_)
        rintro e w1 ⟨rfl, ⟨F1, vn1, vs1, ve1, vl1, vw1, h4⟩, hb⟩
        have HA1 := Lib.hid (endSeg_v w1 h4 (by have := hb.size; have := HBw.out; omega) (by have := HBD.out.2.2.2; exact this))
        have HB := Lib.hid hb
        clear h4 hb
        go_wp2_with (go_at_call 155; refine (HA1.out).mono ?_)
        first | rintro e w2 rfl hr hb | rintro e w2 ⟨rfl, hr, hb⟩
        have H1 := Lib.hid hr
        have HB2 := Lib.hid hb
        clear hr hb
        go_wp2
        go_ret
        rw [HP.out]
        exact ⟨rfl, H1.out, HB.out.trans HB2.out⟩
      · have n3 : ¬ c = 39 := fun e => h3 ((eq8' 39 c).1 e)
        by_cases h4 : (c.toNat : Int) = 63
        · have HP := Lib.hid (show inComp s c = (0, { s with md := .mrk }) by unfold inComp; rw [if_neg n1, if_neg n2, if_neg n3, if_pos ((eq8' 63 c).2 h4)])
          clear n1 n2 n3
          go_enter Tryz.func165, Tryz.ntmps165
          go_wp2
          go_ret
          rw [HP.out]
          have h := HR.out
          have hc := (Chg.refl w g none).set 0 (nx g .mrk)
          exact ⟨rfl, ⟨F, nx g .mrk, _, _, _, _, h.to hc (set_heap h.hg 0 _) rfl rfl rfl rfl rfl⟩, below_chg hc h.hB (fun k hk => by simp at hk) rfl rfl rfl HBw.out⟩
        · have n4 : ¬ c = 63 := fun e => h4 ((eq8' 63 c).1 e)
          have HP := Lib.hid (show inComp s c = add s c by unfold inComp; rw [if_neg n1, if_neg n2, if_neg n3, if_neg n4])
          clear n1 n2 n3 n4
          go_enter Tryz.func165, Tryz.ntmps165
          go_wp2_with (go_at_call 171; refine (HA.out).mono ?_)
          first | rintro e w2 rfl hr hb | rintro e w2 ⟨rfl, hr, hb⟩
          have H1 := Lib.hid hr
          have HB2 := Lib.hid hb
          clear hr hb
          go_wp2
          go_ret
          rw [HP.out]
          exact ⟨rfl, H1.out, HB2.out⟩
set_option maxRecDepth 100000 in
set_option maxHeartbeats 1600000 in
theorem outside_v {B g : Nat} {F : Nat → Prop} {s : RS} {vn vs ve vl vw : Value} (c : UInt8) (w : World) (h : RdV B g F s vn vs ve vl vw w) (hBw : B ≤ w.heap.size) (hbd : Bd s) :
    Does B g 91 #[.pointer (some ⟨g, 0, none⟩), by8 c] w (outS s c) := by
  unfold Does
  have hmf : ∀ (fn : Fn) (first cap : Array Value) (w : World), (Instr.makeFunc fn first cap).run Tryz.prog w = .ok (.func fn first cap) w := fun _ _ _ _ => rfl
  have HR := Lib.hid h
  have HBw := Lib.hid hBw
  obtain ⟨xs, hvs, _⟩ := h.segs
  obtain ⟨ps, caps, rfl⟩ := own_slice hvs
  have c0 : w.cell? ⟨g, 0, none⟩ = some vn := (h.cell 0).trans rfl
  have c1 : w.cell? ⟨g, 1, none⟩ = some (.slice ps s.segs.length caps) := (h.cell 1).trans rfl
  have c6 : w.cell? ⟨g, 6, none⟩ = some (.bool s.wi) := (h.cell 6).trans rfl
  have f0 := h.frozen 0
  have f6 := h.frozen 6
  have hc := ((Chg.refl w g none).set 6 (.bool true)).set 0 (nx g .tag)
  have hnew : RdV B g F { s with wi := true, md := .tag } (nx g .tag) (.slice ps s.segs.length caps) ve vl vw ((w.setCell ⟨g, 6, none⟩ (.bool true)).setCell ⟨g, 0, none⟩ (nx g .tag)) := h.to hc (set_heap (set_heap h.hg 6 _) 0 _) rfl rfl rfl rfl rfl
  have HBL := Lib.hid (below_chg hc h.hB (fun k hk => by simp at hk) rfl rfl rfl hBw)
  have HT := Lib.hid (inTag_v c _ hnew (by simpa [World.setCell] using hBw) hbd.1)
  clear h hBw hbd hvs hc hnew
  have hn0 : (0 : Int) ≤ (s.segs.length : Int) := Int.natCast_nonneg _
  by_cases h10 : (c.toNat : Int) = 10
  · by_cases h0 : (0 : Int) < (s.segs.length : Int)
    · have HP := Lib.hid (show outS s c = (0, s) by unfold outS; rw [if_pos ⟨(eq8' 10 c).2 h10, by omega⟩])
      go_enter Tryz.func91, Tryz.ntmps91
      go_wp2
      go_ret
      rw [HP.out]
      exact ⟨rfl, ⟨F, _, _, _, _, _, HR.out⟩, Below.refl _ _⟩
    · have HP := Lib.hid (show outS s c = inTag { s with wi := true, md := .tag } c by unfold outS; rw [if_neg (fun e => h0 (by omega)), if_neg (by omega)])
      have h64 : ¬ (s.segs.length : Int) = 64 := by omega
      go_enter Tryz.func91, Tryz.ntmps91
      go_wp2_with (go_at_call 120; refine (HT.out).mono ?_)
      first | rintro e w2 rfl hr hb | rintro e w2 ⟨rfl, hr, hb⟩
      have H1 := Lib.hid hr
      have HB2 := Lib.hid hb
      clear hr hb
      go_wp2
      go_ret
      rw [HP.out]
      exact ⟨rfl, H1.out, HBL.out.trans HB2.out⟩
  · have n10 : ¬ c = 10 := fun e => h10 ((eq8' 10 c).1 e)
    by_cases h64 : (s.segs.length : Int) = 64
    · have HP := Lib.hid (show outS s c = (2, s) by unfold outS; rw [if_neg (fun e => n10 e.1), if_pos (by omega)])
      clear n10
      go_enter Tryz.func91, Tryz.ntmps91
      go_wp2
      go_ret
      rw [HP.out]
      exact ⟨rfl, ⟨F, _, _, _, _, _, HR.out⟩, Below.refl _ _⟩
    · have HP := Lib.hid (show outS s c = inTag { s with wi := true, md := .tag } c by unfold outS; rw [if_neg (fun e => n10 e.1), if_neg (by omega)])
      clear n10
      go_enter Tryz.func91, Tryz.ntmps91
      go_wp2_with (go_at_call 120; refine (HT.out).mono ?_)
      first | rintro e w2 rfl hr hb | rintro e w2 ⟨rfl, hr, hb⟩
      have H1 := Lib.hid hr
      have HB2 := Lib.hid hb
      clear hr hb
      go_wp2
      go_ret
      rw [HP.out]
      exact ⟨rfl, H1.out, HBL.out.trans HB2.out⟩
/-- the method that comes next does what the plain reader's step does -/
theorem next_v {B g : Nat} {F : Nat → Prop} {s : RS} {vn vs ve vl vw : Value} (c : UInt8) (w : World) (h : RdV B g F s vn vs ve vl vw w) (hBw : B ≤ w.heap.size) (hbd : Bd s) :
    ∃ f, vn = .func (.func f) #[.pointer (some ⟨g, 0, none⟩)] #[] ∧ (f = 91 ∨ f = 120 ∨ f = 136 ∨ f = 165 ∨ f = 170) ∧ Does B g f #[.pointer (some ⟨g, 0, none⟩), by8 c] w (Go.Edi.step s c) := by
  have hv := h.vn
  unfold Go.Edi.step
  cases hmd : s.md <;> rw [hmd] at hv
  · exact ⟨_, hv, by simp, outside_v c w h hBw hbd⟩
  · exact ⟨_, hv, by simp, inTag_v c w h hBw hbd.1⟩
  · exact ⟨_, hv, by simp, behindTag_v c w h hBw hbd⟩
  · exact ⟨_, hv, by simp, inComp_v c w h hBw hbd⟩
  · exact ⟨_, hv, by simp, behindMark_v c w h hBw hbd.1⟩
end Go.Proofs.YtjlifjgljejabaaGreatDoor
