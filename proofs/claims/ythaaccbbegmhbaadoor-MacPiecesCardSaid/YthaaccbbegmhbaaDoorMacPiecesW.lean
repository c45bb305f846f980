/- The walk of the law MacPieces, over the translated program. -/
import Derived.Test.YthaaccbbegmhbaaDoorMacW5
import Derived.Test.YthaaccbbegmhbaaDoorShaSlice
namespace Go.Proofs.YthaaccbbegmhbaaDoor
open Go.RowKit Go.Sha

@[local go_sem high, local simp high] theorem z25p2 (w : World) : (zeroValue 25).run Tryd.prog w = .ok (.agg (bv (zl 32))) w := by kernel_rfl
/-- bytes of the call's own that may be written over: their block lies in [B, C) -/
def Scr (n : Nat) (p : Option Addr) (B C : Nat) (w : World) : Prop := 0 < n → ∃ b, p = some ⟨b, 0, none⟩ ∧ B ≤ b ∧ b < C ∧ ∃ cur : Array Value, w.heap[b]? = some (.cells cur 5 (0, 0)) ∧ n ≤ cur.size
theorem scr_of_own {w : World} {base n cap : Nat} {p : Option Addr} {l : List Nat} (h : Own w base (.slice p n cap) l) (hn : l.length = n) : Scr n p base w.heap.size w := by
  intro h0
  obtain ⟨h1, h2⟩ := h
  rcases h2 with ⟨e, e0⟩ | ⟨b, c, cur, e, hb, hh, hnn, hm, hsz, _⟩
  · omega
  · cases e
    exact ⟨b, rfl, hb, (Array.getElem?_eq_some_iff.1 hh).1, cur, hh, by omega⟩
theorem Scr.kept {n B C : Nat} {p : Option Addr} {w w' : World} (h : Scr n p B C w) (hb : ∀ b, B ≤ b → b < C → w'.heap[b]? = w.heap[b]?) : Scr n p B C w' := by
  intro h0
  obtain ⟨b, e1, e2, e3, cur, e4, e5⟩ := h h0
  exact ⟨b, e1, e2, e3, cur, (hb b e2 e3).trans e4, e5⟩
theorem PenAt.setCell {w : World} {g h b k : Nat} {o : List Nat} {s : HS} (hp : PenAt w g h o s) (h1 : g ≠ b) (h2 : h ≠ b) (v : Value) : PenAt (w.setCell ⟨b, k, none⟩ v) g h o s :=
  ⟨(heap_setCell_other _ _ _ _ h1).trans hp.1, (heap_setCell_other _ _ _ _ h2).trans hp.2.1, hp.2.2⟩
/-- the pen's state, what it lies above, how far the bytes are written -/
def MRel (w : World) (g h : Nat) (key l : List Nat) (k : Nat) (wr : World) : Prop := PenAt wr g h (out key) (putL (putL hs0 (inn key)) (l.take k)) ∧ Below w.heap.size w wr
theorem MRel.kept {w wr w' : World} {g h k : Nat} {key l : List Nat} (r : MRel w g h key l k wr) (hb : Below wr.heap.size wr w') : MRel w g h key l k w' := ⟨r.1.grown hb, r.2.trans (hb.mono r.2.size)⟩

set_option maxRecDepth 100000 in
set_option maxHeartbeats 800000 in
theorem macPieces_big (p q pc : Option Addr) (m n N c d capc : Nat) (w : World) (hG : Gl w) (h : 8192 < m ∨ 8192 < n ∨ 200 < N) :
    Calls Tryd.prog 7 #[.slice p m c, .slice q n d, .slice pc N capc] w fun e w' => e = .returned (.bool true) ∧ Below w.heap.size w w' := by
  have HG := Lib.hid hG; clear hG
  by_cases h1 : 8192 < m
  · have t1 : decide ((8192 : Int) < (m : Int)) = true := by simp; omega
    go_enter Tryd.func7, Tryd.ntmps7
    go_wp2_with fail
    refine (wakes2_any _ HG.out).mono ?_
    rintro e w2 ⟨rfl, hb2⟩
    go_wp2_with fail
    go_ret
    exact ⟨rfl, hb2⟩
  · have t1 : decide ((8192 : Int) < (m : Int)) = false := by simp; omega
    by_cases h2 : 8192 < n
    · have t2 : decide ((8192 : Int) < (n : Int)) = true := by simp; omega
      go_enter Tryd.func7, Tryd.ntmps7
      go_wp2_with fail
      refine (wakes2_any _ HG.out).mono ?_
      rintro e w2 ⟨rfl, hb2⟩
      go_wp2_with fail
      go_ret
      exact ⟨rfl, hb2⟩
    · have t2 : decide ((8192 : Int) < (n : Int)) = false := by simp; omega
      have t3 : decide ((200 : Int) < (N : Int)) = true := by simp; omega
      go_enter Tryd.func7, Tryd.ntmps7
      go_wp2_with fail
      refine (wakes2_any _ HG.out).mono ?_
      rintro e w2 ⟨rfl, hb2⟩
      go_wp2_with fail
      go_ret
      exact ⟨rfl, hb2⟩

set_option maxRecDepth 100000 in
set_option maxHeartbeats 6400000 in
theorem macPieces_any (key l : List Nat) (cs : List Int) (p q pc : Option Addr) (m n N c d capc : Nat) (w : World) (hG : Gl w) (hm : m = key.length) (hn : n = l.length) (hN : N = cs.length) (hk1 : Lt 256 key) (hl1 : Lt 256 l) (h1 : m ≤ 8192) (h2 : n ≤ 8192) (h3 : N ≤ 200)
    (hv : Byt w w.heap.size (.slice p m c) key) (hu : Byt w w.heap.size (.slice q n d) l) (hci : Ints w pc cs) (hcb : ∀ j, -9223372036854775808 ≤ cs.getD j 0 ∧ cs.getD j 0 ≤ 9223372036854775807) :
    Calls Tryd.prog 7 #[.slice p m c, .slice q n d, .slice pc N capc] w fun e w' => e = .returned (.bool true) ∧ Below w.heap.size w w' := by
  have HG := Lib.hid hG; clear hG
  have HM := Lib.hid hm; clear hm
  have HLL := Lib.hid hn; clear hn
  have HN := Lib.hid hN; clear hN
  have HK1 := Lib.hid hk1; clear hk1
  have HL1 := Lib.hid hl1; clear hl1
  have HV := Lib.hid hv; clear hv
  have HU := Lib.hid hu; clear hu
  have HCI := Lib.hid hci; clear hci
  have HCB := Lib.hid hcb; clear hcb
  have hsz := HG.out.size
  have hcd : n ≤ d := by obtain ⟨_, _, e, h, _⟩ := HU.out; cases e; rw [HLL.out]; exact h
  have t1 : decide ((8192 : Int) < (m : Int)) = false := by simp; omega
  have t2 : decide ((8192 : Int) < (n : Int)) = false := by simp; omega
  have t3 : decide ((200 : Int) < (N : Int)) = false := by simp; omega
  have HS0 := Lib.hid (show (putL hs0 (inn key)).Ok from putL_ok hs0_ok (inn_lt HK1.out))
  have HC0 := Lib.hid (show (putL hs0 (inn key)).c = 64 by rw [putL_c, inn_len]; rfl)
  have HOK := Lib.hid (show ∀ k, (putL (putL hs0 (inn key)) (l.take k)).Ok from fun k => putL_ok HS0.out (fun x hx => HL1.out x (List.mem_of_mem_take hx)))
  have HCC := Lib.hid (show ∀ k, k ≤ n → (putL (putL hs0 (inn key)) (l.take k)).c = 64 + k from fun k hk => by rw [putL_c, HC0.out, List.length_take, ← HLL.out, Nat.min_eq_left hk])
  have HPM := Lib.hid (show ∀ k, penL (out key) (putL (putL hs0 (inn key)) (l.take k)) = macL key (l.take k) from fun k => pen_mac key (l.take k))
  have HBYT := Lib.hid (show ∀ (w' : World), Below w.heap.size w w' → ∀ k, k ≤ n → Byt w' w'.heap.size (.slice (subp q d 0) k d) (l.take k) from fun w' hb k hk => by
    have := byt_sub (HU.out.grown hb (g' := w'.heap.size) (fun b h => by have := hb.size; omega)) 0 k HLL.out.symm (by omega)
    rw [List.drop_zero, Nat.sub_zero] at this; exact this)
  have HVB := Lib.hid (show ∀ (w' : World), Below w.heap.size w w' → Byt w' w'.heap.size (.slice p m c) key from fun w' hb => HV.out.grown hb (fun b h => by have := hb.size; omega))
  go_enter Tryd.func7, Tryd.ntmps7
  go_wp2_with (with_reducible refine stp_append ?_)
  unfold Stp
  with_reducible refine wl_app w.heap.size (.slice none 0 0) (.slice p m c) [] key ?_ ?_ (own_nil _ _) ?_ ?_ ?_ ?_
  · rfl
  · rfl
  · exact HV.out.src
  · rw [← HM.out]; simp; omega
  · exact Nat.le_refl _
  intro v1 w1 hown1 hgr1 _
  rw [List.nil_append] at hown1
  have HO1 := Lib.hid hown1
  have HB1 := Lib.hid (grown_to_below hgr1 (Nat.le_refl _) (by simp [Value.ownBlock]))
  clear hown1 hgr1
  obtain ⟨p1, c1, hv1⟩ := (show ∃ p1 c1, v1 = .slice p1 m c1 from by obtain ⟨a, b, e, _⟩ := HO1.out.src; exact ⟨a, b, by rw [e, ← HM.out]⟩)
  subst hv1
  go_wp2_with fail
  refine (macNew_any key _ w1 HK1.out (by rw [← HM.out]; omega) (HG.out.below hsz HB1.out) (HO1.out.byt' (fun e => by have := (HO1.out.lt _ e).2; omega))).mono ?_
  rintro e w2 ⟨g, h, rfl, hg, hh, hpen, hb2⟩
  have HS2 := Lib.hid ((scr_of_own HO1.out HM.out.symm).kept (fun b _ hb => hb2.block b hb))
  have HR2 := Lib.hid (show MRel w g h key l 0 w2 from ⟨by rw [List.take_zero, putL_nil]; exact hpen, HB1.out.trans (hb2.mono HB1.out.size)⟩)
  have hs1 := HB1.out.size
  generalize w1.heap.size = B1 at *
  clear hpen hb2 HO1 HB1
  go_wp2_with fail
  go_loopw [9] (fun i wr => ∃ t : Nat, t ≤ m ∧ i = .int .i64 t ∧ MRel w g h key l 0 wr ∧ Scr m p1 w.heap.size B1 wr) (fun i _ => m - (intOf i).toNat)
  case atStart => exact ⟨0, Nat.zero_le _, rfl, HR2.out, HS2.out⟩
  case round =>
    clear HR2 HS2
    obtain ⟨t, ht, rfl, hR, hS⟩ := hrel
    have HR := Lib.hid hR; clear hR
    have HS := Lib.hid hS; clear hS
    by_cases htm : t < m
    · obtain ⟨b, rfl, hb1, hb2, cur, hcur, hcs⟩ := HS.out (by omega)
      have HCUR := Lib.hid hcur; clear hcur
      have ct : (wr.cell? ⟨b, t, none⟩) = some (cur[t]'(by omega)) := by rw [cell_of_row _ _ t _ _ _ HCUR.out]; exact Array.getElem?_eq_getElem (by omega)
      have cf : wr.frozen? ⟨b, t, none⟩ = false := frozen_of_row _ _ _ _ _ HCUR.out
      have hti : (t : Int) < (m : Int) := by omega
      go_wp2_with fail
      refine ⟨⟨t + 1, by omega, by go_num, ⟨HR.out.1.setCell (by omega) (by omega) _, HR.out.2.setCell (by show w.heap.size ≤ b; omega) _⟩, fun _ => ⟨b, rfl, hb1, hb2, _, heap_setCell_same _ _ _ _ _ _ HCUR.out, by simpa using hcs⟩⟩, by simp [intOf]; omega⟩
    · clear HS
      go_wp2_with fail
      go_loopw [10, 11, 12, 13, 14] (fun at_ i _ _ _ wr => ∃ k j : Nat, k ≤ n ∧ j ≤ N ∧ at_ = .int .i64 k ∧ i = .int .i64 j ∧ MRel w g h key l k wr) (fun _ i _ _ _ _ => N - (intOf i).toNat)
      case atStart => exact ⟨0, 0, Nat.zero_le _, Nat.zero_le _, rfl, rfl, HR.out⟩
      case round =>
        clear HR
        obtain ⟨k, j, hk, hj, rfl, rfl, hR⟩ := hrel
        have HR := Lib.hid hR; clear hR
        by_cases hjn : j < N
        · obtain ⟨cb, co, rfl, hcb1, hcb2⟩ := HCI.out (by rw [← HN.out]; omega)
          have c0 : wr.cell? ⟨cb, co + j, none⟩ = some (.int .i64 (cs.getD j 0)) := (HR.out.2.cell (p := ⟨cb, co + j, none⟩) hcb1).trans (hcb2 j (by rw [← HN.out]; exact hjn))
          have HC3 := Lib.hid (show ∀ w', Below w.heap.size w w' → w'.cell? ⟨cb, co + j, none⟩ = some (.int .i64 (cs.getD j 0)) from fun w' hb => (hb.cell (p := ⟨cb, co + j, none⟩) hcb1).trans (hcb2 j (by rw [← HN.out]; exact hjn)))
          obtain ⟨b1, b2⟩ := HCB.out j
          clear hcb2
          generalize cs.getD j 0 = x at *
          obtain ⟨r, hr, hq⟩ := tmod_abs x n k hk
          have hnn : decide ((r : Int) < 0) = false := by simp
          have hjI : (j : Int) < (N : Int) := by omega
          rcases hq with hq | ⟨hq, hr0⟩
          all_goals
            go_wp2_with (with_reducible refine stp_slice ?_)
            unfold Stp
            with_reducible refine wl_sliceLH q n d k r (k : Int) ((k : Int) + (r : Int)) ?_ ?_ ?_ ?_ ?_ ?_ ?_
            · rfl
            · rfl
            · rfl
            · rfl
            · omega
            · omega
            have HPC := Lib.hid (byt_sub (HU.out.grown HR.out.2 (g' := wr.heap.size) (fun b h => by have := HR.out.2.size; omega)) k r HLL.out.symm (by omega))
            have HPL := Lib.hid (show ((l.drop k).take r).length = r by rw [List.length_take, List.length_drop, ← HLL.out]; omega)
            have HPT := Lib.hid (show Lt 256 ((l.drop k).take r) from fun y hy => HL1.out y (List.mem_of_mem_drop (List.mem_of_mem_take hy)))
            have HPJ := Lib.hid (show l.take k ++ (l.drop k).take r = l.take (k + r) from (List.take_add ..).symm)
            generalize (l.drop k).take r = piece at *
            go_wp2_with (with_reducible refine stp_append ?_)
            unfold Stp
            with_reducible refine wl_app wr.heap.size (.slice none 0 0) (.slice (subp q d k) r (d - k)) [] piece ?_ ?_ (own_nil _ _) ?_ ?_ ?_ ?_
            · rfl
            · rfl
            · exact HPC.out.src
            · rw [HPL.out]; simp; omega
            · exact Nat.le_refl _
            intro v3 w3 hown3 hgr3 _
            rw [List.nil_append] at hown3
            have hbb3 := grown_to_below hgr3 (Nat.le_refl _) (by simp [Value.ownBlock])
            have HO3 := Lib.hid hown3
            have HR3 := Lib.hid (HR.out.kept hbb3)
            have hs3 := hbb3.size
            have hgl : g < wr.heap.size := (Array.getElem?_eq_some_iff.1 HR.out.1.1).1
            have hhl : h < wr.heap.size := (Array.getElem?_eq_some_iff.1 HR.out.1.2.1).1
            clear hown3 hgr3 hbb3
            obtain ⟨p3, c3, hv3⟩ := (show ∃ p1 c1, v3 = .slice p1 r c1 from by obtain ⟨a, b, e, _⟩ := HO3.out.src; exact ⟨a, b, by rw [e, HPL.out]⟩)
            subst hv3
            go_wp2_with fail
            refine (penWrite_any g h (out key) _ piece _ w3 HR3.out.1 (HOK.out k) HPT.out (by rw [HCC.out k hk, HPL.out]; omega) (HG.out.below hsz HR3.out.2) (by omega) (HO3.out.byt (by omega))).mono ?_
            rw [← putL_append, HPJ.out]
            rintro e w4 ⟨rfl, hp4, hgr4⟩
            have HR4 := Lib.hid (show MRel w g h key l (k + r) w4 from ⟨hp4, HR3.out.2.trans ⟨hgr4.os, hgr4.tape, hgr4.output, hgr4.size, fun i hi => hgr4.block i (by have := HR3.out.2.size; omega) (by simp; omega)⟩⟩)
            have HS4 := Lib.hid ((scr_of_own HO3.out HPL.out).kept (fun b hb1 hb2 => hgr4.block b hb2 (by simp; omega)))
            clear hp4 hgr4 HO3 HR3 HR HPC HPL HPT HPJ
            generalize w3.heap.size = C3 at *
            generalize wr.heap.size = B3 at *
            go_wp2_with fail
            go_loopw [14] (fun i wr => ∃ t : Nat, t ≤ r ∧ i = .int .i64 t ∧ MRel w g h key l (k + r) wr ∧ Scr r p3 B3 C3 wr) (fun i _ => r - (intOf i).toNat)
            case atStart => exact ⟨0, Nat.zero_le _, rfl, HR4.out, HS4.out⟩
            case round =>
              clear HR4 HS4
              obtain ⟨t, ht, rfl, hR, hS⟩ := hrel
              have HR := Lib.hid hR; clear hR
              have HS := Lib.hid hS; clear hS
              by_cases htr : t < r
              · obtain ⟨b, rfl, hb1, hb2, cur, hcur, hcs⟩ := HS.out (by omega)
                have HCUR := Lib.hid hcur; clear hcur
                have ct : (wr.cell? ⟨b, t, none⟩) = some (cur[t]'(by omega)) := by rw [cell_of_row _ _ t _ _ _ HCUR.out]; exact Array.getElem?_eq_getElem (by omega)
                have cf : wr.frozen? ⟨b, t, none⟩ = false := frozen_of_row _ _ _ _ _ HCUR.out
                have hti : (t : Int) < (r : Int) := by omega
                go_wp2_with fail
                refine ⟨⟨t + 1, by omega, by go_num, ⟨HR.out.1.setCell (by omega) (by omega) _, HR.out.2.setCell (by show w.heap.size ≤ b; omega) _⟩, fun _ => ⟨b, rfl, hb1, hb2, _, heap_setCell_same _ _ _ _ _ _ HCUR.out, by simpa using hcs⟩⟩, by simp [intOf]; omega⟩
              · clear HS c0
                have hk2 : k + r ≤ n := by omega
                have hti : ¬ (t : Int) < (r : Int) := by omega
                have HMK := Lib.hid (macL_len key (l.take (k + r)))
                go_wp2_with fail
                by_cases h3r : x.tmod 3 = 0
                · refine wp_region_held (S := fun w' => MRel w g h key l (k + r) w') (by kernel_rfl) ?_
                  change wpAnyH _ _ _ _ _ _ _ _ (World.drew _)
                  have HS0' := Lib.hid (show MRel w g h key l (k + r) wr.drew from ⟨HR.out.1, HR.out.2.drew⟩)
                  clear HS0
                  have HS0 := HS0'
                  clear HS0'
                  generalize wr.drew = w0 at *
                  refine wpAnyH_take (i := 0) (oi := ⟨some 85, .move (.tmp 2), _, _, _, none⟩) (v := .slice (some ⟨cb, co, none⟩) N capc) rfl (by kernel_rfl) (by kernel_rfl) (by kernel_rfl) (fun _ _ _ h => h) (Or.inl ⟨by rfl, fun w' hS => by go_simp⟩) HS0.out ?_
                  simp only [Act.put, List.setIfInBounds_toArray, List.set_cons_zero, List.set_cons_succ]
                  refine wpAnyH_take (i := 1) (oi := ⟨some 86, .move (.tmp 11), _, _, _, none⟩) (v := .int .i64 j) rfl (by kernel_rfl) (by kernel_rfl) (by kernel_rfl) (fun _ _ _ h => h) (Or.inl ⟨by rfl, fun w' hS => by go_simp⟩) HS0.out ?_
                  simp only [Act.put, List.setIfInBounds_toArray, List.set_cons_zero, List.set_cons_succ]
                  refine wpAnyH_take (i := 2) (oi := ⟨some 87, .indexAddr 35 (.tmp 85) (.tmp 86), _, _, _, none⟩) (v := .pointer (some ⟨cb, co + j, none⟩)) rfl (by kernel_rfl) (by kernel_rfl) (by kernel_rfl) (fun _ _ _ h => h) (Or.inl ⟨by rfl, fun w' hS => by go_simp⟩) HS0.out ?_
                  simp only [Act.put, List.setIfInBounds_toArray, List.set_cons_zero, List.set_cons_succ]
                  refine wpAnyH_take (i := 3) (oi := ⟨some 88, .load 3 (.tmp 87), _, _, _, none⟩) (v := .int .i64 x) rfl (by kernel_rfl) (by kernel_rfl) (by kernel_rfl) (fun _ _ _ h => h) (Or.inl ⟨by rfl, fun w' hS => by have hc3 := HC3.out w' hS.2; go_simp⟩) HS0.out ?_
                  simp only [Act.put, List.setIfInBounds_toArray, List.set_cons_zero, List.set_cons_succ]
                  refine wpAnyH_take (i := 4) (oi := ⟨some 89, .binOp .rem 3 (.tmp 88) (.const (.int .i64 3)) 3, _, _, _, none⟩) (v := .int .i64 (x.tmod 3)) rfl (by kernel_rfl) (by kernel_rfl) (by kernel_rfl) (fun _ _ _ h => h) (Or.inl ⟨by rfl, fun w' hS => by go_simp⟩) HS0.out ?_
                  simp only [Act.put, List.setIfInBounds_toArray, List.set_cons_zero, List.set_cons_succ]
                  refine wpAnyH_take (i := 5) (oi := ⟨some 90, .binOp .eql 3 (.tmp 89) (.const (.int .i64 0)) 3, _, _, _, none⟩) (v := .bool true) rfl (by kernel_rfl) (by kernel_rfl) (by kernel_rfl) (fun _ _ _ h => h) (Or.inl ⟨by rfl, fun w' hS => by rw [h3r]; go_simp⟩) HS0.out ?_
                  simp only [Act.put, List.setIfInBounds_toArray, List.set_cons_zero, List.set_cons_succ]
                  refine wpAnyH_take (i := 6) (oi := ⟨some 91, .move (.tmp 90), _, _, _, none⟩) (v := .bool true) rfl (by kernel_rfl) (by kernel_rfl) (by kernel_rfl) (fun _ _ _ h => h) (Or.inl ⟨by rfl, fun w' hS => by go_simp⟩) HS0.out ?_
                  simp only [Act.put, List.setIfInBounds_toArray, List.set_cons_zero, List.set_cons_succ]
                  refine wpAnyH_take (i := 7) (oi := ⟨some 92, .move (.tmp 8), _, _, _, some (6, true)⟩) (v := .pointer (some ⟨g, 0, none⟩)) rfl (by kernel_rfl) (by kernel_rfl) (by kernel_rfl) (fun _ _ _ h => h) (Or.inl ⟨by rfl, fun w' hS => by go_simp⟩) HS0.out ?_
                  simp only [Act.put, List.setIfInBounds_toArray, List.set_cons_zero, List.set_cons_succ]
                  refine wpAnyH_take (i := 9) (oi := ⟨some 94, .move (.tmp 0), _, _, _, some (6, true)⟩) (v := .slice p m c) rfl (by kernel_rfl) (by kernel_rfl) (by kernel_rfl) (fun _ _ _ h => h) (Or.inl ⟨by rfl, fun w' hS => by go_simp⟩) HS0.out ?_
                  simp only [Act.put, List.setIfInBounds_toArray, List.set_cons_zero, List.set_cons_succ]
                  refine wpAnyH_take (i := 10) (oi := ⟨some 95, .move (.tmp 1), _, _, _, some (6, true)⟩) (v := .slice q n d) rfl (by kernel_rfl) (by kernel_rfl) (by kernel_rfl) (fun _ _ _ h => h) (Or.inl ⟨by rfl, fun w' hS => by go_simp⟩) HS0.out ?_
                  simp only [Act.put, List.setIfInBounds_toArray, List.set_cons_zero, List.set_cons_succ]
                  refine wpAnyH_take (i := 11) (oi := ⟨some 96, .move (.tmp 10), _, _, _, some (6, true)⟩) (v := .int .i64 ((k : Int) + (r : Int))) rfl (by kernel_rfl) (by kernel_rfl) (by kernel_rfl) (fun _ _ _ h => h) (Or.inl ⟨by rfl, fun w' hS => by go_simp⟩) HS0.out ?_
                  simp only [Act.put, List.setIfInBounds_toArray, List.set_cons_zero, List.set_cons_succ]
                  refine wpAnyH_take (i := 12) (oi := ⟨some 97, .slice 22 (.tmp 95) none (some (.tmp 96)) none, _, _, _, some (6, true)⟩) (v := .slice (subp q d 0) (k + r) d) rfl (by kernel_rfl) (by kernel_rfl) (by kernel_rfl) (fun _ _ _ h => h) (yi_sliceH (by rfl) (.tmp 95) (.tmp 96) rfl q n d (k + r) ((k : Int) + (r : Int)) rfl rfl (by omega) (by omega)) HS0.out ?_
                  simp only [Act.put, List.setIfInBounds_toArray, List.set_cons_zero, List.set_cons_succ]
                  refine wpAnyH_ready (rs := [8]) (by kernel_rfl) (by simp) (AllReadyH.cons (o := ⟨some 93, .call ⟨.value (.func 19), #[.tmp 92], _⟩, _, _, _, some (6, true)⟩) rfl (fun K hK => ?_) AllReadyH.nil)
                  go_simp
                  refine (penSum_any g h (out key) _ _ HS0.out.1 (HOK.out _) (by rw [HCC.out _ hk2]; omega) (out_len key) (out_lt HK1.out) (HG.out.below hsz HS0.out.2)).mono ?_
                  rintro e w1 ⟨rfl, hbel⟩
                  have HS1 := Lib.hid (HS0.out.kept hbel)
                  clear hbel
                  refine hK.out _ _ HS1.out (fun _ => ?_)
                  clear hK K
                  rw [HPM.out]
                  refine wpAnyH_ready (rs := [13]) (by kernel_rfl) (by simp) (AllReadyH.cons (o := ⟨some 98, .call ⟨.value (.func 15), #[.tmp 94, .tmp 97], _⟩, _, _, _, some (6, true)⟩) rfl (fun K hK => ?_) AllReadyH.nil)
                  go_simp
                  refine (macOf_any key (l.take (k + r)) _ _ _ HK1.out (fun y hy => HL1.out y (List.mem_of_mem_take hy)) (by rw [← HM.out]; omega) (by rw [List.length_take]; omega) (HG.out.below hsz HS1.out.2) (HVB.out _ HS1.out.2) (HBYT.out _ HS1.out.2 (k + r) hk2)).mono ?_
                  rintro e w2 ⟨rfl, hbel⟩
                  have HS2 := Lib.hid (HS1.out.kept hbel)
                  clear hbel
                  refine hK.out _ _ HS2.out (fun _ => ?_)
                  clear hK K
                  refine wpAnyH_take (i := 14) (oi := ⟨some 99, .binOp .neq 25 (.tmp 93) (.tmp 98) 25, _, _, _, some (6, true)⟩) (v := .bool false) rfl (by kernel_rfl) (by kernel_rfl) (by kernel_rfl) (fun _ _ _ h => h) (yi_neq_same (by rfl) 25 25 (.tmp 93) (.tmp 98) rfl 5 32 (macL key (l.take (k + r))) Tryd.underlying25 Tryd.underlying5 cells5 guard25 rfl rfl (HMK.out)) HS2.out ?_
                  simp only [Act.put, List.setIfInBounds_toArray, List.set_cons_zero, List.set_cons_succ]
                  refine wpAnyH_take (i := 15) (oi := ⟨some 100, .pick (.tmp 91) (.tmp 99) (.const (.bool false)), _, _, _, none⟩) (v := .bool false) rfl (by kernel_rfl) (by kernel_rfl) (by kernel_rfl) (fun _ _ _ h => h) (Or.inl ⟨by rfl, fun w' hS => by go_simp⟩) HS2.out ?_
                  simp only [Act.put, List.setIfInBounds_toArray, List.set_cons_zero, List.set_cons_succ]
                  refine wpAnyH_done (by kernel_rfl) ?_ _
                  go_wp2_with fail
                  exact ⟨⟨k + r, j + 1, hk2, by omega, by go_num, by go_num, HS2.out⟩, by simp [intOf]; omega⟩
                · refine wp_region_held (S := fun w' => MRel w g h key l (k + r) w') (by kernel_rfl) ?_
                  change wpAnyH _ _ _ _ _ _ _ _ (World.drew _)
                  have HS0' := Lib.hid (show MRel w g h key l (k + r) wr.drew from ⟨HR.out.1, HR.out.2.drew⟩)
                  clear HS0
                  have HS0 := HS0'
                  clear HS0'
                  generalize wr.drew = w0 at *
                  refine wpAnyH_take (i := 0) (oi := ⟨some 85, .move (.tmp 2), _, _, _, none⟩) (v := .slice (some ⟨cb, co, none⟩) N capc) rfl (by kernel_rfl) (by kernel_rfl) (by kernel_rfl) (fun _ _ _ h => h) (Or.inl ⟨by rfl, fun w' hS => by go_simp⟩) HS0.out ?_
                  simp only [Act.put, List.setIfInBounds_toArray, List.set_cons_zero, List.set_cons_succ]
                  refine wpAnyH_take (i := 1) (oi := ⟨some 86, .move (.tmp 11), _, _, _, none⟩) (v := .int .i64 j) rfl (by kernel_rfl) (by kernel_rfl) (by kernel_rfl) (fun _ _ _ h => h) (Or.inl ⟨by rfl, fun w' hS => by go_simp⟩) HS0.out ?_
                  simp only [Act.put, List.setIfInBounds_toArray, List.set_cons_zero, List.set_cons_succ]
                  refine wpAnyH_take (i := 2) (oi := ⟨some 87, .indexAddr 35 (.tmp 85) (.tmp 86), _, _, _, none⟩) (v := .pointer (some ⟨cb, co + j, none⟩)) rfl (by kernel_rfl) (by kernel_rfl) (by kernel_rfl) (fun _ _ _ h => h) (Or.inl ⟨by rfl, fun w' hS => by go_simp⟩) HS0.out ?_
                  simp only [Act.put, List.setIfInBounds_toArray, List.set_cons_zero, List.set_cons_succ]
                  refine wpAnyH_take (i := 3) (oi := ⟨some 88, .load 3 (.tmp 87), _, _, _, none⟩) (v := .int .i64 x) rfl (by kernel_rfl) (by kernel_rfl) (by kernel_rfl) (fun _ _ _ h => h) (Or.inl ⟨by rfl, fun w' hS => by have hc3 := HC3.out w' hS.2; go_simp⟩) HS0.out ?_
                  simp only [Act.put, List.setIfInBounds_toArray, List.set_cons_zero, List.set_cons_succ]
                  refine wpAnyH_take (i := 4) (oi := ⟨some 89, .binOp .rem 3 (.tmp 88) (.const (.int .i64 3)) 3, _, _, _, none⟩) (v := .int .i64 (x.tmod 3)) rfl (by kernel_rfl) (by kernel_rfl) (by kernel_rfl) (fun _ _ _ h => h) (Or.inl ⟨by rfl, fun w' hS => by go_simp⟩) HS0.out ?_
                  simp only [Act.put, List.setIfInBounds_toArray, List.set_cons_zero, List.set_cons_succ]
                  refine wpAnyH_take (i := 5) (oi := ⟨some 90, .binOp .eql 3 (.tmp 89) (.const (.int .i64 0)) 3, _, _, _, none⟩) (v := .bool false) rfl (by kernel_rfl) (by kernel_rfl) (by kernel_rfl) (fun _ _ _ h => h) (Or.inl ⟨by rfl, fun w' hS => by have h3b : (x.tmod 3 == 0) = false := (by simpa using h3r); go_simp⟩) HS0.out ?_
                  simp only [Act.put, List.setIfInBounds_toArray, List.set_cons_zero, List.set_cons_succ]
                  refine wpAnyH_take (i := 6) (oi := ⟨some 91, .move (.tmp 90), _, _, _, none⟩) (v := .bool false) rfl (by kernel_rfl) (by kernel_rfl) (by kernel_rfl) (fun _ _ _ h => h) (Or.inl ⟨by rfl, fun w' hS => by go_simp⟩) HS0.out ?_
                  simp only [Act.put, List.setIfInBounds_toArray, List.set_cons_zero, List.set_cons_succ]
                  refine wpAnyH_take (i := 7) (oi := ⟨some 92, .move (.tmp 8), _, _, _, some (6, true)⟩) (v := undef) rfl (by kernel_rfl) (by kernel_rfl) (by kernel_rfl) (fun _ _ _ h => h) (Or.inr ⟨by rfl, rfl⟩) HS0.out ?_
                  simp only [Act.put, List.setIfInBounds_toArray, List.set_cons_zero, List.set_cons_succ]
                  refine wpAnyH_take (i := 8) (oi := ⟨some 93, .call ⟨.value (.func 19), #[.tmp 92], _⟩, _, _, _, some (6, true)⟩) (v := undef) rfl (by kernel_rfl) (by kernel_rfl) (by kernel_rfl) (fun _ _ _ h => h) (Or.inr ⟨by rfl, rfl⟩) HS0.out ?_
                  simp only [Act.put, List.setIfInBounds_toArray, List.set_cons_zero, List.set_cons_succ]
                  refine wpAnyH_take (i := 9) (oi := ⟨some 94, .move (.tmp 0), _, _, _, some (6, true)⟩) (v := undef) rfl (by kernel_rfl) (by kernel_rfl) (by kernel_rfl) (fun _ _ _ h => h) (Or.inr ⟨by rfl, rfl⟩) HS0.out ?_
                  simp only [Act.put, List.setIfInBounds_toArray, List.set_cons_zero, List.set_cons_succ]
                  refine wpAnyH_take (i := 10) (oi := ⟨some 95, .move (.tmp 1), _, _, _, some (6, true)⟩) (v := undef) rfl (by kernel_rfl) (by kernel_rfl) (by kernel_rfl) (fun _ _ _ h => h) (Or.inr ⟨by rfl, rfl⟩) HS0.out ?_
                  simp only [Act.put, List.setIfInBounds_toArray, List.set_cons_zero, List.set_cons_succ]
                  refine wpAnyH_take (i := 11) (oi := ⟨some 96, .move (.tmp 10), _, _, _, some (6, true)⟩) (v := undef) rfl (by kernel_rfl) (by kernel_rfl) (by kernel_rfl) (fun _ _ _ h => h) (Or.inr ⟨by rfl, rfl⟩) HS0.out ?_
                  simp only [Act.put, List.setIfInBounds_toArray, List.set_cons_zero, List.set_cons_succ]
                  refine wpAnyH_take (i := 12) (oi := ⟨some 97, .slice 22 (.tmp 95) none (some (.tmp 96)) none, _, _, _, some (6, true)⟩) (v := undef) rfl (by kernel_rfl) (by kernel_rfl) (by kernel_rfl) (fun _ _ _ h => h) (Or.inr ⟨by rfl, rfl⟩) HS0.out ?_
                  simp only [Act.put, List.setIfInBounds_toArray, List.set_cons_zero, List.set_cons_succ]
                  refine wpAnyH_take (i := 13) (oi := ⟨some 98, .call ⟨.value (.func 15), #[.tmp 94, .tmp 97], _⟩, _, _, _, some (6, true)⟩) (v := undef) rfl (by kernel_rfl) (by kernel_rfl) (by kernel_rfl) (fun _ _ _ h => h) (Or.inr ⟨by rfl, rfl⟩) HS0.out ?_
                  simp only [Act.put, List.setIfInBounds_toArray, List.set_cons_zero, List.set_cons_succ]
                  refine wpAnyH_take (i := 14) (oi := ⟨some 99, .binOp .neq 25 (.tmp 93) (.tmp 98) 25, _, _, _, some (6, true)⟩) (v := undef) rfl (by kernel_rfl) (by kernel_rfl) (by kernel_rfl) (fun _ _ _ h => h) (Or.inr ⟨by rfl, rfl⟩) HS0.out ?_
                  simp only [Act.put, List.setIfInBounds_toArray, List.set_cons_zero, List.set_cons_succ]
                  refine wpAnyH_take (i := 15) (oi := ⟨some 100, .pick (.tmp 91) (.tmp 99) (.const (.bool false)), _, _, _, none⟩) (v := .bool false) rfl (by kernel_rfl) (by kernel_rfl) (by kernel_rfl) (fun _ _ _ h => h) (Or.inl ⟨by rfl, fun w' hS => by go_simp⟩) HS0.out ?_
                  simp only [Act.put, List.setIfInBounds_toArray, List.set_cons_zero, List.set_cons_succ]
                  refine wpAnyH_done (by kernel_rfl) ?_ _
                  go_wp2_with fail
                  exact ⟨⟨k + r, j + 1, hk2, by omega, by go_num, by go_num, HS0.out⟩, by simp [intOf]; omega⟩
        · have hjI : ¬ (j : Int) < (N : Int) := by omega
          have HDL := Lib.hid (show (l.drop k).length = n - k by rw [List.length_drop, ← HLL.out])
          have HJN := Lib.hid (show l.take k ++ l.drop k = l from List.take_append_drop k l)
          have HDR := Lib.hid (show (l.drop k).take (n - k) = l.drop k from List.take_of_length_le (by rw [HDL.out]; exact Nat.le_refl _))
          have HTN := Lib.hid (show l.take n = l by rw [HLL.out, List.take_length])
          go_wp2_with (with_reducible refine stp_slice ?_)
          unfold Stp
          with_reducible refine wl_sliceL q n d k (k : Int) ?_ ?_ ?_ ?_ ?_
          · rfl
          · rfl
          · rfl
          · exact hk
          have HPC := Lib.hid (show Byt wr h (.slice (subp q d k) (n - k) (d - k)) (l.drop k) from by
            have := byt_sub (HU.out.grown HR.out.2 (g' := h) (fun b hb => by omega)) k (n - k) HLL.out.symm (by omega)
            rw [HDR.out] at this; exact this)
          go_wp2_with fail
          refine (penWrite_any g h (out key) _ (l.drop k) _ wr HR.out.1 (HOK.out k) (fun y hy => HL1.out y (List.mem_of_mem_drop hy)) (by rw [HCC.out k hk, HDL.out]; omega) (HG.out.below hsz HR.out.2) (by omega) HPC.out).mono ?_
          rw [← putL_append, HJN.out]
          rintro e w3 ⟨rfl, hp3, hgr3⟩
          have HR3 := Lib.hid (show MRel w g h key l n w3 from ⟨by rw [HTN.out]; exact hp3, HR.out.2.trans ⟨hgr3.os, hgr3.tape, hgr3.output, hgr3.size, fun i hi => hgr3.block i (by have := HR.out.2.size; omega) (by simp; omega)⟩⟩)
          clear hp3 hgr3 HR HPC HDL HJN HDR
          have HPN := Lib.hid (show penL (out key) (putL (putL hs0 (inn key)) (l.take n)) = macL key l from by rw [HPM.out, HTN.out])
          have HML := Lib.hid (macL_len key l)
          have HI25 := Lib.hid (show (Tryd.prog.info? 25).map (·.size) = some (bv (macL key l)).size by rw [bv_size, HML.out]; exact info25)
          go_wp2_with fail
          refine (penSum_any g h (out key) _ w3 HR3.out.1 (HOK.out n) (by rw [HCC.out n (Nat.le_refl _)]; omega) (out_len key) (out_lt HK1.out) (HG.out.below hsz HR3.out.2)).mono ?_
          rw [HPN.out]
          rintro e w4 ⟨rfl, hb4⟩
          have HR4 := Lib.hid (HR3.out.kept hb4)
          clear hb4 HR3
          go_wp2_with (first
            | ((with_reducible refine wl_storeL (ty := 25) w4.heap.size (bv (macL key l)) ?_ ?_ ?_ ?_ ?_ ?_ ?_); (· rfl); (· rfl); (· rfl); (· exact HI25.out); (· rw [bv_size, bv_size, HML.out, zl_len]); (· exact bv_one _)))
          have HM5 := Lib.hid (show ((w4.alloc (.cells (bv (macL key l)) 25)).drew).heap[w4.heap.size]? = some (.cells (bv (macL key l)) 25 (0, 0)) from heap_last _ _ _ rfl)
          have HR5 := Lib.hid (show MRel w g h key l n ((w4.alloc (.cells (bv (macL key l)) 25)).drew) from HR4.out.kept ((Below.refl _ _).alloc (Nat.le_refl _) _).drew)
          refine wp_region_held (S := fun w' => Below ((w4.alloc (.cells (bv (macL key l)) 25)).drew).heap.size ((w4.alloc (.cells (bv (macL key l)) 25)).drew) w') (by kernel_rfl) ?_
          change wpAnyH _ _ _ _ _ _ _ _ (World.drew _)
          clear HS0
          have HS0 := Lib.hid (Below.refl ((w4.alloc (.cells (bv (macL key l)) 25)).drew).heap.size ((w4.alloc (.cells (bv (macL key l)) 25)).drew))
          generalize (w4.alloc (.cells (bv (macL key l)) 25)).drew = z at *
          generalize w4.heap.size = aB at *
          clear HR4
          refine wpAnyH_take (i := 0) (oi := ⟨some 108, .load 25 (.tmp 15), _, _, _, none⟩) (v := .agg (bv (macL key l))) rfl (by kernel_rfl) (by kernel_rfl) (by kernel_rfl) (fun _ _ _ h => h) (yi_row' (by rfl) 25 (.tmp 15) rfl aB (bv (macL key l)) 32 5 Tryd.underlying25 HI25.out rfl (fun w' h => ⟨_, _, (h.block _ (Array.getElem?_eq_some_iff.1 HM5.out).1).trans HM5.out⟩)) HS0.out ?_
          simp only [Act.put, List.setIfInBounds_toArray, List.set_cons_zero, List.set_cons_succ]
          refine wpAnyH_take (i := 1) (oi := ⟨some 109, .move (.tmp 8), _, _, _, none⟩) (v := .pointer (some ⟨g, 0, none⟩)) rfl (by kernel_rfl) (by kernel_rfl) (by kernel_rfl) (fun _ _ _ h => h) (Or.inl ⟨by rfl, fun w' hS => by go_simp⟩) HS0.out ?_
          simp only [Act.put, List.setIfInBounds_toArray, List.set_cons_zero, List.set_cons_succ]
          refine wpAnyH_ready (rs := [2]) (by kernel_rfl) (by simp) (AllReadyH.cons (o := ⟨some 110, .call ⟨.value (.func 19), #[.tmp 109], _⟩, _, _, _, none⟩) rfl (fun K hK => ?_) AllReadyH.nil)
          go_simp
          refine (penSum_any g h (out key) _ _ (HR5.out.kept HS0.out).1 (HOK.out n) (by rw [HCC.out n (Nat.le_refl _)]; omega) (out_len key) (out_lt HK1.out) (HG.out.below hsz (HR5.out.kept HS0.out).2)).mono ?_
          rintro e w1 ⟨rfl, hbel⟩
          have HS1 := Lib.hid (HS0.out.trans (hbel.mono HS0.out.size))
          clear hbel
          refine hK.out _ _ HS1.out (fun _ => ?_)
          clear hK K
          rw [HPN.out]
          refine wpAnyH_take (i := 3) (oi := ⟨some 111, .binOp .eql 25 (.tmp 108) (.tmp 110) 25, _, _, _, none⟩) (v := .bool true) rfl (by kernel_rfl) (by kernel_rfl) (by kernel_rfl) (fun _ _ _ h => h) (yi_eql_same (by rfl) 25 25 (.tmp 108) (.tmp 110) rfl 5 32 (macL key l) Tryd.underlying25 Tryd.underlying5 cells5 guard25 rfl rfl (HML.out)) HS1.out ?_
          simp only [Act.put, List.setIfInBounds_toArray, List.set_cons_zero, List.set_cons_succ]
          refine wpAnyH_take (i := 4) (oi := ⟨some 112, .move (.tmp 111), _, _, _, none⟩) (v := .bool true) rfl (by kernel_rfl) (by kernel_rfl) (by kernel_rfl) (fun _ _ _ h => h) (Or.inl ⟨by rfl, fun w' hS => by go_simp⟩) HS1.out ?_
          simp only [Act.put, List.setIfInBounds_toArray, List.set_cons_zero, List.set_cons_succ]
          refine wpAnyH_take (i := 5) (oi := ⟨some 113, .load 25 (.tmp 15), _, _, _, some (4, true)⟩) (v := .agg (bv (macL key l))) rfl (by kernel_rfl) (by kernel_rfl) (by kernel_rfl) (fun _ _ _ h => h) (yi_row' (by rfl) 25 (.tmp 15) rfl aB (bv (macL key l)) 32 5 Tryd.underlying25 HI25.out rfl (fun w' h => ⟨_, _, (h.block _ (Array.getElem?_eq_some_iff.1 HM5.out).1).trans HM5.out⟩)) HS1.out ?_
          simp only [Act.put, List.setIfInBounds_toArray, List.set_cons_zero, List.set_cons_succ]
          refine wpAnyH_take (i := 6) (oi := ⟨some 114, .move (.tmp 0), _, _, _, some (4, true)⟩) (v := .slice p m c) rfl (by kernel_rfl) (by kernel_rfl) (by kernel_rfl) (fun _ _ _ h => h) (Or.inl ⟨by rfl, fun w' hS => by go_simp⟩) HS1.out ?_
          simp only [Act.put, List.setIfInBounds_toArray, List.set_cons_zero, List.set_cons_succ]
          refine wpAnyH_take (i := 7) (oi := ⟨some 115, .move (.tmp 1), _, _, _, some (4, true)⟩) (v := .slice q n d) rfl (by kernel_rfl) (by kernel_rfl) (by kernel_rfl) (fun _ _ _ h => h) (Or.inl ⟨by rfl, fun w' hS => by go_simp⟩) HS1.out ?_
          simp only [Act.put, List.setIfInBounds_toArray, List.set_cons_zero, List.set_cons_succ]
          refine wpAnyH_ready (rs := [8]) (by kernel_rfl) (by simp) (AllReadyH.cons (o := ⟨some 116, .call ⟨.value (.func 15), #[.tmp 114, .tmp 115], _⟩, _, _, _, some (4, true)⟩) rfl (fun K hK => ?_) AllReadyH.nil)
          go_simp
          refine (macOf_any key l _ _ _ HK1.out HL1.out (by rw [← HM.out]; omega) (by rw [← HLL.out]; omega) (HG.out.below hsz (HR5.out.kept HS1.out).2) (HVB.out _ (HR5.out.kept HS1.out).2) (HU.out.grown (HR5.out.kept HS1.out).2 (fun b hb => by have := (HR5.out.kept HS1.out).2.size; omega))).mono ?_
          rintro e w2 ⟨rfl, hbel⟩
          have HS2 := Lib.hid (HS1.out.trans (hbel.mono HS1.out.size))
          clear hbel
          refine hK.out _ _ HS2.out (fun _ => ?_)
          clear hK K
          refine wpAnyH_take (i := 9) (oi := ⟨some 117, .binOp .eql 25 (.tmp 113) (.tmp 116) 25, _, _, _, some (4, true)⟩) (v := .bool true) rfl (by kernel_rfl) (by kernel_rfl) (by kernel_rfl) (fun _ _ _ h => h) (yi_eql_same (by rfl) 25 25 (.tmp 113) (.tmp 116) rfl 5 32 (macL key l) Tryd.underlying25 Tryd.underlying5 cells5 guard25 rfl rfl (HML.out)) HS2.out ?_
          simp only [Act.put, List.setIfInBounds_toArray, List.set_cons_zero, List.set_cons_succ]
          refine wpAnyH_take (i := 10) (oi := ⟨some 118, .pick (.tmp 112) (.tmp 117) (.const (.bool false)), _, _, _, none⟩) (v := .bool true) rfl (by kernel_rfl) (by kernel_rfl) (by kernel_rfl) (fun _ _ _ h => h) (Or.inl ⟨by rfl, fun w' hS => by go_simp⟩) HS2.out ?_
          simp only [Act.put, List.setIfInBounds_toArray, List.set_cons_zero, List.set_cons_succ]
          refine wpAnyH_take (i := 11) (oi := ⟨some 119, .move (.tmp 118), _, _, _, none⟩) (v := .bool true) rfl (by kernel_rfl) (by kernel_rfl) (by kernel_rfl) (fun _ _ _ h => h) (Or.inl ⟨by rfl, fun w' hS => by go_simp⟩) HS2.out ?_
          simp only [Act.put, List.setIfInBounds_toArray, List.set_cons_zero, List.set_cons_succ]
          refine wpAnyH_ready (rs := [12]) (by kernel_rfl) (by simp) (AllReadyH.cons (o := ⟨some 120, .call ⟨.value (.func 14), #[], _⟩, _, _, _, some (11, true)⟩) rfl (fun K hK => ?_) AllReadyH.nil)
          go_simp
          refine (wakes2_any _ (HG.out.below hsz (HR5.out.kept HS2.out).2)).mono ?_
          rintro e w3 ⟨rfl, hbel⟩
          have HS3 := Lib.hid (HS2.out.trans (hbel.mono HS2.out.size))
          clear hbel
          refine hK.out _ _ HS3.out (fun _ => ?_)
          clear hK K
          refine wpAnyH_take (i := 13) (oi := ⟨some 121, .pick (.tmp 119) (.tmp 120) (.const (.bool false)), _, _, _, none⟩) (v := .bool true) rfl (by kernel_rfl) (by kernel_rfl) (by kernel_rfl) (fun _ _ _ h => h) (Or.inl ⟨by rfl, fun w' hS => by go_simp⟩) HS3.out ?_
          simp only [Act.put, List.setIfInBounds_toArray, List.set_cons_zero, List.set_cons_succ]
          refine wpAnyH_take (i := 14) (oi := ⟨some 6, .assign (.tmp 121), _, _, _, none⟩) (v := .bool true) rfl (by kernel_rfl) (by kernel_rfl) (by kernel_rfl) (fun _ _ _ h => h) (Or.inl ⟨by rfl, fun w' hS => by go_simp⟩) HS3.out ?_
          simp only [Act.put, List.setIfInBounds_toArray, List.set_cons_zero, List.set_cons_succ]
          refine wpAnyH_done (by kernel_rfl) ?_ _
          go_wp2_with fail
          go_ret
          exact ⟨rfl, (HR5.out.kept HS3.out).2⟩
end Go.Proofs.YthaaccbbegmhbaaDoor
