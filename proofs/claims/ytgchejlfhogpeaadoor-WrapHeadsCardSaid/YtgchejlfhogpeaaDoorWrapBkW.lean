/- The walk of WrapBack: what is printed is parsed as it was, what is parsed is printed as the text. -/
import Derived.Test.YtgchejlfhogpeaaDoorWrapS
import Derived.Test.YtgchejlfhogpeaaDoorWrapHv
namespace Go.Proofs.YtgchejlfhogpeaaDoor
open Go.RowKit Go.Edi Go.Wrap

theorem wprint_bad {x : Wr} (h : ¬ (wprintL x).2 = 0) : (wprintL x).1 = [] := by
  unfold wprintL at *
  split
  · rfl
  · split
    · rfl
    · rename_i h1 h2
      rw [if_neg h1, if_neg h2] at h
      exact printL_bad _ h
theorem wprint_ok {x : Wr} (h : (wprintL x).2 = 0) : x.from_ ≤ 7 ∧ x.to_ ≤ 7 ∧ x.segs.length ≤ 62 ∧ wprintL x = printL (closeL x.from_ x.to_ x.ref x.segs) ∧ printL (closeL x.from_ x.to_ x.ref x.segs) = ((wprintL x).1, 0) := by
  unfold wprintL at *
  split at h
  · cases h
  · rename_i h1
    split at h
    · cases h
    · rename_i h2
      rw [if_neg h1, if_neg h2]
      exact ⟨by omega, by omega, by omega, rfl, Prod.ext rfl h⟩
theorem wback {x : Wr} (h : (wprintL x).2 = 0) (hr : x.ref < 18446744073709551616) : wparseL (wprintL x).1 = (x, 0) := by
  obtain ⟨h1, h2, h3, _, h5⟩ := wprint_ok h
  have hb := back _ _ h5
  rw [wparse_ok (by rw [hb]), hb]
  exact open_close h1 h2 hr (by omega)
theorem wparse_nil {t : Tx} (h : ¬ (wparseL t).2 = 0) : (wparseL t).1 = Wr.nil := by
  by_cases h0 : (parseL t).2.2 = 0
  · rw [wparse_ok h0] at h ⊢
    generalize (parseL t).1 = l at *
    by_cases h2 : 2 ≤ l.length
    · cases hh : headV (l.getD 0 ⟨[], []⟩) with
      | none => rw [openL_head hh]
      | some v =>
        obtain ⟨f, t, r⟩ := v
        cases ht : tailV (l.getD (l.length - 1) ⟨[], []⟩) with
        | none => rw [openL_tail ht]
        | some v =>
          obtain ⟨c, a⟩ := v
          by_cases hc : c = l.length - 2
          · by_cases ha : a = r
            · rw [openL_ok h2 hh ht hc ha] at h; exact absurd rfl h
            · rw [openL_ref h2 hh ht hc ha]
          · rw [openL_count h2 hh ht hc]
    · rw [openL_short h2]
  · rw [wparse_bad h0]
theorem open_ok {t : Tx} (h : (wparseL t).2 = 0) : (wparseL t).1.from_ ≤ 7 ∧ (wparseL t).1.to_ ≤ 7 ∧ (wparseL t).1.ref < 18446744073709551616 ∧ sane (wparseL t).1.segs ∧ (wparseL t).1.segs.length ≤ 62 ∧ (parseL t).2.2 = 0 ∧ (parseL t).1 = closeL (wparseL t).1.from_ (wparseL t).1.to_ (wparseL t).1.ref (wparseL t).1.segs := by
  by_cases h0 : (parseL t).2.2 = 0
  · rw [wparse_ok h0] at h ⊢
    obtain ⟨e1, e2, e3, e4, e5⟩ := open_inv (l := (parseL t).1) (x := (openL (parseL t).1).1) (Prod.ext rfl h)
    have hsn := sane_parse t
    have hl : (parseL t).1.length ≤ 64 := by
      obtain ⟨_, h2, _⟩ := parse_ok h0
      have hi := run_inv t s0 0 good_s0 (by rw [h2])
      rw [h2] at hi
      exact hi.1.2.1
    refine ⟨e2, e3, e4, ⟨by omega, fun s hs => hsn.2 s (by rw [e1]; exact List.mem_cons_of_mem _ (List.mem_append_left _ hs))⟩, by omega, h0, e1⟩
  · rw [wparse_bad h0] at h; exact absurd h h0
theorem wback2 {t : Tx} (h : (wparseL t).2 = 0) : wprintL (wparseL t).1 = (flt t, 0) := by
  obtain ⟨h1, h2, h3, _, h5, h6, h7⟩ := open_ok h
  unfold wprintL
  rw [if_neg (by omega), if_neg (by omega), ← h7]
  exact back2 h6
theorem segs_nil0 (w : World) (F : Nat → Prop) (p : Option Addr) (c : Nat) : SegsF w F (.slice p 0 c) [] := ⟨[], ⟨p, c, rfl, Nat.zero_le _, fun h => absurd h (by simp)⟩, True.intro⟩
set_option maxRecDepth 100000 in
set_option maxHeartbeats 12800000 in
theorem wback_walk (f td r : Nat) (l : List Sg) (v : Value) (t : Tx) (B : Nat) (w : World) (hv : SegsF w (· < w.heap.size) v l) (hf : f < 256) (hto : td < 256) (hr : r < 18446744073709551616) (htab : Tab B w) (hB0 : B ≤ w.heap.size) :
    Calls Tryd.prog 5 #[.agg (wrV f td r v), str t] w fun e w' => e = .returned (.bool true) ∧ Below w.heap.size w w' := by
  obtain ⟨p, cap, rfl⟩ := segs_slice hv
  have hsz : (tx t).size = t.length := by simp [tx, ByteArray.size]
  obtain ⟨wb, hwb⟩ : ∃ wb, wb = w.alloc (.cells (wrV f td r (.slice p l.length cap)) 25) := ⟨_, rfl⟩
  have hbw : Below w.heap.size w wb := by rw [hwb]; exact (Below.refl _ _).alloc (Nat.le_refl _) _
  have hws : wb.heap.size = w.heap.size + 1 := by rw [hwb, size_a]
  have hb0 : wb.heap[w.heap.size]? = some (.cells (wrV f td r (.slice p l.length cap)) 25 (0, 0)) := by rw [hwb]; exact at_last _ _
  have CB : ∀ wz : World, Below wb.heap.size wb wz → wz.heap[w.heap.size]? = some (.cells (wrV f td r (.slice p l.length cap)) 25 (0, 0)) := fun wz hz => (hz.block _ (by rw [hws]; exact Nat.lt_succ_self _)).trans hb0
  have hv2 := hv.kept (w' := wb) (F' := (· < wb.heap.size)) (fun b hb => ⟨Nat.lt_of_lt_of_le hb hbw.size, hbw.block b hb⟩)
  have HCB := Lib.hid CB
  have HV := Lib.hid hv2
  have HT := Lib.hid (htab.on (hbw.mono hB0))
  have HB := Lib.hid (Nat.le_trans hB0 hbw.size)
  have HFIN := Lib.hid (show ∀ wz : World, Below wb.heap.size wb wz → Below w.heap.size w wz from fun wz hz => hbw.trans (hz.mono hbw.size))
  have HH := Lib.hid (wheavy_any (.int .u8 f) (.int .u8 td) (.int .u64 r) l (.slice p l.length cap) wb hv2)
  have HR := Lib.hid hr
  have HFR := Lib.hid hf
  have HTR := Lib.hid hto
  clear hv hv2 htab hB0 CB hb0 hws hbw hf hto hr
  suffices hmain : Calls Tryd.prog 5 #[.agg (wrV f td r (.slice p l.length cap)), str t] w fun e w' => e = .returned (.bool true) ∧ Below wb.heap.size wb w' from
    hmain.mono fun e w' h => ⟨h.1, HFIN.out _ h.2⟩
  go_enter Tryd.func5, Tryd.ntmps5
  have c0 : wb.cell? ⟨w.heap.size, 0, none⟩ = some (.int .u8 (f : Int)) := cell_of_arr (HCB.out _ (Below.refl _ _)) 0
  go_wp2_with fail
  go_at_call 13
  rw [← hwb]
  refine (HH.out).mono ?_
  rintro e w1 hh
  obtain ⟨⟨rr, rfl, hli⟩, hb1⟩ := hh
  have HB1 := Lib.hid hb1
  clear hb1 c0 hwb
  cases rr with
  | true =>
    go_wp2
    go_ret
    exact ⟨rfl, HB1.out⟩
  | false =>
    have HLI := Lib.hid (hli rfl)
    clear hli
    by_cases hl : (3000 : Int) < (t.length : Int)
    · go_wp2
      go_ret
      exact ⟨rfl, HB1.out⟩
    have c0 : w1.cell? ⟨w.heap.size, 0, none⟩ = some (.int .u8 (f : Int)) := cell_of_arr (HCB.out _ HB1.out) 0
    have c1 : w1.cell? ⟨w.heap.size, 1, none⟩ = some (.int .u8 (td : Int)) := cell_of_arr (HCB.out _ HB1.out) 1
    have c2 : w1.cell? ⟨w.heap.size, 2, none⟩ = some (.int .u64 (r : Int)) := cell_of_arr (HCB.out _ HB1.out) 2
    have c3 : w1.cell? ⟨w.heap.size, 3, none⟩ = some (.slice p l.length cap) := cell_of_arr (HCB.out _ HB1.out) 3
    have HPR := Lib.hid (wprint_any ⟨f, td, r, l⟩ (.slice p l.length cap) B w1 (HV.out.later HB1.out) HLI.out.sane HFR.out HTR.out HR.out (HT.out.on (HB1.out.mono HB.out)) (Nat.le_trans HB.out HB1.out.size))
    go_wp2_with (go_at_call 15; refine (HPR.out).mono ?_)
    first | rintro e w2 rfl hb2 | rintro e w2 ⟨rfl, hb2⟩
    have HB2 := Lib.hid (HB1.out.trans (hb2.mono HB1.out.size))
    clear hb2 c0 c1 c2 c3
    by_cases hpr : (((wprintL ⟨f, td, r, l⟩).2 : Nat) : Int) = 0
    · have hbk := wback (x := ⟨f, td, r, l⟩) (by omega) HR.out
      have hq3 := wparse_any (wprintL ⟨f, td, r, l⟩).1 w2
      have Q3 := Lib.hid hq3
      have HBK := Lib.hid hbk
      generalize (wprintL ⟨f, td, r, l⟩).1 = s at *
      clear hbk hq3
      go_wp2_with (go_at_call 9; refine (Q3.out).mono ?_)
      rintro e w3 hpa3
      unfold WpA at hpa3
      rw [HBK.out] at hpa3
      obtain ⟨v3, F3, rfl, hs3, hF3, hb3⟩ := hpa3
      have hs3' := hs3.kept (F' := (· < w3.heap.size)) (fun b hb => ⟨(hF3 b hb).2, rfl⟩)
      obtain ⟨p3, cap3, rfl⟩ := segs_slice hs3
      have HS3 := Lib.hid (hs3'.kept (w' := w3.alloc (.cells (wrV f td r (.slice p3 l.length cap3)) 25)) (F' := (· < (w3.alloc (.cells (wrV f td r (.slice p3 l.length cap3)) 25)).heap.size)) (fun b hb => ⟨by rw [size_a]; exact Nat.lt_succ_of_lt hb, Below.heap_alloc _ _ _ hb⟩))
      have hb3' := HB2.out.trans (hb3.mono HB2.out.size)
      have HB3 := Lib.hid hb3'
      have HB3b := Lib.hid (hb3'.alloc hb3'.size (.cells (wrV f td r (.slice p3 l.length cap3)) 25))
      have HSM := Lib.hid (wsame_any f td r l (.slice p3 l.length cap3) (.slice p l.length cap) _ HS3.out (HV.out.later HB3b.out) HLI.out.sane)
      have c0 : w3.cell? ⟨w.heap.size, 0, none⟩ = some (.int .u8 (f : Int)) := cell_of_arr (HCB.out _ hb3') 0
      have c1 : w3.cell? ⟨w.heap.size, 1, none⟩ = some (.int .u8 (td : Int)) := cell_of_arr (HCB.out _ hb3') 1
      have c2 : w3.cell? ⟨w.heap.size, 2, none⟩ = some (.int .u64 (r : Int)) := cell_of_arr (HCB.out _ hb3') 2
      have c3 : w3.cell? ⟨w.heap.size, 3, none⟩ = some (.slice p l.length cap) := cell_of_arr (HCB.out _ hb3') 3
      have hlt : w.heap.size < w3.heap.size := (Array.getElem?_eq_some_iff.1 (HCB.out _ hb3')).1
      clear hs3 hs3' hF3 hb3 hb3'
      go_wp2_with (go_at_call 11; refine (HSM.out).mono ?_)
      first | rintro e w4 rfl hb4 | rintro e w4 ⟨rfl, hb4⟩
      have HBC := Lib.hid (HB3b.out.trans (hb4.mono HB3b.out.size))
      clear hb4 c0 c1 c2 c3 hlt
      have HQP := Lib.hid (wparse_any t w4)
      go_wp2_with (go_at_call 9; refine (HQP.out).mono ?_)
      rintro e w5 hpa5
      obtain ⟨v5, F5, rfl, hs5, hF5, hb5⟩ := hpa5
      obtain ⟨p5, cap5, rfl⟩ := segs_slice hs5
      have HS5 := Lib.hid (hs5.kept (F' := (· < w5.heap.size)) (fun b hb => ⟨(hF5 b hb).2, rfl⟩))
      have HB5 := Lib.hid (HBC.out.trans (hb5.mono HBC.out.size))
      clear hs5 hF5 hb5
      by_cases hok : (((wparseL t).2 : Nat) : Int) = 0
      · have HOK := Lib.hid (wback2 (t := t) (by omega))
        have hx := open_ok (t := t) (by omega)
        generalize hxx : (wparseL t).1 = x at *
        obtain ⟨f2, t2, r2, l2⟩ := x
        simp only at hx HS5
        have HX := Lib.hid hx
        have HS6 := Lib.hid (HS5.out.kept (w' := w5.alloc (.cells (wrV f2 t2 r2 (.slice p5 l2.length cap5)) 25)) (F' := (· < (w5.alloc (.cells (wrV f2 t2 r2 (.slice p5 l2.length cap5)) 25)).heap.size)) (fun b hb => ⟨by rw [size_a]; exact Nat.lt_succ_of_lt hb, Below.heap_alloc _ _ _ hb⟩))
        have HB5b := Lib.hid (HB5.out.alloc HB5.out.size (.cells (wrV f2 t2 r2 (.slice p5 l2.length cap5)) 25))
        have hpr5 := wprint_any ⟨f2, t2, r2, l2⟩ (.slice p5 l2.length cap5) B _ HS6.out hx.2.2.2.1 (by have := hx.1; show f2 < 256; omega) (by have := hx.2.1; show t2 < 256; omega) hx.2.2.1 (HT.out.on (HB5b.out.mono HB.out)) (Nat.le_trans HB.out HB5b.out.size)
        rw [HOK.out] at hpr5
        have HP5 := Lib.hid hpr5
        clear hx hpr5 hxx
        go_wp2_with (go_at_call 15; refine (HP5.out).mono ?_)
        first | rintro e w6 rfl hb6 | rintro e w6 ⟨rfl, hb6⟩
        have HB6 := Lib.hid (HB5b.out.trans (hb6.mono HB5b.out.size))
        clear hb6
        go_wp2
        go_loopw [13, 14] (fun u i wr => ∃ (k : Nat) (p : Option Addr) (n cap : Nat), i = .int .i64 k ∧ u = .slice p n cap ∧ k ≤ t.length ∧ n ≤ k ∧ wr.ownsRow wb.heap.size 5 1 (.slice p n cap) n (Lib.byteCells (flt (t.take k))) ∧ Below wb.heap.size wb wr) (fun _ i _ => t.length - (intOf i).toNat)
        case atStart => exact ⟨0, none, 0, 0, rfl, rfl, Nat.zero_le _, Nat.le_refl _, World.ownsRow_nil _ _ _ _, HB6.out⟩
        case round =>
          obtain ⟨k, p, n, cap, rfl, rfl, hk, hnk, hown, hbl⟩ := hrel
          have HBR := Lib.hid hbl
          have HO := Lib.hid hown
          by_cases hlt : (k : Int) < (t.length : Int)
          · have hkl : k < t.length := by omega
            have hk0 : (0 : Int) ≤ (k : Int) := Int.natCast_nonneg _
            have hkz : k < (tx t).size := by omega
            clear hbl hown
            by_cases h10 : (((tx t)[k]'hkz).toNat : Int) = 10
            · have HN := Lib.hid (show flt (t.take (k + 1)) = flt (t.take k) from flt_10 t k hkl ((eq8' 10 _).2 h10))
              go_wp2
              go_roundw
              case rel => exact ⟨k + 1, p, n, cap, by go_num, rfl, by omega, by omega, by rw [HN.out]; exact HO.out, HBR.out⟩
              case measure => simp [intOf]; omega
            · have HN := Lib.hid (show flt (t.take (k + 1)) = flt (t.take k) ++ [(tx t)[k]'hkz] from flt_no t k hkl (fun e => h10 ((eq8' 10 _).1 e)))
              generalize hck : (tx t)[k]'hkz = c at *
              go_wp2_with (at_builtin; refine wl_app1 39 5 (.int .u8 0) 1 1 par_u8 Tryd.underlying39 rfl (by decide) (by decide) wb.heap.size (.slice p n cap) n (Lib.byteCells (flt (t.take k))) rfl (HO.out.alloc _) wr.heap.size 1 [by8 c] 5 (0, 0) rfl rfl (at_last _ _) (by intro u hu; simp at hu; subst hu; rfl) (by omega) (by have := HBR.out.size; simp; omega) ?_)
              intro v' w2 ho hgr _
              obtain ⟨p', cap', rfl⟩ := own_slice ho
              have HBA := Lib.hid (below_app HBR.out (Nat.le_refl _) hgr (fun k hk => (HO.out.lt k hk).1))
              have HOO := Lib.hid ho
              clear ho hgr hck
              go_wp2
              go_roundw
              case rel => exact ⟨k + 1, p', n + 1, cap', by go_num, rfl, by omega, by omega, by rw [HN.out, ← cellsByte]; exact HOO.out, HBA.out⟩
              case measure => simp [intOf]; omega
          · obtain rfl : k = t.length := by omega
            rw [List.take_length] at hown
            have hnl : (flt t).length = n := by have := hown.1; simpa [Lib.byteCells_length] using this
            subst hnl
            have hcv := run_convW wr wb.heap.size _ (flt t) hown
            have HRD := Lib.hid (wraps_any B wr (HT.out.on (hbl.mono HB.out)) (Nat.le_trans HB.out hbl.size))
            clear hbl hown
            go_wp2_with (go_at_call 12; refine (HRD.out).mono ?_)
            first | rintro e w7 rfl hb7 | rintro e w7 ⟨rfl, hb7⟩
            have HB7 := Lib.hid (HBR.out.trans (hb7.mono HBR.out.size))
            clear hb7
            go_wp2
            go_ret
            exact ⟨rfl, HB7.out⟩
      · have hz : (wparseL t).1 = Wr.nil := wparse_nil (t := t) (by omega)
        rw [hz] at HS5 ⊢
        have HB5b := Lib.hid (HB5.out.alloc HB5.out.size (.cells (wrV 0 0 0 (.slice p5 0 cap5)) 25))
        have HSM5 := Lib.hid (wsame_any 0 0 0 [] (.slice p5 0 cap5) (.slice none 0 0) (w5.alloc (.cells (wrV 0 0 0 (.slice p5 0 cap5)) 25)) (segs_nil0 _ _ _ _) (segs_nil _ _) ⟨by simp, fun s hs => by simp at hs⟩)
        clear hz
        go_wp2_with (go_at_call 11; refine (HSM5.out).mono ?_)
        first | rintro e w6 rfl hb6 | rintro e w6 ⟨rfl, hb6⟩
        have HB6 := Lib.hid (HB5b.out.trans (hb6.mono HB5b.out.size))
        clear hb6
        have HRD := Lib.hid (wraps_any B w6 (HT.out.on (HB6.out.mono HB.out)) (Nat.le_trans HB.out HB6.out.size))
        go_wp2_with (go_at_call 12; refine (HRD.out).mono ?_)
        first | rintro e w7 rfl hb7 | rintro e w7 ⟨rfl, hb7⟩
        have HB7 := Lib.hid (HB6.out.trans (hb7.mono HB6.out.size))
        clear hb7
        go_wp2
        go_ret
        exact ⟨rfl, HB7.out⟩
    · have hpb := wprint_bad (x := ⟨f, td, r, l⟩) (by omega)
      rw [hpb]
      have e0 : tx [] = { data := #[] } := rfl
      clear hpb
      have HQP := Lib.hid (wparse_any t w2)
      go_wp2_with (go_at_call 9; refine (HQP.out).mono ?_)
      rintro e w5 hpa5
      obtain ⟨v5, F5, rfl, hs5, hF5, hb5⟩ := hpa5
      obtain ⟨p5, cap5, rfl⟩ := segs_slice hs5
      have HS5 := Lib.hid (hs5.kept (F' := (· < w5.heap.size)) (fun b hb => ⟨(hF5 b hb).2, rfl⟩))
      have HB5 := Lib.hid (HB2.out.trans (hb5.mono HB2.out.size))
      clear hs5 hF5 hb5
      by_cases hok : (((wparseL t).2 : Nat) : Int) = 0
      · have HOK := Lib.hid (wback2 (t := t) (by omega))
        have hx := open_ok (t := t) (by omega)
        generalize hxx : (wparseL t).1 = x at *
        obtain ⟨f2, t2, r2, l2⟩ := x
        simp only at hx HS5
        have HX := Lib.hid hx
        have HS6 := Lib.hid (HS5.out.kept (w' := w5.alloc (.cells (wrV f2 t2 r2 (.slice p5 l2.length cap5)) 25)) (F' := (· < (w5.alloc (.cells (wrV f2 t2 r2 (.slice p5 l2.length cap5)) 25)).heap.size)) (fun b hb => ⟨by rw [size_a]; exact Nat.lt_succ_of_lt hb, Below.heap_alloc _ _ _ hb⟩))
        have HB5b := Lib.hid (HB5.out.alloc HB5.out.size (.cells (wrV f2 t2 r2 (.slice p5 l2.length cap5)) 25))
        have hpr5 := wprint_any ⟨f2, t2, r2, l2⟩ (.slice p5 l2.length cap5) B _ HS6.out hx.2.2.2.1 (by have := hx.1; show f2 < 256; omega) (by have := hx.2.1; show t2 < 256; omega) hx.2.2.1 (HT.out.on (HB5b.out.mono HB.out)) (Nat.le_trans HB.out HB5b.out.size)
        rw [HOK.out] at hpr5
        have HP5 := Lib.hid hpr5
        clear hx hpr5 hxx
        go_wp2_with (go_at_call 15; refine (HP5.out).mono ?_)
        first | rintro e w6 rfl hb6 | rintro e w6 ⟨rfl, hb6⟩
        have HB6 := Lib.hid (HB5b.out.trans (hb6.mono HB5b.out.size))
        clear hb6
        go_wp2
        go_loopw [13, 14] (fun u i wr => ∃ (k : Nat) (p : Option Addr) (n cap : Nat), i = .int .i64 k ∧ u = .slice p n cap ∧ k ≤ t.length ∧ n ≤ k ∧ wr.ownsRow wb.heap.size 5 1 (.slice p n cap) n (Lib.byteCells (flt (t.take k))) ∧ Below wb.heap.size wb wr) (fun _ i _ => t.length - (intOf i).toNat)
        case atStart => exact ⟨0, none, 0, 0, rfl, rfl, Nat.zero_le _, Nat.le_refl _, World.ownsRow_nil _ _ _ _, HB6.out⟩
        case round =>
          obtain ⟨k, p, n, cap, rfl, rfl, hk, hnk, hown, hbl⟩ := hrel
          have HBR := Lib.hid hbl
          have HO := Lib.hid hown
          by_cases hlt : (k : Int) < (t.length : Int)
          · have hkl : k < t.length := by omega
            have hk0 : (0 : Int) ≤ (k : Int) := Int.natCast_nonneg _
            have hkz : k < (tx t).size := by omega
            clear hbl hown
            by_cases h10 : (((tx t)[k]'hkz).toNat : Int) = 10
            · have HN := Lib.hid (show flt (t.take (k + 1)) = flt (t.take k) from flt_10 t k hkl ((eq8' 10 _).2 h10))
              go_wp2
              go_roundw
              case rel => exact ⟨k + 1, p, n, cap, by go_num, rfl, by omega, by omega, by rw [HN.out]; exact HO.out, HBR.out⟩
              case measure => simp [intOf]; omega
            · have HN := Lib.hid (show flt (t.take (k + 1)) = flt (t.take k) ++ [(tx t)[k]'hkz] from flt_no t k hkl (fun e => h10 ((eq8' 10 _).1 e)))
              generalize hck : (tx t)[k]'hkz = c at *
              go_wp2_with (at_builtin; refine wl_app1 39 5 (.int .u8 0) 1 1 par_u8 Tryd.underlying39 rfl (by decide) (by decide) wb.heap.size (.slice p n cap) n (Lib.byteCells (flt (t.take k))) rfl (HO.out.alloc _) wr.heap.size 1 [by8 c] 5 (0, 0) rfl rfl (at_last _ _) (by intro u hu; simp at hu; subst hu; rfl) (by omega) (by have := HBR.out.size; simp; omega) ?_)
              intro v' w2 ho hgr _
              obtain ⟨p', cap', rfl⟩ := own_slice ho
              have HBA := Lib.hid (below_app HBR.out (Nat.le_refl _) hgr (fun k hk => (HO.out.lt k hk).1))
              have HOO := Lib.hid ho
              clear ho hgr hck
              go_wp2
              go_roundw
              case rel => exact ⟨k + 1, p', n + 1, cap', by go_num, rfl, by omega, by omega, by rw [HN.out, ← cellsByte]; exact HOO.out, HBA.out⟩
              case measure => simp [intOf]; omega
          · obtain rfl : k = t.length := by omega
            rw [List.take_length] at hown
            have hnl : (flt t).length = n := by have := hown.1; simpa [Lib.byteCells_length] using this
            subst hnl
            have hcv := run_convW wr wb.heap.size _ (flt t) hown
            have HRD := Lib.hid (wraps_any B wr (HT.out.on (hbl.mono HB.out)) (Nat.le_trans HB.out hbl.size))
            clear hbl hown
            go_wp2_with (go_at_call 12; refine (HRD.out).mono ?_)
            first | rintro e w7 rfl hb7 | rintro e w7 ⟨rfl, hb7⟩
            have HB7 := Lib.hid (HBR.out.trans (hb7.mono HBR.out.size))
            clear hb7
            go_wp2
            go_ret
            exact ⟨rfl, HB7.out⟩
      · have hz : (wparseL t).1 = Wr.nil := wparse_nil (t := t) (by omega)
        rw [hz] at HS5 ⊢
        have HB5b := Lib.hid (HB5.out.alloc HB5.out.size (.cells (wrV 0 0 0 (.slice p5 0 cap5)) 25))
        have HSM5 := Lib.hid (wsame_any 0 0 0 [] (.slice p5 0 cap5) (.slice none 0 0) (w5.alloc (.cells (wrV 0 0 0 (.slice p5 0 cap5)) 25)) (segs_nil0 _ _ _ _) (segs_nil _ _) ⟨by simp, fun s hs => by simp at hs⟩)
        clear hz
        go_wp2_with (go_at_call 11; refine (HSM5.out).mono ?_)
        first | rintro e w6 rfl hb6 | rintro e w6 ⟨rfl, hb6⟩
        have HB6 := Lib.hid (HB5b.out.trans (hb6.mono HB5b.out.size))
        clear hb6
        have HRD := Lib.hid (wraps_any B w6 (HT.out.on (HB6.out.mono HB.out)) (Nat.le_trans HB.out HB6.out.size))
        go_wp2_with (go_at_call 12; refine (HRD.out).mono ?_)
        first | rintro e w7 rfl hb7 | rintro e w7 ⟨rfl, hb7⟩
        have HB7 := Lib.hid (HB6.out.trans (hb7.mono HB6.out.size))
        clear hb7
        go_wp2
        go_ret
        exact ⟨rfl, HB7.out⟩
end Go.Proofs.YtgchejlfhogpeaaDoor
