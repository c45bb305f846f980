/- The walk of WrapPrints. -/
import Derived.Test.YtlonmmnaipclcaaDoorWrapRp
import Derived.Test.YtlonmmnaipclcaaDoorWrapOwW
import Derived.Test.YtlonmmnaipclcaaDoorWrapHv
import Derived.Test.YtlonmmnaipclcaaDoorWrapS
import Derived.Test.YtlonmmnaipclcaaDoorEdiApF
namespace Go.Proofs.YtlonmmnaipclcaaDoor
open Go.RowKit Go.Edi Go.Wrap

theorem seg_news (t : Tx) : ∀ u ∈ [str t, Value.slice none 0 0], u.oneCell' = true := by
  intro u hu
  simp at hu
  rcases hu with rfl | rfl <;> rfl
/-- segments of one's own, one thing more behind them, cut back -/
theorem cut_back {B : Nat} {F : Nat → Prop} {l : List Sg} {vo : Value} {w w4 : World} {xs news : List Value} {p : Option Addr} {cap : Nat} (h : OwO B F l vo w) (hxc : SgC w F l xs)
    (h2 : w4.ownsRow B 36 2 (.slice p (l.length + 1) cap) (l.length + 1) (xs ++ news)) (hold : ∀ b, b < w.heap.size → vo.ownBlock ≠ some b → w4.heap[b]? = w.heap[b]?) (hsz : w.heap.size ≤ w4.heap.size) :
    ∃ g, p = some ⟨g, 0, none⟩ ∧ B ≤ g ∧ g < w4.heap.size ∧ l.length + 1 ≤ cap ∧ SegsF w4 (fun b => F b ∨ b = g) (.slice p l.length cap) l ∧ (∀ b, F b → B ≤ b ∧ b < w4.heap.size) ∧ (∀ j u, news[j]? = some u → w4.cell? ⟨g, l.length * 2 + j, none⟩ = some u) := by
  have hlen := hxc.len
  obtain ⟨p', cap', e, hnc, hp⟩ := row_own (F := fun b => (Value.slice p (l.length + 1) cap).ownBlock = some b) h2 (fun b e => e)
  simp only [Value.slice.injEq, true_and] at e
  obtain ⟨rfl, rfl⟩ := e
  obtain ⟨g, o, rfl, hg, hc⟩ := hp (by omega)
  have ho : o = 0 := by
    rcases h2.2 with ⟨_, h0⟩ | ⟨g', cap2, cur, e, _⟩
    · omega
    · simp only [Value.slice.injEq, Option.some.injEq, Addr.mk.injEq] at e
      exact e.1.2.1
  subst ho
  have hgl := h2.lt g hg
  refine ⟨g, rfl, hgl.1, hgl.2, hnc, ⟨xs, ⟨_, _, rfl, by omega, fun _ => ⟨g, 0, rfl, .inr rfl, fun j u hu => ?_⟩⟩, hxc.kept (fun b hb => ⟨.inl hb, hold b (h.fz b hb).2.1 (h.fz b hb).2.2⟩)⟩, fun b hb => ⟨(h.fz b hb).1, by have := (h.fz b hb).2.1; omega⟩, fun j u hu => ?_⟩
  · exact hc j u (by rw [List.getElem?_append_left (List.getElem?_eq_some_iff.1 hu).1]; exact hu)
  · have := hc (l.length * 2 + j) u (by rw [List.getElem?_append_right (by omega), show l.length * 2 + j - xs.length = j by omega]; exact hu)
    simpa using this
theorem share {P : Program} {c : Code} {Q : Exit → Act → World → Prop} {a : Act} {w : World} (R : Act → World → Prop) (h1 : c.wp P (Exit.then R (fun _ _ _ => False)) a w) (h2 : ∀ a' w', R a' w' → Q .normal a' w') : c.wp P Q a w :=
  wp_mono h1 (by
    intro e a' w' h
    cases e
    case normal => exact h2 _ _ h
    all_goals exact h.elim)
set_option maxRecDepth 100000 in
set_option maxHeartbeats 12800000 in
theorem wprints_walk (f t r : Nat) (l : List Sg) (va : Value) (B : Nat) (w : World) (hv : SegsF w (· < w.heap.size) va l) (hf : f < 256) (ht : t < 256) (hr : r < 18446744073709551616) (htab : Tab B w) (hB : B ≤ w.heap.size) :
    Calls Tryd.prog 4 #[.agg (wrV f t r va)] w fun e w' => e = .returned (.bool true) ∧ Below w.heap.size w w' := by
  obtain ⟨p0, cap0, rfl⟩ := segs_slice hv
  obtain ⟨wb, hwb⟩ : ∃ wb, wb = w.alloc (.cells (wrV f t r (.slice p0 l.length cap0)) 25) := ⟨_, rfl⟩
  have hbw : Below w.heap.size w wb := by rw [hwb]; exact (Below.refl _ _).alloc (Nat.le_refl _) _
  have hws : wb.heap.size = w.heap.size + 1 := by rw [hwb, size_a]
  have hb0 : wb.heap[w.heap.size]? = some (.cells (wrV f t r (.slice p0 l.length cap0)) 25 (0, 0)) := by rw [hwb]; exact at_last _ _
  have HX0 := Lib.hid (show ∀ wz : World, Below wb.heap.size wb wz → wz.heap[w.heap.size]? = some (.cells (wrV f t r (.slice p0 l.length cap0)) 25 (0, 0)) from fun wz hz => (hz.block _ (by rw [hws]; omega)).trans hb0)
  have HV := Lib.hid (show SegsF wb (· < wb.heap.size) (.slice p0 l.length cap0) l from hv.kept (fun b hb => ⟨Nat.lt_of_lt_of_le hb hbw.size, hbw.block b hb⟩))
  have HT := Lib.hid (show ∀ wz : World, Below wb.heap.size wb wz → Tab B wz ∧ B ≤ wz.heap.size from fun wz hz => ⟨htab.on ((hbw.mono hB).trans (hz.mono (Nat.le_trans hB hbw.size))), Nat.le_trans hB (Nat.le_trans hbw.size hz.size)⟩)
  have HFIN := Lib.hid (show ∀ wz : World, Below wb.heap.size wb wz → Below w.heap.size w wz from fun wz hz => hbw.trans (hz.mono hbw.size))
  have HH := Lib.hid (wheavy_any (.int .u8 (f : Int)) (.int .u8 (t : Int)) (.int .u64 (r : Int)) l (.slice p0 l.length cap0) wb HV.out)
  have HWS := Lib.hid hws
  have HF := Lib.hid hf
  have HTT := Lib.hid ht
  have HR := Lib.hid hr
  clear hv hbw hws hb0 htab hB hf ht hr
  go_enter Tryd.func4, Tryd.ntmps4
  go_wp2_with fail
  go_at_call 10
  rw [← hwb]
  clear hwb
  refine (HH.out).mono ?_
  rintro e w1 hh
  obtain ⟨⟨rr, rfl, hli⟩, hb1⟩ := hh
  have HB1 := Lib.hid hb1
  clear HH
  cases rr with
  | true =>
    go_wp2
    go_ret
    exact ⟨rfl, HFIN.out _ HB1.out⟩
  | false =>
    have HLI := Lib.hid (hli rfl)
    have q0 : w1.cell? ⟨w.heap.size, 0, none⟩ = some (.int .u8 (f : Int)) := cell_of_arr (HX0.out _ hb1) 0
    have q1 : w1.cell? ⟨w.heap.size, 1, none⟩ = some (.int .u8 (t : Int)) := cell_of_arr (HX0.out _ hb1) 1
    have q2 : w1.cell? ⟨w.heap.size, 2, none⟩ = some (.int .u64 (r : Int)) := cell_of_arr (HX0.out _ hb1) 2
    have q3 : w1.cell? ⟨w.heap.size, 3, none⟩ = some (.slice p0 l.length cap0) := cell_of_arr (HX0.out _ hb1) 3
    have HOW := Lib.hid (wown_any f t r l (.slice p0 l.length cap0) w1 (HV.out.later hb1) HLI.out.small)
    clear hli hb1
    go_wp2_with fail
    go_at_call 11
    refine (HOW.out).mono ?_
    rintro e w2 ⟨⟨vo, F, rfl, ho, hs2⟩, hb2⟩
    have hb2' := HB1.out.trans (hb2.mono HB1.out.size)
    obtain ⟨xs, hxs, hxc⟩ := ho.out
    obtain ⟨po, capo, rfl⟩ := own_slice hxs
    obtain ⟨w3, hw3⟩ : ∃ w3, w3 = w2.alloc (.cells (wrV f t r (.slice po l.length capo)) 25) := ⟨_, rfl⟩
    have hb3 : Below wb.heap.size wb w3 := by rw [hw3]; exact hb2'.alloc hb2'.size _
    have hs3 : w3.heap.size = w2.heap.size + 1 := by rw [hw3, size_a]
    have hi3 : w3.heap[w2.heap.size]? = some (.cells (wrV f t r (.slice po l.length capo)) 25 (0, 0)) := by rw [hw3]; exact at_last _ _
    have ho3 : OwO (w1.heap.size + 2) F l (.slice po l.length capo) w3 := by rw [hw3]; exact ho.later ((Below.refl _ _).alloc (Nat.le_refl _) _)
    clear hxs hxc q0 q1 q2 q3 HOW
    obtain ⟨xs, hxs, hxc⟩ := ho3.out
    have HO3 := Lib.hid ho3
    have HXS := Lib.hid hxs
    have HXC := Lib.hid hxc
    have HB3 := Lib.hid hb3
    have HI3 := Lib.hid hi3
    have HS3 := Lib.hid hs3
    have hbase : w1.heap.size + 2 ≤ w3.heap.size := by omega
    have HBS := Lib.hid hbase
    have hll : (l.length : Int) ≤ 80 := by have := HLI.out.1; omega
    have hl0 : (0 : Int) ≤ (l.length : Int) := Int.natCast_nonneg _
    have c3 : w3.cell? ⟨w2.heap.size, 3, none⟩ = some (.slice po l.length capo) := cell_of_arr hi3 3
    have d3 : ∀ o, (w3.alloc o).cell? ⟨w2.heap.size, 3, none⟩ = some (.slice po l.length capo) := fun o => cell_of_arr ((Below.heap_alloc _ _ _ (by rw [hs3]; exact Nat.lt_succ_self _)).trans hi3) 3
    have HF2 := Lib.hid (fun b hb => (ho.fz b hb).2.1)
    have HW2 := Lib.hid hb2'.size
    clear ho hb2 hb2' hxs hxc ho3 hb3 hi3 hs3 hbase hs2
    go_wp2_with fail
    rw [← hw3]
    clear hw3
    have hno := own_not HXS.out HI3.out (by decide)
    have HNO := Lib.hid hno
    clear hno
    refine share (fun a' w' => ∃ (w4 : World) (g cap' : Nat), (l.length + 1 ≤ cap' ∧ w4.heap[w2.heap.size]? = some (.cells (wrV f t r (.slice po l.length capo)) 25 (0, 0)) ∧ g ≠ w2.heap.size ∧ g < w4.heap.size ∧ SegsF w4 (fun b => F b ∨ b = g) (.slice (some ⟨g, 0, none⟩) l.length cap') l ∧ (∀ b, F b → w1.heap.size + 2 ≤ b ∧ b < w4.heap.size) ∧ (∀ j u, [str [82, 79, 79, 77], Value.slice none 0 0][j]? = some u → w4.cell? ⟨g, l.length * 2 + j, none⟩ = some u) ∧ Below wb.heap.size wb w4) ∧
      a' = { tmps := #[.agg (wrV f t r (.slice p0 l.length cap0)), .pointer (some ⟨w.heap.size, 0, none⟩), .bool false, .pointer (some ⟨w2.heap.size, 0, none⟩), undef, undef, undef, undef, .agg #[.int .u8 (f : Int), .int .u8 (t : Int), .int .u64 (r : Int), .slice p0 l.length cap0], .bool false, .agg #[.int .u8 (f : Int), .int .u8 (t : Int), .int .u64 (r : Int), .slice p0 l.length cap0], .agg (wrV f t r (.slice po l.length capo)), .pointer (some ⟨w2.heap.size, 3, none⟩), .slice po l.length capo, .agg #[.string ⟨#[82, 79, 79, 77]⟩, .slice none 0 0], .slice (some ⟨w3.heap.size, 0, none⟩) 1 1, .slice (some ⟨g, 0, none⟩) (l.length + 1) cap', .pointer (some ⟨w2.heap.size, 3, none⟩), .slice po l.length capo, .int .i64 (l.length : Int), .slice (some ⟨g, 0, none⟩) l.length cap', .pointer (some ⟨w2.heap.size, 3, none⟩), undef, undef, undef, undef, undef, undef, undef, undef, undef, undef, undef, undef, undef, undef, undef, undef, undef, undef, undef, undef, undef, undef, undef, undef, undef, undef, undef, undef, undef, undef, undef, undef, undef, undef, undef, undef, undef, undef, undef, undef, undef, undef], defers := [] } ∧ w' = w4.setCell ⟨w2.heap.size, 3, none⟩ (.slice (some ⟨g, 0, none⟩) l.length cap')) ?_ ?_
    · go_region_law
        (rw [if_pos (by rfl)]
         refine st_app1 23 36 (.agg #[.string ⟨#[]⟩, .slice none 0 0]) 2 40 par_seg Tryd.underlying23 rfl (by decide) (by decide) (w1.heap.size + 2) (.slice po l.length capo) l.length xs rfl (own_keep HXS.out (fun b e => Below.heap_alloc _ _ _ (HXS.out.lt b e).2)) w3.heap.size 1 [str [82, 79, 79, 77], .slice none 0 0] 36 (0, 0) rfl rfl (at_last _ _) (seg_news _) (by omega) (by have := HBS.out; show _ ≤ (w3.alloc _).heap.size; rw [size_a]; omega) ?_
         intro v' w4 ho hgr _
         obtain ⟨p', cap', rfl⟩ := own_slice ho
         have hg4 : ∀ b, b < w3.heap.size → (Value.slice po l.length capo).ownBlock ≠ some b → w4.heap[b]? = w3.heap[b]? := fun b hb hne => (hgr.block b (by show b < (w3.alloc _).heap.size; rw [size_a]; omega) (Ne.symm hne)).trans (Below.heap_alloc _ _ _ hb)
         have hs4 : w3.heap.size + 1 ≤ w4.heap.size := by have := hgr.size; exact Nat.le_trans (Nat.le_of_eq (size_a _ _).symm) this
         obtain ⟨g, rfl, hg1, hg2, hcap, hsg, hFb, hnw⟩ := cut_back HO3.out HXC.out ho hg4 (by omega)
         have hi4 : w4.heap[w2.heap.size]? = some (.cells (wrV f t r (.slice po l.length capo)) 25 (0, 0)) := (hg4 _ (by rw [HS3.out]; exact Nat.lt_succ_self _) (Ne.symm HNO.out)).trans HI3.out
         have hgne : g ≠ w2.heap.size := fun e => own_not ho hi4 (by decide) (by rw [e]; rfl)
         have C4 : w4.cell? ⟨w2.heap.size, 3, none⟩ = some (.slice po l.length capo) := cell_of_arr hi4 3
         have F4 : w4.frozen? ⟨w2.heap.size, 3, none⟩ = false := frozen_of_arr hi4 3
         have hcapi : (l.length : Int) + 1 ≤ (cap' : Int) := by omega
         have hcapj : (l.length : Int) ≤ (cap' : Int) := by omega
         have hb4 : Below wb.heap.size wb w4 := ((HB3.out.alloc HB3.out.size _).drew).grown hgr (by have := HB3.out.size; show _ ≤ (w3.alloc _).heap.size; rw [size_a]; omega) (fun k hk => by have := (HXS.out.lt k hk).1; have := HB1.out.size; omega)
         have HFACT := Lib.hid (And.intro hcap (And.intro hi4 (And.intro hgne (And.intro hg2 (And.intro hsg (And.intro hFb (And.intro hnw hb4)))))))
         clear ho hgr hg1 hg2 hgne hsg hFb hnw hi4 hg4 hs4 hb4 hcap)
      all_goals exact ⟨_, _, _, HFACT.out, rfl, rfl⟩
    · clear c3 d3
      rintro a' w' ⟨w4, g, cap', ⟨hcap, hi4, hgne, hg2, hsg, hFb, hnw, hb4⟩, rfl, rfl⟩
      have HI4 := Lib.hid hi4
      have HG2 := Lib.hid hg2
      have HGN := Lib.hid hgne
      have HSG := Lib.hid hsg
      have HFB := Lib.hid hFb
      have HNW := Lib.hid hnw
      have HB4 := Lib.hid hb4
      have hcapi : (l.length : Int) + 1 ≤ (cap' : Int) := by omega
      have hcapj : (l.length : Int) ≤ (cap' : Int) := by omega
      clear hcap hi4 hgne hg2 hsg hFb hnw hb4
      obtain ⟨w5, hw5⟩ : ∃ w5, w5 = w4.setCell ⟨w2.heap.size, 3, none⟩ (.slice (some ⟨g, 0, none⟩) l.length cap') := ⟨_, rfl⟩
      have hi5 : w5.heap[w2.heap.size]? = some (.cells (wrV f t r (.slice (some ⟨g, 0, none⟩) l.length cap')) 25 (0, 0)) := by rw [hw5]; exact set_arr0 HI4.out 3 _
      have hk5 : ∀ b, b ≠ w2.heap.size → w5.heap[b]? = w4.heap[b]? := fun b hb => by rw [hw5]; exact Below.heap_setCell _ _ _ _ hb
      have hs5 : w5.heap.size = w4.heap.size := by rw [hw5]; simp [World.setCell]
      have hb5 : Below wb.heap.size wb w5 := by rw [hw5]; exact HB4.out.setCell (p := ⟨w2.heap.size, 3, none⟩) HW2.out _
      have hsg5 : SegsF w5 (· < w5.heap.size) (.slice (some ⟨g, 0, none⟩) l.length cap') l := HSG.out.kept (fun b hb => by
        rcases hb with hb | rfl
        · exact ⟨by show b < _; rw [hs5]; exact (HFB.out b hb).2, hk5 b (by have := HF2.out b hb; omega)⟩
        · exact ⟨by show b < _; rw [hs5]; exact HG2.out, hk5 b HGN.out⟩)
      have hn5 : w5.cell? ⟨g, l.length * 2, none⟩ = some (str [82, 79, 79, 77]) := by
        have := HNW.out 0 _ rfl
        exact (World.cell?_of_block (a := ⟨g, l.length * 2, none⟩) (hk5 g HGN.out)).trans this
      have hgl5 : g < w5.heap.size := by rw [hs5]; exact HG2.out
      have hl5 : w2.heap.size < w5.heap.size := (Array.getElem?_eq_some_iff.1 hi5).1
      rw [← hw5]
      have HI5 := Lib.hid (show ∀ wz : World, Below w5.heap.size w5 wz → wz.heap[w2.heap.size]? = some (.cells (wrV f t r (.slice (some ⟨g, 0, none⟩) l.length cap')) 25 (0, 0)) from fun wz hz => (hz.block _ hl5).trans hi5)
      have HN5 := Lib.hid (show ∀ wz : World, Below w5.heap.size w5 wz → wz.cell? ⟨g, l.length * 2, none⟩ = some (str [82, 79, 79, 77]) from fun wz hz => (World.cell?_of_block (a := ⟨g, l.length * 2, none⟩) (hz.block _ hgl5)).trans hn5)
      have HB5 := Lib.hid hb5
      have HSG5 := Lib.hid hsg5
      have HP1 := Lib.hid (wprint_any ⟨f, t, r, l⟩ (.slice (some ⟨g, 0, none⟩) l.length cap') B w5 hsg5 HLI.out.sane HF.out HTT.out HR.out (HT.out _ hb5).1 (HT.out _ hb5).2)
      have i0 : w5.cell? ⟨w2.heap.size, 0, none⟩ = some (.int .u8 (f : Int)) := cell_of_arr hi5 0
      have i1 : w5.cell? ⟨w2.heap.size, 1, none⟩ = some (.int .u8 (t : Int)) := cell_of_arr hi5 1
      have i2 : w5.cell? ⟨w2.heap.size, 2, none⟩ = some (.int .u64 (r : Int)) := cell_of_arr hi5 2
      have i3 : w5.cell? ⟨w2.heap.size, 3, none⟩ = some (.slice (some ⟨g, 0, none⟩) l.length cap') := cell_of_arr hi5 3
      clear hw5 hi5 hk5 hs5 hb5 hsg5 hn5 hgl5 hl5
      clear HG2 HGN HSG HFB HNW HI4
      go_wp2_with fail
      go_at_call 12
      refine (HP1.out).mono ?_
      first | rintro e w6 rfl hb6 | rintro e w6 ⟨rfl, hb6⟩
      have hb6' := HB5.out.trans (hb6.mono HB5.out.size)
      have q0 : w6.cell? ⟨w.heap.size, 0, none⟩ = some (.int .u8 (f : Int)) := cell_of_arr (HX0.out _ hb6') 0
      have q1 : w6.cell? ⟨w.heap.size, 1, none⟩ = some (.int .u8 (t : Int)) := cell_of_arr (HX0.out _ hb6') 1
      have q2 : w6.cell? ⟨w.heap.size, 2, none⟩ = some (.int .u64 (r : Int)) := cell_of_arr (HX0.out _ hb6') 2
      have q3 : w6.cell? ⟨w.heap.size, 3, none⟩ = some (.slice p0 l.length cap0) := cell_of_arr (HX0.out _ hb6') 3
      have HP2 := Lib.hid (wrprint_any f t r l (.slice p0 l.length cap0) w6 (HV.out.later hb6') HLI.out HF.out HTT.out HR.out)
      have HB6 := Lib.hid hb6'
      have HZ6 := Lib.hid hb6
      clear i0 i1 i2 i3 hb6 hb6'
      go_wp2_with fail
      go_at_call 13
      refine (HP2.out).mono ?_
      first | rintro e w7 rfl hb7 | rintro e w7 ⟨rfl, hb7⟩
      have hb7' := HB6.out.trans (hb7.mono HB6.out.size)
      have hz7 := HZ6.out.trans (hb7.mono HZ6.out.size)
      clear q0 q1 q2 q3
      generalize wprintL ⟨f, t, r, l⟩ = pr at *
      have i0 : w7.cell? ⟨w2.heap.size, 0, none⟩ = some (.int .u8 (f : Int)) := cell_of_arr (HI5.out _ hz7) 0
      have i1 : w7.cell? ⟨w2.heap.size, 1, none⟩ = some (.int .u8 (t : Int)) := cell_of_arr (HI5.out _ hz7) 1
      have i2 : w7.cell? ⟨w2.heap.size, 2, none⟩ = some (.int .u64 (r : Int)) := cell_of_arr (HI5.out _ hz7) 2
      have i3 : w7.cell? ⟨w2.heap.size, 3, none⟩ = some (.slice (some ⟨g, 0, none⟩) l.length cap') := cell_of_arr (HI5.out _ hz7) 3
      have q0 : w7.cell? ⟨w.heap.size, 0, none⟩ = some (.int .u8 (f : Int)) := cell_of_arr (HX0.out _ hb7') 0
      have q1 : w7.cell? ⟨w.heap.size, 1, none⟩ = some (.int .u8 (t : Int)) := cell_of_arr (HX0.out _ hb7') 1
      have q2 : w7.cell? ⟨w.heap.size, 2, none⟩ = some (.int .u64 (r : Int)) := cell_of_arr (HX0.out _ hb7') 2
      have q3 : w7.cell? ⟨w.heap.size, 3, none⟩ = some (.slice p0 l.length cap0) := cell_of_arr (HX0.out _ hb7') 3
      have HSM := Lib.hid (show ∀ wz : World, Below w7.heap.size w7 wz → Calls Tryd.prog 8 #[.agg #[.int .u8 (f : Int), .int .u8 (t : Int), .int .u64 (r : Int), .slice (some ⟨g, 0, none⟩) l.length cap'], .agg #[.int .u8 (f : Int), .int .u8 (t : Int), .int .u64 (r : Int), .slice p0 l.length cap0]] wz (fun e w' => e = .returned (.bool true) ∧ Below w7.heap.size w7 w') from fun wz hz =>
        (wsame_any (f : Int) (t : Int) (r : Int) l (.slice (some ⟨g, 0, none⟩) l.length cap') (.slice p0 l.length cap0) wz (HSG5.out.later (hz7.trans (hz.mono hz7.size))) (HV.out.later (hb7'.trans (hz.mono hb7'.size))) HLI.out.sane).mono fun e w' h => ⟨h.1, hz.trans (h.2.mono hz.size)⟩)
      have HWR := Lib.hid (show ∀ wz : World, Below w7.heap.size w7 wz → Calls Tryd.prog 9 #[] wz (fun e w' => e = .returned (.bool true) ∧ Below w7.heap.size w7 w') from fun wz hz =>
        (wraps_any B wz (HT.out _ (hb7'.trans (hz.mono hb7'.size))).1 (HT.out _ (hb7'.trans (hz.mono hb7'.size))).2).mono fun e w' h => ⟨h.1, hz.trans (h.2.mono hz.size)⟩)
      have hrm : (tx [82, 79, 79, 77]).toList = [82, 79, 79, 77] := by simp [tx, ByteArray.toList_eq]
      have hwn : IntKind.i64.wrap ((l.length : Int) + 1) = (l.length : Int) + 1 := by rw [IntKind.wrap_i64]; omega
      have hn1 : (0 : Int) ≤ (l.length : Int) + 1 := by omega
      have htn : ((l.length : Int) + 1).toNat = l.length + 1 := by omega
      have hlt1 : (l.length : Int) < (l.length : Int) + 1 := by omega
      have HDR := Lib.hid (show Below w7.heap.size w7 w7.drew from (Below.refl _ _).drew)
      have HB7 := Lib.hid hb7'
      have HZ7 := Lib.hid hz7
      clear hb7 hb7' hz7
      go_wp2_with fail
      go_region_law (first
        | (go_simp
           with_reducible refine (HSM.out _ HDR.out).mono ?_
           rintro e w8 ⟨rfl, hb8⟩
           have hz8 := HZ7.out.trans (hb8.mono HZ7.out.size)
           have j3 : w8.cell? ⟨w2.heap.size, 3, none⟩ = some (.slice (some ⟨g, 0, none⟩) l.length cap') := cell_of_arr (HI5.out _ hz8) 3
           have jn := HN5.out _ hz8
           have HB8 := Lib.hid hb8
           clear hb8 hz8)
        | (go_simp
           with_reducible refine (HWR.out _ HB8.out).mono ?_
           rintro e w9 ⟨rfl, hb9⟩
           have HB9 := Lib.hid hb9
           clear hb9))
      all_goals
        go_wp2
        go_ret
        exact ⟨rfl, HFIN.out _ (HB7.out.trans (HB9.out.mono HB7.out.size))⟩
end Go.Proofs.YtlonmmnaipclcaaDoor
