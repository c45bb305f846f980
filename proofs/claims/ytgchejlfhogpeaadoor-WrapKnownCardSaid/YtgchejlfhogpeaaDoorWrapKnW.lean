/- The walk of WrapKnown. -/
import Derived.Test.YtgchejlfhogpeaaDoorWrapBkW
import Derived.Test.YtgchejlfhogpeaaDoorWrapM
import Derived.Test.YtgchejlfhogpeaaDoorEdiApF
import Derived.IntWalk
namespace Go.Proofs.YtgchejlfhogpeaaDoor
open Go.RowKit Go.Edi Go.Wrap

def exsW : List (Tx × Nat) := [([85, 78, 66, 43, 49, 43, 50, 43, 55, 39, 85, 78, 90, 43, 49, 43, 55, 39], 41), ([85, 78, 66, 43, 49, 43, 50, 43, 55, 39, 85, 78, 90, 43, 48, 43, 56, 39], 42), ([85, 78, 66, 43, 49, 43, 50, 43, 55, 39, 85, 78, 90, 43, 48, 43, 48, 55, 39], 40), ([85, 78, 66, 43, 56, 43, 50, 43, 55, 39, 85, 78, 90, 43, 48, 43, 55, 39], 40), ([85, 78, 66, 43, 55, 43, 55, 43, 48, 39, 10, 85, 78, 90, 43, 48, 43, 48, 39, 10], 0), ([85, 78, 66, 43, 49, 43, 56, 43, 55, 39, 85, 78, 90, 43, 48, 43, 55, 39], 40), ([85, 78, 66, 43, 49, 43, 50, 39, 85, 78, 90, 43, 48, 43, 55, 39], 40), ([85, 78, 66, 43, 49, 43, 50, 43, 55, 43, 56, 39, 85, 78, 90, 43, 48, 43, 55, 39], 40), ([85, 78, 66, 43, 49, 43, 50, 43, 55, 58, 56, 39, 85, 78, 90, 43, 48, 43, 55, 39], 40), ([85, 78, 66, 43, 49, 43, 50, 43, 39, 85, 78, 90, 43, 48, 43, 39], 40), ([85, 78, 66, 43, 49, 43, 50, 43, 63, 43, 55, 39, 85, 78, 90, 43, 48, 43, 55, 39], 40), ([85, 78, 66, 43, 49, 43, 50, 43, 49, 56, 52, 52, 54, 55, 52, 52, 48, 55, 51, 55, 48, 57, 53, 53, 49, 54, 49, 53, 39, 85, 78, 90, 43, 48, 43, 49, 56, 52, 52, 54, 55, 52, 52, 48, 55, 51, 55, 48, 57, 53, 53, 49, 54, 49, 53, 39], 0), ([85, 78, 66, 43, 49, 43, 50, 43, 49, 56, 52, 52, 54, 55, 52, 52, 48, 55, 51, 55, 48, 57, 53, 53, 49, 54, 49, 54, 39, 85, 78, 90, 43, 48, 43, 49, 56, 52, 52, 54, 55, 52, 52, 48, 55, 51, 55, 48, 57, 53, 53, 49, 54, 49, 54, 39], 40), ([85, 78, 66, 43, 49, 43, 50, 43, 45, 49, 39, 85, 78, 90, 43, 48, 43, 45, 49, 39], 40), ([], 40), ([85, 78, 66, 43, 49, 43, 50, 43, 55, 39], 40), ([85, 78, 90, 43, 48, 43, 55, 39, 85, 78, 66, 43, 49, 43, 50, 43, 55, 39], 40), ([85, 78, 66, 43, 49, 43, 50, 43, 55, 39, 85, 78, 66, 43, 49, 43, 50, 43, 55, 39, 85, 78, 90, 43, 49, 43, 55, 39], 0), ([85, 78, 66, 43, 50, 53, 55, 43, 50, 43, 55, 39, 85, 78, 90, 43, 48, 43, 55, 39], 40), ([85, 78, 66, 43, 49, 43, 50, 43, 55, 39, 85, 78, 90, 43, 48, 48, 43, 55, 39], 40), ([85, 78, 66, 43, 49, 43, 50, 43, 55, 39, 85, 78, 90, 43, 50, 43, 56, 39], 41), ([85, 78, 66, 43, 49, 43, 50, 43, 55, 39, 85, 78, 90, 43, 48, 43, 55], 31), ([117, 110, 98, 39], 30)]
theorem exsW_ok : exsW.all (fun r => (wparseL r.1).2 == r.2) = true := by kernel_rfl
def flatW : List (Tx × Nat) → List Value
  | [] => []
  | r :: t => str r.1 :: .int .i64 (r.2 : Int) :: flatW t
theorem flatW_get : ∀ (l : List (Tx × Nat)) (k : Nat) (h : k < l.length), (flatW l)[k * 2]? = some (str l[k].1) ∧ (flatW l)[k * 2 + 1]? = some (.int .i64 ((l[k].2 : Nat) : Int))
  | _ :: _, 0, _ => ⟨rfl, rfl⟩
  | _ :: t, k + 1, h => by
    have := flatW_get t k (by simpa using h)
    rw [show (k + 1) * 2 = k * 2 + 1 + 1 by omega]
    exact this
set_option maxRecDepth 100000 in
set_option maxHeartbeats 6400000 in
theorem wknown_walk (B : Nat) (w : World) (htab : Tab B w) (hB0 : B ≤ w.heap.size) : Calls Tryd.prog 7 #[] w fun e w' => e = .returned (.bool true) ∧ Below w.heap.size w w' := by
  have HT := Lib.hid htab
  have HB0 := Lib.hid hB0
  clear htab hB0
  go_enter Tryd.func7, Tryd.ntmps7
  go_wp2
  go_loopw [2] (fun i wr => ∃ k : Nat, i = .int .i64 k ∧ k ≤ 23 ∧ Hid (wr.heap[w.heap.size]? = some (.cells (flatW exsW).toArray 46 (0, 0))) ∧ Below w.heap.size w wr) (fun i _ => 23 - (intOf i).toNat)
  case atStart => exact ⟨0, rfl, Nat.zero_le _, Lib.hid (at_last w _), (Below.refl _ _).alloc (Nat.le_refl _) _⟩
  case round =>
    obtain ⟨k, rfl, hk, HG, hb⟩ := hrel
    have HB := Lib.hid hb
    clear hb
    by_cases hlt : (k : Int) < 23
    · have hk0 : (0 : Int) ≤ (k : Int) := Int.natCast_nonneg _
      have hkl : k < exsW.length := by show k < 23; omega
      have hC : ∀ wz : World, wz.heap[w.heap.size]? = some (.cells (flatW exsW).toArray 46 (0, 0)) → wz.cell? ⟨w.heap.size, k * 2, none⟩ = some (str exsW[k].1) ∧ wz.cell? ⟨w.heap.size, k * 2 + 1, none⟩ = some (.int .i64 ((exsW[k].2 : Nat) : Int)) := fun wz hz => by
        obtain ⟨h1, h2⟩ := flatW_get exsW k hkl
        exact ⟨(cell_of_arr hz _).trans (by simpa using h1), (cell_of_arr hz _).trans (by simpa using h2)⟩
      have o1 : (wparseL exsW[k].1).2 = exsW[k].2 := by
        have := exsW_ok
        rw [List.all_eq_true] at this
        exact beq_iff_eq.1 (this _ (List.getElem_mem hkl))
      generalize exsW[k]'hkl = r at *
      obtain ⟨t, er⟩ := r
      simp only at hC o1
      obtain ⟨c0, c1⟩ := hC wr HG.out
      have HC := Lib.hid hC
      have Q := Lib.hid (wparse_any t wr)
      have O1 := Lib.hid o1
      clear o1 hC
      go_wp2_with (go_at_call 9; refine (Q.out).mono ?_)
      rintro e w2 hpa
      obtain ⟨v2, F2, rfl, hs2, hF2, hb2⟩ := hpa
      obtain ⟨p2, cap2, rfl⟩ := segs_slice hs2
      have HG2 := Lib.hid ((hb2.block _ (Array.getElem?_eq_some_iff.1 HG.out).1).trans HG.out)
      have hb2' := HB.out.trans (hb2.mono HB.out.size)
      have hgl : w.heap.size < w2.heap.size := (Array.getElem?_eq_some_iff.1 HG2.out).1
      obtain ⟨d0, d1⟩ := HC.out w2 HG2.out
      clear c0 c1 hF2 hb2
      by_cases he : ((er : Nat) : Int) = 0
      · rw [O1.out]
        generalize (wparseL t).1 = x at *
        have HG3 := Lib.hid (fun o => heap_past w2 o w.heap.size hgl HG2.out)
        have HB3 := Lib.hid (fun o => hb2'.alloc hb2'.size o)
        clear hb2' hs2 d0
        go_wp2
        go_roundw
        case rel => exact ⟨k + 1, by go_num, by omega, Lib.hid (HG3.out _), HB3.out _⟩
        case measure => simp [intOf]; omega
      · have hz : (wparseL t).1 = Wr.nil := wparse_nil (t := t) (by rw [O1.out]; omega)
        rw [O1.out, hz]
        have HG3 := Lib.hid (fun o => heap_past w2 o w.heap.size hgl HG2.out)
        have HB3 := Lib.hid (hb2'.alloc hb2'.size (.cells (wrV 0 0 0 (.slice p2 0 cap2)) 25))
        have HSM := Lib.hid (wsame_any 0 0 0 [] (.slice p2 0 cap2) (.slice none 0 0) (w2.alloc (.cells (wrV 0 0 0 (.slice p2 0 cap2)) 25)) (segs_nil0 _ _ _ _) (segs_nil _ _) ⟨by simp, fun s hs => by simp at hs⟩)
        clear hb2' hs2 d0 hz
        go_wp2_with (go_at_call 11; refine (HSM.out).mono ?_)
        first | rintro e w3 rfl hb3 | rintro e w3 ⟨rfl, hb3⟩
        have HG4 := Lib.hid ((hb3.block w.heap.size (Array.getElem?_eq_some_iff.1 (HG3.out _)).1).trans (HG3.out _))
        have HB4 := Lib.hid (HB3.out.trans (hb3.mono HB3.out.size))
        clear hb3
        go_wp2
        go_roundw
        case rel => exact ⟨k + 1, by go_num, by omega, HG4, HB4.out⟩
        case measure => simp [intOf]; omega
    · have hk23 : (k : Int) = 23 := by omega
      have q1 := wprint_any ⟨8, 0, 0, []⟩ (.slice none 0 0) B wr (segs_nil _ _) ⟨by simp, fun s hs => by simp at hs⟩ (by decide) (by decide) (by decide) (HT.out.on (HB.out.mono HB0.out)) (Nat.le_trans HB0.out HB.out.size)
      rw [show wprintL ⟨8, 0, 0, []⟩ = ([], 1) from rfl] at q1
      have Q1 := Lib.hid q1
      clear q1
      go_wp2_with (go_at_call 15; refine (Q1.out).mono ?_)
      first | rintro e w1 rfl hb | rintro e w1 ⟨rfl, hb⟩
      have HB1 := Lib.hid (HB.out.trans (hb.mono HB.out.size))
      clear hb
      have q2 := wprint_any ⟨0, 255, 0, []⟩ (.slice none 0 0) B w1 (segs_nil _ _) ⟨by simp, fun s hs => by simp at hs⟩ (by decide) (by decide) (by decide) (HT.out.on (HB1.out.mono HB0.out)) (Nat.le_trans HB0.out HB1.out.size)
      rw [show wprintL ⟨0, 255, 0, []⟩ = ([], 1) from rfl] at q2
      have Q2 := Lib.hid q2
      clear q2
      go_wp2_with (go_at_call 15; refine (Q2.out).mono ?_)
      first | rintro e w2 rfl hb | rintro e w2 ⟨rfl, hb⟩
      have HB2 := Lib.hid (HB1.out.trans (hb.mono HB1.out.size))
      clear hb
      have q3 := wprint_any ⟨0, 0, 0, List.replicate 63 ⟨[], []⟩⟩ (.slice (some ⟨w2.heap.size, 0, none⟩) 63 63) B (w2.alloc (.cells (zA 63) 36)) (mkS_segs 63 w2) (sane_zero 63 (by decide)) (by decide) (by decide) (by decide) (HT.out.on ((HB2.out.alloc HB2.out.size _).mono HB0.out)) (Nat.le_trans HB0.out (HB2.out.alloc HB2.out.size (.cells (zA 63) 36)).size)
      rw [wp63] at q3
      have Q3 := Lib.hid q3
      have mk := mk63
      have HBA := Lib.hid (HB2.out.alloc HB2.out.size (.cells (zA 63) 36))
      clear q3
      go_wp2_with (go_at_call 15; refine (Q3.out).mono ?_)
      first | rintro e w3 rfl hb | rintro e w3 ⟨rfl, hb⟩
      have HB3 := Lib.hid (HBA.out.trans (hb.mono HBA.out.size))
      clear hb mk
      have q3 := wprint_any ⟨0, 0, 0, List.replicate 62 ⟨[], []⟩⟩ (.slice (some ⟨w3.heap.size, 0, none⟩) 62 62) B (w3.alloc (.cells (zA 62) 36)) (mkS_segs 62 w3) (sane_zero 62 (by decide)) (by decide) (by decide) (by decide) (HT.out.on ((HB3.out.alloc HB3.out.size _).mono HB0.out)) (Nat.le_trans HB0.out (HB3.out.alloc HB3.out.size (.cells (zA 62) 36)).size)
      rw [wp62] at q3
      have Q3 := Lib.hid q3
      have mk := mk62
      have HBA := Lib.hid (HB3.out.alloc HB3.out.size (.cells (zA 62) 36))
      clear q3
      go_wp2_with (go_at_call 15; refine (Q3.out).mono ?_)
      first | rintro e w4 rfl hb | rintro e w4 ⟨rfl, hb⟩
      have HB4 := Lib.hid (HBA.out.trans (hb.mono HBA.out.size))
      clear hb mk
      go_wp2
      go_loopw [13, 14] (fun u i wr => ∃ (k : Nat) (p : Option Addr) (cap : Nat), i = .int .i64 k ∧ u = .slice p k cap ∧ k ≤ 62 ∧ wr.ownsRow w.heap.size 36 2 (.slice p k cap) k (av k) ∧ Below w.heap.size w wr) (fun _ i _ => 62 - (intOf i).toNat)
      case atStart => exact ⟨0, none, 0, rfl, rfl, Nat.zero_le _, World.ownsRow_nil _ _ _ _, HB4.out⟩
      case round =>
        obtain ⟨j, p, cap, rfl, rfl, hj, hown, hbl⟩ := hrel
        have HO := Lib.hid hown
        have HBR := Lib.hid hbl
        clear hown hbl
        by_cases hlt2 : (j : Int) < 62
        · have hj0 : (0 : Int) ≤ (j : Int) := Int.natCast_nonneg _
          go_wp2_with (at_builtin; refine wl_app1 23 36 (.agg #[.string ⟨#[]⟩, .slice none 0 0]) 2 40 par_seg Tryd.underlying23 rfl (by decide) (by decide) w.heap.size (.slice p j cap) j (av j) rfl (HO.out.alloc _) wr.heap.size 1 [str [65, 66, 67], .slice none 0 0] 36 (0, 0) rfl rfl (at_last _ _) (by intro u hu; simp at hu; rcases hu with rfl | rfl <;> rfl) (by omega) (by have := HBR.out.size; simp; omega) ?_)
          intro v' w5 ho hgr _
          obtain ⟨p', cap', rfl⟩ := own_slice ho
          have HOO := Lib.hid ho
          have HBA2 := Lib.hid (below_app HBR.out (Nat.le_refl _) hgr (fun k hk => (HO.out.lt k hk).1))
          clear ho hgr
          go_wp2
          go_roundw
          case rel => exact ⟨j + 1, p', cap', by go_num, rfl, by omega, HOO.out, HBA2.out⟩
          case measure => simp [intOf]; omega
        · obtain rfl : j = 62 := by omega
          have hsg : SegsF wr (· < wr.heap.size) (.slice p 62 cap) (abc 62) := ⟨av 62, row_own HO.out (fun b e => (HO.out.lt b e).2), av_sgc _ _ 62⟩
          have q5 := wprint_any ⟨0, 0, 0, abc 62⟩ (.slice p 62 cap) B wr hsg (sane_abc 62 (by decide)) (by decide) (by decide) (by decide) (HT.out.on (HBR.out.mono HB0.out)) (Nat.le_trans HB0.out HBR.out.size)
          have hbk := wback (x := ⟨0, 0, 0, abc 62⟩) wpabc (by decide)
          rw [wpabc] at q5
          generalize (wprintL ⟨0, 0, 0, abc 62⟩).1 = s at *
          have Q5 := Lib.hid q5
          have HBK := Lib.hid hbk
          clear q5 hbk hsg
          go_wp2_with (go_at_call 15; refine (Q5.out).mono ?_)
          first | rintro e w5 rfl hb | rintro e w5 ⟨rfl, hb⟩
          have HB5 := Lib.hid (HBR.out.trans (hb.mono HBR.out.size))
          have Q6 := Lib.hid (wparse_any s w5)
          clear hb
          go_wp2_with (go_at_call 9; refine (Q6.out).mono ?_)
          rintro e w6 hpa
          unfold WpA at hpa
          rw [HBK.out] at hpa
          obtain ⟨v6, F6, rfl, hs6, hF6, hb6⟩ := hpa
          obtain ⟨p6, cap6, rfl⟩ := segs_slice hs6
          have h62 : (abc 62).length = 62 := rfl
          simp only [h62]
          have hb6' := HB5.out.trans (hb6.mono HB5.out.size)
          have HB6 := Lib.hid (hb6'.alloc hb6'.size (.cells (wrV 0 0 0 (.slice p6 62 cap6)) 25))
          have HW := Lib.hid (wraps_any B _ (HT.out.on (HB6.out.mono HB0.out)) (Nat.le_trans HB0.out HB6.out.size))
          clear hs6 hF6 hb6 hb6' h62
          go_wp2_with (go_at_call 12; refine (HW.out).mono ?_)
          first | rintro e w7 rfl hb | rintro e w7 ⟨rfl, hb⟩
          have HB7 := Lib.hid (HB6.out.trans (hb.mono HB6.out.size))
          clear hb
          go_wp2
          go_ret
          exact ⟨rfl, HB7.out⟩
end Go.Proofs.YtgchejlfhogpeaaDoor
