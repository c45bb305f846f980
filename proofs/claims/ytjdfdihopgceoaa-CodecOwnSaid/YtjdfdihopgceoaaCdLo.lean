/- Contracts: the document's May of a record, Long. -/
import Derived.Test.YtjdfdihopgceoaaCdMc
import Derived.Test.YtjdfdihopgceoaaCdGr
import Derived.Deep.DeepCutAuto
namespace Go.Proofs.Ytjdfdihopgceoaa.Cd
open Go.RowKit Go.Shelf Go.Dk Go.Jn Go.Cod

theorem may_any {r : Rc} (h : OkRc true r) (lp tp : Option Addr) (lc tc : Nat) (w : World) :
    Calls Try.prog 18 #[.agg (recC r (.slice lp r.cmd.legs.length lc) (.slice tp r.cmd.taxes.length tc)).toArray] w fun e w' => e = .returned (.bool (mayB r)) ∧ Below w.heap.size w w' := by
  have hml := h.msg.1
  have hmv := h.msg.2
  have hc := noCmd_iff h.cmd
  have hl := h.cmd.legs.1
  have ht := h.cmd.taxes.1
  obtain ⟨kind, c, frm, num, msg⟩ := r
  simp only at hml hmv hc hl ht
  match msg, hml with
  | [m0, m1, m2, m3, m4, m5, m6, m7, m8, m9, m10, m11], _ =>
    have z7 := wrap_zero (hmv 7 .i64 m7 rfl rfl)
    have z10 := wrap_zero (hmv 10 .i64 m10 rfl rfl)
    have z11 := wrap_zero (hmv 11 .i64 m11 rfl rfl)
    have hz : decide (Msg0 (m0 : Int) m1 m2 m3 m4 m5 m6 (wrap64 m7) m8 m9 (wrap64 m10) (wrap64 m11)) = decide ([m0, m1, m2, m3, m4, m5, m6, m7, m8, m9, m10, m11] = zMsg) := by
      rw [decide_eq_decide]
      unfold Msg0 zMsg
      simp only [List.cons.injEq, and_true, z7, z10, z11]
      omega
    by_cases e1 : kind = 1
    · subst e1
      refine (may_1 c.kind c.car c.ser c.pos c.name lp tp c.legs.length lc c.taxes.length tc (wrap64 c.fare) (wrap64 c.pen) (wrap64 c.am) frm num m0 m1 m2 m3 m4 m5 m6 (wrap64 m7) m8 m9 (wrap64 m10) (wrap64 m11) w hl ht).mono ?_
      rintro e w' ⟨rfl, hb⟩
      refine ⟨?_, hb⟩
      have : decide ((frm : Int) = 0 ∧ (num : Int) = 0 ∧ Msg0 (m0 : Int) m1 m2 m3 m4 m5 m6 (wrap64 m7) m8 m9 (wrap64 m10) (wrap64 m11)) = (decide (frm = 0) && decide (num = 0) && decide ([m0, m1, m2, m3, m4, m5, m6, m7, m8, m9, m10, m11] = zMsg)) := by
        rw [← hz, Bool.eq_iff_iff]
        simp only [decide_eq_true_eq, Bool.and_eq_true]
        constructor
        · rintro ⟨a, b, d⟩; exact ⟨⟨by omega, by omega⟩, d⟩
        · rintro ⟨⟨a, b⟩, d⟩; exact ⟨by omega, by omega, d⟩
      rw [this]
      unfold mayB
      simp only [if_true]
    · by_cases e2 : kind = 2
      · subst e2
        refine (may_2 c.kind c.car c.ser c.pos c.name lp tp c.legs.length lc c.taxes.length tc (wrap64 c.fare) (wrap64 c.pen) (wrap64 c.am) frm num m0 m1 m2 m3 m4 m5 m6 (wrap64 m7) m8 m9 (wrap64 m10) (wrap64 m11) w hl ht).mono ?_
        rintro e w' ⟨rfl, hb⟩
        refine ⟨?_, hb⟩
        rw [hc]
        rfl
      · by_cases e3 : kind = 3
        · subst e3
          refine (may_3 c.kind c.car c.ser c.pos c.name lp tp c.legs.length lc c.taxes.length tc (wrap64 c.fare) (wrap64 c.pen) (wrap64 c.am) frm num m0 m1 m2 m3 m4 m5 m6 (wrap64 m7) m8 m9 (wrap64 m10) (wrap64 m11) w hl ht).mono ?_
          rintro e w' ⟨rfl, hb⟩
          refine ⟨?_, hb⟩
          rw [Bool.decide_and, hc, hz]
          rfl
        · refine (may_no c.kind c.car c.ser c.pos c.name lp tp c.legs.length lc c.taxes.length tc (wrap64 c.fare) (wrap64 c.pen) (wrap64 c.am) frm num m0 m1 m2 m3 m4 m5 m6 (wrap64 m7) m8 m9 (wrap64 m10) (wrap64 m11) w hl ht kind (by omega) (by omega) (by omega)).mono ?_
          rintro e w' ⟨rfl, hb⟩
          refine ⟨?_, hb⟩
          unfold mayB
          simp only [e1, e2, e3, if_false]
def longT (x : Tx) : Bool := decide (32 < x.code.length)
def longL (r : Rc) : Bool := decide (32 < r.cmd.name.length) || decide (4 < r.cmd.legs.length) || decide (4 < r.cmd.taxes.length) || r.cmd.taxes.any longT
set_option maxRecDepth 100000 in
set_option maxHeartbeats 3200000 in
theorem long_any (r : Rc) (lp tp : Option Addr) (lc tc : Nat) (w : World) (hnl : r.cmd.name.length ≤ 1000000) (hll : r.cmd.legs.length ≤ 1000000) (htl : r.cmd.taxes.length ≤ 1000000) (ht : RowF w (· < w.heap.size) (.slice tp r.cmd.taxes.length tc) r.cmd.taxes.length (flt txC r.cmd.taxes)) :
    Calls Try.prog 19 #[.agg (recC r (.slice lp r.cmd.legs.length lc) (.slice tp r.cmd.taxes.length tc)).toArray] w fun e w' => e = .returned (.bool (longL r)) ∧ Below w.heap.size w w' := by
  obtain ⟨C, hC⟩ : ∃ C, (recC r (.slice lp r.cmd.legs.length lc) (.slice tp r.cmd.taxes.length tc)).toArray = C := ⟨_, rfl⟩
  obtain ⟨w1, hw1⟩ : ∃ w1, w.alloc (.cells C 44) = w1 := ⟨_, rfl⟩
  have hc1 : w1.heap[w.heap.size]? = some (.cells C 44 (0, 0)) := by rw [← hw1]; exact heap_last _ _ _ rfl
  have hb1 : Below w.heap.size w w1 := by rw [← hw1]; exact (Below.refl _ _).alloc (Nat.le_refl _) _
  have x5 := cell_of_arr hc1 5
  have x6 := cell_of_arr hc1 6
  have x7 := cell_of_arr hc1 7
  have x8 := cell_of_arr hc1 8
  have x9 := cell_of_arr hc1 9
  rw [← hC] at x5 x6 x7 x8 x9
  simp only [recC, List.getElem?_toArray, List.getElem?_cons_zero, List.getElem?_cons_succ] at x5 x6 x7 x8 x9
  have hts := tx_size r.cmd.name
  obtain ⟨w2, hw2⟩ : ∃ w2, w1.alloc (.cells #[str r.cmd.name, .slice lp r.cmd.legs.length lc, .int .i64 (wrap64 (r.cmd.fare : Int)), .slice tp r.cmd.taxes.length tc, .int .i64 (wrap64 (r.cmd.pen : Int))] 28) = w2 := ⟨_, rfl⟩
  have hb2 : Below w.heap.size w w2 := by rw [← hw2]; exact hb1.alloc hb1.size _
  have hc2 : w2.heap[w1.heap.size]? = some (.cells #[str r.cmd.name, .slice lp r.cmd.legs.length lc, .int .i64 (wrap64 (r.cmd.fare : Int)), .slice tp r.cmd.taxes.length tc, .int .i64 (wrap64 (r.cmd.pen : Int))] 28 (0, 0)) := by rw [← hw2]; exact heap_last _ _ _ rfl
  have y0 := cell_of_arr hc2 0
  have y1 := cell_of_arr hc2 1
  have y3 := cell_of_arr hc2 3
  simp only [List.getElem?_toArray, List.getElem?_cons_zero, List.getElem?_cons_succ] at y0 y1 y3
  have HT := Lib.hid (ht.kept (F' := (· < w.heap.size)) (fun b hb => ⟨hb, hb2.block b hb⟩))
  have HB2 := Lib.hid hb2
  rw [hC]
  unfold longL
  clear ht hC hb1 hc1 hb2 hc2
  have n0 : (0 : Int) ≤ (r.cmd.name.length : Int) := Int.natCast_nonneg _
  have n1 : (r.cmd.name.length : Int) ≤ 1000000 := by omega
  have g0 : (0 : Int) ≤ (r.cmd.legs.length : Int) := Int.natCast_nonneg _
  have g1 : (r.cmd.legs.length : Int) ≤ 1000000 := by omega
  have t0 : (0 : Int) ≤ (r.cmd.taxes.length : Int) := Int.natCast_nonneg _
  have t1 : (r.cmd.taxes.length : Int) ≤ 1000000 := by omega
  generalize r.cmd.name.length = nl at *
  generalize r.cmd.legs.length = ll at *
  generalize r.cmd.taxes = T at *
  generalize hn : T.length = n at *
  have HN := Lib.hid hn
  clear hn hnl hll htl
  go_enter Try.func19, Try.ntmps19
  go_upto_region 2 with fail
  clear hw1 hw2 x5 x6 x7 x8 x9
  go_cut [4] (fun u wx => ∃ b : Bool, u = .bool b ∧ Hid (b = (decide (32 < nl) || decide (4 < ll) || decide (4 < n))) ∧ w2 = wx)
  case first =>
    by_cases i1 : (32 : Int) < (nl : Int)
    · have k1 : decide (32 < nl) = true := decide_eq_true (by omega)
      have k1' : decide ((32 : Int) < (nl : Int)) = true := decide_eq_true i1
      go_wp2
      go_meet
      case rel => exact ⟨true, by first | rfl | simp_all, Lib.hid (by rw [k1]; rfl), rfl⟩
    · have k1 : decide (32 < nl) = false := decide_eq_false (by omega)
      have k1' : decide ((32 : Int) < (nl : Int)) = false := decide_eq_false i1
      by_cases i2 : (4 : Int) < (ll : Int)
      · have k2 : decide (4 < ll) = true := decide_eq_true (by omega)
        have k2' : decide ((4 : Int) < (ll : Int)) = true := decide_eq_true i2
        go_wp2
        go_meet
        case rel => exact ⟨true, by first | rfl | simp_all, Lib.hid (by rw [k1, k2]; rfl), rfl⟩
      · have k2 : decide (4 < ll) = false := decide_eq_false (by omega)
        have k2' : decide ((4 : Int) < (ll : Int)) = false := decide_eq_false i2
        go_wp2
        go_meet
        case rel => exact ⟨decide (4 < n), by first | rfl | (congr 1; rw [decide_eq_decide]; omega), Lib.hid (by rw [k1, k2]; rfl), rfl⟩
  case rest =>
    obtain ⟨b0, rfl, HB0, rfl⟩ := hcut
    go_wp2
    go_loopw [4, 5] (fun u i wr => ∃ (k : Nat) (b : Bool), k ≤ n ∧ i = .int .i64 (k : Int) ∧ u = .bool b ∧ Hid (b = (b0 || (T.take k).any longT)) ∧ w2 = wr) (fun _ i _ => n - (vI i).toNat)
    case atStart => exact ⟨0, b0, Nat.zero_le _, rfl, rfl, Lib.hid (by simp), rfl⟩
    case round =>
      obtain ⟨k, b, hk, rfl, rfl, HY, rfl⟩ := hrel
      have hk0 : (0 : Int) ≤ (k : Int) := Int.natCast_nonneg _
      by_cases hlt1 : (k : Int) < (n : Int)
      · have hkT : k < T.length := by have := HN.out; omega
        obtain ⟨bb, o, rfl, _, cc, hcc⟩ := tax_cell HT.out HN.out.symm hkT
        clear hcc
        have htk := tx_size (T[k]).code
        have HS := Lib.hid (show (T.take (k + 1)).any longT = ((T.take k).any longT || decide (32 < (T[k]).code.length)) from by rw [List.take_succ_eq_append_getElem hkT, List.any_append]; simp [longT])
        generalize (T[k]).code = cd at *
        clear hkT
        cases b
        · by_cases i4 : (32 : Int) < (cd.length : Int)
          · have k4' : decide ((32 : Int) < (cd.length : Int)) = true := decide_eq_true i4
            go_wp2
            go_roundw
            case rel => exact ⟨k + 1, true, by omega, rfl, by first | rfl | simp_all, Lib.hid (by rw [HS.out, ← Bool.or_assoc, ← HY.out, decide_eq_true (by omega)]; rfl), trivial⟩
            case measure => simp [vI]; omega
          · have k4' : decide ((32 : Int) < (cd.length : Int)) = false := decide_eq_false i4
            go_wp2
            go_roundw
            case rel => exact ⟨k + 1, false, by omega, rfl, by first | rfl | simp_all, Lib.hid (by rw [HS.out, ← Bool.or_assoc, ← HY.out, decide_eq_false (by omega)]; rfl), trivial⟩
            case measure => simp [vI]; omega
        · go_wp2
          go_roundw
          case rel => exact ⟨k + 1, true, by omega, rfl, by first | rfl | simp_all, Lib.hid (by rw [HS.out, ← Bool.or_assoc, ← HY.out]; rfl), trivial⟩
          case measure => simp [vI]; omega
      · have HF := Lib.hid (show b = (decide (32 < nl) || decide (4 < ll) || decide (4 < n) || T.any longT) from by
          have := HY.out
          rw [List.take_of_length_le (by have := HN.out; omega), HB0.out] at this
          exact this)
        clear HY
        go_wp2
        go_ret
        exact ⟨by rw [← HF.out]; rfl, HB2.out⟩
end Go.Proofs.Ytjdfdihopgceoaa.Cd
