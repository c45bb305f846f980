/- Contract: great. -/
import Derived.Test.YtjdfdihopgceoaaCdPs
namespace Go.Proofs.Ytjdfdihopgceoaa.Cd
open Go.RowKit Go.Shelf Go.Dk Go.Jn Go.Cod

def bigT (x : Tx) : Bool := decide (600 < x.code.length)
def greatL (r : Rc) : Bool := decide (600 < r.cmd.name.length) || decide (600 < r.cmd.legs.length) || decide (600 < r.cmd.taxes.length) || r.cmd.taxes.any bigT
theorem tax_cell {w : World} {F : Nat → Prop} {tp : Option Addr} {n tc : Nat} {T : List Tx} (h : RowF w F (.slice tp n tc) n (flt txC T)) (hn : n = T.length) {k : Nat} (hk : k < T.length) :
    ∃ b o, tp = some ⟨b, o, none⟩ ∧ F b ∧ w.cell? ⟨b, o + k * 2, none⟩ = some (str (T[k]).code) ∧ w.cell? ⟨b, o + k * 2 + 1, none⟩ = some (.int .i64 (wrap64 ((T[k]).am : Int))) := by
  subst hn
  obtain ⟨p, cap, e, _, hp⟩ := h
  simp only [Value.slice.injEq, true_and] at e
  obtain ⟨rfl, rfl⟩ := e
  obtain ⟨b, o, rfl, hF, hc⟩ := hp (by omega)
  have hsp : flt txC T = flt txC (T.take k) ++ (txC T[k] ++ flt txC (T.drop (k + 1))) := by
    rw [← flt_one txC T[k], ← flt_append, ← flt_append]
    congr 1
    rw [← List.append_assoc, ← List.take_succ_eq_append_getElem hk, List.take_append_drop]
  have hl : (flt txC (T.take k)).length = k * 2 := by rw [flt_len ec_tax.len, List.length_take, Nat.min_eq_left (by omega)]
  refine ⟨b, o, rfl, hF, ?_, ?_⟩
  · refine hc (k * 2) _ ?_
    rw [hsp, List.getElem?_append_right (by omega), hl, Nat.sub_self]; rfl
  · refine hc (k * 2 + 1) _ ?_
    rw [hsp, List.getElem?_append_right (by omega), hl, show k * 2 + 1 - k * 2 = 1 by omega]; rfl
set_option maxRecDepth 100000 in
set_option maxHeartbeats 3200000 in
theorem great_any (r : Rc) (lp tp : Option Addr) (lc tc : Nat) (w : World) (ht : RowF w (· < w.heap.size) (.slice tp r.cmd.taxes.length tc) r.cmd.taxes.length (flt txC r.cmd.taxes)) :
    Calls Try.prog 10 #[.agg (recC r (.slice lp r.cmd.legs.length lc) (.slice tp r.cmd.taxes.length tc)).toArray] w fun e w' => e = .returned (.bool (greatL r)) ∧ Below w.heap.size w w' := by
  obtain ⟨C, hC⟩ : ∃ C, (recC r (.slice lp r.cmd.legs.length lc) (.slice tp r.cmd.taxes.length tc)).toArray = C := ⟨_, rfl⟩
  obtain ⟨w1, hw1⟩ : ∃ w1, w.alloc (.cells C 44) = w1 := ⟨_, rfl⟩
  have hc1 : w1.heap[w.heap.size]? = some (.cells C 44 (0, 0)) := by rw [← hw1]; exact heap_last _ _ _ rfl
  have hb1 : Below w.heap.size w w1 := by rw [← hw1]; exact (Below.refl _ _).alloc (Nat.le_refl _) _
  have x5 := cell_of_arr hc1 5
  have x6 := cell_of_arr hc1 6
  have x7 := cell_of_arr hc1 7
  have x8 := cell_of_arr hc1 8
  have x9 := cell_of_arr hc1 9
  rw [← hC] at x5 x6 x7 x8 x9
  simp only [recC, List.getElem?_toArray, List.getElem?_cons_zero, List.getElem?_cons_succ] at x5 x6 x7 x8 x9
  have hts := tx_size r.cmd.name
  obtain ⟨w2, hw2⟩ : ∃ w2, w1.alloc (.cells #[str r.cmd.name, .slice lp r.cmd.legs.length lc, .int .i64 (wrap64 (r.cmd.fare : Int)), .slice tp r.cmd.taxes.length tc, .int .i64 (wrap64 (r.cmd.pen : Int))] 28) = w2 := ⟨_, rfl⟩
  have hb2 : Below w.heap.size w w2 := by rw [← hw2]; exact hb1.alloc hb1.size _
  have hc2 : w2.heap[w1.heap.size]? = some (.cells #[str r.cmd.name, .slice lp r.cmd.legs.length lc, .int .i64 (wrap64 (r.cmd.fare : Int)), .slice tp r.cmd.taxes.length tc, .int .i64 (wrap64 (r.cmd.pen : Int))] 28 (0, 0)) := by rw [← hw2]; exact heap_last _ _ _ rfl
  have y0 := cell_of_arr hc2 0
  have y1 := cell_of_arr hc2 1
  have y3 := cell_of_arr hc2 3
  simp only [List.getElem?_toArray, List.getElem?_cons_zero, List.getElem?_cons_succ] at y0 y1 y3
  have HT := Lib.hid (ht.kept (F' := (· < w.heap.size)) (fun b hb => ⟨hb, hb2.block b hb⟩))
  have HB2 := Lib.hid hb2
  rw [hC]
  unfold greatL
  clear ht hC hb1 hc1 hb2 hc2
  by_cases i1 : 600 < r.cmd.name.length
  · have j1 : decide ((600 : Int) < (r.cmd.name.length : Int)) = true := decide_eq_true (by omega)
    rw [decide_eq_true i1]
    go_enter Try.func10, Try.ntmps10
    go_wp2
    go_ret
    exact ⟨rfl, HB2.out⟩
  have j1 : decide ((600 : Int) < (r.cmd.name.length : Int)) = false := decide_eq_false (by omega)
  rw [decide_eq_false i1, Bool.false_or]
  by_cases i2 : 600 < r.cmd.legs.length
  · have j2 : decide ((600 : Int) < (r.cmd.legs.length : Int)) = true := decide_eq_true (by omega)
    rw [decide_eq_true i2]
    go_enter Try.func10, Try.ntmps10
    go_wp2
    go_ret
    exact ⟨rfl, HB2.out⟩
  have j2 : decide ((600 : Int) < (r.cmd.legs.length : Int)) = false := decide_eq_false (by omega)
  rw [decide_eq_false i2, Bool.false_or]
  by_cases i3 : 600 < r.cmd.taxes.length
  · have j3 : decide ((600 : Int) < (r.cmd.taxes.length : Int)) = true := decide_eq_true (by omega)
    rw [decide_eq_true i3]
    go_enter Try.func10, Try.ntmps10
    go_wp2
    go_ret
    exact ⟨rfl, HB2.out⟩
  have j3 : decide ((600 : Int) < (r.cmd.taxes.length : Int)) = false := decide_eq_false (by omega)
  rw [decide_eq_false i3, Bool.false_or]
  have l3 : (r.cmd.taxes.length : Int) ≤ 600 := by omega
  have l0 : (0 : Int) ≤ (r.cmd.taxes.length : Int) := Int.natCast_nonneg _
  generalize r.cmd.taxes = T at *
  generalize hn : T.length = n at *
  have HN := Lib.hid hn
  clear hn
  go_enter Try.func10, Try.ntmps10
  go_wp2
  clear hw1 hw2
  go_loopw [4] (fun i wr => ∃ k : Nat, k ≤ n ∧ i = .int .i64 (k : Int) ∧ Hid ((T.take k).any bigT = false) ∧ w2 = wr) (fun i _ => n - (vI i).toNat)
  case atStart => exact ⟨0, Nat.zero_le _, rfl, Lib.hid rfl, rfl⟩
  case round =>
    obtain ⟨k, hk, rfl, HY, rfl⟩ := hrel
    have hk0 : (0 : Int) ≤ (k : Int) := Int.natCast_nonneg _
    by_cases hlt1 : (k : Int) < (n : Int)
    · obtain ⟨b, o, rfl, _, cc, _⟩ := tax_cell HT.out HN.out.symm (k := k) (by have := HN.out; omega)
      have htk := tx_size (T[k]'(by have := HN.out; omega)).code
      have HS := Lib.hid (show (T.take (k + 1)).any bigT = ((T.take k).any bigT || bigT (T[k]'(by have := HN.out; omega))) from by rw [List.take_succ_eq_append_getElem (by have := HN.out; omega), List.any_append]; simp)
      have HM := Lib.hid (show T[k]'(by have := HN.out; omega) ∈ T from List.getElem_mem _)
      generalize T[k]'(by have := HN.out; omega) = x at *
      by_cases i4 : 600 < x.code.length
      · have j4 : decide ((600 : Int) < (x.code.length : Int)) = true := decide_eq_true (by omega)
        have HG := Lib.hid (show T.any bigT = true from List.any_eq_true.2 ⟨x, HM.out, decide_eq_true i4⟩)
        go_wp2
        go_ret
        exact ⟨by rw [HG.out]; rfl, HB2.out⟩
      · have j4 : decide ((600 : Int) < (x.code.length : Int)) = false := decide_eq_false (by omega)
        go_wp2
        go_roundw
        case rel => exact ⟨k + 1, by omega, rfl, Lib.hid (by rw [HS.out, HY.out]; simpa [bigT] using i4), trivial⟩
        case measure => simp [vI]; omega
    · have hkn : k = n := by omega
      have HF := Lib.hid (show T.any bigT = false from by
        have := HY.out
        rwa [List.take_of_length_le (by have := HN.out; omega)] at this)
      clear HY
      go_wp2
      go_ret
      exact ⟨by rw [HF.out]; rfl, HB2.out⟩
end Go.Proofs.Ytjdfdihopgceoaa.Cd
