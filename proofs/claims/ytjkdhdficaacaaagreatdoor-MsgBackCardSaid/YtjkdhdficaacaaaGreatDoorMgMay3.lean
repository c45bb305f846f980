/- The document's May of a message is the program's (no walk). -/
import Derived.Test.YtjkdhdficaacaaaGreatDoorMgPrP
import Derived.Test.YtjkdhdficaacaaaGreatDoorMgMay
/- What is read of a text is told as the text (no walk). -/
namespace Go.Proofs.YtjkdhdficaacaaaGreatDoor
open Go.RowKit Go.Edi Go.Wrap

theorem readMs_e {a m : Ms} {s : Sg} {r : List Sg} {e : Nat} (h : readMs a s r = (some m, e)) : e = 0 := by
  unfold readMs at h
  split at h
  · cases h
  · split at h
    · cases h
    · split at h
      · split at h
        · cases h; rfl
        · cases h
      · cases h
theorem keyOf_e {m : Ms} {s : Sg} {e : Nat} (h : keyOf' m s = (none, e)) : ¬ e = 0 := by
  unfold keyOf' at h
  split at h
  · split at h
    · split at h
      · split at h
        · cases h
        · cases h; decide
      · cases h; decide
    · rename_i hn
      cases h
      exact hn
  · cases h; decide
theorem readMs_n {a : Ms} {s : Sg} {r : List Sg} {e : Nat} (h : readMs a s r = (none, e)) : ¬ e = 0 := by
  unfold readMs at h
  split at h
  · cases h; decide
  · split at h
    · cases h; decide
    · split at h
      · split at h
        · cases h
        · cases h; decide
      · rename_i hk
        cases h
        exact keyOf_e hk
theorem zero_ty : Ms.zero.Ty := ⟨by decide, by decide, by decide, by decide, by decide, by decide, by decide, by decide, by decide, by decide, by decide, by decide⟩
theorem pack_bad {x : Wr} (h : ¬ (packL x).2 = 0) : (packL x).1 = .zero := by
  unfold packL at *
  split
  · rfl
  · rename_i hn
    rw [if_neg hn] at h
    split
    · rfl
    · rename_i s r hs
      rw [hs] at h
      simp only at h
      split
      · rename_i h1
        rw [if_pos h1] at h
        split
        · rename_i h2
          rw [if_pos h2] at h
          split
          · simp only at h; exact absurd True.intro h
          · rfl
        · rfl
      · rename_i h1
        rw [if_neg h1] at h
        split
        · rename_i hm
          rw [hm] at h
          exact absurd rfl h
        · rfl
theorem pack_toldP {x : Wr} {q : Pk} (hr : x.ref < 18446744073709551616) (h : packL x = (q, 0)) : q.Ty ∧ mwrapL q = (x, 0) := by
  obtain ⟨f, t, n, l⟩ := x
  simp only at hr
  unfold packL at h
  split at h
  · cases h
  · rename_i hn
    simp only at hn h
    split at h
    · cases h
    · rename_i s r
      split at h
      · rename_i h1
        split at h
        · rename_i h2
          split at h
          · cases h
            refine ⟨⟨by simp only; omega, by simp only; omega, hr, zero_ty⟩, ?_⟩
            have e : toldL ⟨f, t, n, true, .zero⟩ = ([sgL ackT []], 0) := by unfold toldL; simp
            unfold mwrapL
            rw [if_neg hn, e]
            simp only [if_true]
            obtain ⟨tag, els⟩ := s
            simp only at h1 h2
            rw [h1, h2]
            rfl
          · cases h
        · cases h
      · split at h
        · rename_i m e hm
          cases h
          obtain rfl := readMs_e hm
          obtain ⟨k1, k2, k3⟩ := told_read hm
          refine ⟨⟨by simp only; omega, by simp only; omega, hr, k1⟩, ?_⟩
          have e : toldL ⟨f, t, n, false, m⟩ = (s :: r, 0) := k2
          unfold mwrapL
          rw [if_neg hn, e]
          rfl
        · rename_i e hm
          cases h
          exact absurd rfl (readMs_n hm)
theorem mparse_bad {t : Tx} (h : ¬ (mparseL t).2 = 0) : (mparseL t).1 = .zero := by
  unfold mparseL at *
  split
  · rename_i h1; rw [if_pos h1] at h; exact pack_bad h
  · rfl
theorem mparse_told {t : Tx} (h : (mparseL t).2 = 0) : (mparseL t).1.Ty ∧ (mwrapL (mparseL t).1).2 = 0 ∧ mtextL (mparseL t).1 = (flt t, 0) := by
  unfold mparseL at *
  split at h
  · rename_i h1
    rw [if_pos h1]
    obtain ⟨k1, k2⟩ := pack_toldP (q := (packL (wparseL t).1).1) (open_ok h1).2.2.1 (Prod.ext rfl h)
    refine ⟨k1, by rw [k2], ?_⟩
    unfold mtextL
    rw [k2]
    exact wback2 h1
  · rename_i h1; exact absurd h h1
end Go.Proofs.YtjkdhdficaacaaaGreatDoor
/- Contract of the document's own May of a message. -/
namespace Go.Proofs.YtjkdhdficaacaaaGreatDoor
open Go.RowKit Go.Edi Go.Wrap Go.Lib

def cpZ (m : Ms) : Bool := decide (m.lc = 0 ∧ m.lf = 0 ∧ m.lw = 0 ∧ m.val = 0 ∧ m.st = 0 ∧ m.non = 0)
def docB (m : Ms) : Bool := hI m.kind && (decide (m.at_ < 4) && (monB m.am && (decide (0 ≤ m.code) && (decide (m.code ≤ 999) && ((if hC m.kind then cpB m else cpZ m) && ((hA m.kind || decide (m.am = 0)) && (hD m.kind || decide (m.code = 0))))))))
abbrev mC (m : Ms) : Array Value := #[.int .u8 (m.kind : Int), .int .u8 (m.car : Int), .int .u64 (m.ser : Int), .int .u8 (m.at_ : Int), .int .u8 (m.lc : Int), .int .u16 (m.lf : Int), .int .u32 (m.lw : Int), .int .i64 m.val, .int .u8 (m.st : Int), .int .u32 (m.non : Int), .int .i64 m.am, .int .i64 m.code]
set_option maxRecDepth 100000 in
set_option maxHeartbeats 12800000 in
theorem may10_any (m : Ms) (w : World) : Calls Tryz.prog 46 #[.agg (mC m)] w fun e w' => e = .returned (.bool (docB m)) ∧ Below w.heap.size w w' := by
  have HB := Lib.hid ((Below.refl w.heap.size w).alloc (Nat.le_refl _) (.cells (mC m) 36))
  have HBX := Lib.hid (at_last w (.cells (mC m) 36))
  have HM := Lib.hid (fun W => money_any m.am W)
  have HCP := Lib.hid (fun W => coupon_any m W)
  have HH := Lib.hid (fun W => has_any m.kind W)
  have hneq := neq_cp m
  rw [show decide (m.lc = 0 ∧ m.lf = 0 ∧ m.lw = 0 ∧ m.val = 0 ∧ m.st = 0 ∧ m.non = 0) = cpZ m from rfl] at hneq
  unfold docB
  have k0 : (0 : Int) ≤ (m.at_ : Int) := Int.natCast_nonneg _
  generalize hC m.kind = c at *
  generalize hA m.kind = a at *
  generalize hD m.kind = d at *
  generalize hI m.kind = i at *
  generalize monB m.am = mo at *
  generalize cpB m = cb at *
  generalize cpZ m = cz at *
  obtain ⟨kd, car, ser, at_, lc, lf, lw, val, st, non, am, code⟩ := m
  dsimp only at *
  cases i with
  | false =>
    go_enter Tryz.func46, Tryz.ntmps46
    go_wp2_with (first | (go_at_call 27; refine (HH.out _).mono ?_; rintro e w' ⟨rfl, rfl⟩) | (go_at_call 70; refine (HM.out _).mono ?_; rintro e w' ⟨rfl, rfl⟩))
    all_goals go_ret
    all_goals exact ⟨ret_bool (by first | (simp [*]; done) | (simp [*]; omega) | (simp at *; omega)), HB.out⟩
  | true =>
    by_cases h2 : at_ < 4
    · have g2 : (at_ : Int) < 4 := by omega
      cases mo with
      | false =>
        go_enter Tryz.func46, Tryz.ntmps46
        go_wp2_with (first | (go_at_call 27; refine (HH.out _).mono ?_; rintro e w' ⟨rfl, rfl⟩) | (go_at_call 70; refine (HM.out _).mono ?_; rintro e w' ⟨rfl, rfl⟩))
        all_goals go_ret
        all_goals exact ⟨ret_bool (by first | (simp [*]; done) | (simp [*]; omega) | (simp at *; omega)), HB.out⟩
      | true =>
        by_cases h4 : 0 ≤ code
        · by_cases h5 : code ≤ 999
          · cases c with
            | true =>
              cases cb with
              | false =>
                go_enter Tryz.func46, Tryz.ntmps46
                go_wp2_with (first | (go_at_call 27; refine (HH.out _).mono ?_; rintro e w' ⟨rfl, rfl⟩) | (go_at_call 70; refine (HM.out _).mono ?_; rintro e w' ⟨rfl, rfl⟩))
                refine (HCP.out _).mono ?_
                rintro e w1 ⟨rfl, hb1⟩
                have HB1 := Lib.hid (HB.out.trans (hb1.mono HB.out.size))
                have hbx := (hb1.block w.heap.size (lt_of_heap HBX.out)).trans HBX.out
                have c10 := cell_of_arr hbx 10
                have c11 := cell_of_arr hbx 11
                simp only [List.getElem?_toArray, List.getElem?_cons_zero, List.getElem?_cons_succ] at c10 c11
                clear hb1 hbx
                go_wp2
                all_goals go_ret
                all_goals exact ⟨ret_bool (by first | (simp [*]; done) | (simp [*]; omega)), HB1.out⟩
              | true =>
                cases a with
                | true =>
                  cases d with
                  | true =>
                    go_enter Tryz.func46, Tryz.ntmps46
                    go_wp2_with (first | (go_at_call 27; refine (HH.out _).mono ?_; rintro e w' ⟨rfl, rfl⟩) | (go_at_call 70; refine (HM.out _).mono ?_; rintro e w' ⟨rfl, rfl⟩))
                    refine (HCP.out _).mono ?_
                    rintro e w1 ⟨rfl, hb1⟩
                    have HB1 := Lib.hid (HB.out.trans (hb1.mono HB.out.size))
                    have hbx := (hb1.block w.heap.size (lt_of_heap HBX.out)).trans HBX.out
                    have c10 := cell_of_arr hbx 10
                    have c11 := cell_of_arr hbx 11
                    simp only [List.getElem?_toArray, List.getElem?_cons_zero, List.getElem?_cons_succ] at c10 c11
                    clear hb1 hbx
                    go_wp2
                    all_goals go_ret
                    all_goals exact ⟨ret_bool (by first | (simp [*]; done) | (simp [*]; omega)), HB1.out⟩
                  | false =>
                    by_cases h8 : code = 0
                    · subst h8
                      go_enter Tryz.func46, Tryz.ntmps46
                      go_wp2_with (first | (go_at_call 27; refine (HH.out _).mono ?_; rintro e w' ⟨rfl, rfl⟩) | (go_at_call 70; refine (HM.out _).mono ?_; rintro e w' ⟨rfl, rfl⟩))
                      refine (HCP.out _).mono ?_
                      rintro e w1 ⟨rfl, hb1⟩
                      have HB1 := Lib.hid (HB.out.trans (hb1.mono HB.out.size))
                      have hbx := (hb1.block w.heap.size (lt_of_heap HBX.out)).trans HBX.out
                      have c10 := cell_of_arr hbx 10
                      have c11 := cell_of_arr hbx 11
                      simp only [List.getElem?_toArray, List.getElem?_cons_zero, List.getElem?_cons_succ] at c10 c11
                      clear hb1 hbx
                      go_wp2
                      all_goals go_ret
                      all_goals exact ⟨ret_bool (by first | (simp [*]; done) | (simp [*]; omega)), HB1.out⟩
                    · go_enter Tryz.func46, Tryz.ntmps46
                      go_wp2_with (first | (go_at_call 27; refine (HH.out _).mono ?_; rintro e w' ⟨rfl, rfl⟩) | (go_at_call 70; refine (HM.out _).mono ?_; rintro e w' ⟨rfl, rfl⟩))
                      refine (HCP.out _).mono ?_
                      rintro e w1 ⟨rfl, hb1⟩
                      have HB1 := Lib.hid (HB.out.trans (hb1.mono HB.out.size))
                      have hbx := (hb1.block w.heap.size (lt_of_heap HBX.out)).trans HBX.out
                      have c10 := cell_of_arr hbx 10
                      have c11 := cell_of_arr hbx 11
                      simp only [List.getElem?_toArray, List.getElem?_cons_zero, List.getElem?_cons_succ] at c10 c11
                      clear hb1 hbx
                      go_wp2
                      all_goals go_ret
                      all_goals exact ⟨ret_bool (by first | (simp [*]; done) | (simp [*]; omega)), HB1.out⟩
                | false =>
                  by_cases h7 : am = 0
                  · subst h7
                    cases d with
                    | true =>
                      go_enter Tryz.func46, Tryz.ntmps46
                      go_wp2_with (first | (go_at_call 27; refine (HH.out _).mono ?_; rintro e w' ⟨rfl, rfl⟩) | (go_at_call 70; refine (HM.out _).mono ?_; rintro e w' ⟨rfl, rfl⟩))
                      refine (HCP.out _).mono ?_
                      rintro e w1 ⟨rfl, hb1⟩
                      have HB1 := Lib.hid (HB.out.trans (hb1.mono HB.out.size))
                      have hbx := (hb1.block w.heap.size (lt_of_heap HBX.out)).trans HBX.out
                      have c10 := cell_of_arr hbx 10
                      have c11 := cell_of_arr hbx 11
                      simp only [List.getElem?_toArray, List.getElem?_cons_zero, List.getElem?_cons_succ] at c10 c11
                      clear hb1 hbx
                      go_wp2
                      all_goals go_ret
                      all_goals exact ⟨ret_bool (by first | (simp [*]; done) | (simp [*]; omega)), HB1.out⟩
                    | false =>
                      by_cases h8 : code = 0
                      · subst h8
                        go_enter Tryz.func46, Tryz.ntmps46
                        go_wp2_with (first | (go_at_call 27; refine (HH.out _).mono ?_; rintro e w' ⟨rfl, rfl⟩) | (go_at_call 70; refine (HM.out _).mono ?_; rintro e w' ⟨rfl, rfl⟩))
                        refine (HCP.out _).mono ?_
                        rintro e w1 ⟨rfl, hb1⟩
                        have HB1 := Lib.hid (HB.out.trans (hb1.mono HB.out.size))
                        have hbx := (hb1.block w.heap.size (lt_of_heap HBX.out)).trans HBX.out
                        have c10 := cell_of_arr hbx 10
                        have c11 := cell_of_arr hbx 11
                        simp only [List.getElem?_toArray, List.getElem?_cons_zero, List.getElem?_cons_succ] at c10 c11
                        clear hb1 hbx
                        go_wp2
                        all_goals go_ret
                        all_goals exact ⟨ret_bool (by first | (simp [*]; done) | (simp [*]; omega)), HB1.out⟩
                      · go_enter Tryz.func46, Tryz.ntmps46
                        go_wp2_with (first | (go_at_call 27; refine (HH.out _).mono ?_; rintro e w' ⟨rfl, rfl⟩) | (go_at_call 70; refine (HM.out _).mono ?_; rintro e w' ⟨rfl, rfl⟩))
                        refine (HCP.out _).mono ?_
                        rintro e w1 ⟨rfl, hb1⟩
                        have HB1 := Lib.hid (HB.out.trans (hb1.mono HB.out.size))
                        have hbx := (hb1.block w.heap.size (lt_of_heap HBX.out)).trans HBX.out
                        have c10 := cell_of_arr hbx 10
                        have c11 := cell_of_arr hbx 11
                        simp only [List.getElem?_toArray, List.getElem?_cons_zero, List.getElem?_cons_succ] at c10 c11
                        clear hb1 hbx
                        go_wp2
                        all_goals go_ret
                        all_goals exact ⟨ret_bool (by first | (simp [*]; done) | (simp [*]; omega)), HB1.out⟩
                  · go_enter Tryz.func46, Tryz.ntmps46
                    go_wp2_with (first | (go_at_call 27; refine (HH.out _).mono ?_; rintro e w' ⟨rfl, rfl⟩) | (go_at_call 70; refine (HM.out _).mono ?_; rintro e w' ⟨rfl, rfl⟩))
                    refine (HCP.out _).mono ?_
                    rintro e w1 ⟨rfl, hb1⟩
                    have HB1 := Lib.hid (HB.out.trans (hb1.mono HB.out.size))
                    have hbx := (hb1.block w.heap.size (lt_of_heap HBX.out)).trans HBX.out
                    have c10 := cell_of_arr hbx 10
                    have c11 := cell_of_arr hbx 11
                    simp only [List.getElem?_toArray, List.getElem?_cons_zero, List.getElem?_cons_succ] at c10 c11
                    clear hb1 hbx
                    go_wp2
                    all_goals go_ret
                    all_goals exact ⟨ret_bool (by first | (simp [*]; done) | (simp [*]; omega)), HB1.out⟩
            | false =>
              cases cz with
              | false =>
                go_enter Tryz.func46, Tryz.ntmps46
                go_wp2_with (first | (go_at_call 27; refine (HH.out _).mono ?_; rintro e w' ⟨rfl, rfl⟩) | (go_at_call 70; refine (HM.out _).mono ?_; rintro e w' ⟨rfl, rfl⟩))
                all_goals go_ret
                all_goals exact ⟨ret_bool (by first | (simp [*]; done) | (simp [*]; omega) | (simp at *; omega)), HB.out⟩
              | true =>
                cases a with
                | true =>
                  cases d with
                  | true =>
                    go_enter Tryz.func46, Tryz.ntmps46
                    go_wp2_with (first | (go_at_call 27; refine (HH.out _).mono ?_; rintro e w' ⟨rfl, rfl⟩) | (go_at_call 70; refine (HM.out _).mono ?_; rintro e w' ⟨rfl, rfl⟩))
                    all_goals go_ret
                    all_goals exact ⟨ret_bool (by first | (simp [*]; done) | (simp [*]; omega) | (simp at *; omega)), HB.out⟩
                  | false =>
                    by_cases h8 : code = 0
                    · subst h8
                      go_enter Tryz.func46, Tryz.ntmps46
                      go_wp2_with (first | (go_at_call 27; refine (HH.out _).mono ?_; rintro e w' ⟨rfl, rfl⟩) | (go_at_call 70; refine (HM.out _).mono ?_; rintro e w' ⟨rfl, rfl⟩))
                      all_goals go_ret
                      all_goals exact ⟨ret_bool (by first | (simp [*]; done) | (simp [*]; omega) | (simp at *; omega)), HB.out⟩
                    · go_enter Tryz.func46, Tryz.ntmps46
                      go_wp2_with (first | (go_at_call 27; refine (HH.out _).mono ?_; rintro e w' ⟨rfl, rfl⟩) | (go_at_call 70; refine (HM.out _).mono ?_; rintro e w' ⟨rfl, rfl⟩))
                      all_goals go_ret
                      all_goals exact ⟨ret_bool (by first | (simp [*]; done) | (simp [*]; omega) | (simp at *; omega)), HB.out⟩
                | false =>
                  by_cases h7 : am = 0
                  · subst h7
                    cases d with
                    | true =>
                      go_enter Tryz.func46, Tryz.ntmps46
                      go_wp2_with (first | (go_at_call 27; refine (HH.out _).mono ?_; rintro e w' ⟨rfl, rfl⟩) | (go_at_call 70; refine (HM.out _).mono ?_; rintro e w' ⟨rfl, rfl⟩))
                      all_goals go_ret
                      all_goals exact ⟨ret_bool (by first | (simp [*]; done) | (simp [*]; omega) | (simp at *; omega)), HB.out⟩
                    | false =>
                      by_cases h8 : code = 0
                      · subst h8
                        go_enter Tryz.func46, Tryz.ntmps46
                        go_wp2_with (first | (go_at_call 27; refine (HH.out _).mono ?_; rintro e w' ⟨rfl, rfl⟩) | (go_at_call 70; refine (HM.out _).mono ?_; rintro e w' ⟨rfl, rfl⟩))
                        all_goals go_ret
                        all_goals exact ⟨ret_bool (by first | (simp [*]; done) | (simp [*]; omega) | (simp at *; omega)), HB.out⟩
                      · go_enter Tryz.func46, Tryz.ntmps46
                        go_wp2_with (first | (go_at_call 27; refine (HH.out _).mono ?_; rintro e w' ⟨rfl, rfl⟩) | (go_at_call 70; refine (HM.out _).mono ?_; rintro e w' ⟨rfl, rfl⟩))
                        all_goals go_ret
                        all_goals exact ⟨ret_bool (by first | (simp [*]; done) | (simp [*]; omega) | (simp at *; omega)), HB.out⟩
                  · go_enter Tryz.func46, Tryz.ntmps46
                    go_wp2_with (first | (go_at_call 27; refine (HH.out _).mono ?_; rintro e w' ⟨rfl, rfl⟩) | (go_at_call 70; refine (HM.out _).mono ?_; rintro e w' ⟨rfl, rfl⟩))
                    all_goals go_ret
                    all_goals exact ⟨ret_bool (by first | (simp [*]; done) | (simp [*]; omega) | (simp at *; omega)), HB.out⟩
          · go_enter Tryz.func46, Tryz.ntmps46
            go_wp2_with (first | (go_at_call 27; refine (HH.out _).mono ?_; rintro e w' ⟨rfl, rfl⟩) | (go_at_call 70; refine (HM.out _).mono ?_; rintro e w' ⟨rfl, rfl⟩))
            all_goals go_ret
            all_goals exact ⟨ret_bool (by first | (simp [*]; done) | (simp [*]; omega) | (simp at *; omega)), HB.out⟩
        · go_enter Tryz.func46, Tryz.ntmps46
          go_wp2_with (first | (go_at_call 27; refine (HH.out _).mono ?_; rintro e w' ⟨rfl, rfl⟩) | (go_at_call 70; refine (HM.out _).mono ?_; rintro e w' ⟨rfl, rfl⟩))
          all_goals go_ret
          all_goals exact ⟨ret_bool (by first | (simp [*]; done) | (simp [*]; omega) | (simp at *; omega)), HB.out⟩
    · have g2 : ¬ (at_ : Int) < 4 := by omega
      go_enter Tryz.func46, Tryz.ntmps46
      go_wp2_with (first | (go_at_call 27; refine (HH.out _).mono ?_; rintro e w' ⟨rfl, rfl⟩) | (go_at_call 70; refine (HM.out _).mono ?_; rintro e w' ⟨rfl, rfl⟩))
      all_goals go_ret
      all_goals exact ⟨ret_bool (by first | (simp [*]; done) | (simp [*]; omega) | (simp at *; omega)), HB.out⟩
end Go.Proofs.YtjkdhdficaacaaaGreatDoor
namespace Go.Proofs.YtjkdhdficaacaaaGreatDoor
open Go.RowKit Go.Edi Go.Wrap Go.Lib

theorem doc_may {m : Ms} (hm : m.Ty) : docB m = (match fdsL m.kind with | none => false | some fds => mayL m fds) := by
  by_cases hk : 1 ≤ m.kind ∧ m.kind ≤ 8
  · obtain ⟨h1, h2⟩ := hk
    have key : ∀ fds, fdsL m.kind = some fds → (docB m = true ↔ mayD m fds) → docB m = (match fdsL m.kind with | none => false | some fds => mayL m fds) := fun fds hf h => by
      rw [hf]
      simp only
      rw [Bool.eq_iff_iff, h, may_iff hm hf]
    rcases (by omega : m.kind = 1 ∨ m.kind = 2 ∨ m.kind = 3 ∨ m.kind = 4 ∨ m.kind = 5 ∨ m.kind = 6 ∨ m.kind = 7 ∨ m.kind = 8) with hk | hk | hk | hk | hk | hk | hk | hk
    · exact key [] (by rw [hk]; rfl) (by unfold docB mayD; simp [hk, hC, hA, hD, hI, cpZ, monB, cpnNo]; omega)
    · exact key [.cpn] (by rw [hk]; rfl) (by unfold docB mayD; simp [hk, hC, hA, hD, hI, cpB, monB, cpnOk]; omega)
    · exact key [.cod] (by rw [hk]; rfl) (by unfold docB mayD; simp [hk, hC, hA, hD, hI, cpZ, monB, cpnNo, codOk]; omega)
    · exact key [] (by rw [hk]; rfl) (by unfold docB mayD; simp [hk, hC, hA, hD, hI, cpZ, monB, cpnNo]; omega)
    · exact key [.cpn] (by rw [hk]; rfl) (by unfold docB mayD; simp [hk, hC, hA, hD, hI, cpB, monB, cpnOk]; omega)
    · exact key [.amt] (by rw [hk]; rfl) (by unfold docB mayD; simp [hk, hC, hA, hD, hI, cpZ, monB, cpnNo, amtOk]; omega)
    · exact key [.amt] (by rw [hk]; rfl) (by unfold docB mayD; simp [hk, hC, hA, hD, hI, cpZ, monB, cpnNo, amtOk]; omega)
    · exact key [.amt, .cod] (by rw [hk]; rfl) (by unfold docB mayD; simp [hk, hC, hA, hD, hI, cpZ, monB, cpnNo, amtOk, codOk]; omega)
  · have hn : fdsL m.kind = none := by
      cases h : fdsL m.kind with
      | none => rfl
      | some fds => have := fds_kind h; omega
    rw [hn]
    have hi : hI m.kind = false := by simp [hI]; omega
    unfold docB
    rw [hi]
    rfl
end Go.Proofs.YtjkdhdficaacaaaGreatDoor
