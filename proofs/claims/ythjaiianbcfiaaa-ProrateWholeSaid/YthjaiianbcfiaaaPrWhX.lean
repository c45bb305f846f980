/- The walk of ProrateWhole where it shares out. -/
import Derived.Test.YthjaiianbcfiaaaPrWhW
namespace Go.Proofs.Ythjaiianbcfiaaa
open Go.Shelf Go.RowKit Go.Lib Go.Sort Go.Stb Go.Money Go.Pror

set_option maxRecDepth 100000 in
set_option maxHeartbeats 6400000 in
theorem prwhole_good (A : Nat) (ws : List Nat) (p : Option Addr) (cap : Nat) (w : World) (hN : Nums w .u32 p (ints ws)) (hw : ∀ x ∈ ws, x ≤ 4294967295) (h64 : ¬ 64 < ws.length) (h0 : ws.sum ≠ 0) (hA : (A : Int) ≤ 1125899906842624) :
    Calls Try.prog 4 #[.int .i64 (A : Int), .slice p ws.length cap] w fun e w' => e = .returned (.bool true) ∧ Below w.heap.size w w' := by
  have HS := Lib.hid (by
    have := share_is (shareR_ok h64 h0 hA) p cap w hN hw
    rw [ints_len, share_len] at this; exact this)
  have HN := Lib.hid hN
  have HW := Lib.hid hw
  have HA := Lib.hid (show A ≤ 1125899906842624 by omega)
  have hl : (ws.length : Int) ≤ 64 := by omega
  have h64b : decide ((ws.length : Int) > 64) = false := decide_eq_false (by omega)
  have HD0 := Lib.hid (show 0 < ws.sum by omega)
  have HDB := Lib.hid (show ws.sum ≤ 274877906880 by have := sum_bound ws hw; omega)
  have HP := Lib.hid (fun (k : Nat) (hk : k < ws.length) (w : World) => part_some A (ws.getD k 0) ws.sum w hA (by have := whole_bd (A := A) HD0.out hk; omega) (by have := HD0.out; omega) (by have := HDB.out; omega))
  have HSUM := Lib.hid (fun (q : Option Addr) (c : Nat) (w : World) (h : Nums w .i64 q (ints (shareL A ws))) => by
    have h1 := sum_any (ints (shareL A ws)) q c w h (by rw [ints_len, share_len]; omega)
    have h2 := sum_ints (shareL A ws) 0 (by rw [share_sum A ws HD0.out]; have := HA.out; omega)
    rw [share_sum A ws HD0.out, Nat.zero_add] at h2
    rw [ints_len, share_len] at h1
    rw [show (0 : Int) = ((0 : Nat) : Int) from rfl, h2] at h1
    exact h1)
  have A0 : (0 : Int) ≤ (A : Int) := Int.natCast_nonneg _
  clear hN hw h64 h0
  go_enter Try.func4, Try.ntmps4
  go_wp2_with fail
  refine (HS.out).mono ?_
  rintro e w3 ⟨q, c3, rfl, hc3, hn3, hb3⟩
  have HB3 := Lib.hid hb3
  have HN3 := Lib.hid (HN.out.keep hb3)
  have HM3 := Lib.hid hn3
  clear hc3 hn3 hb3
  go_wp2_with fail
  go_loopw [7, 8] (fun s i wr => ∃ (k x : Nat), i = .int .i64 k ∧ s = .int .i64 x ∧ k ≤ ws.length ∧ Hid (x = (ws.take k).sum) ∧ w3 = wr) (fun _ i _ => ws.length - (intOf i).toNat)
  case atStart => exact ⟨0, 0, rfl, rfl, Nat.zero_le _, by show _ = _; simp, rfl⟩
  case round =>
    obtain ⟨k, x, rfl, rfl, hk, hx, rfl⟩ := hrel
    have HX := Lib.hid hx.out
    clear hx
    by_cases hlt : (k : Int) < (ws.length : Int)
    · have hk0 : (0 : Int) ≤ (k : Int) := Int.natCast_nonneg _
      obtain ⟨b, o, rfl, hb, hcell⟩ := kcell HN3.out (j := k) (by omega)
      obtain ⟨y, hy⟩ : ∃ y, y = x + ws.getD k 0 := ⟨_, rfl⟩
      have e1 := sum_take_succ ws k (by omega)
      have e2 := sum_take_le ws (k + 1)
      have e3 := HX.out
      have e4 := HDB.out
      have b1 : ((ws.getD k 0 : Nat) : Int) ≤ 4294967295 := by have := HW.out _ (getD_mem (l := ws) (k := k) (by omega)); omega
      have ey : (x : Int) + ((ws.getD k 0 : Nat) : Int) = (y : Int) := by omega
      have yb : (y : Int) ≤ 274877906880 := by omega
      have y0 : (0 : Int) ≤ (y : Int) := Int.natCast_nonneg _
      have HY := Lib.hid (show y = (ws.take (k + 1)).sum by omega)
      clear e1 e2 e3 e4 hy
      generalize ws.getD k 0 = a at *
      have a0 : (0 : Int) ≤ (a : Int) := Int.natCast_nonneg _
      go_wp2
      go_roundw
      case rel => exact ⟨k + 1, y, by go_num, rfl, by omega, HY.out, trivial⟩
      case measure => simp [intOf]; omega
    · obtain rfl : k = ws.length := by omega
      have hx := HX.out
      rw [List.take_length] at hx
      obtain ⟨D, hD⟩ : ∃ D, D = ws.sum := ⟨_, rfl⟩
      obtain rfl : x = D := hx.trans hD.symm
      have HDD := Lib.hid hD
      rw [← hD] at HP
      clear hD hx HX hlt
      go_wp2_with fail
      refine (HSUM.out _ _ _ HM3.out).mono ?_
      rintro e w' ⟨rfl, rfl⟩
      simp only [pv, pairV]
      go_wp2_with fail
      go_loopw [11, 12, 13, 14, 15] (fun i _ _ _ _ wx => ∃ (j : Nat), i = .int .i64 j ∧ j ≤ ws.length ∧ Hid (Below w3.heap.size w3 wx)) (fun i _ _ _ _ _ => ws.length - (intOf i).toNat)
      case atStart => exact ⟨0, rfl, Nat.zero_le _, Below.refl _ _⟩
      case round =>
        obtain ⟨j, rfl, hj, hbw⟩ := hrel
        have HBW := Lib.hid hbw.out
        clear hbw
        rename World => wr
        by_cases hlt : (j : Int) < (ws.length : Int)
        · have hj0 : (0 : Int) ≤ (j : Int) := Int.natCast_nonneg _
          have hjl : j < ws.length := by omega
          obtain ⟨b1, o1, rfl, g1, cw⟩ := kcell HN3.out hjl
          obtain ⟨b2, o2, rfl, g2, cl⟩ := kcell HM3.out (j := j) (by rw [share_len]; exact hjl)
          have HCW := Lib.hid (show ∀ (t : Nat), t < ws.length → ∀ wx, Below w3.heap.size w3 wx → wx.cell? ⟨b1, o1 + t, none⟩ = some (.int .u32 ((ws.getD t 0 : Nat) : Int)) from fun t ht wx hbx => by
            obtain ⟨b, o, e, _, c⟩ := kcell HN3.out ht
            simp only [Option.some.injEq, Addr.mk.injEq] at e
            obtain ⟨rfl, rfl, _⟩ := e
            exact (hbx.cell (p := ⟨b1, o1 + t, none⟩) g1).trans c)
          have HCL := Lib.hid (show ∀ (t : Nat), t < ws.length → ∀ wx, Below w3.heap.size w3 wx → wx.cell? ⟨b2, o2 + t, none⟩ = some (.int .i64 (((shareL A ws).getD t 0 : Nat) : Int)) from fun t ht wx hbx => by
            obtain ⟨b, o, e, _, c⟩ := kcell HM3.out (j := t) (by rw [share_len]; exact ht)
            simp only [Option.some.injEq, Addr.mk.injEq] at e
            obtain ⟨rfl, rfl, _⟩ := e
            exact (hbx.cell (p := ⟨b2, o2 + t, none⟩) g2).trans c)
          clear cw cl g1 g2
          have c1 := HCW.out j hjl wr HBW.out
          obtain ⟨a, ha⟩ : ∃ a, ws.getD j 0 = a := ⟨_, rfl⟩
          have ab := HW.out _ (getD_mem hjl)
          have hP := HP.out j hjl
          rw [ha] at c1 ab hP
          obtain ⟨X, hX⟩ : ∃ X, A * a / x = X := ⟨_, rfl⟩
          obtain ⟨Y, hY⟩ : ∃ Y, A * a % x = Y := ⟨_, rfl⟩
          obtain ⟨z, hz⟩ : ∃ z, (shareL A ws).getD j 0 = z := ⟨_, rfl⟩
          have hone := one_share A ws HD0.out j hjl a X Y z ha (by rw [← HDD.out]; exact hX) (by rw [← HDD.out]; exact hY) hz
          have zb : z ≤ 1125899906842624 := by
            have h1 := sum_take_succ (shareL A ws) j (by rw [share_len]; exact hjl)
            have h2 := sum_take_le (shareL A ws) (j + 1)
            rw [share_sum A ws HD0.out] at h2
            rw [hz] at h1
            have := HA.out
            omega
          rw [hX, hY] at hP
          have HPJ := Lib.hid hP
          have a0 : (0 : Int) ≤ (a : Int) := Int.natCast_nonneg _
          have a1 : (a : Int) ≤ 4294967295 := by omega
          have zb' : (z : Int) ≤ 1125899906842624 := by omega
          have z0 : (0 : Int) ≤ (z : Int) := Int.natCast_nonneg _
          have HAJ := Lib.hid ha
          have HZJ := Lib.hid hz
          clear ha hX hY hz hP ab zb
          go_wp2_with fail
          refine (HPJ.out _).mono ?_
          rintro e w4 ⟨rfl, hb4⟩
          have HB4 := Lib.hid (HBW.out.trans (hb4.mono HBW.out.size))
          have d1 := HCW.out j hjl w4 HB4.out
          have d2 := HCL.out j hjl w4 HB4.out
          rw [HAJ.out] at d1
          rw [HZJ.out] at d2
          clear hb4 c1
          -- the same inner loop behind each of the four ways
          have inner : True := trivial
          rcases hone with ⟨rfl, rfl, rfl, rfl⟩ | ⟨ha, rfl, rfl⟩ | ⟨ha, hy, rfl⟩ | ⟨ha, hy, hz⟩
          · skip
            go_wp2_with fail
            go_loopw [15] (fun i wx => ∃ (k n : Nat), i = .int .i64 k ∧ k ≤ ws.length ∧ wx = w4.drewN n) (fun i _ => ws.length - (intOf i).toNat)
            case atStart => exact ⟨0, 0, rfl, Nat.zero_le _, (World.drewN_zero w4).symm⟩
            case round =>
              obtain ⟨k, n, rfl, hk, rfl⟩ := hrel
              by_cases hlt2 : (k : Int) < (ws.length : Int)
              · have hkl : k < ws.length := by omega
                have hk0 : (0 : Int) ≤ (k : Int) := Int.natCast_nonneg _
                have f1 := HCW.out k hkl w4 HB4.out
                have f2 := HCL.out k hkl w4 HB4.out
                obtain ⟨a2, ha2⟩ : ∃ a2, ws.getD k 0 = a2 := ⟨_, rfl⟩
                obtain ⟨z2, hz2⟩ : ∃ z2, (shareL A ws).getD k 0 = z2 := ⟨_, rfl⟩
                have hmo := share_more A ws hjl hkl
                have hfi := fun (h : j < k) => share_first A ws h hkl
                rw [HAJ.out, HZJ.out, ha2, hz2] at hmo
                rw [HAJ.out, HZJ.out, ha2, hz2] at hfi
                rw [ha2] at f1
                rw [hz2] at f2
                have e1 : (w4.drewN n).cell? ⟨b1, o1 + j, none⟩ = some (.int .u32 (((0 : Nat)) : Int)) := d1
                have e2 : (w4.drewN n).cell? ⟨b2, o2 + j, none⟩ = some (.int .i64 (((0 : Nat)) : Int)) := d2
                have e3 : (w4.drewN n).cell? ⟨b1, o1 + k, none⟩ = some (.int .u32 (a2 : Int)) := f1
                have e4 : (w4.drewN n).cell? ⟨b2, o2 + k, none⟩ = some (.int .i64 (z2 : Int)) := f2
                obtain ⟨av, hav⟩ : ∃ av : Int, av = ((0 : Nat) : Int) := ⟨_, rfl⟩
                obtain ⟨zv, hzv⟩ : ∃ zv : Int, zv = ((0 : Nat) : Int) := ⟨_, rfl⟩
                obtain ⟨aw, haw⟩ : ∃ aw : Int, aw = (a2 : Int) := ⟨_, rfl⟩
                obtain ⟨zw, hzw⟩ : ∃ zw : Int, zw = (z2 : Int) := ⟨_, rfl⟩
                have hmo' : av < aw → zv ≤ zw := fun h => by have := hmo (by omega); omega
                have hfi' : j < k → av = aw → zw ≤ zv := fun h e => by have := hfi h (by omega); omega
                replace e1 : (w4.drewN n).cell? ⟨b1, o1 + j, none⟩ = some (.int .u32 av) := by rw [hav]; exact e1
                replace e2 : (w4.drewN n).cell? ⟨b2, o2 + j, none⟩ = some (.int .i64 zv) := by rw [hzv]; exact e2
                replace e3 : (w4.drewN n).cell? ⟨b1, o1 + k, none⟩ = some (.int .u32 aw) := by rw [haw]; exact e3
                replace e4 : (w4.drewN n).cell? ⟨b2, o2 + k, none⟩ = some (.int .i64 zw) := by rw [hzw]; exact e4
                clear f1 f2 ha2 hz2 hav hzv haw hzw hmo hfi
                generalize hwq : w4.drewN n = wq at e1 e2 e3 e4 ⊢
                have HWQ : Hid (wq = w4.drewN n) := hwq.symm
                clear hwq
                rcases Int.lt_trichotomy av aw with hc | hc | hc
                · have q1 : decide (av < aw) = true := decide_eq_true (by omega)
                  have q2 : decide (zv > zw) = false := decide_eq_false (by have := hmo' hc; omega)
                  have q3 : (av == aw) = false := by rw [beq_eq_false_iff_ne]; omega
                  clear hmo' hfi' hc
                  go_wp2_with fail
                  go_quiet (fail)
                  go_wp2_with fail
                  go_roundw
                  case rel => exact ⟨k + 1, n + nq, by go_num, by omega, by rw [HWQ.out, World.drewN_drewN]⟩
                  case measure => simp [intOf]; omega
                · have q1 : decide (av < aw) = false := decide_eq_false (by omega)
                  have q3 : (av == aw) = true := by rw [beq_iff_eq]; omega
                  by_cases hjk : (j : Int) < (k : Int)
                  · have q4 : decide (zv < zw) = false := decide_eq_false (by have := hfi' (by omega) hc; omega)
                    clear hmo' hfi' hc
                    go_wp2_with fail
                    go_quiet (fail)
                    go_wp2_with fail
                    go_roundw
                    case rel => exact ⟨k + 1, n + nq, by go_num, by omega, by rw [HWQ.out, World.drewN_drewN]⟩
                    case measure => simp [intOf]; omega
                  · have q4 : decide (j < k) = false := decide_eq_false (by omega)
                    clear hmo' hfi' hc hjk
                    go_wp2_with fail
                    go_quiet (fail)
                    go_wp2_with fail
                    go_roundw
                    case rel => exact ⟨k + 1, n + nq, by go_num, by omega, by rw [HWQ.out, World.drewN_drewN]⟩
                    case measure => simp [intOf]; omega
                · have q1 : decide (av < aw) = false := decide_eq_false (by omega)
                  have q3 : (av == aw) = false := by rw [beq_eq_false_iff_ne]; omega
                  clear hmo' hfi' hc
                  go_wp2_with fail
                  go_quiet (fail)
                  go_wp2_with fail
                  go_roundw
                  case rel => exact ⟨k + 1, n + nq, by go_num, by omega, by rw [HWQ.out, World.drewN_drewN]⟩
                  case measure => simp [intOf]; omega
              · go_wp2
                go_roundw
                case rel => exact ⟨j + 1, by go_num, by omega, below_drewN HB4.out n⟩
                case measure => simp [intOf]; omega
          · have h1 : ((a : Int) == 0) = false := by rw [beq_eq_false_iff_ne]; omega
            go_wp2_with fail
            go_loopw [15] (fun i wx => ∃ (k n : Nat), i = .int .i64 k ∧ k ≤ ws.length ∧ wx = w4.drewN n) (fun i _ => ws.length - (intOf i).toNat)
            case atStart => exact ⟨0, 0, rfl, Nat.zero_le _, (World.drewN_zero w4).symm⟩
            case round =>
              obtain ⟨k, n, rfl, hk, rfl⟩ := hrel
              by_cases hlt2 : (k : Int) < (ws.length : Int)
              · have hkl : k < ws.length := by omega
                have hk0 : (0 : Int) ≤ (k : Int) := Int.natCast_nonneg _
                have f1 := HCW.out k hkl w4 HB4.out
                have f2 := HCL.out k hkl w4 HB4.out
                obtain ⟨a2, ha2⟩ : ∃ a2, ws.getD k 0 = a2 := ⟨_, rfl⟩
                obtain ⟨z2, hz2⟩ : ∃ z2, (shareL A ws).getD k 0 = z2 := ⟨_, rfl⟩
                have hmo := share_more A ws hjl hkl
                have hfi := fun (h : j < k) => share_first A ws h hkl
                rw [HAJ.out, HZJ.out, ha2, hz2] at hmo
                rw [HAJ.out, HZJ.out, ha2, hz2] at hfi
                rw [ha2] at f1
                rw [hz2] at f2
                have e1 : (w4.drewN n).cell? ⟨b1, o1 + j, none⟩ = some (.int .u32 (((a : Nat)) : Int)) := d1
                have e2 : (w4.drewN n).cell? ⟨b2, o2 + j, none⟩ = some (.int .i64 (((z : Nat)) : Int)) := d2
                have e3 : (w4.drewN n).cell? ⟨b1, o1 + k, none⟩ = some (.int .u32 (a2 : Int)) := f1
                have e4 : (w4.drewN n).cell? ⟨b2, o2 + k, none⟩ = some (.int .i64 (z2 : Int)) := f2
                obtain ⟨av, hav⟩ : ∃ av : Int, av = ((a : Nat) : Int) := ⟨_, rfl⟩
                obtain ⟨zv, hzv⟩ : ∃ zv : Int, zv = ((z : Nat) : Int) := ⟨_, rfl⟩
                obtain ⟨aw, haw⟩ : ∃ aw : Int, aw = (a2 : Int) := ⟨_, rfl⟩
                obtain ⟨zw, hzw⟩ : ∃ zw : Int, zw = (z2 : Int) := ⟨_, rfl⟩
                have hmo' : av < aw → zv ≤ zw := fun h => by have := hmo (by omega); omega
                have hfi' : j < k → av = aw → zw ≤ zv := fun h e => by have := hfi h (by omega); omega
                replace e1 : (w4.drewN n).cell? ⟨b1, o1 + j, none⟩ = some (.int .u32 av) := by rw [hav]; exact e1
                replace e2 : (w4.drewN n).cell? ⟨b2, o2 + j, none⟩ = some (.int .i64 zv) := by rw [hzv]; exact e2
                replace e3 : (w4.drewN n).cell? ⟨b1, o1 + k, none⟩ = some (.int .u32 aw) := by rw [haw]; exact e3
                replace e4 : (w4.drewN n).cell? ⟨b2, o2 + k, none⟩ = some (.int .i64 zw) := by rw [hzw]; exact e4
                clear f1 f2 ha2 hz2 hav hzv haw hzw hmo hfi
                generalize hwq : w4.drewN n = wq at e1 e2 e3 e4 ⊢
                have HWQ : Hid (wq = w4.drewN n) := hwq.symm
                clear hwq
                rcases Int.lt_trichotomy av aw with hc | hc | hc
                · have q1 : decide (av < aw) = true := decide_eq_true (by omega)
                  have q2 : decide (zv > zw) = false := decide_eq_false (by have := hmo' hc; omega)
                  have q3 : (av == aw) = false := by rw [beq_eq_false_iff_ne]; omega
                  clear hmo' hfi' hc
                  go_wp2_with fail
                  go_quiet (fail)
                  go_wp2_with fail
                  go_roundw
                  case rel => exact ⟨k + 1, n + nq, by go_num, by omega, by rw [HWQ.out, World.drewN_drewN]⟩
                  case measure => simp [intOf]; omega
                · have q1 : decide (av < aw) = false := decide_eq_false (by omega)
                  have q3 : (av == aw) = true := by rw [beq_iff_eq]; omega
                  by_cases hjk : (j : Int) < (k : Int)
                  · have q4 : decide (zv < zw) = false := decide_eq_false (by have := hfi' (by omega) hc; omega)
                    clear hmo' hfi' hc
                    go_wp2_with fail
                    go_quiet (fail)
                    go_wp2_with fail
                    go_roundw
                    case rel => exact ⟨k + 1, n + nq, by go_num, by omega, by rw [HWQ.out, World.drewN_drewN]⟩
                    case measure => simp [intOf]; omega
                  · have q4 : decide (j < k) = false := decide_eq_false (by omega)
                    clear hmo' hfi' hc hjk
                    go_wp2_with fail
                    go_quiet (fail)
                    go_wp2_with fail
                    go_roundw
                    case rel => exact ⟨k + 1, n + nq, by go_num, by omega, by rw [HWQ.out, World.drewN_drewN]⟩
                    case measure => simp [intOf]; omega
                · have q1 : decide (av < aw) = false := decide_eq_false (by omega)
                  have q3 : (av == aw) = false := by rw [beq_eq_false_iff_ne]; omega
                  clear hmo' hfi' hc
                  go_wp2_with fail
                  go_quiet (fail)
                  go_wp2_with fail
                  go_roundw
                  case rel => exact ⟨k + 1, n + nq, by go_num, by omega, by rw [HWQ.out, World.drewN_drewN]⟩
                  case measure => simp [intOf]; omega
              · go_wp2
                go_roundw
                case rel => exact ⟨j + 1, by go_num, by omega, below_drewN HB4.out n⟩
                case measure => simp [intOf]; omega
          · have h1 : ((a : Int) == 0) = false := by rw [beq_eq_false_iff_ne]; omega
            have h2 : ((Y : Int) == 0) = false := by rw [beq_eq_false_iff_ne]; omega
            go_wp2_with fail
            go_loopw [15] (fun i wx => ∃ (k n : Nat), i = .int .i64 k ∧ k ≤ ws.length ∧ wx = w4.drewN n) (fun i _ => ws.length - (intOf i).toNat)
            case atStart => exact ⟨0, 0, rfl, Nat.zero_le _, (World.drewN_zero w4).symm⟩
            case round =>
              obtain ⟨k, n, rfl, hk, rfl⟩ := hrel
              by_cases hlt2 : (k : Int) < (ws.length : Int)
              · have hkl : k < ws.length := by omega
                have hk0 : (0 : Int) ≤ (k : Int) := Int.natCast_nonneg _
                have f1 := HCW.out k hkl w4 HB4.out
                have f2 := HCL.out k hkl w4 HB4.out
                obtain ⟨a2, ha2⟩ : ∃ a2, ws.getD k 0 = a2 := ⟨_, rfl⟩
                obtain ⟨z2, hz2⟩ : ∃ z2, (shareL A ws).getD k 0 = z2 := ⟨_, rfl⟩
                have hmo := share_more A ws hjl hkl
                have hfi := fun (h : j < k) => share_first A ws h hkl
                rw [HAJ.out, HZJ.out, ha2, hz2] at hmo
                rw [HAJ.out, HZJ.out, ha2, hz2] at hfi
                rw [ha2] at f1
                rw [hz2] at f2
                have e1 : (w4.drewN n).cell? ⟨b1, o1 + j, none⟩ = some (.int .u32 (((a : Nat)) : Int)) := d1
                have e2 : (w4.drewN n).cell? ⟨b2, o2 + j, none⟩ = some (.int .i64 (((z : Nat)) : Int)) := d2
                have e3 : (w4.drewN n).cell? ⟨b1, o1 + k, none⟩ = some (.int .u32 (a2 : Int)) := f1
                have e4 : (w4.drewN n).cell? ⟨b2, o2 + k, none⟩ = some (.int .i64 (z2 : Int)) := f2
                obtain ⟨av, hav⟩ : ∃ av : Int, av = ((a : Nat) : Int) := ⟨_, rfl⟩
                obtain ⟨zv, hzv⟩ : ∃ zv : Int, zv = ((z : Nat) : Int) := ⟨_, rfl⟩
                obtain ⟨aw, haw⟩ : ∃ aw : Int, aw = (a2 : Int) := ⟨_, rfl⟩
                obtain ⟨zw, hzw⟩ : ∃ zw : Int, zw = (z2 : Int) := ⟨_, rfl⟩
                have hmo' : av < aw → zv ≤ zw := fun h => by have := hmo (by omega); omega
                have hfi' : j < k → av = aw → zw ≤ zv := fun h e => by have := hfi h (by omega); omega
                replace e1 : (w4.drewN n).cell? ⟨b1, o1 + j, none⟩ = some (.int .u32 av) := by rw [hav]; exact e1
                replace e2 : (w4.drewN n).cell? ⟨b2, o2 + j, none⟩ = some (.int .i64 zv) := by rw [hzv]; exact e2
                replace e3 : (w4.drewN n).cell? ⟨b1, o1 + k, none⟩ = some (.int .u32 aw) := by rw [haw]; exact e3
                replace e4 : (w4.drewN n).cell? ⟨b2, o2 + k, none⟩ = some (.int .i64 zw) := by rw [hzw]; exact e4
                clear f1 f2 ha2 hz2 hav hzv haw hzw hmo hfi
                generalize hwq : w4.drewN n = wq at e1 e2 e3 e4 ⊢
                have HWQ : Hid (wq = w4.drewN n) := hwq.symm
                clear hwq
                rcases Int.lt_trichotomy av aw with hc | hc | hc
                · have q1 : decide (av < aw) = true := decide_eq_true (by omega)
                  have q2 : decide (zv > zw) = false := decide_eq_false (by have := hmo' hc; omega)
                  have q3 : (av == aw) = false := by rw [beq_eq_false_iff_ne]; omega
                  clear hmo' hfi' hc
                  go_wp2_with fail
                  go_quiet (fail)
                  go_wp2_with fail
                  go_roundw
                  case rel => exact ⟨k + 1, n + nq, by go_num, by omega, by rw [HWQ.out, World.drewN_drewN]⟩
                  case measure => simp [intOf]; omega
                · have q1 : decide (av < aw) = false := decide_eq_false (by omega)
                  have q3 : (av == aw) = true := by rw [beq_iff_eq]; omega
                  by_cases hjk : (j : Int) < (k : Int)
                  · have q4 : decide (zv < zw) = false := decide_eq_false (by have := hfi' (by omega) hc; omega)
                    clear hmo' hfi' hc
                    go_wp2_with fail
                    go_quiet (fail)
                    go_wp2_with fail
                    go_roundw
                    case rel => exact ⟨k + 1, n + nq, by go_num, by omega, by rw [HWQ.out, World.drewN_drewN]⟩
                    case measure => simp [intOf]; omega
                  · have q4 : decide (j < k) = false := decide_eq_false (by omega)
                    clear hmo' hfi' hc hjk
                    go_wp2_with fail
                    go_quiet (fail)
                    go_wp2_with fail
                    go_roundw
                    case rel => exact ⟨k + 1, n + nq, by go_num, by omega, by rw [HWQ.out, World.drewN_drewN]⟩
                    case measure => simp [intOf]; omega
                · have q1 : decide (av < aw) = false := decide_eq_false (by omega)
                  have q3 : (av == aw) = false := by rw [beq_eq_false_iff_ne]; omega
                  clear hmo' hfi' hc
                  go_wp2_with fail
                  go_quiet (fail)
                  go_wp2_with fail
                  go_roundw
                  case rel => exact ⟨k + 1, n + nq, by go_num, by omega, by rw [HWQ.out, World.drewN_drewN]⟩
                  case measure => simp [intOf]; omega
              · go_wp2
                go_roundw
                case rel => exact ⟨j + 1, by go_num, by omega, below_drewN HB4.out n⟩
                case measure => simp [intOf]; omega
          · have h1 : ((a : Int) == 0) = false := by rw [beq_eq_false_iff_ne]; omega
            have h2 : ((Y : Int) == 0) = false := by rw [beq_eq_false_iff_ne]; omega
            have h3 : ((z : Int) == (X : Int)) = false := by rw [beq_eq_false_iff_ne]; omega
            have h4 : (X : Int) + 1 = (z : Int) := by omega
            clear hz
            go_wp2_with fail
            go_loopw [15] (fun i wx => ∃ (k n : Nat), i = .int .i64 k ∧ k ≤ ws.length ∧ wx = w4.drewN n) (fun i _ => ws.length - (intOf i).toNat)
            case atStart => exact ⟨0, 0, rfl, Nat.zero_le _, (World.drewN_zero w4).symm⟩
            case round =>
              obtain ⟨k, n, rfl, hk, rfl⟩ := hrel
              by_cases hlt2 : (k : Int) < (ws.length : Int)
              · have hkl : k < ws.length := by omega
                have hk0 : (0 : Int) ≤ (k : Int) := Int.natCast_nonneg _
                have f1 := HCW.out k hkl w4 HB4.out
                have f2 := HCL.out k hkl w4 HB4.out
                obtain ⟨a2, ha2⟩ : ∃ a2, ws.getD k 0 = a2 := ⟨_, rfl⟩
                obtain ⟨z2, hz2⟩ : ∃ z2, (shareL A ws).getD k 0 = z2 := ⟨_, rfl⟩
                have hmo := share_more A ws hjl hkl
                have hfi := fun (h : j < k) => share_first A ws h hkl
                rw [HAJ.out, HZJ.out, ha2, hz2] at hmo
                rw [HAJ.out, HZJ.out, ha2, hz2] at hfi
                rw [ha2] at f1
                rw [hz2] at f2
                have e1 : (w4.drewN n).cell? ⟨b1, o1 + j, none⟩ = some (.int .u32 (((a : Nat)) : Int)) := d1
                have e2 : (w4.drewN n).cell? ⟨b2, o2 + j, none⟩ = some (.int .i64 (((z : Nat)) : Int)) := d2
                have e3 : (w4.drewN n).cell? ⟨b1, o1 + k, none⟩ = some (.int .u32 (a2 : Int)) := f1
                have e4 : (w4.drewN n).cell? ⟨b2, o2 + k, none⟩ = some (.int .i64 (z2 : Int)) := f2
                obtain ⟨av, hav⟩ : ∃ av : Int, av = ((a : Nat) : Int) := ⟨_, rfl⟩
                obtain ⟨zv, hzv⟩ : ∃ zv : Int, zv = ((z : Nat) : Int) := ⟨_, rfl⟩
                obtain ⟨aw, haw⟩ : ∃ aw : Int, aw = (a2 : Int) := ⟨_, rfl⟩
                obtain ⟨zw, hzw⟩ : ∃ zw : Int, zw = (z2 : Int) := ⟨_, rfl⟩
                have hmo' : av < aw → zv ≤ zw := fun h => by have := hmo (by omega); omega
                have hfi' : j < k → av = aw → zw ≤ zv := fun h e => by have := hfi h (by omega); omega
                replace e1 : (w4.drewN n).cell? ⟨b1, o1 + j, none⟩ = some (.int .u32 av) := by rw [hav]; exact e1
                replace e2 : (w4.drewN n).cell? ⟨b2, o2 + j, none⟩ = some (.int .i64 zv) := by rw [hzv]; exact e2
                replace e3 : (w4.drewN n).cell? ⟨b1, o1 + k, none⟩ = some (.int .u32 aw) := by rw [haw]; exact e3
                replace e4 : (w4.drewN n).cell? ⟨b2, o2 + k, none⟩ = some (.int .i64 zw) := by rw [hzw]; exact e4
                clear f1 f2 ha2 hz2 hav hzv haw hzw hmo hfi
                generalize hwq : w4.drewN n = wq at e1 e2 e3 e4 ⊢
                have HWQ : Hid (wq = w4.drewN n) := hwq.symm
                clear hwq
                rcases Int.lt_trichotomy av aw with hc | hc | hc
                · have q1 : decide (av < aw) = true := decide_eq_true (by omega)
                  have q2 : decide (zv > zw) = false := decide_eq_false (by have := hmo' hc; omega)
                  have q3 : (av == aw) = false := by rw [beq_eq_false_iff_ne]; omega
                  clear hmo' hfi' hc
                  go_wp2_with fail
                  go_quiet (fail)
                  go_wp2_with fail
                  go_roundw
                  case rel => exact ⟨k + 1, n + nq, by go_num, by omega, by rw [HWQ.out, World.drewN_drewN]⟩
                  case measure => simp [intOf]; omega
                · have q1 : decide (av < aw) = false := decide_eq_false (by omega)
                  have q3 : (av == aw) = true := by rw [beq_iff_eq]; omega
                  by_cases hjk : (j : Int) < (k : Int)
                  · have q4 : decide (zv < zw) = false := decide_eq_false (by have := hfi' (by omega) hc; omega)
                    clear hmo' hfi' hc
                    go_wp2_with fail
                    go_quiet (fail)
                    go_wp2_with fail
                    go_roundw
                    case rel => exact ⟨k + 1, n + nq, by go_num, by omega, by rw [HWQ.out, World.drewN_drewN]⟩
                    case measure => simp [intOf]; omega
                  · have q4 : decide (j < k) = false := decide_eq_false (by omega)
                    clear hmo' hfi' hc hjk
                    go_wp2_with fail
                    go_quiet (fail)
                    go_wp2_with fail
                    go_roundw
                    case rel => exact ⟨k + 1, n + nq, by go_num, by omega, by rw [HWQ.out, World.drewN_drewN]⟩
                    case measure => simp [intOf]; omega
                · have q1 : decide (av < aw) = false := decide_eq_false (by omega)
                  have q3 : (av == aw) = false := by rw [beq_eq_false_iff_ne]; omega
                  clear hmo' hfi' hc
                  go_wp2_with fail
                  go_quiet (fail)
                  go_wp2_with fail
                  go_roundw
                  case rel => exact ⟨k + 1, n + nq, by go_num, by omega, by rw [HWQ.out, World.drewN_drewN]⟩
                  case measure => simp [intOf]; omega
              · go_wp2
                go_roundw
                case rel => exact ⟨j + 1, by go_num, by omega, below_drewN HB4.out n⟩
                case measure => simp [intOf]; omega
        · go_wp2_with (go_at_call 8; refine (prwakes_any _).mono ?_; rintro e w5 ⟨rfl, hb5⟩)
          go_ret
          exact ⟨rfl, HB3.out.trans ((HBW.out.trans (hb5.mono HBW.out.size)).mono HB3.out.size)⟩
theorem prwhole_any (t : Int) (ws : List Nat) (p : Option Addr) (cap : Nat) (w : World) (hN : Nums w .u32 p (ints ws)) (hw : ∀ x ∈ ws, x ≤ 4294967295) :
    Calls Try.prog 4 #[.int .i64 t, .slice p ws.length cap] w fun e w' => e = .returned (.bool true) ∧ Below w.heap.size w w' := by
  by_cases hb : 64 < ws.length ∨ ws.sum = 0 ∨ t < 0 ∨ 1125899906842624 < t
  · exact prwhole_bad t ws p cap w hN hw hb
  · obtain ⟨A, rfl⟩ : ∃ A : Nat, t = (A : Int) := ⟨t.toNat, by omega⟩
    exact prwhole_good A ws p cap w hN hw (by omega) (by omega) (by omega)
end Go.Proofs.Ythjaiianbcfiaaa
