/- The contract of the document's own Share. -/
import Derived.Test.YthjaiianbcfiaaaPrRfP
import Derived.Test.YthjaiianbcfiaaaPrTiW
import Derived.OneCell
namespace Go.Proofs.Ythjaiianbcfiaaa
open Go.Shelf Go.RowKit Go.Lib Go.Sort Go.Stb Go.Money Go.Pror

theorem owi_block {w : World} {base n : Nat} {v : Value} {xs : List Value} (h : w.ownsRow base 2 1 v n xs) (hn : 0 < n) : ∃ g cap, v = .slice (some ⟨g, 0, none⟩) n cap ∧ n ≤ cap ∧ base ≤ g ∧ g < w.heap.size := by
  rcases h.2 with ⟨rfl, h0⟩ | ⟨g, cap, cur, rfl, hb, hg, hc, _⟩
  · omega
  · exact ⟨g, cap, rfl, hc, hb, (Array.getElem?_eq_some_iff.1 hg).1⟩
theorem owi_cell {w : World} {base g cap n : Nat} {l : List Int} (h : w.ownsRow base 2 1 (.slice (some ⟨g, 0, none⟩) n cap) n (l.map (Value.int .i64))) (hn : l.length = n) {j : Nat} (hj : j < n) : w.cell? ⟨g, j, none⟩ = some (.int .i64 (l.getD j 0)) := by
  have hj' : j < l.length := by omega
  rw [h.cellAt j (by omega), List.getElem?_map, List.getElem?_eq_getElem hj', List.getD_eq_getElem?_getD, List.getElem?_eq_getElem hj']
  rfl
theorem owi_set {w : World} {base g cap n : Nat} {l : List Int} (h : w.ownsRow base 2 1 (.slice (some ⟨g, 0, none⟩) n cap) n (l.map (Value.int .i64))) (j : Nat) (x : Int) :
    (w.setCell ⟨g, j, none⟩ (.int .i64 x)).ownsRow base 2 1 (.slice (some ⟨g, 0, none⟩) n cap) n ((l.set j x).map (Value.int .i64)) := by
  rw [List.map_set]; exact (h.stored j (.int .i64 x)).1
/-- the memory while units are given out -/
structure RfM (w : World) (A : Nat) (ws : List Nat) (j go ca gr cr : Nat) (wr : World) : Prop where
  o : wr.ownsRow w.heap.size 2 1 (.slice (some ⟨go, 0, none⟩) ws.length ca) ws.length ((ints (given A ws j)).map (Value.int .i64))
  r : wr.ownsRow w.heap.size 2 1 (.slice (some ⟨gr, 0, none⟩) ws.length cr) ws.length ((rl A ws j).map (Value.int .i64))
  bel : Below w.heap.size w wr
  lo : w.heap.size ≤ go
  lr : w.heap.size ≤ gr
  ne : go ≠ gr
theorem RfM.drewN {w wr : World} {A : Nat} {ws : List Nat} {j go ca gr cr : Nat} (h : RfM w A ws j go ca gr cr wr) (n : Nat) : RfM w A ws j go ca gr cr (wr.drewN n) :=
  ⟨h.o, h.r, below_drewN h.bel n, h.lo, h.lr, h.ne⟩
theorem RfM.next {w wr : World} {A : Nat} {ws : List Nat} {j go ca gr cr b : Nat} (h : RfM w A ws j go ca gr cr wr) (hb : b < ws.length) (hr : rank (restI A ws) b = j) {x : Int} (hx : x = (((given A ws j).getD b 0 + 1 : Nat) : Int)) :
    RfM w A ws (j + 1) go ca gr cr ((wr.setCell ⟨go, b, none⟩ (.int .i64 x)).setCell ⟨gr, b, none⟩ (.int .i64 (-1))) := by
  subst hx
  have hlo := h.lo
  have hlr := h.lr
  refine ⟨?_, ?_, (h.bel.setCell (by simp; omega) _).setCell (by simp; omega) _, hlo, hlr, h.ne⟩
  · have h1 := owi_set h.o b (((given A ws j).getD b 0 + 1 : Nat) : Int)
    have h2 : (ints (given A ws j)).set b (((given A ws j).getD b 0 + 1 : Nat) : Int) = ints (given A ws (j + 1)) := by
      subst hr
      rw [← given_step A ws b hb]
      unfold ints; rw [List.map_set]
    rw [h2] at h1
    exact ownsRow_setCell_other h1 (by show some go ≠ some gr; simp; exact h.ne) _
  · have h1 := ownsRow_setCell_other h.r (a := ⟨go, b, none⟩) (by show some gr ≠ some go; simp; exact (Ne.symm h.ne)) (.int .i64 (((given A ws j).getD b 0 + 1 : Nat) : Int))
    have h2 := owi_set h1 b (-1)
    rw [rl_next A ws j b hb hr] at h2
    exact h2
set_option maxRecDepth 100000 in
set_option maxHeartbeats 3200000 in
theorem rshare_any (t : Int) (ws : List Nat) (p : Option Addr) (cap : Nat) (w : World) (hN : Nums w .u32 p (ints ws)) (hw : ∀ x ∈ ws, x ≤ 4294967295) :
    Calls Try.prog 10 #[iv t, .slice p ws.length cap] w fun e w' => ShareP t ws w e w' := by
  by_cases h64 : 64 < ws.length
  · have hl : (64 : Int) < (ws.length : Int) := by omega
    have HE := Lib.hid (shareR_long (t := t) h64)
    clear hN hw h64
    go_enter Try.func10, Try.ntmps10
    go_wp2
    go_ret2
    exact share_nil HE.out (Below.refl _ _)
  have hl : ¬ (64 : Int) < (ws.length : Int) := by omega
  have h64b : decide ((ws.length : Int) > 64) = false := decide_eq_false hl
  have hl2 : (ws.length : Int) ≤ 64 := by omega
  have HL := Lib.hid h64
  have HN := Lib.hid hN
  have HW := Lib.hid hw
  have HDB := Lib.hid (show ws.sum ≤ 274877906880 by have := sum_bound ws hw; omega)
  clear hN hw h64
  go_enter Try.func10, Try.ntmps10
  go_wp2_with fail
  go_loopw [6, 7] (fun s i wr => ∃ (k x : Nat), i = .int .i64 k ∧ s = .int .i64 x ∧ k ≤ ws.length ∧ Hid (x = (ws.take k).sum) ∧ w = wr) (fun _ i _ => ws.length - (intOf i).toNat)
  case atStart => exact ⟨0, 0, rfl, rfl, Nat.zero_le _, by show _ = _; simp, rfl⟩
  case round =>
    obtain ⟨k, x, rfl, rfl, hk, hx, rfl⟩ := hrel
    have HX := Lib.hid hx.out
    clear hx
    by_cases hlt : (k : Int) < (ws.length : Int)
    · have hk0 : (0 : Int) ≤ (k : Int) := Int.natCast_nonneg _
      obtain ⟨b, o, rfl, hb, hcell⟩ := wcell HN.out (j := k) (by omega)
      obtain ⟨y, hy⟩ : ∃ y, y = x + ws.getD k 0 := ⟨_, rfl⟩
      have e1 := sum_take_succ ws k (by omega)
      have e2 := sum_take_le ws (k + 1)
      have e3 := HX.out
      have e4 := HDB.out
      have b1 : ((ws.getD k 0 : Nat) : Int) ≤ 4294967295 := by have := HW.out _ (getD_mem (l := ws) (k := k) (by omega)); omega
      have ey : (x : Int) + ((ws.getD k 0 : Nat) : Int) = (y : Int) := by omega
      have yb : (y : Int) ≤ 274877906880 := by omega
      have y0 : (0 : Int) ≤ (y : Int) := Int.natCast_nonneg _
      have HY := Lib.hid (show y = (ws.take (k + 1)).sum by omega)
      clear e1 e2 e3 e4 hy
      generalize ws.getD k 0 = a at *
      have a0 : (0 : Int) ≤ (a : Int) := Int.natCast_nonneg _
      go_wp2
      go_roundw
      case rel => exact ⟨k + 1, y, by go_num, rfl, by omega, HY.out, trivial⟩
      case measure => simp [intOf]; omega
    · obtain rfl : k = ws.length := by omega
      have hx := HX.out
      rw [List.take_length] at hx
      clear HX
      obtain ⟨D, hD⟩ : ∃ D, D = ws.sum := ⟨_, rfl⟩
      obtain rfl : x = D := hx.trans hD.symm
      have HDD := Lib.hid hD
      clear hx hD hlt
      by_cases h0 : x = 0
      · have HE := Lib.hid (shareR_weight (t := t) HL.out (HDD.out.symm.trans h0))
        have hx0 : ((x : Int) == 0) = true := by rw [beq_iff_eq]; omega
        clear h0
        go_wp2
        go_ret2
        exact share_nil HE.out (Below.refl _ _)
      have hx0 : ((x : Int) == 0) = false := by rw [beq_eq_false_iff_ne]; omega
      have HD0 := Lib.hid (show 0 < ws.sum by have := HDD.out; omega)
      clear h0
      by_cases ht : t < 0 ∨ 1125899906842624 < t
      · have HE := Lib.hid (shareR_over HL.out (by have := HD0.out; omega) ht)
        by_cases ht0 : t < 0
        · have q1 : decide (t < 0) = true := decide_eq_true ht0
          clear ht
          go_wp2_with fail
          go_ret2
          exact share_nil HE.out (Below.refl _ _)
        · have q1 : decide (t < 0) = false := decide_eq_false ht0
          have q2 : may t = false := (may_no t).2 (by omega)
          have HM := Lib.hid (fun w => may_any t w)
          rw [q2] at HM
          clear ht q2
          go_wp2_with (go_at_call 18; refine (HM.out _).mono ?_; rintro e w' ⟨rfl, rfl⟩)
          go_ret2
          exact share_nil HE.out (Below.refl _ _)
      obtain ⟨A, rfl⟩ : ∃ A : Nat, t = (A : Int) := ⟨t.toNat, by omega⟩
      have HA := Lib.hid (show (A : Int) ≤ 1125899906842624 by omega)
      have HE := Lib.hid (shareR_ok HL.out (by have := HD0.out; omega) HA.out)
      have HM := Lib.hid (fun w => may_any (A : Int) w)
      rw [(may_iff (A : Int)).2 (by omega)] at HM
      have q1 : decide ((A : Int) < 0) = false := decide_eq_false (by omega)
      have HP := Lib.hid (fun (k : Nat) (hk : k < ws.length) (w : World) => rpart_some A (ws.getD k 0) x w HA.out (by have := whole_bd (A := A) HD0.out hk; have := HDD.out; omega) (by have := HD0.out; have := HDD.out; omega) (by have := HDB.out; have := HDD.out; omega))
      clear ht
      go_wp2_with (go_at_call 18; refine (HM.out _).mono ?_; rintro e w' ⟨rfl, rfl⟩)
      go_loopw [8, 9, 10, 11, 12, 13, 14] (fun va vb l i _ _ _ wr => ∃ (j u : Nat), i = .int .i64 j ∧ l = .int .i64 u ∧ j ≤ ws.length ∧ Hid (u = lft A ws j) ∧ Hid (OwN .i64 2 w.heap.size wr va ((wholes A ws.sum ws).take j)) ∧ Hid (OwN .i64 2 w.heap.size wr vb ((rests A ws.sum ws).take j)) ∧ Hid (Apart va vb) ∧ Hid (Below w.heap.size w wr)) (fun _ _ _ i _ _ _ _ => ws.length - (intOf i).toNat)
      case atStart => exact ⟨0, A, rfl, rfl, Nat.zero_le _, (lft_zero A ws).symm, by show OwN _ _ _ _ _ _; unfold OwN; simp only [List.take_zero]; exact World.ownsRow_nil _ _ _ _, by show OwN _ _ _ _ _ _; unfold OwN; simp only [List.take_zero]; exact World.ownsRow_nil _ _ _ _, (show Apart _ _ from fun g h => nomatch h), Below.refl _ _⟩
      case round =>
        obtain ⟨j, u, rfl, rfl, hj, hu, hoa, hob, hap, hb⟩ := hrel
        have HU := Lib.hid hu.out
        have HB := Lib.hid hb.out
        rename World => wr
        have HLA := Lib.hid (show ((wholes A ws.sum ws).take j).length = j by rw [List.length_take, wholes_len]; omega)
        have HLB := Lib.hid (show ((rests A ws.sum ws).take j).length = j by rw [List.length_take, rests_len]; omega)
        obtain ⟨pa, ca, rfl, hca, ho2, hn2⟩ := own_at HLA.out hoa.out
        obtain ⟨pb, cb, rfl, hcb, ho3, hn3⟩ := own_at HLB.out hob.out
        have HOA := Lib.hid ho2
        have HOB := Lib.hid ho3
        have HAP := Lib.hid hap.out
        clear hu hoa hob hap hb ho2 hn2 ho3 hn3 hca hcb
        by_cases hlt : (j : Int) < (ws.length : Int)
        · have hj0 : (0 : Int) ≤ (j : Int) := Int.natCast_nonneg _
          have hjl : j < ws.length := by omega
          obtain ⟨b, o, rfl, hbl, hcell⟩ := kcell HN.out hjl
          have hc1 := (HB.out.cell (p := ⟨b, o + j, none⟩) hbl).trans hcell
          obtain ⟨u', hu'⟩ : ∃ u', u' = lft A ws (j + 1) := ⟨_, rfl⟩
          obtain ⟨y, hy⟩ : ∃ y, y = A * ws.getD j 0 / x := ⟨_, rfl⟩
          obtain ⟨z, hz⟩ : ∃ z, z = A * ws.getD j 0 % x := ⟨_, rfl⟩
          have hy2 := wholes_getD A ws.sum ws j hjl
          have hz2 := rests_getD A ws.sum ws j hjl
          rw [← HDD.out, ← hy] at hy2
          rw [← HDD.out, ← hz] at hz2
          have hnx := lft_next (A := A) HD0.out hjl
          rw [← HU.out, ← hu', ← HDD.out, hy2] at hnx
          have ub := lft_le A ws j
          rw [← HU.out] at ub
          have hPk := HP.out j hjl
          rw [← hy, ← hz] at hPk
          have HPK := Lib.hid hPk
          have eu : (u : Int) - (y : Int) = (u' : Int) := by omega
          have hA' := HA.out
          have u1 : (u : Int) ≤ 1125899906842624 := by omega
          have u2 : (u' : Int) ≤ 1125899906842624 := by omega
          have u0 : (0 : Int) ≤ (u' : Int) := Int.natCast_nonneg _
          have a0 : (0 : Int) ≤ ((ws.getD j 0 : Nat) : Int) := Int.natCast_nonneg _
          have a1 : ((ws.getD j 0 : Nat) : Int) ≤ 4294967295 := by have := HW.out _ (getD_mem hjl); omega
          have HT := Lib.hid (show (wholes A ws.sum ws).take (j + 1) = (wholes A ws.sum ws).take j ++ [y] by rw [take_snoc _ j (by rw [wholes_len]; exact hjl), ← HDD.out, hy2])
          have HT2 := Lib.hid (show (rests A ws.sum ws).take (j + 1) = (rests A ws.sum ws).take j ++ [z] by rw [take_snoc _ j (by rw [rests_len]; exact hjl), ← HDD.out, hz2])
          have HU2 := Lib.hid hu'
          clear hy hz hy2 hz2 hnx ub hPk hu' hA' hcell
          generalize ws.getD j 0 = a at *
          go_wp2_with fail
          refine (HPK.out _).mono ?_
          rintro e w2 ⟨rfl, rfl⟩
          go_wp2_with (at_builtin; refine wl_appF 24 2 (.int .i64 0) 1 8 par_i64 Try.underlying24 rfl (by decide) (by decide) w.heap.size (.slice pa j ca) j ((ints ((wholes A ws.sum ws).take j)).map (Value.int .i64)) (by rfl) (HOA.out.alloc _) (.slice (some ⟨wr.heap.size, 0, none⟩) 1 1) (fun _ => True) 1 [.int .i64 (y : Int)] rfl (row1 _ _ _) rfl (one_int _ _) (by omega) (by have := HB.out.size; simp; omega) ?_)
          intro va' w3 ho hgr hbk
          have HOA3 := Lib.hid (own_snoc (x := y) HLA.out.symm ho)
          have HB3 := Lib.hid ((HB.out.alloc HB.out.size _).grown hgr (by have := HB.out.size; simp; omega) (fun k hk => (HOA.out.lt k hk).1))
          have HOB3 := Lib.hid ((HOB.out.alloc (.cells #[.int .i64 (y : Int)] 2)).kept hgr HAP.out.kept)
          have HAP3 := Lib.hid (HAP.out.next (HOB.out.alloc (.cells #[.int .i64 (y : Int)] 2)) (hbk.imp id (fun e => e.trans (by simp))))
          clear ho hgr hbk hc1
          go_wp2_with (at_builtin; refine wl_appF 24 2 (.int .i64 0) 1 8 par_i64 Try.underlying24 rfl (by decide) (by decide) w.heap.size (.slice pb j cb) j ((ints ((rests A ws.sum ws).take j)).map (Value.int .i64)) (by rfl) (HOB3.out.alloc _) (.slice (some ⟨w3.heap.size, 0, none⟩) 1 1) (fun _ => True) 1 [.int .i64 (z : Int)] rfl (row1 _ _ _) rfl (one_int _ _) (by omega) (by have := HB3.out.size; simp; omega) ?_)
          intro vb' w4 ho hgr hbk
          have HOB4 := Lib.hid (own_snoc (x := z) HLB.out.symm ho)
          have HB4 := Lib.hid ((HB3.out.alloc HB3.out.size _).grown hgr (by have := HB3.out.size; simp; omega) (fun k hk => (HOB3.out.lt k hk).1))
          have HOA4 := Lib.hid ((World.ownsRow.alloc HOA3.out (.cells #[.int .i64 (z : Int)] 2)).kept hgr HAP3.out.sym.kept)
          have HAP4 := Lib.hid (HAP3.out.sym.next (World.ownsRow.alloc HOA3.out (.cells #[.int .i64 (z : Int)] 2)) (hbk.imp id (fun e => e.trans (by simp)))).sym
          clear ho hgr hbk
          go_wp2
          go_roundw
          case rel => exact ⟨j + 1, u', by go_num, rfl, by omega, HU2.out, by rw [HT.out]; exact HOA4.out, by rw [HT2.out]; exact HOB4.out, HAP4.out, HB4.out⟩
          case measure => simp [intOf]; omega
        · obtain rfl : j = ws.length := by omega
          clear hlt
          have hu := HU.out
          rw [lft_all] at hu
          have ul := left_lt A ws HD0.out
          have hn0 : 0 < ws.length := by omega
          obtain ⟨go, ca', e1, hca, lo, _⟩ := owi_block HOA.out hn0
          obtain ⟨gr, cb', e2, hcb, lr, _⟩ := owi_block HOB.out hn0
          simp only [Value.slice.injEq] at e1 e2
          obtain ⟨rfl, _, rfl⟩ := e1
          obtain ⟨rfl, _, rfl⟩ := e2
          have HMM : Hid (RfM w A ws 0 go ca gr cb wr) := by
            have h1 := HOA.out
            have h2 := HOB.out
            rw [List.take_of_length_le (by rw [wholes_len]; exact Nat.le_refl _)] at h1
            rw [List.take_of_length_le (by rw [rests_len]; exact Nat.le_refl _)] at h2
            refine ⟨by rw [given_zero]; exact h1, by rw [rl_zero]; exact h2, HB.out, lo, lr, ?_⟩
            intro e
            exact HAP.out go rfl (by rw [e]; rfl)
          have HUL := Lib.hid (show u < ws.length by omega)
          have HU2 := Lib.hid hu
          have HCA := Lib.hid hca
          clear HOA HOB HAP HLA HLB HB HU hu ul hca hcb lo lr hn0
          go_wp2_with fail
          go_loopw [10, 15, 16] (fun l _ _ wx => ∃ (j v : Nat), l = .int .i64 v ∧ Hid (j + v = u) ∧ v ≤ u ∧ Hid (RfM w A ws j go ca gr cb wx)) (fun l _ _ _ => (intOf l).toNat)
          case atStart => exact ⟨0, u, rfl, by show 0 + u = u; omega, Nat.le_refl _, HMM.out⟩
          case round =>
            obtain ⟨j, v, rfl, hjv, hvu, hM⟩ := hrel
            have HJV := Lib.hid hjv.out
            have HM2 := Lib.hid hM.out
            rename World => wx
            clear hjv hM HMM
            by_cases hv : (v : Int) > 0
            · have hvb : decide ((v : Int) > 0) = true := decide_eq_true hv
              have hvb2 : decide (0 < v) = true := decide_eq_true (by omega)
              have HJ := Lib.hid (show j < ws.length by have := HJV.out; have := HUL.out; omega)
              go_wp2_with fail
              go_loopw [15, 16] (fun b i wy => ∃ (k n : Nat) (bb : Int), i = .int .i64 k ∧ b = .int .i64 bb ∧ k ≤ ws.length ∧ Hid (Best A ws j k bb) ∧ wy = wx.drewN n) (fun _ i _ => ws.length - (intOf i).toNat)
              case atStart => exact ⟨0, 0, -1, rfl, rfl, Nat.zero_le _, best_zero A ws j, (World.drewN_zero wx).symm⟩
              case round =>
                obtain ⟨k, n, bb, rfl, rfl, hk, hB, rfl⟩ := hrel
                have HBB := Lib.hid hB.out
                clear hB
                by_cases hlt : (k : Int) < (ws.length : Int)
                · have hk0 : (0 : Int) ≤ (k : Int) := Int.natCast_nonneg _
                  have hkl : k < ws.length := by omega
                  have c1 : (wx.drewN n).cell? ⟨gr, k, none⟩ = some (.int .i64 ((rl A ws j).getD k 0)) := owi_cell HM2.out.r (rl_len A ws j) hkl
                  have HX0 := Lib.hid (fun h => best_skip HBB.out hkl h)
                  by_cases hx : (rl A ws j).getD k 0 < 0
                  · have HX1 := Lib.hid (HX0.out hx)
                    generalize (rl A ws j).getD k 0 = X at *
                    have r1 : decide (X ≥ 0) = false := decide_eq_false (by omega)
                    generalize hwq : wx.drewN n = wq at c1 ⊢
                    have HWQ : Hid (wq = wx.drewN n) := hwq.symm
                    clear hwq
                    go_wp2_with fail
                    go_quiet (fail)
                    go_wp2_with fail
                    go_roundw
                    case rel => exact ⟨k + 1, n + nq, bb, by go_num, rfl, by omega, HX1.out, by rw [HWQ.out, World.drewN_drewN]⟩
                    case measure => simp [intOf]; omega
                  · clear HX0
                    by_cases hbb : bb < 0
                    · have HX1 := Lib.hid (show Best A ws j (k + 1) (k : Int) by
                        have hB := HBB.out
                        have e : bb = -1 := by
                          unfold Best at hB
                          rcases hB with ⟨e, _⟩ | ⟨m, e, _⟩
                          · exact e
                          · omega
                        subst e
                        exact best_new hB hkl (by omega))
                      generalize (rl A ws j).getD k 0 = X at *
                      have r1 : decide (X ≥ 0) = true := decide_eq_true (by omega)
                      have r2 : decide (bb < 0) = true := decide_eq_true hbb
                      generalize hwq : wx.drewN n = wq at c1 ⊢
                      have HWQ : Hid (wq = wx.drewN n) := hwq.symm
                      clear hwq
                      go_wp2_with fail
                      go_quiet (fail)
                      go_wp2_with fail
                      go_roundw
                      case rel => exact ⟨k + 1, n + nq, (k : Int), by go_num, rfl, by omega, HX1.out, by rw [HWQ.out, World.drewN_drewN]⟩
                      case measure => simp [intOf]; omega
                    · obtain ⟨m, rfl⟩ : ∃ m : Nat, bb = (m : Int) := ⟨bb.toNat, by omega⟩
                      have hmk := best_some HBB.out
                      have hml : m < ws.length := by omega
                      have HX1 := Lib.hid (best_cmp HBB.out hkl (by omega))
                      have c2 : (wx.drewN n).cell? ⟨gr, m, none⟩ = some (.int .i64 ((rl A ws j).getD m 0)) := owi_cell HM2.out.r (rl_len A ws j) hml
                      have r2 : decide ((m : Int) < 0) = false := decide_eq_false (by omega)
                      have m0 : (0 : Int) ≤ (m : Int) := Int.natCast_nonneg _
                      have m1 : (m : Int) < (ws.length : Int) := by omega
                      clear hbb
                      by_cases hc : (rl A ws j).getD m 0 < (rl A ws j).getD k 0
                      · rw [if_pos hc] at HX1
                        generalize (rl A ws j).getD k 0 = X at *
                        generalize (rl A ws j).getD m 0 = Y at *
                        have r1 : decide (X ≥ 0) = true := decide_eq_true (by omega)
                        have r3 : decide (X > Y) = true := decide_eq_true (by omega)
                        generalize hwq : wx.drewN n = wq at c1 c2 ⊢
                        have HWQ : Hid (wq = wx.drewN n) := hwq.symm
                        clear hwq hc
                        go_wp2_with fail
                        go_quiet (fail)
                        go_wp2_with fail
                        go_roundw
                        case rel => exact ⟨k + 1, n + nq, (k : Int), by go_num, rfl, by omega, HX1.out, by rw [HWQ.out, World.drewN_drewN]⟩
                        case measure => simp [intOf]; omega
                      · rw [if_neg hc] at HX1
                        generalize (rl A ws j).getD k 0 = X at *
                        generalize (rl A ws j).getD m 0 = Y at *
                        have r1 : decide (X ≥ 0) = true := decide_eq_true (by omega)
                        have r3 : decide (X > Y) = false := decide_eq_false (by omega)
                        generalize hwq : wx.drewN n = wq at c1 c2 ⊢
                        have HWQ : Hid (wq = wx.drewN n) := hwq.symm
                        clear hwq hc
                        go_wp2_with fail
                        go_quiet (fail)
                        go_wp2_with fail
                        go_roundw
                        case rel => exact ⟨k + 1, n + nq, (m : Int), by go_num, rfl, by omega, HX1.out, by rw [HWQ.out, World.drewN_drewN]⟩
                        case measure => simp [intOf]; omega
                · obtain rfl : k = ws.length := by omega
                  obtain ⟨m, rfl, hml, hmr⟩ := best_all HBB.out HJ.out
                  have hM3 := HM2.out.drewN n
                  have m0 : (0 : Int) ≤ (m : Int) := Int.natCast_nonneg _
                  have m1 : (m : Int) < (ws.length : Int) := by omega
                  have co := owi_cell hM3.o (by rw [ints_len, given_len]) hml
                  rw [ints_getD] at co
                  obtain ⟨g, hg⟩ : ∃ g, g = (given A ws j).getD m 0 := ⟨_, rfl⟩
                  rw [← hg] at co
                  have gb : (g : Int) ≤ 9223372036854775806 := by
                    have h1 := given_getD A ws j m hml
                    have h2 := wholes_getD A ws.sum ws m hml
                    have h3 : A * ws.getD m 0 / ws.sum ≤ A := by
                      have := Nat.mul_le_mul_left A (whole_bd (A := A) HD0.out hml)
                      calc A * ws.getD m 0 / ws.sum ≤ A * ws.sum / ws.sum := Nat.div_le_div_right this
                        _ = A := Nat.mul_div_cancel _ HD0.out
                    have h4 := HA.out
                    rw [hg, h1, h2]
                    split <;> omega
                  have g0 : (0 : Int) ≤ (g : Int) := Int.natCast_nonneg _
                  have fo := hM3.o.frozenAt m
                  have cr := owi_cell hM3.r (rl_len A ws j) hml
                  have fr := hM3.r.frozenAt m
                  have ne := hM3.ne
                  generalize (rl A ws j).getD m 0 = old at cr
                  have HM3 := Lib.hid hM3
                  have HG := Lib.hid hg
                  have HMR := Lib.hid hmr
                  clear hM3 hg hmr HBB hlt
                  generalize wx.drewN n = wz at *
                  obtain ⟨v', hv'⟩ : ∃ v', v = v' + 1 := ⟨v - 1, by omega⟩
                  have ev : (v : Int) - 1 = (v' : Int) := by omega
                  have ev0 : (0 : Int) ≤ (v' : Int) := Int.natCast_nonneg _
                  have ev1 : (v : Int) ≤ 64 := by have := HUL.out; omega
                  have ev2 : (v' : Int) ≤ 64 := by omega
                  have HV' := Lib.hid hv'
                  clear hv'
                  go_wp2
                  go_roundw
                  case rel =>
                    exact ⟨j + 1, v', rfl, by show j + 1 + v' = u; have := HJV.out; have := HV'.out; omega, by have := HV'.out; omega, HM3.out.next (by omega) HMR.out (by rw [HG.out]; push_cast; rfl)⟩
                  case measure => simp [intOf]; have := HV'.out; omega
            · obtain rfl : v = 0 := by omega
              have hju : j = u := by have := HJV.out; omega
              subst hju
              go_wp2_with fail
              go_ret2
              unfold ShareP
              rw [HE.out]
              refine ⟨some ⟨go, 0, none⟩, ca, by rw [ints_len, share_len]; rfl, by rw [ints_len, share_len]; exact HCA.out, ?_, HM2.out.bel⟩
              have h1 := HM2.out.o
              rw [HU2.out] at h1
              refine ⟨fun _ => ⟨go, 0, rfl, (h1.lt go rfl).2, fun i hi => ?_⟩⟩
              rw [Nat.zero_add]
              exact owi_cell h1 (by rw [ints_len, given_len]) (by rw [ints_len, share_len] at hi; exact hi)
end Go.Proofs.Ythjaiianbcfiaaa
