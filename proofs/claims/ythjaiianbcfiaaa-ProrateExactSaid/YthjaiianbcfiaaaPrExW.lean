/- The walk of ProrateExact. -/
import Derived.Test.YthjaiianbcfiaaaPrAp
import Derived.Test.YthjaiianbcfiaaaPrPure3
namespace Go.Proofs.Ythjaiianbcfiaaa
open Go.Shelf Go.RowKit Go.Lib Go.Sort Go.Stb Go.Money Go.Pror

set_option maxRecDepth 100000 in
set_option maxHeartbeats 3200000 in
theorem prexact_any (ws : List Nat) (k : Nat) (p : Option Addr) (cap : Nat) (w : World) (hN : Nums w .u16 p (ints ws)) (hw : ∀ x ∈ ws, x ≤ 65535) (hk : (k : Int) ≤ 65535) :
    Calls Try.prog 7 #[.slice p ws.length cap, .int .u16 (k : Int)] w fun e w' => e = .returned (.bool true) ∧ Below w.heap.size w w' := by
  by_cases h64 : (64 : Int) < (ws.length : Int)
  · clear hN hw
    go_enter Try.func7, Try.ntmps7
    go_wp2_with (go_at_call 8; refine (prwakes_any _).mono ?_; rintro e w2 ⟨rfl, hb2⟩)
    go_ret
    exact ⟨rfl, hb2⟩
  have HN := Lib.hid hN
  have HW := Lib.hid hw
  have k0 : (0 : Int) ≤ (k : Int) := Int.natCast_nonneg _
  have hl : (ws.length : Int) ≤ 64 := by omega
  have HSB := Lib.hid (show ws.sum ≤ 4194240 by
    have : ∀ (l : List Nat), (∀ x ∈ l, x ≤ 65535) → l.sum ≤ l.length * 65535 := by
      intro l
      induction l with
      | nil => intro _; simp
      | cons a l ih => intro h; have h1 := h a (by simp); have h2 := ih (fun x hx => h x (by simp [hx])); simp only [List.sum_cons, List.length_cons]; omega
    have := this ws hw
    have : ws.length * 65535 ≤ 64 * 65535 := Nat.mul_le_mul_right _ (by omega)
    omega)
  clear hN hw h64
  go_enter Try.func7, Try.ntmps7
  go_wp2_with fail
  go_loopw [5, 6, 7] (fun v s i wr => ∃ (j x : Nat), i = .int .i64 j ∧ s = .int .i64 x ∧ j ≤ ws.length ∧ Hid (x = (ws.take j).sum) ∧ Hid (OwN .u32 29 w.heap.size wr v (ws.take j)) ∧ Hid (Below w.heap.size w wr)) (fun _ _ i _ => ws.length - (intOf i).toNat)
  case atStart => exact ⟨0, 0, rfl, rfl, Nat.zero_le _, by show _ = _; simp, by show OwN _ _ _ _ _ _; unfold OwN; simp only [List.take_zero]; exact World.ownsRow_nil _ _ _ _, Below.refl _ _⟩
  case round =>
    obtain ⟨j, x, rfl, rfl, hj, hx, ho, hb⟩ := hrel
    have HX := Lib.hid hx.out
    have HO := Lib.hid ho.out
    have HB := Lib.hid hb.out
    rename World => wr
    have HL := Lib.hid (show (ws.take j).length = j by rw [List.length_take]; omega)
    obtain ⟨pa, ca, rfl, _, ho2, hn2⟩ := own_at HL.out ho.out
    have HO2 := Lib.hid ho2
    have HN2 := Lib.hid hn2
    clear hx ho hb ho2 hn2
    by_cases hlt : (j : Int) < (ws.length : Int)
    · have hj0 : (0 : Int) ≤ (j : Int) := Int.natCast_nonneg _
      have hjl : j < ws.length := by omega
      obtain ⟨b, o, rfl, hbl, hcell⟩ := kcell HN.out hjl
      have HC := Lib.hid (show ∀ wx, Below w.heap.size w wx → wx.cell? ⟨b, o + j, none⟩ = some (.int .u16 ((ws.getD j 0 : Nat) : Int)) from fun wx hbx => (hbx.cell (p := ⟨b, o + j, none⟩) hbl).trans hcell)
      have hc1 := HC.out wr HB.out
      obtain ⟨y, hy⟩ : ∃ y, y = x + ws.getD j 0 := ⟨_, rfl⟩
      have e1 := sum_take_succ ws j hjl
      have e2 := sum_take_le ws (j + 1)
      have e3 := HX.out
      have e4 := HSB.out
      have b1 : ((ws.getD j 0 : Nat) : Int) ≤ 65535 := by have := HW.out _ (getD_mem (l := ws) (k := j) hjl); omega
      have ey : (x : Int) + ((ws.getD j 0 : Nat) : Int) = (y : Int) := by omega
      have yb : (y : Int) ≤ 4194240 := by omega
      have y0 : (0 : Int) ≤ (y : Int) := Int.natCast_nonneg _
      have HY := Lib.hid (show y = (ws.take (j + 1)).sum by omega)
      have HT := Lib.hid (take_snoc ws j hjl)
      clear e1 e2 e3 e4 hy hcell
      generalize ws.getD j 0 = a at *
      have a0 : (0 : Int) ≤ (a : Int) := Int.natCast_nonneg _
      go_wp2_with (at_builtin; refine wl_appF 22 29 (.int .u32 0) 1 4 par_u32 Try.underlying22 rfl (by decide) (by decide) w.heap.size (.slice pa j ca) j ((ints (ws.take j)).map (Value.int .u32)) (by rfl) (HO2.out.alloc _) (.slice (some ⟨wr.heap.size, 0, none⟩) 1 1) (fun _ => True) 1 [.int .u32 (a : Int)] rfl (row1 _ _ _) rfl (one_int _ _) (by omega) (by have := HB.out.size; simp; omega) ?_)
      intro v' w3 ho hgr _
      have HO3 := Lib.hid (own_snoc (x := a) HL.out.symm ho)
      have HB3 := Lib.hid ((HB.out.alloc HB.out.size _).grown hgr (by have := HB.out.size; simp; omega) (fun k hk => (HO2.out.lt k hk).1))
      have hc3 := HC.out w3 HB3.out
      clear ho hgr hc1
      go_wp2
      go_roundw
      case rel => exact ⟨j + 1, y, by go_num, rfl, by omega, HY.out, by rw [HT.out]; exact HO3.out, HB3.out⟩
      case measure => simp [intOf]; omega
    · obtain rfl : j = ws.length := by omega
      have hx := HX.out
      have hn := HN2.out
      rw [List.take_length] at hn hx
      have HN3 := Lib.hid hn
      have HXS := Lib.hid hx
      clear hx hn HX HO HO2 HN2 HL
      by_cases h0 : x = 0
      · subst h0
        have HS := Lib.hid (share_is (shareR_weight (t := 0) (by omega) HXS.out.symm) pa ca wr HN3.out (fun x hx => by have := HW.out x hx; omega))
        go_wp2_with fail
        refine (HS.out).mono ?_
        rintro e w3 ⟨q, c3, rfl, hc3, hn3, hb3⟩
        have HB3 := Lib.hid (HB.out.trans (hb3.mono HB.out.size))
        clear hc3 hn3 hb3
        go_wp2_with (go_at_call 8; refine (prwakes_any _).mono ?_; rintro e w4 ⟨rfl, hb4⟩)
        go_ret
        exact ⟨rfl, HB3.out.trans (hb4.mono HB3.out.size)⟩
      · obtain ⟨t, ht⟩ : ∃ t, t = x * k := ⟨_, rfl⟩
        have hs0 : ws.sum ≠ 0 := by rw [← HXS.out]; exact h0
        have hsb := HSB.out
        have ht2 : t ≤ 4194240 * 65535 := by rw [ht]; exact Nat.mul_le_mul (by have := HXS.out; omega) (by omega)
        have et : (x : Int) * (k : Int) = (t : Int) := by rw [ht, Int.natCast_mul]
        have tb : (t : Int) ≤ 274869518400 := by omega
        have t0 : (0 : Int) ≤ (t : Int) := Int.natCast_nonneg _
        have hr : shareR (t : Int) ws = (ints (ws.map (· * k)), 0) := by
          rw [shareR_ok (by omega) hs0 (by omega), ht, HXS.out, exact_share k ws (by omega)]
        have hx0 : ((x : Int) == 0) = false := by rw [beq_eq_false_iff_ne]; omega
        have HS := Lib.hid (by
          have := share_is hr pa ca wr HN3.out (fun x hx => by have := HW.out x hx; omega)
          rw [ints_len, List.length_map] at this; exact this)
        clear ht hs0 hsb ht2 hr h0
        go_wp2_with fail
        refine (HS.out).mono ?_
        rintro e w3 ⟨q, c3, rfl, hc3, hn3, hb3⟩
        have HB3 := Lib.hid (HB.out.trans (hb3.mono HB.out.size))
        have HN4 := Lib.hid (HN3.out.keep hb3)
        have HN5 := Lib.hid hn3
        clear hc3 hn3 hb3
        go_wp2_with fail
        go_loopw [10] (fun i wx => ∃ (m n : Nat), i = .int .i64 m ∧ m ≤ ws.length ∧ wx = w3.drewN n) (fun i _ => ws.length - (intOf i).toNat)
        case atStart => exact ⟨0, 0, rfl, Nat.zero_le _, (World.drewN_zero w3).symm⟩
        case round =>
          obtain ⟨m, n, rfl, hm, rfl⟩ := hrel
          by_cases hlt2 : (m : Int) < (ws.length : Int)
          · have hml : m < ws.length := by omega
            have hm0 : (0 : Int) ≤ (m : Int) := Int.natCast_nonneg _
            obtain ⟨b1, o1, rfl, _, c1⟩ := kcell HN4.out hml
            obtain ⟨b2, o2, rfl, _, c2⟩ := kcell HN5.out (j := m) (by rw [List.length_map]; exact hml)
            obtain ⟨y, hy⟩ : ∃ y, y = ws.getD m 0 * k := ⟨_, rfl⟩
            have hg : (ws.map (· * k)).getD m 0 = y := by
              rw [hy, List.getD_eq_getElem?_getD, List.getElem?_map, List.getD_eq_getElem?_getD, List.getElem?_eq_getElem hml]; rfl
            rw [hg] at c2
            have c1' : (w3.drewN n).cell? ⟨b1, o1 + m, none⟩ = some (.int .u32 ((ws.getD m 0 : Nat) : Int)) := c1
            have c2' : (w3.drewN n).cell? ⟨b2, o2 + m, none⟩ = some (.int .i64 (y : Int)) := c2
            have ab := HW.out _ (getD_mem hml)
            have yb : y ≤ 65535 * 65535 := by rw [hy]; exact Nat.mul_le_mul ab (by omega)
            have ey : ((ws.getD m 0 : Nat) : Int) * (k : Int) = (y : Int) := by rw [hy, Int.natCast_mul]
            have a0 : (0 : Int) ≤ ((ws.getD m 0 : Nat) : Int) := Int.natCast_nonneg _
            have a1 : ((ws.getD m 0 : Nat) : Int) ≤ 65535 := by omega
            have y1 : (y : Int) ≤ 4294836225 := by omega
            have y0 : (0 : Int) ≤ (y : Int) := Int.natCast_nonneg _
            clear hy hg c1 c2 ab yb
            generalize ws.getD m 0 = a at *
            generalize hwq : w3.drewN n = wq at c1' c2' ⊢
            have HWQ : Hid (wq = w3.drewN n) := hwq.symm
            clear hwq
            go_wp2_with fail
            go_quiet (fail)
            go_wp2_with fail
            go_roundw
            case rel => exact ⟨m + 1, n + nq, by go_num, by omega, by rw [HWQ.out, World.drewN_drewN]⟩
            case measure => simp [intOf]; omega
          · have HBD := Lib.hid (below_drewN HB3.out n)
            generalize w3.drewN n = wq at *
            go_wp2_with (go_at_call 8; refine (prwakes_any _).mono ?_; rintro e w4 ⟨rfl, hb4⟩)
            go_ret
            exact ⟨rfl, HBD.out.trans (hb4.mono HBD.out.size)⟩
end Go.Proofs.Ythjaiianbcfiaaa
