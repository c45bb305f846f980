/- The walk of MoneyOrder. -/
import Derived.Test.YtjdhdccfcgmjiaaMoneyAp
import Derived.Test.YtjdhdccfcgmjiaaMoneyPaW
import Derived.StillTailTactics
namespace Go.Proofs.Ytjdhdccfcgmjiaa
open Go.RowKit Go.Money

theorem allI_nonneg : ∀ {l : List Int}, (∀ x ∈ l, 0 ≤ x) → 0 ≤ allI l ∧ ∀ x ∈ l, x ≤ allI l
  | [], _ => ⟨by simp [allI], by simp⟩
  | a :: l, h => by
    have h1 := h a (by simp)
    have h2 := allI_nonneg (l := l) (fun x hx => h x (by simp [hx]))
    refine ⟨by simp only [allI]; omega, fun x hx => ?_⟩
    simp only [allI]
    rcases List.mem_cons.1 hx with rfl | hx
    · omega
    · have := h2.2 x hx; omega
theorem sum_nonneg : ∀ {l : List Int}, (∀ x ∈ l, 0 ≤ x) → ∀ s, 0 ≤ s → s ≤ 1125899906842624 → sumO s l = if s + allI l ≤ 1125899906842624 then some (s + allI l) else none
  | [], _, s, _, h2 => by simp only [sumO, allI, Int.add_zero, if_pos h2]
  | a :: l, h, s, h1, h2 => by
    have ha := h a (by simp)
    have hl := (allI_nonneg (l := l) (fun x hx => h x (by simp [hx]))).1
    have e : allI (a :: l) = a + allI l := rfl
    rw [e]
    simp only [sumO]
    by_cases hs : s + a ≤ 1125899906842624
    · rw [addO_some (by simp only [Bool.and_eq_true, may_iff]; omega)]
      have h3 := sum_nonneg (l := l) (fun x hx => h x (by simp [hx])) (s + a) (by omega) hs
      rw [show s + a + allI l = s + (a + allI l) by omega] at h3
      exact h3
    · rw [addO_none (by rw [← Bool.not_eq_true]; simp only [Bool.and_eq_true, may_iff]; omega), if_neg (by omega)]
theorem allI_set : ∀ {l : List Int} {i : Nat} (v : Int), i < l.length → allI (l.set i v) = allI l - l.getD i 0 + v
  | a :: l, 0, v, _ => by simp only [List.set_cons_zero, allI, List.getD_cons_zero]; omega
  | a :: l, i + 1, v, h => by
    have := allI_set (l := l) (i := i) v (by simpa using h)
    simp only [List.set_cons_succ, allI, List.getD_cons_succ, this]; omega
theorem swap_sum {l : List Int} {a b : Nat} (ha : a < l.length) (hb : b < l.length) (h : ∀ x ∈ l, 0 ≤ x) : sumO 0 ((l.set a (l.getD b 0)).set b (l.getD a 0)) = sumO 0 l := by
  have h1 := allI_set (l := l) (i := a) (l.getD b 0) ha
  have h2 := allI_set (l := l.set a (l.getD b 0)) (i := b) (l.getD a 0) (by simpa using hb)
  have hg : ∀ j, j < l.length → l.getD j 0 ∈ l := fun j hj => by
    rw [List.getD_eq_getElem?_getD, List.getElem?_eq_getElem hj]; exact List.getElem_mem hj
  have h3 : (l.set a (l.getD b 0)).getD b 0 = l.getD b 0 := by
    rw [List.getD_eq_getElem?_getD, List.getElem?_set]
    by_cases hab : a = b
    · subst hab; rw [if_pos rfl, if_pos ha]; rfl
    · rw [if_neg hab, ← List.getD_eq_getElem?_getD]
  have hn : ∀ x ∈ (l.set a (l.getD b 0)).set b (l.getD a 0), 0 ≤ x := fun x hx => by
    rcases List.mem_or_eq_of_mem_set hx with hx | rfl
    · rcases List.mem_or_eq_of_mem_set hx with hx | rfl
      · exact h x hx
      · exact h _ (hg b hb)
    · exact h _ (hg a ha)
  rw [sum_nonneg hn 0 (by omega) (by omega), sum_nonneg h 0 (by omega) (by omega), h2, h3, h1]
  rw [show allI l - l.getD a 0 + l.getD b 0 - l.getD b 0 + l.getD a 0 = allI l by omega]
/-- a row of one's own that is not empty -/
theorem own_block {w : World} {base n : Nat} {v : Value} {xs : List Value} (h : w.ownsRow base 2 1 v n xs) (hn : 0 < n) : ∃ g cap, v = .slice (some ⟨g, 0, none⟩) n cap ∧ base ≤ g ∧ g < w.heap.size := by
  rcases h.2 with ⟨rfl, h0⟩ | ⟨g, cap, cur, rfl, hb, hg, _⟩
  · have := h.1; omega
  · exact ⟨g, cap, rfl, hb, (Array.getElem?_eq_some_iff.1 hg).1⟩
theorem own_cell {w : World} {base g cap n : Nat} {l : List Int} (h : w.ownsRow base 2 1 (.slice (some ⟨g, 0, none⟩) n cap) n (l.map fun x => .int .i64 x)) (hn : l.length = n) {j : Nat} (hj : j < n) : w.cell? ⟨g, j, none⟩ = some (.int .i64 (l.getD j 0)) := by
  have hj' : j < l.length := by omega
  rw [h.cellAt j (by omega), List.getElem?_map, List.getElem?_eq_getElem hj', List.getD_eq_getElem?_getD, List.getElem?_eq_getElem hj']
  rfl
theorem own_set {w : World} {base g cap n : Nat} {l : List Int} (h : w.ownsRow base 2 1 (.slice (some ⟨g, 0, none⟩) n cap) n (l.map fun x => .int .i64 x)) (j : Nat) (x : Int) :
    (w.setCell ⟨g, j, none⟩ (.int .i64 x)).ownsRow base 2 1 (.slice (some ⟨g, 0, none⟩) n cap) n ((l.set j x).map fun x => .int .i64 x) := by
  rw [List.map_set]; exact (h.stored j (.int .i64 x)).1
theorem own_nums' {w : World} {base g cap n : Nat} {l : List Int} (h : w.ownsRow base 2 1 (.slice (some ⟨g, 0, none⟩) n cap) n (l.map fun x => .int .i64 x)) (hn : l.length = n) (h0 : 0 < n) (hg : g < w.heap.size) : Nums w .i64 (some ⟨g, 0, none⟩) l :=
  ⟨fun _ => ⟨g, 0, rfl, hg, fun j hj => by rw [Nat.zero_add]; exact own_cell h hn (by omega)⟩⟩
theorem sum_at (l : List Int) (n : Nat) (hn : l.length = n) (p : Option Addr) (cap : Nat) (w : World) (hN : Nums w .i64 p l) (hc : n ≤ 1152921504606846976) : Calls Try.prog 19 #[.slice p n cap] w fun e w' => e = .returned (pv (sumO 0 l)) ∧ w = w' := by
  subst hn; exact sum_any l p cap w hN hc
/-- a place within the list, out of whatever number -/
theorem place (i : Int) {n : Nat} (hn : 1 ≤ n) : ∃ a : Nat, a < n ∧ (i.tmod n = (a : Int) ∨ ∃ A : Int, i.tmod n = A ∧ A < 0 ∧ -(n : Int) ≤ A ∧ A + (n : Int) = (a : Int)) := by
  have h1 := Int.tmod_lt_of_pos i (show (0 : Int) < n by omega)
  have h2 : -(n : Int) < i.tmod n := by
    have := Int.tmod_lt_of_pos (-i) (show (0 : Int) < n by omega)
    rw [Int.neg_tmod] at this
    omega
  by_cases h : i.tmod n < 0
  · exact ⟨(i.tmod n + n).toNat, by omega, Or.inr ⟨_, rfl, h, by omega, by omega⟩⟩
  · exact ⟨(i.tmod n).toNat, by omega, Or.inl (by omega)⟩
set_option maxRecDepth 100000 in
set_option maxHeartbeats 3200000 in
theorem mnorder_any (l : List Int) (p : Option Addr) (cap : Nat) (i k : Int) (w : World) (hN : Nums w .i64 p l) (hc : l.length ≤ cap) : Calls Try.prog 7 #[.slice p l.length cap, .int .i64 i, .int .i64 k] w fun e w' => e = .returned (.bool true) ∧ Below w.heap.size w w' := by
  by_cases h200 : (200 : Int) < (l.length : Int)
  · clear hN
    go_enter Try.func7, Try.ntmps7
    go_wp2_with (go_at_call 18; refine (mnwakes_any _).mono ?_; rintro e w2 ⟨rfl, hb2⟩)
    go_ret
    exact ⟨rfl, hb2⟩
  by_cases h0 : l.length = 0
  · clear hN
    have z0 : (l.length == 0) = true := by simpa using h0
    go_enter Try.func7, Try.ntmps7
    go_wp2_with (go_at_call 18; refine (mnwakes_any _).mono ?_; rintro e w2 ⟨rfl, hb2⟩)
    go_ret
    exact ⟨rfl, hb2⟩
  have hl1 : (1 : Int) ≤ (l.length : Int) := by omega
  have hl2 : (l.length : Int) ≤ 200 := by omega
  have HN := Lib.hid hN
  have HC := Lib.hid hc
  have HL0 := Lib.hid h0
  have HM := Lib.hid (show l.length ≤ 1152921504606846976 by omega)
  have HL9 := Lib.hid (show 0 + l.length ≤ 1000000000 by omega)
  have HR := Lib.hid (nums_row hN hc)
  have z0 : (l.length == 0) = false := by simpa using h0
  have z1 : ((l.length : Int) == 0) = false := by simpa using h0
  obtain ⟨a, ha, ha2⟩ := place i (n := l.length) (by omega)
  obtain ⟨b, hb, hb2⟩ := place k (n := l.length) (by omega)
  have HA := Lib.hid ha
  have HB := Lib.hid hb
  have HA2 := Lib.hid ha2
  have HB2 := Lib.hid hb2
  clear hN hc h200 h0 ha hb ha2 hb2
  go_enter Try.func7, Try.ntmps7
  go_wp2_with fail
  go_loopw [7] (fun j wr => ∃ (m : Nat), j = .int .i64 m ∧ m ≤ l.length ∧ Hid (∀ x ∈ l.take m, 0 ≤ x) ∧ w = wr) (fun j _ => l.length - (intOf j).toNat)
  case atStart => exact ⟨0, rfl, Nat.zero_le _, by show ∀ x ∈ l.take 0, 0 ≤ x; simp, rfl⟩
  case round =>
    obtain ⟨m, rfl, hm, hs, rfl⟩ := hrel
    have HS := Lib.hid hs.out
    clear hs
    by_cases hlt : (m : Int) < (l.length : Int)
    · have hkl : m < l.length := by omega
      have hk0 : (0 : Int) ≤ (m : Int) := Int.natCast_nonneg _
      obtain ⟨bb, o, rfl, hbb, hcell⟩ := HN.out.cell hkl
      have HST := Lib.hid (show 0 ≤ l.getD m 0 → ∀ x ∈ l.take (m + 1), 0 ≤ x from fun h x hx => by
        rw [List.take_succ_eq_append_getElem hkl, List.mem_append, List.mem_singleton] at hx
        rcases hx with hx | rfl
        · exact HS.out x hx
        · rw [List.getD_eq_getElem?_getD, List.getElem?_eq_getElem hkl] at h; exact h)
      generalize l.getD m 0 = y at *
      by_cases hy : y < 0
      · go_wp2_with (go_at_call 18; refine (mnwakes_any _).mono ?_; rintro e w2 ⟨rfl, hb2⟩)
        go_ret
        exact ⟨rfl, hb2⟩
      · have HY := Lib.hid (HST.out (by omega))
        go_wp2_with fail
        go_roundw
        case rel => exact ⟨m + 1, by go_num, by omega, HY.out, trivial⟩
        case measure => simp [intOf]; omega
    · have HNN := Lib.hid (show ∀ x ∈ l, 0 ≤ x by have := HS.out; rw [take_all l hlt] at this; exact this)
      clear HS
      rcases HA2.out with hA | ⟨A0, hA, A1, A2, A3⟩
      all_goals
        rcases HB2.out with hB | ⟨B0, hB, B1, B2, B3⟩
      all_goals
        have za : (0 : Int) ≤ (a : Int) := Int.natCast_nonneg _
        have zb : (0 : Int) ≤ (b : Int) := Int.natCast_nonneg _
        have la : (a : Int) < (l.length : Int) := by have := HA.out; omega
        have lb : (b : Int) < (l.length : Int) := by have := HB.out; omega
        go_wp2_with fail
        go_quiet (fail)
        have HRd := Lib.hid (show RowF (w.drewN nq) (· < w.heap.size) (.slice p l.length cap) l.length (l.map fun x => .int .i64 x) from HR.out)
        have HNd := Lib.hid (show Nums (w.drewN nq) .i64 p l from ⟨HN.out.at_⟩)
        have HBd := Lib.hid (show Below w.heap.size w (w.drewN nq) from below_drewN (Below.refl _ _) nq)
        have hsz : (w.drewN nq).heap.size = w.heap.size := rfl
        have HSZ := Lib.hid hsz
        clear hsz
        generalize w.drewN nq = wd at *
        go_wp2_with (at_builtin; refine wl_appF 30 2 (.int .i64 0) 1 8 par_i64 Try.underlying30 rfl (by decide) (by decide) w.heap.size (.slice none 0 0) 0 [] rfl (World.ownsRow_nil _ _ _ _) (.slice p l.length cap) _ l.length (l.map fun x => .int .i64 x) rfl HRd.out (by simp) (one_i64 l) HL9.out (by rw [HSZ.out]; exact Nat.le_refl _) (fun v1 w1 ho hg _ => ?_))
        rw [Nat.zero_add, List.nil_append] at ho
        obtain ⟨g, cap1, rfl, hgb, hgl⟩ := own_block ho (by have := HL0.out; omega)
        have HO := Lib.hid ho
        have HB1 := Lib.hid (show Below w.heap.size w w1 from HBd.out.trans ((Below.refl _ _).grown hg (by rw [HSZ.out]; exact Nat.le_refl _) (fun k hk => by cases hk)))
        have HGB := Lib.hid hgb
        have ca := own_cell ho rfl (j := a) HA.out
        have cb := own_cell ho rfl (j := b) HB.out
        have fa := ho.frozenAt a
        have fb := ho.frozenAt b
        obtain ⟨xa, hxa⟩ : ∃ x, x = l.getD a 0 := ⟨_, rfl⟩
        obtain ⟨xb, hxb⟩ : ∃ x, x = l.getD b 0 := ⟨_, rfl⟩
        rw [← hxa] at ca
        rw [← hxb] at cb
        have HXA := Lib.hid hxa
        have HXB := Lib.hid hxb
        clear ho hg hgb hxa hxb
        have HGL := Lib.hid hgl
        clear hgl
        have cb2 := own_cell (own_set HO.out a xb) (by rw [List.length_set]) (j := b) HB.out
        have fb2 := (own_set HO.out a xb).frozenAt b
        have ca2 := own_cell (own_set HO.out b xa) (by rw [List.length_set]) (j := a) HA.out
        go_region
        have HO3 := Lib.hid (own_set (own_set HO.out a xb) b xa)
        have HB3 := Lib.hid (show Below w.heap.size w ((w1.setCell ⟨g, a, none⟩ (.int .i64 xb)).setCell ⟨g, b, none⟩ (.int .i64 xa)).drew from ((HB1.out.setCell HGB.out _).setCell HGB.out _).drew)
        have HN3 := Lib.hid (show Nums ((w1.setCell ⟨g, a, none⟩ (.int .i64 xb)).setCell ⟨g, b, none⟩ (.int .i64 xa)).drew .i64 (some ⟨g, 0, none⟩) ((l.set a xb).set b xa) from ⟨(own_nums' HO3.out (by rw [List.length_set, List.length_set]) (by have := HL0.out; omega) (by simpa using HGL.out)).at_⟩)
        have HSW := Lib.hid (show sumO 0 ((l.set a xb).set b xa) = sumO 0 l by rw [HXA.out, HXB.out]; exact swap_sum HA.out HB.out HNN.out)
        clear HO3 cb2 fb2 ca2 ca cb fa fb
        generalize ((w1.setCell ⟨g, a, none⟩ (.int .i64 xb)).setCell ⟨g, b, none⟩ (.int .i64 xa)).drew = w3 at *
        have HN4 := Lib.hid (HN.out.keep HB3.out)
        go_wp2_with fail
        refine (sum_any l p cap w3 HN4.out HM.out).mono ?_
        rintro e w' ⟨rfl, rfl⟩
        go_wp2_with fail
        refine (sum_at ((l.set a xb).set b xa) l.length (by rw [List.length_set, List.length_set]) _ cap1 w3 HN3.out HM.out).mono ?_
        rintro e w' ⟨rfl, rfl⟩
        rw [HSW.out]
        obtain ⟨X, hX⟩ : ∃ X, X = (pairV (sumO 0 l)).1 := ⟨_, rfl⟩
        obtain ⟨E, hE⟩ : ∃ E, E = (pairV (sumO 0 l)).2 := ⟨_, rfl⟩
        simp only [pv]
        rw [← hX, ← hE]
        have HX := Lib.hid hX
        have HE := Lib.hid hE
        clear hX hE
        go_wp2_with fail
        go_loopw [15, 16, 17] (fun s e j wr => ∃ (m : Nat) (s1 e1 : Int), j = .int .i64 m ∧ s = .int .i64 s1 ∧ e = .int .i64 e1 ∧ m ≤ l.length ∧ Hid ((e1 = 0 ∧ sumO 0 (l.take m) = some s1) ∨ (e1 = 7 ∧ s1 = 0 ∧ sumO 0 l = none)) ∧ w3 = wr) (fun _ _ j _ => l.length - (intOf j).toNat)
        case atStart => exact ⟨0, 0, 0, rfl, rfl, rfl, Nat.zero_le _, Or.inl ⟨rfl, rfl⟩, rfl⟩
        case round =>
          obtain ⟨m, s1, e1, rfl, rfl, rfl, hm, hd, rfl⟩ := hrel
          rcases hd.out with ⟨he, hs⟩ | ⟨he, hz, hs⟩
          · clear hd
            subst he
            have HS := Lib.hid hs
            clear hs
            by_cases hlt : (m : Int) < (l.length : Int)
            · have hkl : m < l.length := by omega
              have hk0 : (0 : Int) ≤ (m : Int) := Int.natCast_nonneg _
              obtain ⟨bb, o, rfl, hbb, hcell⟩ := HN4.out.cell hkl
              obtain ⟨t1, t2⟩ := sum_take hkl HS.out
              have HT1 := Lib.hid t1
              have HT2 := Lib.hid t2
              clear t1 t2
              generalize l.getD m 0 = y at *
              cases hadd : addO s1 y with
              | none =>
                have HAD := Lib.hid hadd
                clear hadd
                go_wp2_with (go_at_call 8; refine (add_any _ _ _).mono ?_; rintro e w' ⟨rfl, rfl⟩; rw [HAD.out]; simp only [pv, pairV])
                go_roundw
                case rel => exact ⟨m + 1, 0, 7, by go_num, rfl, rfl, by omega, Or.inr ⟨rfl, rfl, HT2.out HAD.out⟩, trivial⟩
                case measure => simp [intOf]; omega
              | some z =>
                have HAD := Lib.hid hadd
                clear hadd
                go_wp2_with (go_at_call 8; refine (add_any _ _ _).mono ?_; rintro e w' ⟨rfl, rfl⟩; rw [HAD.out]; simp only [pv, pairV])
                go_roundw
                case rel => exact ⟨m + 1, z, 0, by go_num, rfl, rfl, by omega, Or.inl ⟨rfl, HT1.out.trans HAD.out⟩, trivial⟩
                case measure => simp [intOf]; omega
            · have hs2 := HS.out
              rw [take_all l hlt] at hs2
              have e1 : X = s1 := by rw [HX.out, hs2]; rfl
              have e2 : E = 0 := by rw [HE.out, hs2]; rfl
              clear hs2 HS
              subst e1 e2
              go_wp2_with (go_at_call 18; refine (mnwakes_any _).mono ?_; rintro e w4 ⟨rfl, hb4⟩)
              go_ret
              exact ⟨rfl, HB3.out.trans (hb4.mono HB3.out.size)⟩
          · clear hd
            subst he hz
            have e1 : X = 0 := by rw [HX.out, hs]; rfl
            have e2 : E = 7 := by rw [HE.out, hs]; rfl
            clear hs
            subst e1 e2
            by_cases hlt : (m : Int) < (l.length : Int)
            all_goals
              go_wp2_with (go_at_call 18; refine (mnwakes_any _).mono ?_; rintro e w4 ⟨rfl, hb4⟩)
              go_ret
              exact ⟨rfl, HB3.out.trans (hb4.mono HB3.out.size)⟩
end Go.Proofs.Ytjdhdccfcgmjiaa
