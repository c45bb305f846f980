/- Contract of the document's own Balance. -/
import Derived.Test.YtkdfhmlamjhedaaTkBa
namespace Go.Proofs.Ytkdfhmlamjhedaa
open Go.Shelf Go.RowKit Go.Lib Go.Money Go.Pror Go.Tick

def b4 (cr bk kp lf : Int) : List Int := [cr, ng bk, ng kp, ng lf]
theorem bal_r {V : List Int} {S : List Nat} {np : Nat} {cr pd bk kp lf : Int} (h1 : S.length = V.length) (h2 : np = V.length) (h3 : S.all isS = true) :
    (may pd = false → balL V S np cr pd bk kp lf = (0, 7)) ∧ (may pd = true → balL V S np cr pd bk kp lf = pairV (sumO pd (b4 cr bk kp lf ++ wl V S V.length))) := by
  rw [bal_sum h1 h2 h3]
  have e : b5 cr pd bk kp lf ++ wl V S V.length = pd :: (b4 cr bk kp lf ++ wl V S V.length) := rfl
  rw [e]
  constructor
  · intro h
    have : addO 0 pd = none := addO_none (by rw [h]; rfl)
    simp only [sumO, this]; rfl
  · intro h
    have : addO 0 pd = some pd := by rw [addO_some (by rw [Int.zero_add, h]; rfl), Int.zero_add]
    simp only [sumO, this]
theorem wth_le {s : Nat} (h : isS s = true) : wthB s = decide (s ≤ 4) := by
  unfold isS at h
  simp only [Bool.and_eq_true, decide_eq_true_eq] at h
  obtain ⟨h1, h2⟩ := h
  match s, h1, h2 with
  | 1, _, _ => rfl
  | 2, _, _ => rfl
  | 3, _, _ => rfl
  | 4, _, _ => rfl
  | 5, _, _ => rfl
  | 6, _, _ => rfl
  | 7, _, _ => rfl
set_option maxRecDepth 100000 in
set_option maxHeartbeats 3200000 in
theorem rbal_any (V : List Int) (S : List Nat) (np pc : Nat) (pp sp : Option Addr) (sc : Nat) (x0 x1 x2 x3 x4 x5 x6 : Value) (vp : Option Addr) (vc : Nat) (y8 y9 y10 y11 : Value) (cr pd bk kp lf : Int) (w : World)
    (hV : Nums w .i64 vp V) (hS : Nums w .u8 sp (ints S)) (hlt : ∀ x ∈ S, x < 256) (hl : S.length ≤ 1000) (hnp : np ≤ 1000000) :
    Calls Try.prog 13 #[.agg (dcV x0 x1 x2 x3 x4 x5 x6 vp V.length vc y8 y9 y10 y11 cr pd bk kp lf), .slice sp S.length sc, .slice pp np pc] w fun e w' =>
      e = .returned (.tuple #[iv (balL V S np cr pd bk kp lf).1, iv (balL V S np cr pd bk kp lf).2]) ∧ Below w.heap.size w w' := by
  by_cases h1 : S.length = V.length
  rotate_left
  · rw [bal_arg (.inl h1)]
    have hb : ((S.length : Int) != (V.length : Int)) = true := by rw [bne_iff_ne]; omega
    have hb' : (S.length != V.length) = true := by rw [bne_iff_ne]; exact h1
    clear hV hS hlt hl hnp h1
    go_enter Try.func13, Try.ntmps13
    go_wp2
    go_ret2
    exact ⟨rfl, (Below.refl _ _).alloc (Nat.le_refl _) _⟩
  by_cases h2 : np = V.length
  rotate_left
  · rw [bal_arg (.inr (.inl h2))]
    have hb : ((np : Int) != (V.length : Int)) = true := by rw [bne_iff_ne]; omega
    have hb' : (np != V.length) = true := by rw [bne_iff_ne]; exact h2
    rw [h1]
    clear hV hS hlt hl hnp h1 h2
    go_enter Try.func13, Try.ntmps13
    go_wp2
    go_ret2
    exact ⟨rfl, (Below.refl _ _).alloc (Nat.le_refl _) _⟩
  subst h2
  obtain ⟨wb, hwb⟩ : ∃ wb, wb = w.alloc (.cells (dcV x0 x1 x2 x3 x4 x5 x6 vp V.length vc y8 y9 y10 y11 cr pd bk kp lf) 31) := ⟨_, rfl⟩
  have hb1 : Below w.heap.size w wb := by rw [hwb]; exact (Below.refl _ _).alloc (Nat.le_refl _) _
  have hz1 : wb.heap.size = w.heap.size + 1 := by rw [hwb]; simp
  have hbD : wb.heap[w.heap.size]? = some (.cells (dcV x0 x1 x2 x3 x4 x5 x6 vp V.length vc y8 y9 y10 y11 cr pd bk kp lf) 31 (0, 0)) := by rw [hwb]; exact heap_last _ _ _ rfl
  have HV := Lib.hid (hV.keep hb1)
  have HSN := Lib.hid (hS.keep hb1)
  have HXD := Lib.hid (fun wz (hz : Below wb.heap.size wb wz) => (hz.block _ (lt_heap hbD)).trans hbD)
  have HLT := Lib.hid hlt
  have HSV := Lib.hid h1
  have lI : (V.length : Int) ≤ 1000 := by omega
  have HL := Lib.hid (show V.length ≤ 1000 by omega)
  have HB1 := Lib.hid hb1
  have HZ1 := Lib.hid hz1
  obtain ⟨r, hr⟩ : ∃ r, r = balL V S V.length cr pd bk kp lf := ⟨_, rfl⟩
  rw [← hr]
  have HR := Lib.hid hr
  rw [h1]
  have d5 := loadL hbD 12 (v := iv cr) rfl
  have d6 := loadL hbD 13 (v := iv pd) rfl
  have d7 := loadL hbD 14 (v := iv bk) rfl
  have d8 := loadL hbD 15 (v := iv kp) rfl
  have d9 := loadL hbD 16 (v := iv lf) rfl
  clear hV hS hlt hl hnp h1 hr hb1 hz1 hbD
  go_enter Try.func13, Try.ntmps13
  go_wp2_with fail
  rw [← hwb]
  clear hwb
  go_loopw [8] (fun i wr => ∃ k : Nat, i = .int .i64 k ∧ k ≤ V.length ∧ Hid (∀ j, j < k → isS (S.getD j 0) = true) ∧ wb = wr) (fun i _ => V.length - (intOf i).toNat)
  case atStart => exact ⟨0, rfl, Nat.zero_le _, (fun j hj => absurd hj (Nat.not_lt_zero _)), rfl⟩
  case round =>
    obtain ⟨k, rfl, hk, ha, rfl⟩ := hrel
    have HA := Lib.hid ha.out
    clear ha
    by_cases hlt : (k : Int) < (V.length : Int)
    · have hkl : k < V.length := by omega
      have hk0 : (0 : Int) ≤ (k : Int) := Int.natCast_nonneg _
      obtain ⟨b, o, rfl, hbl, c0⟩ := kcell HSN.out (j := k) (by rw [HSV.out]; exact hkl)
      have hs256 := HLT.out _ (getD_mem (l := S) (k := k) (by rw [HSV.out]; exact hkl))
      have HI := Lib.hid (fun W => ris_any (S.getD k 0) hs256 W)
      obtain ⟨bi, hbi⟩ : ∃ bi, isS (S.getD k 0) = bi := ⟨_, rfl⟩
      rw [hbi] at HI
      have HBI := Lib.hid hbi
      clear hbi hs256
      generalize S.getD k 0 = sk at c0 HI
      cases bi
      · go_wp2_with (go_at_call 25; refine (HI.out _).mono ?_; rintro e w2 ⟨rfl, rfl⟩)
        go_ret2
        rw [HR.out, bal_arg (.inr (.inr (all_false (by rw [HSV.out]; exact hkl) HBI.out)))]
        exact ⟨rfl, HB1.out⟩
      · go_wp2_with (go_at_call 25; refine (HI.out _).mono ?_; rintro e w2 ⟨rfl, rfl⟩)
        go_roundw
        case rel => exact ⟨k + 1, by go_num, by omega, (fun j hj => by
          by_cases e : j = k
          · rw [e]; exact HBI.out
          · exact HA.out j (by omega)), trivial⟩
        case measure => simp [intOf]; omega
    · obtain rfl : k = V.length := by omega
      have HAll := Lib.hid (show S.all isS = true from all_true (by rw [HSV.out]; exact HA.out))
      have HIS := Lib.hid HA.out
      clear HA hlt hk
      go_wp2_with fail
      go_loopw [9, 10] (fun vl i wr => ∃ (k n : Nat), i = .int .i64 k ∧ k ≤ V.length ∧ Hid (n = (b4 cr bk kp lf ++ wl V S k).length) ∧ Hid (wr.ownsRow wb.heap.size 2 1 vl n ((b4 cr bk kp lf ++ wl V S k).map fun x => .int .i64 x)) ∧ Hid (Below wb.heap.size wb wr)) (fun _ i _ => V.length - (intOf i).toNat)
      case atStart =>
        refine ⟨0, 4, rfl, Nat.zero_le _, (show _ = _ from rfl), ?_, (Below.refl _ _).alloc (Nat.le_refl _) _⟩
        exact World.ownsRow_lit (base := wb.heap.size) (e := 2) (size := 1) wb #[iv cr, iv (ng bk), iv (ng kp), iv (ng lf)] 4 (Nat.le_refl _) (by unfold maxLen; omega) rfl
      case round =>
        obtain ⟨k, n, rfl, hk, hn, ho, hb⟩ := hrel
        rename World => wr
        have HN := Lib.hid hn.out
        have HO := Lib.hid ho.out
        have HB := Lib.hid hb.out
        have hn5 : 4 ≤ n ∧ n ≤ 4 + k := by
          have h1 := hn.out
          have h2 := wl_len V S k
          rw [List.length_append] at h1
          have h3 : (b4 cr bk kp lf).length = 4 := rfl
          omega
        clear hn ho hb
        obtain ⟨g, cap, rfl, hg1, hg2, hg3⟩ := own_pos HO.out (by omega)
        by_cases hlt : (k : Int) < (V.length : Int)
        · have hkl : k < V.length := by omega
          have hk0 : (0 : Int) ≤ (k : Int) := Int.natCast_nonneg _
          obtain ⟨b, o, rfl, hbl, hcell⟩ := kcell HSN.out (j := k) (by rw [HSV.out]; exact hkl)
          obtain ⟨b', o', rfl, hbl', hcell'⟩ := HV.out.cell hkl
          have c0 := (HB.out.cell (p := ⟨b, o + k, none⟩) hbl).trans hcell
          have c1 := (HB.out.cell (p := ⟨b', o' + k, none⟩) hbl').trans hcell'
          have c2 : wr.cell? ⟨w.heap.size, 7, none⟩ = some (.slice (some ⟨b', o', none⟩) V.length vc) := loadL (HXD.out _ HB.out) 7 rfl
          have hwle := wth_le (HIS.out k hkl)
          clear hcell hcell'
          by_cases h4 : ((S.getD k 0 : Nat) : Int) ≤ 4
          · have HWL := Lib.hid (show wl V S (k + 1) = wl V S k ++ [ng (V.getD k 0)] by
              show wl V S k ++ (if wthB (S.getD k 0) then [ng (V.getD k 0)] else []) = _
              rw [hwle, decide_eq_true (by omega)]; rfl)
            clear hwle
            generalize S.getD k 0 = sk at c0 h4
            generalize V.getD k 0 = vk at *
            have HR1 := Lib.hid (row1 wr (iv (ng vk)) 2)
            have hng : wrap64 (-vk) = ng vk := rfl
            go_wp2_with (at_builtin; refine wl_appF 29 2 (.int .i64 0) 1 8 par_i64 Try.underlying29 rfl (by decide) (by decide) wb.heap.size (.slice (some ⟨g, 0, none⟩) n cap) n ((b4 cr bk kp lf ++ wl V S k).map fun x => .int .i64 x) (by rfl) (HO.out.alloc _) (.slice (some ⟨wr.heap.size, 0, none⟩) 1 1) (fun _ => True) 1 [.int .i64 (ng vk)] rfl HR1.out rfl (one_int _ _) (by omega) (by have := HB.out.size; simp; omega) ?_)
            intro v2 w3 ho hgr hbk
            have HO3 := Lib.hid ho
            have HB3 := Lib.hid ((HB.out.alloc HB.out.size _).grown hgr (by have := HB.out.size; simp; omega) (fun k hk => (HO.out.lt k hk).1))
            clear ho hgr hbk
            go_wp2
            go_roundw
            case rel =>
              refine ⟨k + 1, n + 1, by go_num, by omega, ?_, ?_, HB3.out⟩
              · rw [HWL.out]; show n + 1 = _; rw [← List.append_assoc, List.length_append, ← HN.out]; rfl
              · rw [HWL.out, ← List.append_assoc, List.map_append]; exact HO3.out
            case measure => simp [intOf]; omega
          · have HWL := Lib.hid (show wl V S (k + 1) = wl V S k by
              show wl V S k ++ (if wthB (S.getD k 0) then [ng (V.getD k 0)] else []) = _
              rw [hwle, decide_eq_false (by omega)]; exact List.append_nil _)
            clear hwle
            generalize S.getD k 0 = sk at c0 h4
            go_wp2
            go_roundw
            case rel => exact ⟨k + 1, n, by go_num, by omega, (by rw [HWL.out]; exact HN.out), (by rw [HWL.out]; exact HO.out), HB.out⟩
            case measure => simp [intOf]; omega
        · obtain rfl : k = V.length := by omega
          have HRR := Lib.hid (bal_r (cr := cr) (pd := pd) (bk := bk) (kp := kp) (lf := lf) HSV.out rfl HAll.out)
          have c6 : wr.cell? ⟨w.heap.size, 13, none⟩ = some (iv pd) := loadL (HXD.out _ HB.out) 13 rfl
          have HQ := Lib.hid (fun w => may_any pd w)
          have HBF := Lib.hid (HB1.out.trans (HB.out.mono HB1.out.size))
          obtain ⟨l, hlL⟩ : ∃ l, l = b4 cr bk kp lf ++ wl V S V.length := ⟨_, rfl⟩
          have hO := HO.out
          have hN := HN.out
          rw [← hlL] at hO hN HRR
          obtain ⟨p2, cc, hp2, _, hnm⟩ := own_nums (l := l) (by rw [← hN]; exact hO)
          rw [← hN] at hp2
          simp only [Value.slice.injEq, true_and] at hp2
          obtain ⟨rfl, rfl⟩ := hp2
          have HC := Lib.hid (fun j (hj : j < n) => show wr.cell? ⟨g, j, none⟩ = some (iv (l.getD j 0)) by
            obtain ⟨b, o, e1, _, e3⟩ := hnm.cell (j := j) (by rw [← hN]; exact hj)
            simp only [Option.some.injEq, Addr.mk.injEq] at e1
            obtain ⟨rfl, rfl, _⟩ := e1
            rw [Nat.zero_add] at e3; exact e3)
          have HLN := Lib.hid hN
          have nI : (n : Int) ≤ 2000 := by omega
          clear hO hN hnm hlL HN HO hn5 hlt hk hg1 hg2 hg3
          cases hm : may pd with
          | false =>
            rw [hm] at HQ
            have hr := HR.out.trans (HRR.out.1 hm)
            have HRX := Lib.hid hr
            clear hr hm
            go_wp2_with (go_at_call 26; refine (HQ.out _).mono ?_; rintro e w2 ⟨rfl, rfl⟩)
            go_ret2
            rw [HRX.out]
            exact ⟨rfl, HBF.out⟩
          | true =>
            rw [hm] at HQ
            have HRX := Lib.hid (HR.out.trans (HRR.out.2 hm))
            have HM := Lib.hid hm
            clear hm
            go_wp2_with (go_at_call 26; refine (HQ.out _).mono ?_; rintro e w2 ⟨rfl, rfl⟩)
            go_loopw [11, 12] (fun vo i wx => ∃ (k : Nat) (x : Int), i = .int .i64 k ∧ vo = .int .i64 x ∧ k ≤ n ∧ Hid (sumO pd (l.take k) = some x ∧ may x = true) ∧ wr = wx) (fun _ i _ => n - (intOf i).toNat)
            case atStart => exact ⟨0, pd, rfl, rfl, Nat.zero_le _, ⟨rfl, HM.out⟩, rfl⟩
            case round =>
              obtain ⟨k, x, rfl, rfl, hk, hs, rfl⟩ := hrel
              have HS := Lib.hid hs.out
              clear hs
              by_cases hlt : (k : Int) < (n : Int)
              · have hkn : k < n := by omega
                have hk0 : (0 : Int) ≤ (k : Int) := Int.natCast_nonneg _
                have ck := HC.out k hkn
                have hstep : sumO pd (l.take (k + 1)) = addO x (l.getD k 0) ∧ (addO x (l.getD k 0) = none → sumO pd l = none) := by
                  have hkl : k < l.length := by rw [← HLN.out]; exact hkn
                  have e : l.getD k 0 = l[k] := by rw [List.getD_eq_getElem?_getD, List.getElem?_eq_getElem hkl]; rfl
                  have h1 : sumO pd (l.take (k + 1)) = addO x (l.getD k 0) := by
                    rw [List.take_succ_eq_append_getElem hkl, sumO_app, HS.out.1, e]
                    simp only [Option.bind_some, sumO]
                    cases addO x l[k] <;> rfl
                  refine ⟨h1, fun hn => ?_⟩
                  rw [← List.take_append_drop (k + 1) l, sumO_app, h1, hn]
                  rfl
                have HST := Lib.hid hstep
                clear hstep
                generalize l.getD k 0 = a at ck HST
                have HMA := Lib.hid (fun w => may_any a w)
                cases ha : may a with
                | false =>
                  rw [ha] at HMA
                  have HA := Lib.hid (show addO x a = none from addO_none (by rw [ha, Bool.and_false, Bool.false_and]))
                  clear ha
                  go_wp2_with (go_at_call 26; refine (HMA.out _).mono ?_; rintro e w2 ⟨rfl, rfl⟩)
                  go_ret2
                  rw [HRX.out, HST.out.2 HA.out]
                  exact ⟨rfl, HBF.out⟩
                | true =>
                  rw [ha] at HMA
                  have hx := HS.out.2
                  have hxa : -1125899906842624 ≤ x ∧ x ≤ 1125899906842624 ∧ -1125899906842624 ≤ a ∧ a ≤ 1125899906842624 := by
                    have h1 := (may_iff x).1 hx
                    have h2 := (may_iff a).1 ha
                    omega
                  have s1 : -9223372036854775808 ≤ x + a := by omega
                  have s2 : x + a ≤ 9223372036854775807 := by omega
                  have hwr : wrap64 (x + a) = x + a := by unfold wrap64; omega
                  have HMX := Lib.hid (fun w => may_any (x + a) w)
                  clear hxa
                  cases hxa : may (x + a) with
                  | false =>
                    rw [hxa] at HMX
                    have HA := Lib.hid (show addO x a = none from addO_none (by rw [hxa, Bool.and_false]))
                    clear ha hxa hx
                    go_wp2_with fail
                    refine (HMA.out _).mono ?_
                    rintro e w2 ⟨rfl, rfl⟩
                    go_wp2_with fail
                    refine (HMX.out _).mono ?_
                    rintro e w3 ⟨rfl, rfl⟩
                    go_wp2
                    go_ret2
                    rw [HRX.out, HST.out.2 HA.out]
                    exact ⟨rfl, HBF.out⟩
                  | true =>
                    rw [hxa] at HMX
                    have HA := Lib.hid (show addO x a = some (x + a) from addO_some (by rw [hx, ha, hxa]; rfl))
                    have HMM := Lib.hid hxa
                    clear ha hxa hx
                    go_wp2_with fail
                    refine (HMA.out _).mono ?_
                    rintro e w2 ⟨rfl, rfl⟩
                    go_wp2_with fail
                    refine (HMX.out _).mono ?_
                    rintro e w3 ⟨rfl, rfl⟩
                    go_wp2
                    go_roundw
                    case rel => exact ⟨k + 1, x + a, by go_num, rfl, by omega, ⟨HST.out.1.trans HA.out, HMM.out⟩, trivial⟩
                    case measure => simp [intOf]; omega
              · have HE := Lib.hid (show l.take k = l from List.take_of_length_le (by rw [← HLN.out]; omega))
                go_wp2
                go_ret2
                have h := HS.out.1
                rw [HE.out] at h
                rw [HRX.out, h]
                exact ⟨rfl, HBF.out⟩
end Go.Proofs.Ytkdfhmlamjhedaa
