/- Contract of the document's own Parse. -/
import Derived.Test.YtinekngddmeljaaDoorNuR2
namespace Go.Proofs.YtinekngddmeljaaDoor
open Go.RowKit Go.Shelf Go.Number

theorem all_take {t : Tx} (h : t.all dgt = true) (k : Nat) : (t.take k).all dgt = true := List.all_eq_true.2 fun x hx => List.all_eq_true.1 h x (List.mem_of_mem_take hx)
theorem not_all {t : Tx} {k : Nat} (h : k < t.length) (hd : dgt t[k] = false) : t.all dgt = false := by
  rw [← Bool.not_eq_true]
  intro ha
  have := List.all_eq_true.1 ha t[k] (List.getElem_mem h)
  rw [hd] at this; cases this
theorem val_step {t : Tx} {a k : Nat} (hak : a ≤ k) (h : k < t.length) : val ((t.take (k + 1)).drop a) = 10 * val ((t.take k).drop a) + (dv t[k]).1 := by
  rw [List.take_succ_eq_append_getElem h, List.drop_append_of_le_length (by rw [List.length_take]; omega), val_app]
  show _ * 10 ^ 1 + sumD [dv t[k]] = _
  simp [sumD]
  omega
theorem val_take_lt (t : Tx) (a k : Nat) : val ((t.take k).drop a) < 10 ^ (k - a) := by
  refine Nat.lt_of_lt_of_le (val_lt _) (Nat.pow_le_pow_right (by decide) ?_)
  rw [List.length_drop, List.length_take]; omega
set_option maxRecDepth 100000 in
set_option maxHeartbeats 6400000 in
theorem rparse_any (t : Tx) (w : World) : Calls Tryd.prog 13 #[str t] w fun e w' => e = .returned (paV t) ∧ Below w.heap.size w w' := by
  have hsz : (tx t).size = t.length := tx_size t
  obtain ⟨wb, hwb⟩ : ∃ wb, wb = w.alloc (.cells tk0 24) := ⟨_, rfl⟩
  have hbw : Below w.heap.size w wb := by rw [hwb]; exact (Below.refl _ _).alloc (Nat.le_refl _) _
  have hws : wb.heap.size = w.heap.size + 1 := by rw [hwb, size_a]
  have hb0 : wb.heap[w.heap.size]? = some (.cells tk0 24 (0, 0)) := by rw [hwb]; exact World.alloc_heap_new w _
  have CB : ∀ wz : World, Below wb.heap.size wb wz → wz.heap[w.heap.size]? = some (.cells tk0 24 (0, 0)) := fun wz hz => (hz.block _ (by rw [hws]; exact Nat.lt_succ_self _)).trans hb0
  have HCB := Lib.hid CB
  have HFIN := Lib.hid (show ∀ (wz : World) (a b : Value), Below wb.heap.size wb wz → Below w.heap.size w ((wz.setCell ⟨w.heap.size, 0, none⟩ a).setCell ⟨w.heap.size, 1, none⟩ b) from fun wz a b hz =>
    ((hbw.trans (hz.mono hbw.size)).setCell (p := ⟨w.heap.size, 0, none⟩) (Nat.le_refl _) a).setCell (p := ⟨w.heap.size, 1, none⟩) (Nat.le_refl _) b)
  have HB0 := Lib.hid (Below.refl wb.heap.size wb)
  have hR := HCB.out _ HB0.out
  have HFB := Lib.hid (show Below w.heap.size w wb from hbw)
  clear hb0 hbw CB
  by_cases hl : t.length = 14
  rotate_left
  · have HP := Lib.hid (show parseL t = (0, 0, 90) by unfold parseL; rw [if_pos (.inl hl)])
    have hne : ((t.length : Int) != 14) = true := by rw [bne_iff_ne]; omega
    have HW := Lib.hid hwb
    clear hl hws hR
    go_enter Tryd.func13, Tryd.ntmps13
    go_wp2
    rw [← HW.out]
    (try simp only [Exit.inBlock, Exit.then])
    refine bodyPost_ret (results_cell_tmp_row rfl _ _ w.heap.size 24 _ (0, 0) _ rfl (HCB.out _ HB0.out) Tryd.underlying24 rfl sizeTk) rfl ?_
    exact ⟨by unfold paV; rw [HP.out]; rfl, HFB.out⟩
  have hli : (t.length : Int) = 14 := by omega
  have r0 : wb.cell? ⟨w.heap.size, 0, none⟩ = some (.int .u8 0) := cell_of_arr hR 0
  have r1 : wb.cell? ⟨w.heap.size, 1, none⟩ = some (.int .u64 0) := cell_of_arr hR 1
  have f0 := frozen_of_arr hR 0
  have f1 := frozen_of_arr hR 1
  clear hR
  go_enter Tryd.func13, Tryd.ntmps13
  go_wp2
  rw [← hwb]
  have HW := Lib.hid hwb
  have HWS := Lib.hid hws
  clear hwb hws
  go_loopw [4] (fun i wr => ∃ k : Nat, k ≤ 14 ∧ (t.take k).all dgt = true ∧ i = .int .i64 (k : Int) ∧ wb = wr) (fun i _ => 14 - (intOf i).toNat)
  case atStart => exact ⟨0, by omega, rfl, rfl, rfl⟩
  case round =>
    obtain ⟨k, hk, hA, rfl, rfl⟩ := hrel
    by_cases hlt : (k : Int) < 14
    · have hkl : k < t.length := by omega
      have hk2 : k < (tx t).size := by omega
      have hk0 : (0 : Int) ≤ (k : Int) := Int.natCast_nonneg _
      cases hd : dgt t[k]
      · have HP := Lib.hid (show parseL t = (0, 0, 90) by unfold parseL; rw [if_pos (.inr (not_all hkl hd))])
        have HD := dgt_not hd
        clear hd
        have two : (decide ((((tx t)[k]'hk2).toNat : Int) < 48) = true) ∨ (decide ((((tx t)[k]'hk2).toNat : Int) < 48) = false ∧ decide ((57 : Int) < (((tx t)[k]'hk2).toNat : Int)) = true) := by
          rcases (show (((tx t)[k]'hk2).toNat : Int) < 48 ∨ (57 : Int) < (((tx t)[k]'hk2).toNat : Int) from HD) with h1 | h1
          · exact .inl (decide_eq_true h1)
          · exact .inr ⟨decide_eq_false (by omega), decide_eq_true h1⟩
        clear HD
        rcases two with h1 | ⟨h1, h2⟩
        all_goals
          go_wp2
          (try simp only [Exit.inBlock, Exit.then])
          refine bodyPost_ret (results_cell_tmp_row rfl _ _ w.heap.size 24 _ (0, 0) _ rfl (set2 (HCB.out _ HB0.out) _ _) Tryd.underlying24 rfl sizeTk) rfl ?_
          exact ⟨by unfold paV; rw [HP.out]; rfl, HFIN.out _ _ _ HB0.out⟩
      · have HT := Lib.hid (take_all hkl hA hd)
        obtain ⟨h1, h2⟩ := (show (48 : Int) ≤ (((tx t)[k]'hk2).toNat : Int) ∧ (((tx t)[k]'hk2).toNat : Int) ≤ 57 from dgt_le hd)
        have h3 : decide ((((tx t)[k]'hk2).toNat : Int) < 48) = false := decide_eq_false (by omega)
        have h4 : decide ((57 : Int) < (((tx t)[k]'hk2).toNat : Int)) = false := decide_eq_false (by omega)
        clear hd hA
        go_wp2
        go_roundw
        case rel => exact ⟨k + 1, by omega, HT.out, by go_num, trivial⟩
        case measure => simp [intOf]; omega
    · obtain rfl : k = 14 := by omega
      have ha : t.all dgt = true := by rw [List.take_of_length_le (by omega)] at hA; exact hA
      clear hA hlt hk
      have HA := Lib.hid (fun (k : Nat) (h : k < t.length) => List.all_eq_true.1 ha t[k] (List.getElem_mem h))
      have HPP := Lib.hid (show parseL t = _ from by unfold parseL; rw [if_neg (by simp [hl, ha])])
      have HL := Lib.hid (rleft_any (t.take 13) (all_take ha 13) (by rw [List.length_take]; omega))
      have x2 : (tx t).extract 0 13 = tx (t.take 13) := by rw [tx_ext]; rfl
      have h13 : 13 < (tx t).size := by omega
      have h13l : 13 < t.length := by omega
      have hb13 : (((tx t)[13]'h13).toNat : Int) = 48 + (val (t.drop 13) : Int) := by
        have e1 : t.drop 13 = [t[13]] := by rw [List.drop_eq_getElem_cons h13l, List.drop_of_length_le (by omega)]
        have e2 : val (t.drop 13) = (dv t[13]).1 := by rw [e1]; simp [val, sumD]
        have e3 := dv_int (HA.out 13 h13l)
        have e4 : (((tx t)[13]'h13).toNat : Int) = (t[13].toNat : Int) := rfl
        rw [e2, e3, e4]; omega
      have hv1 : (val (t.drop 13) : Int) ≤ 9 := by
        have := val_lt (t.drop 13)
        rw [List.length_drop, hl] at this
        omega
      have hv0 : (0 : Int) ≤ (val (t.drop 13) : Int) := Int.natCast_nonneg _
      have HBD := Lib.hid (show Below wb.heap.size wb wb.drew from (Below.refl _ _).drew)
      have hsw : (48 + (val (t.drop 13) : Int)) - 48 = (val (t.drop 13) : Int) := by omega
      have hw1 : IntKind.u8.wrap (val (t.drop 13) : Int) = (val (t.drop 13) : Int) := by rw [IntKind.wrap_u8]; omega
      have hw2 : IntKind.i64.wrap (val (t.drop 13) : Int) = (val (t.drop 13) : Int) := by rw [IntKind.wrap_i64]; omega
      rw [hl] at hsz
      clear ha
      by_cases hk : val (t.drop 13) = chk (t.take 13)
      rotate_left
      · have hkb : ((chk (t.take 13) : Int) != (val (t.drop 13) : Int)) = true := by rw [bne_iff_ne]; omega
        have HP := Lib.hid (HPP.out.trans (if_pos hk))
        have r0 : wb.drew.cell? ⟨w.heap.size, 0, none⟩ = some (.int .u8 0) := cell_of_arr (HCB.out _ HBD.out) 0
        have r1 : wb.drew.cell? ⟨w.heap.size, 1, none⟩ = some (.int .u64 0) := cell_of_arr (HCB.out _ HBD.out) 1
        have f0 : wb.drew.frozen? ⟨w.heap.size, 0, none⟩ = false := frozen_of_arr (HCB.out _ HBD.out) 0
        have f1 : wb.drew.frozen? ⟨w.heap.size, 1, none⟩ = false := frozen_of_arr (HCB.out _ HBD.out) 1
        clear hk
        go_wp2_with fail
        go_region_law
          (go_simp
           refine (HL.out _).mono ?_
           rintro e w' ⟨rfl, rfl⟩)
        all_goals
          go_wp2
          (try simp only [Exit.inBlock, Exit.then])
          refine bodyPost_ret (results_cell_tmp_row rfl _ _ w.heap.size 24 _ (0, 0) _ rfl (set2 (HCB.out _ HBD.out) _ _) Tryd.underlying24 rfl sizeTk) rfl ?_
          exact ⟨by unfold paV; rw [HP.out]; rfl, HFIN.out _ _ _ HBD.out⟩
      have hkb : ((chk (t.take 13) : Int) != (val (t.drop 13) : Int)) = false := by rw [hk]; simp
      have HPQ := Lib.hid (HPP.out.trans (if_neg (by simp [hk])))
      clear hk
      go_wp2_with fail
      go_region_law
        (go_simp
         refine (HL.out _).mono ?_
         rintro e w' ⟨rfl, rfl⟩)
      all_goals
        go_wp2
        clear hkb hb13 hsw hw1 hw2 hv0 hv1 r0 r1 f0 f1
        go_loopw [5, 6, 7] (fun c s i wr => ∃ k : Nat, k ≤ 13 ∧ c = .int .i64 (val (t.take (min k 3)) : Int) ∧ s = .int .u64 (val ((t.take k).drop 3) : Int) ∧ i = .int .i64 (k : Int) ∧ wb.drew = wr) (fun _ _ i _ => 13 - (intOf i).toNat)
        case atStart => exact ⟨0, by omega, rfl, rfl, rfl, rfl⟩
        case round =>
          obtain ⟨k, hk, rfl, rfl, rfl, rfl⟩ := hrel
          by_cases hlt : (k : Int) < 13
          · have hkl : k < t.length := by omega
            have hk2 : k < (tx t).size := by omega
            have hk0 : (0 : Int) ≤ (k : Int) := Int.natCast_nonneg _
            have e3 := dv_int (HA.out k hkl)
            have e4 : (((tx t)[k]'hk2).toNat : Int) = (t[k].toNat : Int) := rfl
            obtain ⟨h1, h2⟩ := (show (48 : Int) ≤ (((tx t)[k]'hk2).toNat : Int) ∧ (((tx t)[k]'hk2).toNat : Int) ≤ 57 from dgt_le (HA.out k hkl))
            by_cases h3 : (k : Int) < 3
            · have hm1 : min k 3 = k := by omega
              have hm2 : min (k + 1) 3 = k + 1 := by omega
              have z0 : val ((t.take k).drop 3) = 0 := by rw [List.drop_of_length_le (by rw [List.length_take]; omega)]; rfl
              have z1 : val ((t.take (k + 1)).drop 3) = 0 := by rw [List.drop_of_length_le (by rw [List.length_take]; omega)]; rfl
              have HS := Lib.hid (show ((val (t.take (k + 1)) : Nat) : Int) = 10 * (val (t.take k) : Int) + ((((tx t)[k]'hk2).toNat : Int) - 48) by
                have := val_step (Nat.zero_le k) hkl
                rw [List.drop_zero, List.drop_zero] at this
                omega)
              have hv := val_lt (t.take k)
              have hvk : (val (t.take k) : Int) ≤ 1000 := by
                have : 10 ^ (t.take k).length ≤ 10 ^ 3 := Nat.pow_le_pow_right (by decide) (by rw [List.length_take]; omega)
                have e : (10 : Nat) ^ 3 = 1000 := by decide
                omega
              have hvk0 : (0 : Int) ≤ (val (t.take k) : Int) := Int.natCast_nonneg _
              have HZ := Lib.hid z1
              have HM := Lib.hid hm2
              rw [hm1, z0]
              clear hv hm1 hm2 z0 z1 e3 e4
              go_wp2
              go_roundw
              case rel => exact ⟨k + 1, by omega, by rw [HM.out, HS.out]; try go_num, by rw [HZ.out]; simp, by go_num, trivial⟩
              case measure => simp [intOf]; omega
            · have hm1 : min k 3 = 3 := by omega
              have hm2 : min (k + 1) 3 = 3 := by omega
              have HS := Lib.hid (show ((val ((t.take (k + 1)).drop 3) : Nat) : Int) = 10 * (val ((t.take k).drop 3) : Int) + ((((tx t)[k]'hk2).toNat : Int) - 48) by
                have := val_step (a := 3) (by omega) hkl
                omega)
              have hv := val_take_lt t 3 k
              have hvk : (val ((t.take k).drop 3) : Int) ≤ 10000000000 := by
                have : 10 ^ (k - 3) ≤ 10 ^ 10 := Nat.pow_le_pow_right (by decide) (by omega)
                have e : (10 : Nat) ^ 10 = 10000000000 := by decide
                omega
              have hvk0 : (0 : Int) ≤ (val ((t.take k).drop 3) : Int) := Int.natCast_nonneg _
              have HM := Lib.hid hm2
              rw [hm1]
              clear hv hm1 hm2 e3 e4
              go_wp2
              go_roundw
              case rel => exact ⟨k + 1, by omega, by rw [HM.out], by rw [HS.out]; try go_num, by go_num, trivial⟩
              case measure => simp [intOf]; omega
          · obtain rfl : k = 13 := by omega
            clear hlt hk
            rw [show min 13 3 = 3 from rfl]
            obtain ⟨C, hC⟩ : ∃ C, C = val (t.take 3) := ⟨_, rfl⟩
            obtain ⟨S, hS⟩ : ∃ S, S = val ((t.take 13).drop 3) := ⟨_, rfl⟩
            have HPR := Lib.hid HPQ.out
            rw [← hC, ← hS] at HPR ⊢
            have hc3 : C < 1000 := by
              have := val_lt (t.take 3)
              rw [List.length_take, hl, show min 3 14 = 3 from rfl, show (10 : Nat) ^ 3 = 1000 from by decide] at this
              rw [hC]; exact this
            clear hC hS HPQ HPP
            have hC0 : (0 : Int) ≤ (C : Int) := Int.natCast_nonneg _
            have hS0 : (0 : Int) ≤ (S : Int) := Int.natCast_nonneg _
            have hC3 : (C : Int) < 1000 := by omega
            have HBX := Lib.hid (show ∀ o, Below wb.heap.size wb (wb.alloc o).drew from fun o => ((Below.refl _ _).alloc (Nat.le_refl _) o).drew)
            by_cases h8 : (8 : Int) ≤ (C : Int)
            · have h8b : decide ((8 : Int) ≤ (C : Int)) = true := decide_eq_true h8
              have HP := Lib.hid (HPR.out.trans (if_neg (by intro h; have := h.1; omega)))
              have HR := Lib.hid (fun o => HCB.out _ (HBX.out o))
              have r0 : ∀ o, (wb.alloc o).cell? ⟨w.heap.size, 0, none⟩ = some (.int .u8 0) := fun o => cell_of_arr (HR.out o) 0
              have r1 : ∀ o, (wb.alloc o).cell? ⟨w.heap.size, 1, none⟩ = some (.int .u64 0) := fun o => cell_of_arr (HR.out o) 1
              have f0 : ∀ o, (wb.alloc o).frozen? ⟨w.heap.size, 0, none⟩ = false := fun o => frozen_of_arr (HR.out o) 0
              have f1 : ∀ o, (wb.alloc o).frozen? ⟨w.heap.size, 1, none⟩ = false := fun o => frozen_of_arr (HR.out o) 1
              clear hc3
              go_wp2
              (try simp only [Exit.inBlock, Exit.then])
              refine bodyPost_ret (results_cell_tmp_row rfl _ _ w.heap.size 24 _ (0, 0) _ rfl (set2 (HR.out _) _ _) Tryd.underlying24 rfl sizeTk) rfl ?_
              exact ⟨by unfold paV; rw [HP.out]; rfl, HFIN.out _ _ _ (HBX.out _)⟩
            · have h8b : decide ((8 : Int) ≤ (C : Int)) = false := decide_eq_false h8
              have hC8 : (C : Int) < 8 := by omega
              have HM := Lib.hid (fun W => rmay_any C S W)
              have HR := Lib.hid HCB.out
              clear hc3 h8
              by_cases hm : may C S
              · have hdm : decide (may C S) = true := decide_eq_true hm
                have HP := Lib.hid (HPR.out.trans (if_pos hm))
                clear hm
                go_wp2_with fail
                go_at_call 14
                refine (HM.out _).mono ?_
                rintro e w3 ⟨rfl, hb3⟩
                have h3 := (HBX.out _).trans (hb3.mono (HBX.out (.cells (tkV C S) 24)).size)
                have hr3 := HCB.out _ h3
                have r0 : w3.cell? ⟨w.heap.size, 0, none⟩ = some (.int .u8 0) := cell_of_arr hr3 0
                have r1 : w3.cell? ⟨w.heap.size, 1, none⟩ = some (.int .u64 0) := cell_of_arr hr3 1
                have f0 : w3.frozen? ⟨w.heap.size, 0, none⟩ = false := frozen_of_arr hr3 0
                have f1 : w3.frozen? ⟨w.heap.size, 1, none⟩ = false := frozen_of_arr hr3 1
                have hb8 : w3.heap[wb.heap.size]? = some (.cells (tkV C S) 24 (0, 0)) := (hb3.block _ (by show _ < (wb.alloc _).heap.size; rw [size_a]; exact Nat.lt_succ_self _)).trans (World.alloc_heap_new wb _)
                have q0 : w3.cell? ⟨wb.heap.size, 0, none⟩ = some (.int .u8 (C : Int)) := cell_of_arr hb8 0
                have q1 : w3.cell? ⟨wb.heap.size, 1, none⟩ = some (.int .u64 (S : Int)) := cell_of_arr hb8 1
                have H3 := Lib.hid h3
                clear hb3 h3 hr3 hb8
                simp only [hdm]
                go_wp2
                (try simp only [Exit.inBlock, Exit.then])
                refine bodyPost_ret (results_cell_tmp_row rfl _ _ w.heap.size 24 _ (0, 0) _ rfl (set2 (HCB.out _ H3.out) _ _) Tryd.underlying24 rfl sizeTk) rfl ?_
                exact ⟨by unfold paV; rw [HP.out]; rfl, HFIN.out _ _ _ H3.out⟩
              · have hdm : decide (may C S) = false := decide_eq_false hm
                have HP := Lib.hid (HPR.out.trans (if_neg hm))
                clear hm
                go_wp2_with fail
                go_at_call 14
                refine (HM.out _).mono ?_
                rintro e w3 ⟨rfl, hb3⟩
                have h3 := (HBX.out _).trans (hb3.mono (HBX.out (.cells (tkV C S) 24)).size)
                have hr3 := HCB.out _ h3
                have r0 : w3.cell? ⟨w.heap.size, 0, none⟩ = some (.int .u8 0) := cell_of_arr hr3 0
                have r1 : w3.cell? ⟨w.heap.size, 1, none⟩ = some (.int .u64 0) := cell_of_arr hr3 1
                have f0 : w3.frozen? ⟨w.heap.size, 0, none⟩ = false := frozen_of_arr hr3 0
                have f1 : w3.frozen? ⟨w.heap.size, 1, none⟩ = false := frozen_of_arr hr3 1
                have H3 := Lib.hid h3
                clear hb3 h3 hr3
                simp only [hdm]
                go_wp2
                (try simp only [Exit.inBlock, Exit.then])
                refine bodyPost_ret (results_cell_tmp_row rfl _ _ w.heap.size 24 _ (0, 0) _ rfl (set2 (HCB.out _ H3.out) _ _) Tryd.underlying24 rfl sizeTk) rfl ?_
                exact ⟨by unfold paV; rw [HP.out]; rfl, HFIN.out _ _ _ H3.out⟩
end Go.Proofs.YtinekngddmeljaaDoor
