/- Contract of tarmacref02.block, over the translated program. -/
import Derived.Test.YthaaccbbegmhbaaDoorMacW5
import Derived.Test.YthaaccbbegmhbaaDoorShaR5
namespace Go.Proofs.YthaaccbbegmhbaaDoor
open Go.RowKit Go.Sha

@[local go_sem high, local simp high] theorem z25b (w : World) : (zeroValue 25).run Tryd.prog w = .ok (.agg (bv (zl 32))) w := by kernel_rfl
theorem Own.lower {w : World} {base b2 : Nat} {v : Value} {l : List Nat} (h : Own w base v l) (hb : b2 ≤ base) : Own w b2 v l := by
  obtain ⟨h1, h2⟩ := h
  refine ⟨h1, h2.imp id ?_⟩
  rintro ⟨b, cap, cur, e1, e2, e3⟩
  exact ⟨b, cap, cur, e1, by omega, e3⟩
theorem blk_at (key : List Nat) (x k : Nat) (hk : k < 64) : at0 (xr x (blk key)) k = (if k < (kk key).length then at0 (kk key) k else 0) ^^^ x := by
  have h1 : at0 (xr x (blk key)) k = at0 (blk key) k ^^^ x := by
    rw [at0_get _ k (by rw [xr_len, blk_len]; exact hk), at0_get _ k (by rw [blk_len]; exact hk)]
    unfold xr
    simp
  have h2 : at0 (blk key) k = if k < (kk key).length then at0 (kk key) k else 0 := by
    unfold blk
    rw [blk0_eq, at0_append, at0_zl]
  rw [h1, h2]

set_option maxRecDepth 100000 in
set_option maxHeartbeats 1600000 in
theorem rblock_any (key : List Nat) (x : Nat) (p : Option Addr) (n c : Nat) (w : World) (hn : n = key.length) (hn1 : n ≤ 100000) (hl : Lt 256 key) (hx : x < 256) (hv : Src w (.slice p n c) key) :
    Calls Tryd.prog 26 #[.slice p n c, .int .u8 (x : Int)] w fun e w' => ∃ v, e = .returned v ∧ Own w' w.heap.size v (xr x (blk key)) ∧ Below w.heap.size w w' := by
  have HN := Lib.hid hn; clear hn
  have HL := Lib.hid hl; clear hl
  have HV := Lib.hid hv; clear hv
  have HZL := Lib.hid (show (xr x (blk key)).length = 64 by rw [xr_len, blk_len])
  obtain ⟨KL, hKL⟩ : ∃ KL, KL = (kk key).length := ⟨_, rfl⟩
  have HZ := Lib.hid (show ∀ k, k < 64 → at0 (xr x (blk key)) k = (if k < KL then at0 (kk key) k else 0) ^^^ x from fun k hk => by rw [hKL]; exact blk_at key x k hk)
  generalize xr x (blk key) = Z at *
  have HKL := Lib.hid hKL; clear hKL
  have hKL64 : KL ≤ 64 := by rw [HKL.out]; exact kk_len key
  by_cases h64 : 64 < n
  · have t1 : decide ((64 : Int) < (n : Int)) = true := by simp; omega
    have HKK := Lib.hid (show kk key = shaL key from by unfold kk; rw [if_pos (by rw [← HN.out]; exact h64)])
    obtain rfl : KL = 32 := by rw [HKL.out, HKK.out, shaL_len]
    go_enter Tryd.func26, Tryd.ntmps26
    go_wp2_with fail
    refine (refOf_any key p n c w HN.out hn1 HL.out HV.out).mono ?_
    rintro e w1 ⟨rfl, hb1⟩
    have HB1 := Lib.hid hb1; clear hb1
    go_wp2_with (first
      | ((with_reducible refine wl_storeL (ty := 25) w1.heap.size (bv (shaL key)) ?_ ?_ ?_ ?_ ?_ ?_ ?_); (· rfl); (· rfl); (· rfl); (· rw [bv_size, shaL_len]; exact info25); (· rw [bv_size, bv_size, shaL_len, zl_len]); (· exact bv_one _)))
    have HBZ := Lib.hid (show Below w.heap.size w (w1.alloc (.cells (bv (shaL key)) 25)) from HB1.out.alloc HB1.out.size _)
    have HCE := Lib.hid (show ∀ j, j < 32 → (w1.alloc (.cells (bv (shaL key)) 25)).cell? ⟨w1.heap.size, 0 + j, none⟩ = some (.int .u8 (at0 (kk key) j : Nat)) from fun j hj => by
      rw [Nat.zero_add, cell_of_row _ _ j _ _ _ (heap_last _ _ _ rfl), HKK.out, bv_get _ _ (by rw [shaL_len]; exact hj)])
    have HZS := Lib.hid HBZ.out.size
    generalize w1.heap.size = kb at *
    generalize w1.alloc (.cells (bv (shaL key)) 25) = z at *
    go_wp2_with fail
    go_loopw [6, 7, 8] (fun s t _ wr => ∃ k : Nat, k ≤ 64 ∧ t = .int .i64 k ∧ Own wr z.heap.size s (Z.take k) ∧ Below z.heap.size z wr) (fun _ t _ _ => 64 - (intOf t).toNat)
    case atStart => exact ⟨0, Nat.zero_le _, rfl, by rw [List.take_zero]; exact own_nil _ _, Below.refl _ _⟩
    case round =>
      obtain ⟨k, hk, rfl, hown, hb⟩ := hrel
      have HOWN := Lib.hid hown; clear hown
      have HB := Lib.hid hb; clear hb
      have HTL := Lib.hid (show (Z.take k).length = k by rw [List.length_take, HZL.out]; omega)
      obtain ⟨sp, sc, rfl⟩ := HOWN.out.sl HTL.out
      by_cases h64 : k < 64
      · have HZA := Lib.hid (HZ.out k h64)
        have HTS := Lib.hid (show Z.take k ++ [at0 Z k] = Z.take (k + 1) by rw [at0_get Z k (by rw [HZL.out]; exact h64), List.take_succ_eq_append_getElem (by rw [HZL.out]; exact h64)])
        rw [HZA.out] at HTS
        have HFIN := Lib.hid (show ∀ (y : Nat) (v' : Value) (w' : World), y = (if k < 32 then at0 (kk key) k else 0) → Own w' z.heap.size v' (Z.take k ++ [y ^^^ x]) → (wr.alloc (.cells #[.int .u8 ((y ^^^ x : Nat) : Int)] 5)).grownBy w' (Value.slice sp k sc).ownBlock → Own w' z.heap.size v' (Z.take (k + 1)) ∧ Below z.heap.size z w' from fun y v' w' hy h1 h2 => by
          subst hy
          rw [HTS.out] at h1
          exact ⟨h1, (HB.out.alloc HB.out.size _).trans (grown_to_below h2 (by have := HB.out.size; simp; omega) (fun j e => (HOWN.out.lt j e).1))⟩)
        by_cases hkl : k < 32
        · have hkd : decide ((k : Int) < (32 : Int)) = true := by simp; omega
          have hki : (k : Int) < (32 : Int) := by omega
          have x1 : wr.cell? ⟨kb, 0 + k, none⟩ = some (.int .u8 (at0 (kk key) k : Nat)) := (HB.out.cell (p := ⟨kb, 0 + k, none⟩) (World.block_lt_of_cell? z _ (HCE.out k hkl))).trans (HCE.out k hkl)
          rw [Nat.zero_add] at x1
          have ly : at0 (kk key) k < 256 := (kk_lt HL.out).getD (by decide) _
          have HX := Lib.hid (u8xor ly hx)
          have HFY := Lib.hid (show at0 (kk key) k = (if k < 32 then at0 (kk key) k else 0) by rw [if_pos hkl])
          generalize at0 (kk key) k = y at *
          go_wp2_with (with_reducible refine stp_append ?_)
          unfold Stp
          rw [HX.out]
          with_reducible refine wl_app z.heap.size (.slice sp k sc) (.slice (some ⟨wr.heap.size, 0, none⟩) 1 1) (Z.take k) [y ^^^ x] ?_ ?_ ?_ ?_ ?_ ?_ ?_
          · rfl
          · rfl
          · exact HOWN.out.kept ((Below.refl _ _).alloc (Nat.le_refl _) _)
          · exact src_one wr _ 5 1
          · rw [HTL.out]; simp; omega
          · have := HB.out.size; simp; omega
          intro v' w' hown' hgr' _
          have HE := Lib.hid (HFIN.out y v' w' HFY.out hown' hgr')
          clear hown' hgr'
          go_wp2_with fail
          go_roundw
          case rel => exact ⟨k + 1, by omega, by go_num, HE.out.1, HE.out.2⟩
          case measure => simp [intOf]; omega
        · have hkd : decide ((k : Int) < (32 : Int)) = false := by simp; omega
          have HX := Lib.hid (show bits .xor .u8 0 (x : Int) = ((0 ^^^ x : Nat) : Int) from u8xor (a := 0) (by decide) hx)
          have HFY := Lib.hid (show 0 = (if k < 32 then at0 (kk key) k else 0) by rw [if_neg hkl])
          go_wp2_with (with_reducible refine stp_append ?_)
          unfold Stp
          rw [HX.out]
          with_reducible refine wl_app z.heap.size (.slice sp k sc) (.slice (some ⟨wr.heap.size, 0, none⟩) 1 1) (Z.take k) [0 ^^^ x] ?_ ?_ ?_ ?_ ?_ ?_ ?_
          · rfl
          · rfl
          · exact HOWN.out.kept ((Below.refl _ _).alloc (Nat.le_refl _) _)
          · exact src_one wr _ 5 1
          · rw [HTL.out]; simp; omega
          · have := HB.out.size; simp; omega
          intro v' w' hown' hgr' _
          have HE := Lib.hid (HFIN.out 0 v' w' HFY.out hown' hgr')
          clear hown' hgr'
          go_wp2_with fail
          go_roundw
          case rel => exact ⟨k + 1, by omega, by go_num, HE.out.1, HE.out.2⟩
          case measure => simp [intOf]; omega
      · obtain rfl : k = 64 := by omega
        rw [show Z.take 64 = Z from List.take_of_length_le (by rw [HZL.out]; exact Nat.le_refl _)] at HOWN
        go_wp2_with fail
        go_ret
        exact ⟨_, rfl, HOWN.out.lower HZS.out, HBZ.out.trans (HB.out.mono HZS.out)⟩
  · have t1 : decide ((64 : Int) < (n : Int)) = false := by simp; omega
    have HKK := Lib.hid (show kk key = key from by unfold kk; rw [if_neg (by rw [← HN.out]; exact h64)])
    obtain rfl : KL = n := by rw [HKL.out, HKK.out, HN.out]
    have HBZ := Lib.hid (Below.refl w.heap.size w)
    have HZS := Lib.hid (Nat.le_refl w.heap.size)
    by_cases h0 : 0 < KL
    · obtain ⟨kb, ko, rfl, hce⟩ := (show ∃ kb ko, p = some ⟨kb, ko, none⟩ ∧ ∀ j, j < KL → w.cell? ⟨kb, ko + j, none⟩ = some (.int .u8 (at0 (kk key) j : Nat)) from by
        obtain ⟨q, cap, e, h⟩ := HV.out
        cases e
        obtain ⟨b, o, e1, e2⟩ := h (by rw [← HN.out]; exact h0)
        exact ⟨b, o, e1, fun j hj => by rw [HKK.out]; exact e2 j (by rw [← HN.out]; exact hj)⟩)
      have HCE := Lib.hid hce; clear hce
      go_enter Tryd.func26, Tryd.ntmps26
      go_wp2_with fail
      go_loopw [6, 7, 8] (fun s t _ wr => ∃ k : Nat, k ≤ 64 ∧ t = .int .i64 k ∧ Own wr w.heap.size s (Z.take k) ∧ Below w.heap.size w wr) (fun _ t _ _ => 64 - (intOf t).toNat)
      case atStart => exact ⟨0, Nat.zero_le _, rfl, by rw [List.take_zero]; exact own_nil _ _, Below.refl _ _⟩
      case round =>
        obtain ⟨k, hk, rfl, hown, hb⟩ := hrel
        have HOWN := Lib.hid hown; clear hown
        have HB := Lib.hid hb; clear hb
        have HTL := Lib.hid (show (Z.take k).length = k by rw [List.length_take, HZL.out]; omega)
        obtain ⟨sp, sc, rfl⟩ := HOWN.out.sl HTL.out
        by_cases h64 : k < 64
        · have HZA := Lib.hid (HZ.out k h64)
          have HTS := Lib.hid (show Z.take k ++ [at0 Z k] = Z.take (k + 1) by rw [at0_get Z k (by rw [HZL.out]; exact h64), List.take_succ_eq_append_getElem (by rw [HZL.out]; exact h64)])
          rw [HZA.out] at HTS
          have HFIN := Lib.hid (show ∀ (y : Nat) (v' : Value) (w' : World), y = (if k < KL then at0 (kk key) k else 0) → Own w' w.heap.size v' (Z.take k ++ [y ^^^ x]) → (wr.alloc (.cells #[.int .u8 ((y ^^^ x : Nat) : Int)] 5)).grownBy w' (Value.slice sp k sc).ownBlock → Own w' w.heap.size v' (Z.take (k + 1)) ∧ Below w.heap.size w w' from fun y v' w' hy h1 h2 => by
            subst hy
            rw [HTS.out] at h1
            exact ⟨h1, (HB.out.alloc HB.out.size _).trans (grown_to_below h2 (by have := HB.out.size; simp; omega) (fun j e => (HOWN.out.lt j e).1))⟩)
          by_cases hkl : k < KL
          · have hkd : decide ((k : Int) < (KL : Int)) = true := by simp; omega
            have hki : (k : Int) < (KL : Int) := by omega
            have x1 : wr.cell? ⟨kb, ko + k, none⟩ = some (.int .u8 (at0 (kk key) k : Nat)) := (HB.out.cell (p := ⟨kb, ko + k, none⟩) (World.block_lt_of_cell? w _ (HCE.out k hkl))).trans (HCE.out k hkl)
            skip
            have ly : at0 (kk key) k < 256 := (kk_lt HL.out).getD (by decide) _
            have HX := Lib.hid (u8xor ly hx)
            have HFY := Lib.hid (show at0 (kk key) k = (if k < KL then at0 (kk key) k else 0) by rw [if_pos hkl])
            generalize at0 (kk key) k = y at *
            go_wp2_with (with_reducible refine stp_append ?_)
            unfold Stp
            rw [HX.out]
            with_reducible refine wl_app w.heap.size (.slice sp k sc) (.slice (some ⟨wr.heap.size, 0, none⟩) 1 1) (Z.take k) [y ^^^ x] ?_ ?_ ?_ ?_ ?_ ?_ ?_
            · rfl
            · rfl
            · exact HOWN.out.kept ((Below.refl _ _).alloc (Nat.le_refl _) _)
            · exact src_one wr _ 5 1
            · rw [HTL.out]; simp; omega
            · have := HB.out.size; simp; omega
            intro v' w' hown' hgr' _
            have HE := Lib.hid (HFIN.out y v' w' HFY.out hown' hgr')
            clear hown' hgr'
            go_wp2_with fail
            go_roundw
            case rel => exact ⟨k + 1, by omega, by go_num, HE.out.1, HE.out.2⟩
            case measure => simp [intOf]; omega
          · have hkd : decide ((k : Int) < (KL : Int)) = false := by simp; omega
            have HX := Lib.hid (show bits .xor .u8 0 (x : Int) = ((0 ^^^ x : Nat) : Int) from u8xor (a := 0) (by decide) hx)
            have HFY := Lib.hid (show 0 = (if k < KL then at0 (kk key) k else 0) by rw [if_neg hkl])
            go_wp2_with (with_reducible refine stp_append ?_)
            unfold Stp
            rw [HX.out]
            with_reducible refine wl_app w.heap.size (.slice sp k sc) (.slice (some ⟨wr.heap.size, 0, none⟩) 1 1) (Z.take k) [0 ^^^ x] ?_ ?_ ?_ ?_ ?_ ?_ ?_
            · rfl
            · rfl
            · exact HOWN.out.kept ((Below.refl _ _).alloc (Nat.le_refl _) _)
            · exact src_one wr _ 5 1
            · rw [HTL.out]; simp; omega
            · have := HB.out.size; simp; omega
            intro v' w' hown' hgr' _
            have HE := Lib.hid (HFIN.out 0 v' w' HFY.out hown' hgr')
            clear hown' hgr'
            go_wp2_with fail
            go_roundw
            case rel => exact ⟨k + 1, by omega, by go_num, HE.out.1, HE.out.2⟩
            case measure => simp [intOf]; omega
        · obtain rfl : k = 64 := by omega
          rw [show Z.take 64 = Z from List.take_of_length_le (by rw [HZL.out]; exact Nat.le_refl _)] at HOWN
          go_wp2_with fail
          go_ret
          exact ⟨_, rfl, HOWN.out.lower HZS.out, HBZ.out.trans (HB.out.mono HZS.out)⟩
    · obtain rfl : KL = 0 := by omega
      have HCE := Lib.hid (show ∀ j, j < 0 → w.cell? ⟨0, 0 + j, none⟩ = some (.int .u8 (at0 (kk key) j : Nat)) from fun j hj => by omega)
      go_enter Tryd.func26, Tryd.ntmps26
      go_wp2_with fail
      go_loopw [6, 7, 8] (fun s t _ wr => ∃ k : Nat, k ≤ 64 ∧ t = .int .i64 k ∧ Own wr w.heap.size s (Z.take k) ∧ Below w.heap.size w wr) (fun _ t _ _ => 64 - (intOf t).toNat)
      case atStart => exact ⟨0, Nat.zero_le _, rfl, by rw [List.take_zero]; exact own_nil _ _, Below.refl _ _⟩
      case round =>
        obtain ⟨k, hk, rfl, hown, hb⟩ := hrel
        have HOWN := Lib.hid hown; clear hown
        have HB := Lib.hid hb; clear hb
        have HTL := Lib.hid (show (Z.take k).length = k by rw [List.length_take, HZL.out]; omega)
        obtain ⟨sp, sc, rfl⟩ := HOWN.out.sl HTL.out
        by_cases h64 : k < 64
        · have HZA := Lib.hid (HZ.out k h64)
          have HTS := Lib.hid (show Z.take k ++ [at0 Z k] = Z.take (k + 1) by rw [at0_get Z k (by rw [HZL.out]; exact h64), List.take_succ_eq_append_getElem (by rw [HZL.out]; exact h64)])
          rw [HZA.out] at HTS
          have HFIN := Lib.hid (show ∀ (y : Nat) (v' : Value) (w' : World), y = (if k < 0 then at0 (kk key) k else 0) → Own w' w.heap.size v' (Z.take k ++ [y ^^^ x]) → (wr.alloc (.cells #[.int .u8 ((y ^^^ x : Nat) : Int)] 5)).grownBy w' (Value.slice sp k sc).ownBlock → Own w' w.heap.size v' (Z.take (k + 1)) ∧ Below w.heap.size w w' from fun y v' w' hy h1 h2 => by
            subst hy
            rw [HTS.out] at h1
            exact ⟨h1, (HB.out.alloc HB.out.size _).trans (grown_to_below h2 (by have := HB.out.size; simp; omega) (fun j e => (HOWN.out.lt j e).1))⟩)
          by_cases hkl : k < 0
          · exact absurd hkl (by omega)
          · have hkd : decide ((k : Int) < (0 : Int)) = false := by simp
            have HX := Lib.hid (show bits .xor .u8 0 (x : Int) = ((0 ^^^ x : Nat) : Int) from u8xor (a := 0) (by decide) hx)
            have HFY := Lib.hid (show 0 = (if k < 0 then at0 (kk key) k else 0) by rw [if_neg hkl])
            go_wp2_with (with_reducible refine stp_append ?_)
            unfold Stp
            rw [HX.out]
            with_reducible refine wl_app w.heap.size (.slice sp k sc) (.slice (some ⟨wr.heap.size, 0, none⟩) 1 1) (Z.take k) [0 ^^^ x] ?_ ?_ ?_ ?_ ?_ ?_ ?_
            · rfl
            · rfl
            · exact HOWN.out.kept ((Below.refl _ _).alloc (Nat.le_refl _) _)
            · exact src_one wr _ 5 1
            · rw [HTL.out]; simp; omega
            · have := HB.out.size; simp; omega
            intro v' w' hown' hgr' _
            have HE := Lib.hid (HFIN.out 0 v' w' HFY.out hown' hgr')
            clear hown' hgr'
            go_wp2_with fail
            go_roundw
            case rel => exact ⟨k + 1, by omega, by go_num, HE.out.1, HE.out.2⟩
            case measure => simp [intOf]; omega
        · obtain rfl : k = 64 := by omega
          rw [show Z.take 64 = Z from List.take_of_length_le (by rw [HZL.out]; exact Nat.le_refl _)] at HOWN
          go_wp2_with fail
          go_ret
          exact ⟨_, rfl, HOWN.out.lower HZS.out, HBZ.out.trans (HB.out.mono HZS.out)⟩
end Go.Proofs.YthaaccbbegmhbaaDoor
