/- The walk of JournalHeads. -/
import Derived.Test.YtabahkeologbmaaJnHd
import Derived.Test.YtabahkeologbmaaJnRn
namespace Go.Proofs.Ytabahkeologbmaa.Jn
open Go.RowKit Go.Shelf Go.Dk Go.Jn Go.Sha Go.Proofs.Ytabahkeologbmaa.Dk

set_option maxRecDepth 100000 in
set_option maxHeartbeats 6400000 in
theorem jnheads_any (a : Int) (l : List By) (lp : Option Addr) (lc : Nat) (w : World) (hl0 : BsF w (· < w.heap.size) (.slice lp l.length lc) l) : Calls Try.prog 7 #[.int .i64 a, .slice lp l.length lc] w fun e w' => e = .returned (.bool true) ∧ Below w.heap.size w w' := by
  have hl1 : (0 : Int) ≤ (l.length : Int) := Int.natCast_nonneg _
  by_cases hA : a < 4
  · have i1 : decide (a < 4) = true := decide_eq_true hA
    go_enter Try.func7, Try.ntmps7
    go_wp2
    go_ret
    exact ⟨rfl, Below.refl _ _⟩
  have i1 : decide (a < 4) = false := decide_eq_false hA
  by_cases hB : 60 < a
  · have i2 : decide (60 < a) = true := decide_eq_true hB
    go_enter Try.func7, Try.ntmps7
    go_wp2
    go_ret
    exact ⟨rfl, Below.refl _ _⟩
  have i2 : decide (60 < a) = false := decide_eq_false hB
  by_cases hC : 60 < l.length
  · have i3 : decide ((60 : Int) < (l.length : Int)) = true := decide_eq_true (by omega)
    go_enter Try.func7, Try.ntmps7
    go_wp2
    go_ret
    exact ⟨rfl, Below.refl _ _⟩
  have i3 : decide ((60 : Int) < (l.length : Int)) = false := decide_eq_false (by omega)
  obtain ⟨n, rfl⟩ := Int.eq_ofNat_of_zero_le (show (0 : Int) ≤ a by omega)
  have hn4 : 4 ≤ n := by omega
  have hn60 : n ≤ 60 := by omega
  have hll : l.length ≤ 60 := by omega
  have hlI : (l.length : Int) ≤ 60 := by omega
  have HL0 := Lib.hid hl0
  clear hA hB hC hl0
  go_enter Try.func7, Try.ntmps7
  go_wp2_with fail
  refine (new_any n (by omega) (by omega) w).mono ?_
  rintro e w1 ⟨D, L, M, rfl, hd1, hb1, h1, h2, h3⟩
  have HB1 := Lib.hid hb1
  have HD1 := Lib.hid hd1
  have hH0 := hold_new hn4 (by omega)
  have HO := Lib.hid (open_hold hd1 rfl hH0)
  have hz1 := hb1.size
  clear hb1 hd1
  go_wp2_with fail
  refine (HO.out).mono ?_
  rintro e w2 ⟨J, v, rfl, hj2, hJ2, hb2⟩
  have HB2 := Lib.hid (HB1.out.trans (hb2.mono HB1.out.size))
  have HQ := Lib.hid (show HdB w D L M J w1.heap.size w2.heap.size from ⟨⟨h1, h2, h3, by omega⟩, hz1, hb2.size, HD1.out.ltD, HD1.out.ltL, HD1.out.ltM, lt_of_heap hj2.hj⟩)
  have HI2 := Lib.hid (show HdI w D L M J w1.heap.size w2.heap.size n [] (.slice none 0 0) w2 from
    ⟨⟨fun _ => zero64, v, HD1.out.below hb2 HD1.out.ltD HD1.out.ltL HD1.out.ltM, hH0, exact_new n, hj2, fun k e => by simp [Value.ownBlock] at e⟩, own_nothing _ _, HB2.out, hb2.size, Nat.le_refl _⟩)
  have n0 : (4 : Int) ≤ (n : Int) := by omega
  have n1 : (n : Int) ≤ 60 := by omega
  clear hj2 hb2
  go_wp2_with fail
  go_loopw [9, 10, 11, 12] (fun u ah nm i wr => ∃ (k : Nat) (rs : List By), k ≤ l.length ∧ i = .int .i64 (k : Int) ∧ ah = .int .i64 ((dat rs.dropLast).length : Int) ∧ nm = .int .i64 (rs.length : Int) ∧ rs.length ≤ k ∧ Hid (HdI w D L M J w1.heap.size w2.heap.size n rs u wr)) (fun _ _ _ i _ => l.length - (intOf i).toNat)
  case atStart => exact ⟨0, [], Nat.zero_le _, rfl, rfl, rfl, Nat.zero_le _, HI2⟩
  case round =>
    obtain ⟨k, rs, hk, rfl, rfl, rfl, hrk, HI⟩ := hrel
    have hk0 : (0 : Int) ≤ (k : Int) := Int.natCast_nonneg _
    by_cases hlt : (k : Int) < (l.length : Int)
    · have hkl : k < l.length := by omega
      obtain ⟨r, hr⟩ : ∃ r, l[k]? = some r := ⟨_, List.getElem?_eq_getElem hkl⟩
      obtain ⟨g, oo, lc', yp, yc, e, hyb, hcr⟩ := rec_get HL0.out hr
      simp only [Value.slice.injEq, true_and] at e
      obtain ⟨rfl, rfl⟩ := e
      have HCR := Lib.hid hcr
      have HYB := Lib.hid hyb
      have cl := HCR.out wr HI.out.b
      have r0 : (0 : Int) ≤ (r.length : Int) := Int.natCast_nonneg _
      clear hcr hyb hr
      by_cases h4 : 400 < r.length
      · have i4 : decide ((400 : Int) < (r.length : Int)) = true := decide_eq_true (by omega)
        go_wp2
        go_ret
        exact ⟨rfl, HI.out.b⟩
      have i4 : decide ((400 : Int) < (r.length : Int)) = false := decide_eq_false (by omega)
      have r1 : (r.length : Int) ≤ 400 := by omega
      obtain ⟨up, uc, rfl⟩ := own_slice HI.out.data
      obtain ⟨la, v, hd, hh, hx, hj, -⟩ := HI.out.ex
      have hdl := hh.len
      by_cases hf : (dat rs).length + 4 + r.length ≤ 64 * (n - 2)
      · have HAD := Lib.hid (HI.out.add HQ.out r (· < w.heap.size) (HYB.out.kept (fun x hx => ⟨hx, HI.out.b.block x hx⟩)) (fun x hx => hx) (by omega) hf)
        clear hd hh hx hj
        go_wp2_with fail
        refine (HAD.out).mono ?_
        rintro e w3 ⟨rfl, hA3⟩
        have HA3 := Lib.hid hA3
        have HS3 := Lib.hid hA3.b
        clear hA3
        go_wp2_with fail
        refine wp_region_held (S := Below w.heap.size w) (by kernel_rfl) ?_
        change wpAnyH _ _ _ _ _ _ _ _ (World.drew _)
        have HS3 := Lib.hid (show Below w.heap.size w w3.drew from ⟨HS3.out.os, HS3.out.tape, HS3.out.output, HS3.out.size, HS3.out.block⟩)
        refine tkH (i := 0) (oi := ⟨some 69, .move (.tmp 9), _, _, _, none⟩) (.slice up (dat rs).length uc) rfl (by kernel_rfl) (fun _ _ _ h => h) (yH rfl (fun w3 h3 => by go_simp)) HS3.out ?_
        simp only [Act.put, s1, s2, s3]
        refine tkH (i := 1) (oi := ⟨some 70, .move (.tmp 1), _, _, _, none⟩) (.slice (some ⟨g, oo, none⟩) l.length lc) rfl (by kernel_rfl) (fun _ _ _ h => h) (yH rfl (fun w3 h3 => by go_simp)) HS3.out ?_
        simp only [Act.put, s1, s2, s3]
        refine tkH (i := 2) (oi := ⟨some 71, .move (.tmp 12), _, _, _, none⟩) (.int .i64 (k : Int)) rfl (by kernel_rfl) (fun _ _ _ h => h) (yH rfl (fun w3 h3 => by go_simp)) HS3.out ?_
        simp only [Act.put, s1, s2, s3]
        refine tkH (i := 3) (oi := ⟨some 72, .indexAddr 28 (.tmp 70) (.tmp 71), _, _, _, none⟩) (.pointer (some ⟨g, oo + k, none⟩)) rfl (by kernel_rfl) (fun _ _ _ h => h) (yH rfl (fun w3 h3 => by go_simp)) HS3.out ?_
        simp only [Act.put, s1, s2, s3]
        refine tkH (i := 4) (oi := ⟨some 73, .load 40 (.tmp 72), _, _, _, none⟩) (.slice yp r.length yc) rfl (by kernel_rfl) (fun _ _ _ h => h) (yH rfl (fun w3 h3 => by have q := HCR.out w3 h3; go_simp)) HS3.out ?_
        simp only [Act.put, s1, s2, s3]
        refine tkH (i := 5) (oi := ⟨some 74, .call ⟨.builtin .len, #[.tmp 73], _⟩, _, _, _, none⟩) (.int .i64 (r.length : Int)) rfl (by kernel_rfl) (fun _ _ _ h => h) (yH rfl (fun w3 h3 => by go_simp)) HS3.out ?_
        simp only [Act.put, s1, s2, s3]
        refine tkH (i := 6) (oi := ⟨some 75, .convert 3 49 (.tmp 74), _, _, _, none⟩) (.int .u64 (r.length : Int)) rfl (by kernel_rfl) (fun _ _ _ h => h) (yH rfl (fun w3 h3 => by go_simp; rw [IntKind.wrap_u64]; omega)) HS3.out ?_
        simp only [Act.put, s1, s2, s3]
        refine tkH (i := 9) (oi := ⟨some 78, .move (.tmp 1), _, _, _, none⟩) (.slice (some ⟨g, oo, none⟩) l.length lc) rfl (by kernel_rfl) (fun _ _ _ h => h) (yH rfl (fun w3 h3 => by go_simp)) HS3.out ?_
        simp only [Act.put, s1, s2, s3]
        refine tkH (i := 10) (oi := ⟨some 79, .move (.tmp 12), _, _, _, none⟩) (.int .i64 (k : Int)) rfl (by kernel_rfl) (fun _ _ _ h => h) (yH rfl (fun w3 h3 => by go_simp)) HS3.out ?_
        simp only [Act.put, s1, s2, s3]
        refine tkH (i := 11) (oi := ⟨some 80, .indexAddr 28 (.tmp 78) (.tmp 79), _, _, _, none⟩) (.pointer (some ⟨g, oo + k, none⟩)) rfl (by kernel_rfl) (fun _ _ _ h => h) (yH rfl (fun w3 h3 => by go_simp)) HS3.out ?_
        simp only [Act.put, s1, s2, s3]
        refine tkH (i := 12) (oi := ⟨some 81, .load 40 (.tmp 80), _, _, _, none⟩) (.slice yp r.length yc) rfl (by kernel_rfl) (fun _ _ _ h => h) (yH rfl (fun w3 h3 => by have q := HCR.out w3 h3; go_simp)) HS3.out ?_
        simp only [Act.put, s1, s2, s3]
        refine rdH (i := 7) (o := ⟨some 76, .call ⟨.value (.func 24), #[.tmp 75, .const (.int .i64 4)], _⟩, _, _, _, none⟩) (by kernel_rfl) rfl (fun K' hK => ?_)
        go_simp
        refine (refnum_any 4 r.length (by omega) (by omega) _).mono ?_
        rintro e w4 ⟨x4, rfl, ho4, hb4⟩
        have HS4 := Lib.hid (show Below w.heap.size w w4 from HS3.out.trans (hb4.mono HS3.out.size))
        have HO4 := Lib.hid ho4
        have HB4 := Lib.hid (show Below w3.heap.size w3 w4 from (show Below w3.heap.size w3 w3.drew from ⟨rfl, rfl, rfl, Nat.le_refl _, fun _ _ => rfl⟩).trans hb4)
        obtain ⟨p4, c4, e4⟩ := own_slice ho4
        rw [beL_len] at e4
        subst e4
        clear ho4 hb4
        refine hK.out _ _ HS4.out (fun _ => ?_)
        clear hK K'
        try (simp only [Act.put, s1, s2, s3])
        obtain ⟨v5, w5, v6, w6, hr5, hr6, hI6, ⟨p5, c5, rfl⟩, ⟨p6, c6, rfl⟩, hb5⟩ := HA3.out.apps HQ.out HO4.out HB4.out (by omega) (by omega) 40 (· < w.heap.size) (fun x hx => hx) HYB.out
        have HS5 := Lib.hid hb5
        have HI6 := Lib.hid hI6
        have HS6 := Lib.hid hI6.b
        clear hb5 hI6
        obtain ⟨N6, hN6⟩ : ∃ N6, (dat (rs ++ [r])).length = N6 := ⟨_, rfl⟩
        rw [hN6] at hr6 HI6
        refine rdH (i := 8) (o := ⟨some 77, .call ⟨.builtin .append, #[.tmp 69, .tmp 76], _⟩, _, _, _, none⟩) (by kernel_rfl) rfl (fun K' hK => ?_)
        refine st_appB (v := .slice up (dat rs).length uc) (u := .slice p4 4 c4) (v' := .slice p5 ((dat rs).length + 4) c5) (w' := w5) rfl rfl hr5 ?_
        refine hK.out _ _ HS5.out (fun _ => ?_)
        clear hK K'
        try (simp only [Act.put, s1, s2, s3])
        refine rdH (i := 13) (o := ⟨some 82, .call ⟨.builtin .append, #[.tmp 77, .tmp 81], _⟩, _, _, _, none⟩) (by kernel_rfl) rfl (fun K' hK => ?_)
        refine st_appB (v := .slice p5 ((dat rs).length + 4) c5) (u := .slice yp r.length yc) (v' := .slice p6 N6 c6) (w' := w6) rfl rfl hr6 ?_
        refine hK.out _ _ HS6.out (fun _ => ?_)
        clear hK K'
        try (simp only [Act.put, s1, s2, s3])
        refine tkH (i := 14) (oi := ⟨some 9, .assign (.tmp 82), _, _, _, none⟩) (.slice p6 N6 c6) rfl (by kernel_rfl) (fun _ _ _ h => h) (yH rfl (fun w3 h3 => by go_simp)) HS6.out ?_
        simp only [Act.put, s1, s2, s3]
        refine wpAnyH_done (by kernel_rfl) ?_ _
        go_wp2_with fail
        go_roundw
        case rel => exact ⟨k + 1, rs ++ [r], by omega, by go_num, by rw [List.dropLast_concat], by rw [List.length_append, List.length_singleton]; rfl, by rw [List.length_append, List.length_singleton]; omega, HI6⟩
        case measure => simp [intOf]; omega
      · have HAF := Lib.hid (add_full (w := wr) (p := yp) (n := r.length) (cap := yc) hj hd hn4 hh.fit (by omega) (by show 64 * (n - 2) < _; omega))
        have HI3 := Lib.hid (HI.out.to (show Below wr.heap.size wr wr.drew from ⟨rfl, rfl, rfl, Nat.le_refl _, fun _ _ => rfl⟩))
        clear hd hh hx hj
        go_wp2_with fail
        refine (HAF.out).mono ?_
        rintro e w3 ⟨rfl, rfl⟩
        go_wp2_with fail
        go_roundw
        case rel => exact ⟨k + 1, rs, by omega, by go_num, rfl, rfl, by omega, HI3⟩
        case measure => simp [intOf]; omega
    · obtain rfl : k = l.length := by omega
      obtain ⟨up, uc, rfl⟩ := own_slice HI.out.data
      obtain ⟨la, v, hd, hh, hx, hj, -⟩ := HI.out.ex
      have hdl := hh.len
      have hm2 : rs.length % 2 < 2 := Nat.mod_lt _ (by omega)
      have HR1 := Lib.hid (read_any hd rfl (rs.length % 2) 1 (by show _ ≤ n; omega))
      have HH := Lib.hid hh
      have HX := Lib.hid hx
      have HD := Lib.hid hd
      clear hd hh hx hj
      go_wp2_with fail
      refine (HR1.out).mono ?_
      rintro e w3 ⟨va, rfl, hoa, hb3⟩
      have HOA := Lib.hid hoa
      have HB3 := Lib.hid hb3
      have HR2 := Lib.hid (read_any (HD.out.below hb3 HD.out.ltD HD.out.ltL HD.out.ltM) rfl ((rs.length + 1) % 2) 1 (by show _ ≤ n; omega))
      rw [show (((rs.length + 1) % 2 : Nat) : Int) = 1 - (rs.length : Int) % 2 by omega] at HR2
      clear hoa hb3
      go_wp2_with fail
      refine (HR2.out).mono ?_
      rintro e w4 ⟨vb, rfl, hob, hb4⟩
      have HOB := Lib.hid hob
      have HB4 := Lib.hid (HB3.out.trans (hb4.mono HB3.out.size))
      have HR3 := Lib.hid (read_any (HD.out.below HB4.out HD.out.ltD HD.out.ltL HD.out.ltM) rfl 2 (n - 2) (by show _ ≤ n; omega))
      rw [show ((n - 2 : Nat) : Int) = (n : Int) - 2 by omega, show ((2 : Nat) : Int) = 2 from rfl] at HR3
      have HB34 := Lib.hid hb4
      clear hob hb4
      go_wp2_with fail
      refine (HR3.out).mono ?_
      rintro e w5 ⟨vc, rfl, hoc, hb5⟩
      have HB5 := Lib.hid (HB4.out.trans (hb5.mono HB4.out.size))
      have HB35 := Lib.hid (HB34.out.trans (hb5.mono HB34.out.size))
      rw [rd_data HX.out HH.out] at hoc
      obtain ⟨cl, hcl⟩ : ∃ cl, cl = (dat rs ++ List.replicate (64 * (n - 2) - (dat rs).length) (0 : UInt8)) := ⟨_, rfl⟩
      rw [← hcl] at hoc
      have HNL := Lib.hid (show cl.length = 64 * (n - 2) by
        rw [hcl]
        have := HH.out.fit
        have e2 : (mkD n la).n = n := rfl
        rw [e2] at this
        rw [List.length_append, List.length_replicate]; omega)
      have HA5 := Lib.hid (show OwnB w5 wr.heap.size va (la (rs.length % 2)) from by
        have := HOA.out; rw [rd_one] at this
        exact own_keep this (fun g cs _ hg => (HB35.out.block g (lt_of_heap hg)).trans hg))
      have HBB5 := Lib.hid (show OwnB w5 w3.heap.size vb (la ((rs.length + 1) % 2)) from by
        have := HOB.out; rw [rd_one] at this
        exact own_keep this (fun g cs _ hg => (hb5.block g (lt_of_heap hg)).trans hg))
      have HI5 := Lib.hid (HI.out.to HB5.out)
      have HCL := Lib.hid hcl
      have lA := HH.out.la (rs.length % 2)
      have lB := HH.out.la ((rs.length + 1) % 2)
      have lA : (la (rs.length % 2)).length = 64 := lA
      have lB : (la ((rs.length + 1) % 2)).length = 64 := lB
      obtain ⟨pa, ca, rfl⟩ := own_slice HA5.out
      obtain ⟨pb, cb, rfl⟩ := own_slice HBB5.out
      obtain ⟨pc, cc, rfl⟩ := own_slice hoc
      have HC5 := Lib.hid hoc
      obtain ⟨NC, hNC⟩ : ∃ NC, cl.length = NC := ⟨_, rfl⟩
      obtain ⟨ND, hND⟩ : ∃ ND, (dat rs).length = ND := ⟨_, rfl⟩
      obtain ⟨NE, hNE⟩ : ∃ NE, (dat rs.dropLast).length = NE := ⟨_, rfl⟩
      have hCD : ND ≤ NC := by rw [← hNC, ← hND, hcl, List.length_append]; omega
      have hCn : NC ≤ 4000 := by rw [← hNC, HNL.out]; omega
      have hEn : NE ≤ ND := by rw [← hNE, ← hND]; exact dat_drop rs
      have i6 : decide (NC < ND) = false := decide_eq_false (by omega)
      have HND := Lib.hid hND
      have HNE := Lib.hid hNE
      have HNC := Lib.hid hNC
      rw [hNC] at HC5
      have hrl : rs.length ≤ 60 := by omega
      have HW := Lib.hid (refhead_any (rs.length - 1) NE (by omega) (by omega) w5)
      rw [show ((rs.length - 1 : Nat) : Int) = max ((rs.length : Int) - 1) 0 by omega] at HW
      obtain ⟨gc, hgc⟩ : ∃ gc, pc = some ⟨gc, 0, none⟩ := by
        have h := HC5.out
        unfold OwnB at h
        rw [hNC] at h
        obtain ⟨g, hg, _⟩ := own_ptr h (by rw [← hNC, HNL.out]; omega)
        exact ⟨g, hg⟩
      subst hgc
      clear hoc hb5
      simp only [hNC, hND, hNE, lA, lB]
      clear hNC hNE HR1 HR2 HR3 hcl
      go_wp2_with fail
      refine (HW.out).mono ?_
      rintro e w6 ⟨uw, rfl, how, hb6⟩
      have hO : ∀ (b : Nat) (v : Value) (x : By), OwnB w5 b v x → ∀ W', Below w6.heap.size w6 W' → OwnB W' b v x := fun b v x h W' hb => own_keep h (fun g cs _ hg => ((hb6.trans (hb.mono hb6.size)).block g (lt_of_heap hg)).trans hg)
      have hcv : ∀ (b : Nat) (v : Value) (x : By) (W' : World), OwnB W' b v x → (convert 40 9 v).run Try.prog W' = .ok (str x) W' := fun b v x W' h => bys_str (row_own (F := fun _ => True) h (fun _ _ => trivial))
      have hCc : NC ≤ cc := by obtain ⟨_, _, e, h, _⟩ := row_own (F := fun _ => True) HC5.out (fun _ _ => trivial); simp only [Value.slice.injEq] at e; rw [e.2.2]; have := HNC.out; omega
      have hNCp : 0 < NC := by rw [← HNC.out, HNL.out]; omega
      have hct : cl.take ND = dat rs := by rw [HCL.out, ← hND]; exact List.take_left
      have hCo : OwnB w5 w4.heap.size (.slice (some ⟨gc, 0, none⟩) ND cc) (dat rs) := by
        have h := HC5.out
        unfold OwnB at h
        rw [HNC.out] at h
        have h2 := own_take h HNC.out hCD
        rw [hct] at h2
        have e : sbp (some ⟨gc, 0, none⟩) cc 0 = some ⟨gc, 0, none⟩ := by unfold sbp; split <;> rfl
        rw [e] at h2
        exact h2
      have hUo : OwnB w5 w2.heap.size (.slice up ND uc) (dat rs) := by have := HI5.out.data; rw [hND] at this; exact this
      have hAo : OwnB w5 wr.heap.size (.slice pa 64 ca) (headB rs.length ND) := by
        have h := HA5.out
        have e : la (rs.length % 2) = headB rs.length (dat rs).length := HH.out.head
        rw [lA, e, hND] at h
        exact h
      have hWo : ∀ W', Below w6.heap.size w6 W' → OwnB W' w5.heap.size uw (headB (rs.length - 1) NE) := fun W' hb => own_keep how (fun g cs _ hg => (hb.block g (lt_of_heap hg)).trans hg)
      obtain ⟨pw, cw, e6⟩ := own_slice how
      rw [headB_len] at e6
      subst e6
      have HCV := Lib.hid (show ∀ W', Below w6.heap.size w6 W' → (convert 40 9 (.slice pa 64 ca)).run Try.prog W' = .ok (str (headB rs.length ND)) W' ∧ (convert 40 9 (.slice pw 64 cw)).run Try.prog W' = .ok (str (headB (rs.length - 1) NE)) W' ∧
          (convert 40 9 (.slice up ND uc)).run Try.prog W' = .ok (str (dat rs)) W' ∧ (convert 40 9 (.slice (some ⟨gc, 0, none⟩) ND cc)).run Try.prog W' = .ok (str (dat rs)) W' from fun W' hb => ⟨hcv _ _ _ _ (hO _ _ _ hAo W' hb), hcv _ _ _ _ (hWo W' hb), hcv _ _ _ _ (hO _ _ _ hUo W' hb), hcv _ _ _ _ (hO _ _ _ hCo W' hb)⟩)
      have HCZ := Lib.hid (show ∀ W', Below w6.heap.size w6 W' → ∀ m, ND ≤ m → m < NC → W'.cell? ⟨gc, m, none⟩ = some (.int .u8 0) from fun W' hb m h1 h2 => by
        have h := hO _ _ _ HC5.out W' hb
        have hc := own_cell (i := m) h (by rw [HNC.out]; exact h2)
        have e : cl[m]'(by rw [HNC.out]; exact h2) = 0 := by
          have e2 : cl[m]? = some 0 := by
            rw [HCL.out, List.getElem?_append_right (by rw [hND]; exact h1), List.getElem?_replicate, if_pos (by have := HNC.out; have := HNL.out; omega)]
          exact (List.getElem?_eq_some_iff.1 e2).2
        rw [e] at hc
        exact hc.1)
      have HBB := Lib.hid (show 0 < rs.length → ∀ W', Below w6.heap.size w6 W' → (convert 40 9 (.slice pb 64 cb)).run Try.prog W' = .ok (str (headB (rs.length - 1) NE)) W' from fun h0 W' hb => by
        have h := HBB5.out
        rw [lB, HX.out.old h0, HNE.out] at h
        exact hcv _ _ _ _ (hO _ _ _ h W' hb))
      have HS6 := Lib.hid (show Below w6.heap.size w6 w6.drew from ⟨rfl, rfl, rfl, Nat.le_refl _, fun _ _ => rfl⟩)
      have HB6 := Lib.hid (HI5.out.b.trans (hb6.mono HI5.out.b.size))
      clear hO hcv hct hCo hUo hAo hWo how hb6 HW
      have hrc : (rs.length : Int) ≤ 60 := by omega
      have hDc : (ND : Int) ≤ 4000 := by omega
      have HTL := Lib.hid (show ∀ W', Below w6.heap.size w6 W' → Below w.heap.size w W' from fun W' hb => HB6.out.trans (hb.mono HB6.out.size))
      by_cases hz : 0 < rs.length
      · have i8 : decide (0 < rs.length) = true := decide_eq_true hz
        have HBV := Lib.hid (HBB.out hz)
        go_wp2_with fail
        refine wp_region_held (S := Below w6.heap.size w6) (by kernel_rfl) ?_
        change wpAnyH _ _ _ _ _ _ _ _ (World.drew _)
        refine tkH (i := 0) (oi := ⟨some 131, .move (.tmp 11), _, _, _, none⟩) (.int .i64 (rs.length : Int)) rfl (by kernel_rfl) (fun _ _ _ h => h) (yH rfl (fun w3 h3 => by go_simp)) HS6.out ?_
        simp only [Act.put, s1, s2, s3]
        refine tkH (i := 1) (oi := ⟨some 132, .binOp .gtr 3 (.tmp 131) (.const (.int .i64 0)) 3, _, _, _, none⟩) (.bool true) rfl (by kernel_rfl) (fun _ _ _ h => h) (yH rfl (fun w3 h3 => by have q := i8; go_simp)) HS6.out ?_
        simp only [Act.put, s1, s2, s3]
        refine tkH (i := 2) (oi := ⟨some 133, .move (.tmp 132), _, _, _, none⟩) (.bool true) rfl (by kernel_rfl) (fun _ _ _ h => h) (yH rfl (fun w3 h3 => by go_simp)) HS6.out ?_
        simp only [Act.put, s1, s2, s3]
        refine tkH (i := 3) (oi := ⟨some 134, .move (.tmp 13), _, _, _, some (2, true)⟩) (.slice pa 64 ca) rfl (by kernel_rfl) (fun _ _ _ h => h) (yH rfl (fun w3 h3 => by go_simp)) HS6.out ?_
        simp only [Act.put, s1, s2, s3]
        refine tkH (i := 4) (oi := ⟨some 135, .convert 40 9 (.tmp 134), _, _, _, some (2, true)⟩) (str (headB rs.length ND)) rfl (by kernel_rfl) (fun _ _ _ h => h) (yH rfl (fun w3 h3 => by have q := (HCV.out w3 h3).1; go_simp)) HS6.out ?_
        simp only [Act.put, s1, s2, s3]
        refine tkH (i := 5) (oi := ⟨some 136, .move (.tmp 11), _, _, _, some (2, true)⟩) (.int .i64 (rs.length : Int)) rfl (by kernel_rfl) (fun _ _ _ h => h) (yH rfl (fun w3 h3 => by go_simp)) HS6.out ?_
        simp only [Act.put, s1, s2, s3]
        refine tkH (i := 6) (oi := ⟨some 137, .convert 3 49 (.tmp 136), _, _, _, some (2, true)⟩) (.int .u64 (rs.length : Int)) rfl (by kernel_rfl) (fun _ _ _ h => h) (yH rfl (fun w3 h3 => by go_simp; rw [IntKind.wrap_u64]; omega)) HS6.out ?_
        simp only [Act.put, s1, s2, s3]
        refine tkH (i := 7) (oi := ⟨some 138, .move (.tmp 9), _, _, _, some (2, true)⟩) (.slice up ND uc) rfl (by kernel_rfl) (fun _ _ _ h => h) (yH rfl (fun w3 h3 => by go_simp)) HS6.out ?_
        simp only [Act.put, s1, s2, s3]
        refine tkH (i := 8) (oi := ⟨some 139, .call ⟨.builtin .len, #[.tmp 138], _⟩, _, _, _, some (2, true)⟩) (.int .i64 (ND : Int)) rfl (by kernel_rfl) (fun _ _ _ h => h) (yH rfl (fun w3 h3 => by go_simp)) HS6.out ?_
        simp only [Act.put, s1, s2, s3]
        refine tkH (i := 9) (oi := ⟨some 140, .convert 3 49 (.tmp 139), _, _, _, some (2, true)⟩) (.int .u64 (ND : Int)) rfl (by kernel_rfl) (fun _ _ _ h => h) (yH rfl (fun w3 h3 => by go_simp; rw [IntKind.wrap_u64]; omega)) HS6.out ?_
        simp only [Act.put, s1, s2, s3]
        refine rdH (i := 10) (o := ⟨some 141, .call ⟨.value (.func 22), #[.tmp 137, .tmp 140], _⟩, _, _, _, some (2, true)⟩) (by kernel_rfl) rfl (fun K' hK => ?_)
        go_simp
        refine (refhead_any rs.length ND (by omega) (by omega) _).mono ?_
        rintro e w7 ⟨uh, rfl, hoh, hb7⟩
        have hch : (convert 40 9 uh).run Try.prog w7 = .ok (str (headB rs.length ND)) w7 := bys_str (row_own (F := fun _ => True) hoh (fun _ _ => trivial))
        have HS7 := Lib.hid (show Below w6.heap.size w6 w7 from HS6.out.trans (hb7.mono HS6.out.size))
        obtain ⟨ph, chh, e7⟩ := own_slice hoh
        rw [headB_len] at e7
        subst e7
        clear hoh hb7
        refine hK.out _ _ HS7.out (fun _ => ?_)
        clear hK K'
        try (simp only [Act.put, s1, s2, s3])
        refine rdH (i := 11) (o := ⟨some 142, .convert 40 9 (.tmp 141), _, _, _, some (2, true)⟩) (by kernel_rfl) rfl (fun K' hK => ?_)
        go_simp
        refine hK.out _ _ HS7.out (fun _ => ?_)
        clear hK K'
        try (simp only [Act.put, s1, s2, s3])
        clear hch
        refine tkH (i := 12) (oi := ⟨some 143, .binOp .neq 9 (.tmp 135) (.tmp 142) 9, _, _, _, some (2, true)⟩) (.bool false) rfl (by kernel_rfl) (fun _ _ _ h => h) (yH rfl (fun w3 h3 => by go_simp)) HS7.out ?_
        simp only [Act.put, s1, s2, s3]
        refine tkH (i := 13) (oi := ⟨some 144, .pick (.tmp 133) (.tmp 143) (.const (.bool false)), _, _, _, none⟩) (.bool false) rfl (by kernel_rfl) (fun _ _ _ h => h) (yH rfl (fun w3 h3 => by go_simp)) HS7.out ?_
        simp only [Act.put, s1, s2, s3]
        refine tkH (i := 14) (oi := ⟨some 145, .move (.tmp 144), _, _, _, none⟩) (.bool false) rfl (by kernel_rfl) (fun _ _ _ h => h) (yH rfl (fun w3 h3 => by go_simp)) HS7.out ?_
        simp only [Act.put, s1, s2, s3]
        refine tkH (i := 15) (oi := ⟨some 146, .move (.tmp 11), _, _, _, some (14, false)⟩) (.int .i64 (rs.length : Int)) rfl (by kernel_rfl) (fun _ _ _ h => h) (yH rfl (fun w3 h3 => by go_simp)) HS7.out ?_
        simp only [Act.put, s1, s2, s3]
        refine tkH (i := 16) (oi := ⟨some 147, .binOp .gtr 3 (.tmp 146) (.const (.int .i64 0)) 3, _, _, _, some (14, false)⟩) (.bool true) rfl (by kernel_rfl) (fun _ _ _ h => h) (yH rfl (fun w3 h3 => by have q := i8; go_simp)) HS7.out ?_
        simp only [Act.put, s1, s2, s3]
        refine tkH (i := 17) (oi := ⟨some 148, .move (.tmp 147), _, _, _, some (14, false)⟩) (.bool true) rfl (by kernel_rfl) (fun _ _ _ h => h) (yH rfl (fun w3 h3 => by go_simp)) HS7.out ?_
        simp only [Act.put, s1, s2, s3]
        refine tkH (i := 18) (oi := ⟨some 149, .move (.tmp 15), _, _, _, some (17, true)⟩) (.slice pb 64 cb) rfl (by kernel_rfl) (fun _ _ _ h => h) (yH rfl (fun w3 h3 => by go_simp)) HS7.out ?_
        simp only [Act.put, s1, s2, s3]
        refine tkH (i := 19) (oi := ⟨some 150, .convert 40 9 (.tmp 149), _, _, _, some (17, true)⟩) (str (headB (rs.length - 1) NE)) rfl (by kernel_rfl) (fun _ _ _ h => h) (yH rfl (fun w3 h3 => by have q := HBV.out w3 h3; go_simp)) HS7.out ?_
        simp only [Act.put, s1, s2, s3]
        refine tkH (i := 20) (oi := ⟨some 151, .move (.tmp 19), _, _, _, some (17, true)⟩) (.slice pw 64 cw) rfl (by kernel_rfl) (fun _ _ _ h => h) (yH rfl (fun w3 h3 => by go_simp)) HS7.out ?_
        simp only [Act.put, s1, s2, s3]
        refine tkH (i := 21) (oi := ⟨some 152, .convert 40 9 (.tmp 151), _, _, _, some (17, true)⟩) (str (headB (rs.length - 1) NE)) rfl (by kernel_rfl) (fun _ _ _ h => h) (yH rfl (fun w3 h3 => by have q := (HCV.out w3 h3).2.1; go_simp)) HS7.out ?_
        simp only [Act.put, s1, s2, s3]
        refine tkH (i := 22) (oi := ⟨some 153, .binOp .neq 9 (.tmp 150) (.tmp 152) 9, _, _, _, some (17, true)⟩) (.bool false) rfl (by kernel_rfl) (fun _ _ _ h => h) (yH rfl (fun w3 h3 => by go_simp)) HS7.out ?_
        simp only [Act.put, s1, s2, s3]
        refine tkH (i := 23) (oi := ⟨some 154, .pick (.tmp 148) (.tmp 153) (.const (.bool false)), _, _, _, some (14, false)⟩) (.bool false) rfl (by kernel_rfl) (fun _ _ _ h => h) (yH rfl (fun w3 h3 => by go_simp)) HS7.out ?_
        simp only [Act.put, s1, s2, s3]
        refine tkH (i := 24) (oi := ⟨some 155, .pick (.tmp 145) (.const (.bool true)) (.tmp 154), _, _, _, none⟩) (.bool false) rfl (by kernel_rfl) (fun _ _ _ h => h) (yH rfl (fun w3 h3 => by go_simp)) HS7.out ?_
        simp only [Act.put, s1, s2, s3]
        refine tkH (i := 25) (oi := ⟨some 156, .move (.tmp 155), _, _, _, none⟩) (.bool false) rfl (by kernel_rfl) (fun _ _ _ h => h) (yH rfl (fun w3 h3 => by go_simp)) HS7.out ?_
        simp only [Act.put, s1, s2, s3]
        refine tkH (i := 26) (oi := ⟨some 157, .move (.tmp 17), _, _, _, some (25, false)⟩) (.slice (some ⟨gc, 0, none⟩) NC cc) rfl (by kernel_rfl) (fun _ _ _ h => h) (yH rfl (fun w3 h3 => by go_simp)) HS7.out ?_
        simp only [Act.put, s1, s2, s3]
        refine tkH (i := 27) (oi := ⟨some 158, .move (.tmp 9), _, _, _, some (25, false)⟩) (.slice up ND uc) rfl (by kernel_rfl) (fun _ _ _ h => h) (yH rfl (fun w3 h3 => by go_simp)) HS7.out ?_
        simp only [Act.put, s1, s2, s3]
        refine tkH (i := 28) (oi := ⟨some 159, .call ⟨.builtin .len, #[.tmp 158], _⟩, _, _, _, some (25, false)⟩) (.int .i64 (ND : Int)) rfl (by kernel_rfl) (fun _ _ _ h => h) (yH rfl (fun w3 h3 => by go_simp)) HS7.out ?_
        simp only [Act.put, s1, s2, s3]
        refine tkH (i := 29) (oi := ⟨some 160, .slice 40 (.tmp 157) none (some (.tmp 159)) none, _, _, _, some (25, false)⟩) (.slice (some ⟨gc, 0, none⟩) ND cc) rfl (by kernel_rfl) (fun _ _ _ h => h) (yH rfl (fun w3 h3 => by go_simp; intro hlt4; omega)) HS7.out ?_
        simp only [Act.put, s1, s2, s3]
        refine tkH (i := 30) (oi := ⟨some 161, .convert 40 9 (.tmp 160), _, _, _, some (25, false)⟩) (str (dat rs)) rfl (by kernel_rfl) (fun _ _ _ h => h) (yH rfl (fun w3 h3 => by have q := (HCV.out w3 h3).2.2.2; go_simp)) HS7.out ?_
        simp only [Act.put, s1, s2, s3]
        refine tkH (i := 31) (oi := ⟨some 162, .move (.tmp 9), _, _, _, some (25, false)⟩) (.slice up ND uc) rfl (by kernel_rfl) (fun _ _ _ h => h) (yH rfl (fun w3 h3 => by go_simp)) HS7.out ?_
        simp only [Act.put, s1, s2, s3]
        refine tkH (i := 32) (oi := ⟨some 163, .convert 40 9 (.tmp 162), _, _, _, some (25, false)⟩) (str (dat rs)) rfl (by kernel_rfl) (fun _ _ _ h => h) (yH rfl (fun w3 h3 => by have q := (HCV.out w3 h3).2.2.1; go_simp)) HS7.out ?_
        simp only [Act.put, s1, s2, s3]
        refine tkH (i := 33) (oi := ⟨some 164, .binOp .neq 9 (.tmp 161) (.tmp 163) 9, _, _, _, some (25, false)⟩) (.bool false) rfl (by kernel_rfl) (fun _ _ _ h => h) (yH rfl (fun w3 h3 => by go_simp)) HS7.out ?_
        simp only [Act.put, s1, s2, s3]
        refine tkH (i := 34) (oi := ⟨some 165, .pick (.tmp 156) (.const (.bool true)) (.tmp 164), _, _, _, none⟩) (.bool false) rfl (by kernel_rfl) (fun _ _ _ h => h) (yH rfl (fun w3 h3 => by go_simp)) HS7.out ?_
        simp only [Act.put, s1, s2, s3]
        refine wpAnyH_done (by kernel_rfl) ?_ _
        go_wp2_with fail
        go_loopw [20] (fun i wy => ∃ m : Nat, ND ≤ m ∧ m ≤ NC ∧ i = .int .i64 (m : Int) ∧ Hid (Below w6.heap.size w6 wy)) (fun i _ => NC - (intOf i).toNat)
        case atStart => exact ⟨ND, Nat.le_refl _, hCD, rfl, HS7⟩
        case round =>
          obtain ⟨m, hm1, hm2, rfl, HSW⟩ := hrel
          have hm0 : (0 : Int) ≤ (m : Int) := Int.natCast_nonneg _
          have hcn : (NC : Int) ≤ 4000 := by omega
          by_cases hlt3 : (m : Int) < (NC : Int)
          · have cz := HCZ.out _ HSW.out m hm1 (by omega)
            go_wp2
            go_roundw
            case rel => exact ⟨m + 1, by omega, by omega, by go_num, HSW⟩
            case measure => simp [intOf]; omega
          · obtain rfl : m = NC := by omega
            go_wp2_with fail
            refine (keeps_any _).mono ?_
            rintro e w9 ⟨rfl, hb9⟩
            go_wp2_with fail
            go_ret
            exact ⟨rfl, (HTL.out _ HSW.out).trans (hb9.mono (HTL.out _ HSW.out).size)⟩
      · have i8 : decide (0 < rs.length) = false := decide_eq_false hz
        go_wp2_with fail
        refine wp_region_held (S := Below w6.heap.size w6) (by kernel_rfl) ?_
        change wpAnyH _ _ _ _ _ _ _ _ (World.drew _)
        refine tkH (i := 0) (oi := ⟨some 131, .move (.tmp 11), _, _, _, none⟩) (.int .i64 (rs.length : Int)) rfl (by kernel_rfl) (fun _ _ _ h => h) (yH rfl (fun w3 h3 => by go_simp)) HS6.out ?_
        simp only [Act.put, s1, s2, s3]
        refine tkH (i := 1) (oi := ⟨some 132, .binOp .gtr 3 (.tmp 131) (.const (.int .i64 0)) 3, _, _, _, none⟩) (.bool false) rfl (by kernel_rfl) (fun _ _ _ h => h) (yH rfl (fun w3 h3 => by have q := i8; go_simp)) HS6.out ?_
        simp only [Act.put, s1, s2, s3]
        refine tkH (i := 2) (oi := ⟨some 133, .move (.tmp 132), _, _, _, none⟩) (.bool false) rfl (by kernel_rfl) (fun _ _ _ h => h) (yH rfl (fun w3 h3 => by go_simp)) HS6.out ?_
        simp only [Act.put, s1, s2, s3]
        refine tkH (i := 3) (oi := ⟨some 134, .move (.tmp 13), _, _, _, some (2, true)⟩) undef rfl (by kernel_rfl) (fun _ _ _ h => h) (skH rfl) HS6.out ?_
        simp only [Act.put, s1, s2, s3]
        refine tkH (i := 4) (oi := ⟨some 135, .convert 40 9 (.tmp 134), _, _, _, some (2, true)⟩) undef rfl (by kernel_rfl) (fun _ _ _ h => h) (skH rfl) HS6.out ?_
        simp only [Act.put, s1, s2, s3]
        refine tkH (i := 5) (oi := ⟨some 136, .move (.tmp 11), _, _, _, some (2, true)⟩) undef rfl (by kernel_rfl) (fun _ _ _ h => h) (skH rfl) HS6.out ?_
        simp only [Act.put, s1, s2, s3]
        refine tkH (i := 6) (oi := ⟨some 137, .convert 3 49 (.tmp 136), _, _, _, some (2, true)⟩) undef rfl (by kernel_rfl) (fun _ _ _ h => h) (skH rfl) HS6.out ?_
        simp only [Act.put, s1, s2, s3]
        refine tkH (i := 7) (oi := ⟨some 138, .move (.tmp 9), _, _, _, some (2, true)⟩) undef rfl (by kernel_rfl) (fun _ _ _ h => h) (skH rfl) HS6.out ?_
        simp only [Act.put, s1, s2, s3]
        refine tkH (i := 8) (oi := ⟨some 139, .call ⟨.builtin .len, #[.tmp 138], _⟩, _, _, _, some (2, true)⟩) undef rfl (by kernel_rfl) (fun _ _ _ h => h) (skH rfl) HS6.out ?_
        simp only [Act.put, s1, s2, s3]
        refine tkH (i := 9) (oi := ⟨some 140, .convert 3 49 (.tmp 139), _, _, _, some (2, true)⟩) undef rfl (by kernel_rfl) (fun _ _ _ h => h) (skH rfl) HS6.out ?_
        simp only [Act.put, s1, s2, s3]
        refine tkH (i := 10) (oi := ⟨some 141, .call ⟨.value (.func 22), #[.tmp 137, .tmp 140], _⟩, _, _, _, some (2, true)⟩) undef rfl (by kernel_rfl) (fun _ _ _ h => h) (skH rfl) HS6.out ?_
        simp only [Act.put, s1, s2, s3]
        refine tkH (i := 11) (oi := ⟨some 142, .convert 40 9 (.tmp 141), _, _, _, some (2, true)⟩) undef rfl (by kernel_rfl) (fun _ _ _ h => h) (skH rfl) HS6.out ?_
        simp only [Act.put, s1, s2, s3]
        refine tkH (i := 12) (oi := ⟨some 143, .binOp .neq 9 (.tmp 135) (.tmp 142) 9, _, _, _, some (2, true)⟩) undef rfl (by kernel_rfl) (fun _ _ _ h => h) (skH rfl) HS6.out ?_
        simp only [Act.put, s1, s2, s3]
        refine tkH (i := 13) (oi := ⟨some 144, .pick (.tmp 133) (.tmp 143) (.const (.bool false)), _, _, _, none⟩) (.bool false) rfl (by kernel_rfl) (fun _ _ _ h => h) (yH rfl (fun w3 h3 => by go_simp)) HS6.out ?_
        simp only [Act.put, s1, s2, s3]
        refine tkH (i := 14) (oi := ⟨some 145, .move (.tmp 144), _, _, _, none⟩) (.bool false) rfl (by kernel_rfl) (fun _ _ _ h => h) (yH rfl (fun w3 h3 => by go_simp)) HS6.out ?_
        simp only [Act.put, s1, s2, s3]
        refine tkH (i := 15) (oi := ⟨some 146, .move (.tmp 11), _, _, _, some (14, false)⟩) (.int .i64 (rs.length : Int)) rfl (by kernel_rfl) (fun _ _ _ h => h) (yH rfl (fun w3 h3 => by go_simp)) HS6.out ?_
        simp only [Act.put, s1, s2, s3]
        refine tkH (i := 16) (oi := ⟨some 147, .binOp .gtr 3 (.tmp 146) (.const (.int .i64 0)) 3, _, _, _, some (14, false)⟩) (.bool false) rfl (by kernel_rfl) (fun _ _ _ h => h) (yH rfl (fun w3 h3 => by have q := i8; go_simp)) HS6.out ?_
        simp only [Act.put, s1, s2, s3]
        refine tkH (i := 17) (oi := ⟨some 148, .move (.tmp 147), _, _, _, some (14, false)⟩) (.bool false) rfl (by kernel_rfl) (fun _ _ _ h => h) (yH rfl (fun w3 h3 => by go_simp)) HS6.out ?_
        simp only [Act.put, s1, s2, s3]
        refine tkH (i := 18) (oi := ⟨some 149, .move (.tmp 15), _, _, _, some (17, true)⟩) undef rfl (by kernel_rfl) (fun _ _ _ h => h) (skH rfl) HS6.out ?_
        simp only [Act.put, s1, s2, s3]
        refine tkH (i := 19) (oi := ⟨some 150, .convert 40 9 (.tmp 149), _, _, _, some (17, true)⟩) undef rfl (by kernel_rfl) (fun _ _ _ h => h) (skH rfl) HS6.out ?_
        simp only [Act.put, s1, s2, s3]
        refine tkH (i := 20) (oi := ⟨some 151, .move (.tmp 19), _, _, _, some (17, true)⟩) undef rfl (by kernel_rfl) (fun _ _ _ h => h) (skH rfl) HS6.out ?_
        simp only [Act.put, s1, s2, s3]
        refine tkH (i := 21) (oi := ⟨some 152, .convert 40 9 (.tmp 151), _, _, _, some (17, true)⟩) undef rfl (by kernel_rfl) (fun _ _ _ h => h) (skH rfl) HS6.out ?_
        simp only [Act.put, s1, s2, s3]
        refine tkH (i := 22) (oi := ⟨some 153, .binOp .neq 9 (.tmp 150) (.tmp 152) 9, _, _, _, some (17, true)⟩) undef rfl (by kernel_rfl) (fun _ _ _ h => h) (skH rfl) HS6.out ?_
        simp only [Act.put, s1, s2, s3]
        refine tkH (i := 23) (oi := ⟨some 154, .pick (.tmp 148) (.tmp 153) (.const (.bool false)), _, _, _, some (14, false)⟩) (.bool false) rfl (by kernel_rfl) (fun _ _ _ h => h) (yH rfl (fun w3 h3 => by go_simp)) HS6.out ?_
        simp only [Act.put, s1, s2, s3]
        refine tkH (i := 24) (oi := ⟨some 155, .pick (.tmp 145) (.const (.bool true)) (.tmp 154), _, _, _, none⟩) (.bool false) rfl (by kernel_rfl) (fun _ _ _ h => h) (yH rfl (fun w3 h3 => by go_simp)) HS6.out ?_
        simp only [Act.put, s1, s2, s3]
        refine tkH (i := 25) (oi := ⟨some 156, .move (.tmp 155), _, _, _, none⟩) (.bool false) rfl (by kernel_rfl) (fun _ _ _ h => h) (yH rfl (fun w3 h3 => by go_simp)) HS6.out ?_
        simp only [Act.put, s1, s2, s3]
        refine tkH (i := 26) (oi := ⟨some 157, .move (.tmp 17), _, _, _, some (25, false)⟩) (.slice (some ⟨gc, 0, none⟩) NC cc) rfl (by kernel_rfl) (fun _ _ _ h => h) (yH rfl (fun w3 h3 => by go_simp)) HS6.out ?_
        simp only [Act.put, s1, s2, s3]
        refine tkH (i := 27) (oi := ⟨some 158, .move (.tmp 9), _, _, _, some (25, false)⟩) (.slice up ND uc) rfl (by kernel_rfl) (fun _ _ _ h => h) (yH rfl (fun w3 h3 => by go_simp)) HS6.out ?_
        simp only [Act.put, s1, s2, s3]
        refine tkH (i := 28) (oi := ⟨some 159, .call ⟨.builtin .len, #[.tmp 158], _⟩, _, _, _, some (25, false)⟩) (.int .i64 (ND : Int)) rfl (by kernel_rfl) (fun _ _ _ h => h) (yH rfl (fun w3 h3 => by go_simp)) HS6.out ?_
        simp only [Act.put, s1, s2, s3]
        refine tkH (i := 29) (oi := ⟨some 160, .slice 40 (.tmp 157) none (some (.tmp 159)) none, _, _, _, some (25, false)⟩) (.slice (some ⟨gc, 0, none⟩) ND cc) rfl (by kernel_rfl) (fun _ _ _ h => h) (yH rfl (fun w3 h3 => by go_simp; intro hlt4; omega)) HS6.out ?_
        simp only [Act.put, s1, s2, s3]
        refine tkH (i := 30) (oi := ⟨some 161, .convert 40 9 (.tmp 160), _, _, _, some (25, false)⟩) (str (dat rs)) rfl (by kernel_rfl) (fun _ _ _ h => h) (yH rfl (fun w3 h3 => by have q := (HCV.out w3 h3).2.2.2; go_simp)) HS6.out ?_
        simp only [Act.put, s1, s2, s3]
        refine tkH (i := 31) (oi := ⟨some 162, .move (.tmp 9), _, _, _, some (25, false)⟩) (.slice up ND uc) rfl (by kernel_rfl) (fun _ _ _ h => h) (yH rfl (fun w3 h3 => by go_simp)) HS6.out ?_
        simp only [Act.put, s1, s2, s3]
        refine tkH (i := 32) (oi := ⟨some 163, .convert 40 9 (.tmp 162), _, _, _, some (25, false)⟩) (str (dat rs)) rfl (by kernel_rfl) (fun _ _ _ h => h) (yH rfl (fun w3 h3 => by have q := (HCV.out w3 h3).2.2.1; go_simp)) HS6.out ?_
        simp only [Act.put, s1, s2, s3]
        refine tkH (i := 33) (oi := ⟨some 164, .binOp .neq 9 (.tmp 161) (.tmp 163) 9, _, _, _, some (25, false)⟩) (.bool false) rfl (by kernel_rfl) (fun _ _ _ h => h) (yH rfl (fun w3 h3 => by go_simp)) HS6.out ?_
        simp only [Act.put, s1, s2, s3]
        refine tkH (i := 34) (oi := ⟨some 165, .pick (.tmp 156) (.const (.bool true)) (.tmp 164), _, _, _, none⟩) (.bool false) rfl (by kernel_rfl) (fun _ _ _ h => h) (yH rfl (fun w3 h3 => by go_simp)) HS6.out ?_
        simp only [Act.put, s1, s2, s3]
        refine wpAnyH_done (by kernel_rfl) ?_ _
        go_wp2_with fail
        go_loopw [20] (fun i wy => ∃ m : Nat, ND ≤ m ∧ m ≤ NC ∧ i = .int .i64 (m : Int) ∧ Hid (Below w6.heap.size w6 wy)) (fun i _ => NC - (intOf i).toNat)
        case atStart => exact ⟨ND, Nat.le_refl _, hCD, rfl, HS6⟩
        case round =>
          obtain ⟨m, hm1, hm2, rfl, HSW⟩ := hrel
          have hm0 : (0 : Int) ≤ (m : Int) := Int.natCast_nonneg _
          have hcn : (NC : Int) ≤ 4000 := by omega
          by_cases hlt3 : (m : Int) < (NC : Int)
          · have cz := HCZ.out _ HSW.out m hm1 (by omega)
            go_wp2
            go_roundw
            case rel => exact ⟨m + 1, by omega, by omega, by go_num, HSW⟩
            case measure => simp [intOf]; omega
          · obtain rfl : m = NC := by omega
            go_wp2_with fail
            refine (keeps_any _).mono ?_
            rintro e w9 ⟨rfl, hb9⟩
            go_wp2_with fail
            go_ret
            exact ⟨rfl, (HTL.out _ HSW.out).trans (hb9.mono (HTL.out _ HSW.out).size)⟩
end Go.Proofs.Ytabahkeologbmaa.Jn
