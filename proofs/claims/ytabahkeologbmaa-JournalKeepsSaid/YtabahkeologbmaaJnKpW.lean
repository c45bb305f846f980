/- The walk of JournalKeeps. -/
import Derived.Test.YtabahkeologbmaaJnKp
import Derived.Deep.DeepCutAuto
import Derived.Deep.CutBlock
namespace Go.Proofs.Ytabahkeologbmaa.Jn
open Go.RowKit Go.Shelf Go.Dk Go.Jn Go.Sha Go.Proofs.Ytabahkeologbmaa.Dk

set_option maxRecDepth 100000 in
set_option maxHeartbeats 12800000 in
theorem jnkeeps_any (a : Int) (l : List Rn) (lp : Option Addr) (lc : Nat) (w : World) (hl0 : RunsF w lp l) : Calls Try.prog 3 #[.int .i64 a, .slice lp l.length lc] w fun e w' => e = .returned (.bool true) ∧ Below w.heap.size w w' := by
  have HL0 := Lib.hid hl0
  have HV := Lib.hid (heavy_any l lp lc w hl0)
  clear hl0
  go_enter Try.func3, Try.ntmps3
  go_wp2_with fail
  refine (HV.out).mono ?_
  rintro e w0 ⟨⟨h, rfl, hfw⟩, rfl⟩
  rcases h with _ | _
  rotate_left
  · go_wp2
    go_ret
    exact ⟨rfl, Below.refl _ _⟩
  by_cases hA : a < 4
  · have i1 : decide (a < 4) = true := decide_eq_true hA
    go_wp2
    go_ret
    exact ⟨rfl, Below.refl _ _⟩
  have i1 : decide (a < 4) = false := decide_eq_false hA
  by_cases hB : 60 < a
  · have i2 : decide (60 < a) = true := decide_eq_true hB
    go_wp2
    go_ret
    exact ⟨rfl, Below.refl _ _⟩
  have i2 : decide (60 < a) = false := decide_eq_false hB
  have HFW := Lib.hid (hfw rfl)
  have hl1 : (l.length : Int) ≤ 12 := by have := (hfw rfl).1; omega
  obtain ⟨n, rfl⟩ := Int.eq_ofNat_of_zero_le (show (0 : Int) ≤ a by omega)
  have hn4 : 4 ≤ n := by omega
  have hn60 : n ≤ 60 := by omega
  have hl2 : (0 : Int) ≤ (l.length : Int) := Int.natCast_nonneg _
  clear hA hB hfw HV
  go_wp2_with fail
  refine (new_any n (by omega) (by omega) w).mono ?_
  rintro e w1 ⟨D, L, M, rfl, hd1, hb1, h1, h2, h3⟩
  have hH0 := hold_new hn4 (by omega)
  have HI1 := Lib.hid (show KpI w D L M w1.heap.size n [] (.slice none 0 0) w1 from ⟨⟨_, hd1, hH0⟩, bsW_nil _ _ _, hb1, Nat.le_refl _⟩)
  have HQ := Lib.hid (show KpB w D L M w1.heap.size from ⟨⟨h1, h2, h3⟩, hb1.size⟩)
  clear hb1 hd1 hH0 h1 h2 h3
  go_wp2_with fail
  go_loopw [7, 8] (fun u i wr => ∃ (k : Nat) (rs : List By), k ≤ l.length ∧ i = .int .i64 (k : Int) ∧ Hid (KpI w D L M w1.heap.size n rs u wr)) (fun _ i _ => l.length - (intOf i).toNat)
  case atStart => exact ⟨0, [], Nat.zero_le _, rfl, HI1⟩
  case round =>
    obtain ⟨k, rs, hk, rfl, HI⟩ := hrel
    have hk0 : (0 : Int) ≤ (k : Int) := Int.natCast_nonneg _
    by_cases hlt : (k : Int) < (l.length : Int)
    · have hkl : k < l.length := by omega
      obtain ⟨x, hx⟩ : ∃ x, l[k]? = some x := ⟨_, List.getElem?_eq_getElem hkl⟩
      obtain ⟨lg, lo, ap, ac, fp, fc, rfl, hvl, hvf, hok, hrc⟩ := HL0.out.get hx
      have HRC := Lib.hid hrc
      have HXL := Lib.hid (show BsF w (· < w.heap.size) (.slice ap x.L.length ac) x.L by rw [← hvl]; exact hok.l)
      have HXT := Lib.hid (show FtsF w (· < w.heap.size) (.slice fp x.fs.length fc) x.fs by
        obtain ⟨p, c, e, h⟩ := hok.t
        rw [← hvf]; exact h)
      have HXF := Lib.hid hok.f
      have HFX := Lib.hid (HFW.out.2 k x hkl hx)
      clear hx hvl hvf hok hrc
      obtain ⟨la, hd, hh⟩ := HI.out.ex
      have HO := Lib.hid (open_hold hd rfl hh)
      obtain ⟨up, uc, rfl⟩ := HI.out.want.len
      have hrn := hh.num
      have hrl := hh.len
      clear hd hh
      go_wp2_with fail
      refine (HO.out).mono ?_
      rintro e w3 ⟨J, v, rfl, hj3, hJ3, hb3⟩
      have HI3 := Lib.hid (HI.out.to hb3)
      have HR3 := Lib.hid (records_any hj3 (by omega))
      have HB3 := Lib.hid hb3
      have HJ3 := Lib.hid hj3
      clear hj3 hb3
      go_wp2_with fail
      refine (HR3.out).mono ?_
      rintro e w4 ⟨q, rfl, hq4, hb4⟩
      have HI4 := Lib.hid (HI3.out.to hb4)
      have HSM := Lib.hid (same_any rs rs _ _ w4 (hq4.row hb4.size) (HI4.out.want.row (fun x hx => Nat.lt_of_lt_of_le hx HI4.out.b.size)) (by omega) (by omega))
      rw [show decide (rs = rs) = true from decide_eq_true rfl] at HSM
      obtain ⟨qp, qc, rfl⟩ := hq4.len
      have HB4 := Lib.hid (HB3.out.trans (hb4.mono HB3.out.size))
      have HJ4 := Lib.hid (show JnAt w4 J D wr.heap.size v rs rs.length false from ⟨(hb4.block _ (lt_of_heap HJ3.out.hj)).trans HJ3.out.hj, own_keep HJ3.out.row (fun g cs _ hg => (hb4.block _ (lt_of_heap hg)).trans hg)⟩)
      clear hq4 hb4
      go_wp2_with fail
      refine (HSM.out).mono ?_
      rintro e w5 ⟨rfl, hb5⟩
      have HI5 := Lib.hid (HI4.out.to hb5)
      have HB5 := Lib.hid (HB4.out.trans (hb5.mono HB4.out.size))
      have HJ5 := Lib.hid (show JnAt w5 J D wr.heap.size v rs rs.length false from ⟨(hb5.block _ (lt_of_heap HJ4.out.hj)).trans HJ4.out.hj, own_keep HJ4.out.row (fun g cs _ hg => (hb5.block _ (lt_of_heap hg)).trans hg)⟩)
      obtain ⟨c0, c1, c2⟩ := HRC.out w5 HI5.out.b
      obtain ⟨la5, hd5, hh5⟩ := HI5.out.ex
      have HFU := Lib.hid (fuse_gen hd5 rfl x.fuse)
      have hfb : x.fuse ≤ 9223372036854775807 := by
        have hxf := HXF.out
        have e2 : IntKind.i64.max = 9223372036854775807 := rfl
        simp only [Lit.wf, e2, Bool.and_eq_true, decide_eq_true_eq] at hxf
        omega
      have hf6 : Frq (fun k => k = D ∨ k = L ∨ k = M) w5 (w5.setCell ⟨D, 3, none⟩ (.int .i64 (max x.fuse (-1)))) := Frq.setCell (p := ⟨D, 3, none⟩) (Frq.refl _ _) (Or.inl (Or.inl rfl)) _
      have HJ6 := Lib.hid (show KpJ w D L M J wr.heap.size w1.heap.size n rs (.slice up rs.length uc) (w5.setCell ⟨D, 3, none⟩ (.int .i64 (max x.fuse (-1)))) from
        ⟨⟨_, v, hd5.setFuse (f := max x.fuse (-1)) (by omega) (by omega), hold_of hh5 rfl rfl rfl, rfl, rfl,
          ⟨(hf6.block J (lt_of_heap HJ5.out.hj) (by
            have := jn_ne HJ5.out hd5
            rintro (e | e | e)
            · exact this.1 e
            · exact this.2.1 e
            · exact this.2.2 e)).trans HJ5.out.hj, own_keep HJ5.out.row (fun g cs e hg => (hf6.block g (lt_of_heap hg) (by
            rintro (e | e | e)
            · subst e; rw [hd5.hd] at hg; simp only [Option.some.injEq, Obj.cells.injEq] at hg; exact absurd hg.2.1 (by decide)
            · subst e; rw [hd5.hl] at hg; simp only [Option.some.injEq, Obj.cells.injEq] at hg; exact absurd hg.2.1 (by decide)
            · subst e; obtain ⟨es, c, hm⟩ := hd5.hm.obj; rw [hm] at hg; cases hg)).trans hg)⟩⟩,
          HI5.out.want.disk hd5 HQ.out HI5.out.b hf6, HI5.out.b.trans (hf6.below HI5.out.b.size (fun k e => by have := HQ.out.d; omega)), by have := HB5.out.size; exact Nat.le_trans this hf6.size, Nat.le_trans HI5.out.s hf6.size⟩)
      have HJB := Lib.hid hJ3
      have HWB := Lib.hid (show w.heap.size ≤ wr.heap.size from HI.out.b.size)
      clear hd5 hh5 hb5 hf6 hfb hJ3
      go_wp2_with fail
      refine (HFU.out).mono ?_
      rintro e w6 ⟨rfl, hw6⟩
      rw [← hw6] at HJ6
      obtain ⟨B1, hB1⟩ : ∃ B1, wr.heap.size = B1 := ⟨_, rfl⟩
      rw [hB1] at HJ6 HJB HWB
      clear hw6 HO HI3 HI4 HI5 HR3 HSM HJ3 HJ4 HJ5 HB3 HB4 HB5 HFU c0 c1 c2 HI hB1
      obtain ⟨c0, c1, c2⟩ := HRC.out w6 HJ6.out.b
      have hxl : (x.L.length : Int) ≤ 20 := by have := HFX.out.1; omega
      go_upto_block 2 with fail
      go_cut [7, 11] (fun u uf wx => ∃ rs2 fl, Hid (KpE w D L M w1.heap.size n rs2 fl u uf wx))
      case first =>
        go_wp2_with fail
        go_loopw [7, 11, 12] (fun u uf i wy => ∃ (m : Nat) (rs2 : List By), m ≤ x.L.length ∧ i = .int .i64 (m : Int) ∧ uf = .slice none 0 0 ∧ Hid (KpJ w D L M J B1 w1.heap.size n rs2 u wy)) (fun _ _ i _ => x.L.length - (intOf i).toNat)
        case atStart => exact ⟨0, rs, Nat.zero_le _, rfl, rfl, HJ6⟩
        case round =>
          obtain ⟨m, rs2, hm, rfl, rfl, HJ⟩ := hrel
          have hm0 : (0 : Int) ≤ (m : Int) := Int.natCast_nonneg _
          by_cases hlt2 : (m : Int) < (x.L.length : Int)
          · have hml : m < x.L.length := by omega
            obtain ⟨r, hr⟩ : ∃ r, x.L[m]? = some r := ⟨_, List.getElem?_eq_getElem hml⟩
            obtain ⟨g, oo, lc', yp, yc, e, hyb, hcr⟩ := rec_get HXL.out hr
            simp only [Value.slice.injEq, true_and] at e
            obtain ⟨rfl, rfl⟩ := e
            have HCR := Lib.hid hcr
            have HYB := Lib.hid hyb
            have hr4 := HFX.out.2.2 m r hr
            clear hcr hyb hr
            obtain ⟨c0, c1, c2⟩ := HRC.out wr HJ.out.b
            have cl := HCR.out wr HJ.out.b
            obtain ⟨d, v2, hd, hh, hdd, hdn, hj⟩ := HJ.out.ex
            obtain ⟨up2, uc2, rfl⟩ := HJ.out.want.len
            have hn2 := hh.num
            have hl2' := hh.len
            have r0 : (0 : Int) ≤ (r.length : Int) := Int.natCast_nonneg _
            have r1 : (r.length : Int) ≤ 400 := by omega
            have HRM := Lib.hid (room_any hj hd hh.n4 hh.fit)
            obtain ⟨R, hR⟩ : ∃ R : Nat, roomL d rs2 = R := ⟨_, rfl⟩
            rw [hR] at HRM
            have HRR := Lib.hid (show R = 64 * (n - 2) - (dat rs2).length - 4 by rw [← hR, ← hdn]; rfl)
            have hR0 : (0 : Int) ≤ (R : Int) := Int.natCast_nonneg _
            have hR1 : (R : Int) ≤ 4000 := by have := HRR.out; omega
            have HDR := Lib.hid (show Below wr.heap.size wr wr.drew from ⟨rfl, rfl, rfl, Nat.le_refl _, fun _ _ => rfl⟩)
            have HJ1 := Lib.hid (HJ.out.to HDR.out)
            have hwb := HJ.out.b.size
            have hs := HJ.out.s
            have hd1 := hd.below HDR.out hd.ltD hd.ltL hd.ltM
            have hj1 : JnAt wr.drew J D B1 v2 rs2 rs2.length false := ⟨hj.hj, hj.row⟩
            have hvb : ∀ k, some k = v2.ownBlock → B1 ≤ k := fun k e => (own_lt hj.row e.symm).1
            have hwB := HWB.out
            clear hR
            by_cases hf : (dat rs2).length + 4 + r.length ≤ 64 * (n - 2)
            · obtain ⟨res, hres⟩ : ∃ res, cmt d (2 + (((dat rs2).length / 64 : Nat) : Int)) (padS ((dat (rs2 ++ [r])).drop (64 * ((dat rs2).length / 64)))) (((rs2.length + 1) % 2 : Nat) : Int) (headB (rs2.length + 1) (dat (rs2 ++ [r])).length) = res := ⟨_, rfl⟩
              have HAD := Lib.hid (add_go (w := wr.drew) (u := .slice yp r.length yc) hj1 hd1 hh.n4 (by omega) hs.1 r (· < w.heap.size)
                (HYB.out.kept (fun x hx => ⟨hx, HJ.out.b.block x hx⟩)) (fun x hx => ⟨Nat.lt_of_lt_of_le hx hwb, fun e => by have := hvb x e; omega⟩) (by omega) (by rw [hdn]; exact hf) res hres)
              have hcm := cmt_cases hh hdd r (by rw [dat_snoc_len, hdn]; exact hf) hres
              obtain ⟨ri, d'⟩ := res
              have hj1' := Lib.hid hj1
              have hd1' := Lib.hid hd1
              have HF := Lib.hid hf
              unfold Cmt at hcm
              dsimp only at hcm
              have hdn' : d'.n = n := hcm.1.trans hdn
              have hcm2 := hcm.2
              clear hcm hres hd hh hj hd1 hj1 hvb hf hdd hwb hs hwB
              rcases hcm2 with ⟨rfl, hdd', hh', _⟩ | ⟨rfl, hdd', hfs⟩
              · have HH' := Lib.hid hh'
                clear hh'
                go_wp2_with (go_at_call 14; refine (HRM.out).mono ?_; rintro e w7 ⟨rfl, rfl⟩)
                refine (HAD.out).mono ?_
                rintro e w7 ⟨he, hd7, hf7, hq7⟩
                obtain rfl : e = .returned (.int .i64 0) := he
                rw [if_pos rfl] at hq7
                obtain ⟨v7, hj7, hv7⟩ := hq7
                have hb7 : Below w.heap.size wr.drew w7 := adG_below hf7 hj1'.out (HJ1.out.b.size) HQ.out.d (Nat.le_trans HWB.out HJB.out) HWB.out
                have hwant7 : BsW w7 w1.heap.size (· < w.heap.size) (.slice up2 rs2.length uc2) rs2 := HJ1.out.want.keep (fun g cs _ hg => (hf7.block g (lt_of_heap hg) (adG_not hj1'.out hd1'.out hg)).trans hg) (fun x hx => hb7.block x hx)
                have hB7 : Below w.heap.size w w7 := HJ1.out.b.trans hb7
                obtain ⟨u8, w8, hr8, hw8, hf8⟩ := want_app (y := .slice yp r.length yc) hwant7 (Nat.le_trans HJ1.out.s.2 hf7.size) (fun x hx => Nat.lt_of_lt_of_le hx HQ.out.b) (HYB.out.kept (fun x hx => ⟨hx, hB7.block x hx⟩)) (by omega)
                have HJ8 := Lib.hid (kp_grow hd7 HH'.out hdd' hdn' (by rw [List.length_append, List.length_singleton]; exact hj7) hwant7 hB7 HQ.out ⟨Nat.le_trans HJ1.out.s.1 hf7.size, Nat.le_trans HJ1.out.s.2 hf7.size⟩ hw8 hf8)
                obtain ⟨c0, c1, c2⟩ := HRC.out w7 hB7
                have cl7 := HCR.out w7 hB7
                obtain ⟨p8, cp8, rfl⟩ := hw8.len
                rw [show (rs2 ++ [r]).length = rs2.length + 1 by simp] at hr8 HJ8
                clear hd7 hf7 hj7 hv7 hb7 hwant7 hB7 hw8 hf8 hdd'
                go_wp2_with ((with_reducible refine wl_appB (dst := 103) (.slice up2 rs2.length uc2) (.slice (some ⟨w7.heap.size, 0, none⟩) 1 1) (.slice p8 (rs2.length + 1) cp8) ?_ ?_ hr8 ?_); (· rfl); (· rfl))
                go_roundw
                case rel => exact ⟨m + 1, rs2 ++ [r], by omega, by go_num, rfl, HJ8⟩
                case measure => simp [intOf]; omega
              · have HFS := Lib.hid hfs
                clear hfs
                go_wp2_with (go_at_call 14; refine (HRM.out).mono ?_; rintro e w7 ⟨rfl, rfl⟩)
                refine (HAD.out).mono ?_
                rintro e w7 ⟨he, hd7, hf7, hj7⟩
                obtain rfl : e = .returned (.int .i64 120) := he
                rw [if_neg (show ¬ (120 : Int) = 0 by decide)] at hj7
                have hb7 : Below w.heap.size wr.drew w7 := adG_below hf7 hj1'.out (HJ1.out.b.size) HQ.out.d (Nat.le_trans HWB.out HJB.out) HWB.out
                have hwant7 : BsW w7 w1.heap.size (· < w.heap.size) (.slice up2 rs2.length uc2) rs2 := HJ1.out.want.keep (fun g cs _ hg => (hf7.block g (lt_of_heap hg) (adG_not hj1'.out hd1'.out hg)).trans hg) (fun x hx => hb7.block x hx)
                have hB7 : Below w.heap.size w w7 := HJ1.out.b.trans hb7
                have hs7 := Nat.le_trans HJ1.out.s.2 hf7.size
                obtain ⟨u8, w8, hr8, hw8, hf8⟩ := want_app (y := .slice yp r.length yc) (bsW_nil w7 w1.heap.size (· < w.heap.size)) hs7 (fun x hx => Nat.lt_of_lt_of_le hx HQ.out.b) (HYB.out.kept (fun x hx => ⟨hx, hB7.block x hx⟩)) (by simp)
                have hb8 : Below w7.heap.size w7 w8 := hf8.below (Nat.le_refl _) (fun k e => by simp [Value.ownBlock] at e)
                rw [List.nil_append] at hw8
                have HD8 := Lib.hid (show KpD w D L M J B1 w1.heap.size n rs2 r (.slice up2 rs2.length uc2) u8 w8 from
                  ⟨⟨d', v2, hd7.below hb8 hd7.ltD hd7.ltL hd7.ltM, hdn', hdd', HFS.out, (hb8.block _ (lt_of_heap hj7.hj)).trans hj7.hj, own_keep hj7.row (fun g cs _ hg => (hb8.block _ (lt_of_heap hg)).trans hg)⟩,
                    hwant7.keep (fun g cs _ hg => (hb8.block _ (lt_of_heap hg)).trans hg) (fun x hx => hb8.block x (Nat.lt_of_lt_of_le hx hB7.size)), hw8, ⟨by have := HF.out; omega, hn4⟩, ⟨hn2, hl2'⟩, hB7.trans (hb8.mono hB7.size), Nat.le_trans hs7 hb8.size⟩)
                obtain ⟨c0, c1, c2⟩ := HRC.out w7 hB7
                have cl7 := HCR.out w7 hB7
                obtain ⟨p8, cp8, rfl⟩ := hw8.len
                change _ = Result.ok (Value.slice p8 1 cp8) w8 at hr8
                clear hd7 hf7 hj7 hb7 hwant7 hB7 hs7 hw8 hf8 hb8
                go_wp2_with ((with_reducible refine wl_appB (.slice none 0 0) (.slice (some ⟨w7.heap.size, 0, none⟩) 1 1) (.slice p8 1 cp8) ?_ ?_ hr8 ?_); (· rfl); (· rfl))
                obtain ⟨d8, v8, hd8, hdn8, hdd8, -, hj8⟩ := HD8.out.ex
                have HDE := Lib.hid (dead_any hd8)
                rw [hdd8] at HDE
                have hfit8 := HD8.out.fit
                have HA8 := Lib.hid (add_dead hj8 hd8 (by omega) (by rw [hdn8]; omega) (by omega) none 0 0 (by omega) (by rw [hdn8]; omega))
                have HD9 := Lib.hid (HD8.out.to (show Below w8.heap.size w8 w8.drew from ⟨rfl, rfl, rfl, Nat.le_refl _, fun _ _ => rfl⟩))
                clear hd8 hdn8 hdd8 hj8 hfit8
                go_wp2_with (go_at_call 16; refine (HDE.out).mono ?_; rintro e w9 ⟨rfl, rfl⟩)
                refine (HA8.out).mono ?_
                rintro e w9 ⟨rfl, rfl⟩
                obtain ⟨d9, v9, -, -, -, -, hj9⟩ := HD9.out.ex
                have HR9 := Lib.hid (records_any hj9 (by omega))
                clear hj9
                go_wp2_with fail
                refine (HR9.out).mono ?_
                rintro e w10 ⟨q, rfl, hq10, hb10⟩
                have HD10 := Lib.hid (HD9.out.to hb10)
                have HSM := Lib.hid (same_rows hq10 hb10.size HD10.out.want (fun x hx => Nat.lt_of_lt_of_le hx HD10.out.b.size) (by omega))
                obtain ⟨qp, qc, rfl⟩ := hq10.len
                clear hq10 hb10
                go_wp2_with fail
                refine (HSM.out).mono ?_
                rintro e w11 ⟨rfl, hb11⟩
                have HD11 := Lib.hid (HD10.out.to hb11)
                clear hb11
                go_wp2_with fail
                go_meet
                case rel => exact ⟨rs2, [r], Lib.hid HD11.out.end_⟩
            · have HAF := Lib.hid (add_full (w := wr.drew) (p := yp) (n := r.length) (cap := yc) hj1 hd1 hh.n4 hh.fit (by omega) (by rw [hdn]; omega))
              have i6 : R ≤ r.length := by have := HRR.out; omega
              have i5 : decide (r.length < R) = false := decide_eq_false (by omega)
              have HJ2 := Lib.hid (HJ1.out.to (show Below wr.drew.heap.size wr.drew wr.drew.drew from ⟨rfl, rfl, rfl, Nat.le_refl _, fun _ _ => rfl⟩))
              obtain ⟨c0', c1', c2'⟩ := HRC.out wr.drew.drew HJ2.out.b
              have cl' := HCR.out wr.drew.drew HJ2.out.b
              clear hd hh hj hd1 hj1 hvb hf hdd hwb hs hwB
              go_wp2_with (go_at_call 14; refine (HRM.out).mono ?_; rintro e w7 ⟨rfl, rfl⟩)
              refine (HAF.out).mono ?_
              rintro e w7 ⟨rfl, rfl⟩
              have hcr := HJ2.out.ex
              obtain ⟨d3, v3, hd3, hh3, hdd3, hdn3, hj3⟩ := hcr
              have HR3 := Lib.hid (records_any hj3 (by omega))
              clear hd3 hh3 hdd3 hdn3 hj3
              go_wp2_with fail
              refine (HR3.out).mono ?_
              rintro e w8 ⟨q, rfl, hq8, hb8⟩
              have HJ8 := Lib.hid (HJ2.out.to hb8)
              have HSM := Lib.hid (same_rows hq8 hb8.size HJ8.out.want (fun x hx => Nat.lt_of_lt_of_le hx HJ8.out.b.size) (by omega))
              obtain ⟨qp, qc, rfl⟩ := hq8.len
              clear hq8 hb8
              go_wp2_with fail
              refine (HSM.out).mono ?_
              rintro e w9 ⟨rfl, hb9⟩
              have HJ9 := Lib.hid (HJ8.out.to hb9)
              clear hb9
              try go_wp2_with fail
              go_roundw
              case rel => exact ⟨m + 1, rs2, by omega, by go_num, rfl, HJ9⟩
              case measure => simp [intOf]; omega
              all_goals (rename_i h; exact absurd i6 h)
          · obtain rfl : m = x.L.length := by omega
            obtain ⟨c0, c1, c2⟩ := HRC.out wr HJ.out.b
            go_wp2_with fail
            go_meet
            case rel =>
              obtain ⟨d, v2, hd, hh, h1, h2, hj⟩ := HJ.out.ex
              exact ⟨rs2, [], Lib.hid ⟨⟨d, hd, h2, fun fs => .inl (hold_rst hh fs)⟩, HJ.out.want, bsW_nil _ _ _, Nat.zero_le _, ⟨hh.num, hh.len⟩, HJ.out.b, HJ.out.s.2⟩⟩
      case rest => as_aux_lemma =>
        obtain ⟨rs2, fl, HE⟩ := hcut
        clear HJ6
        obtain ⟨dk, hdk, hdd, he1⟩ := HE.out.kill HQ.out
        have HDK := Lib.hid hdk
        have HE1 := Lib.hid he1
        obtain ⟨d0, hd0, -, -⟩ := HE.out.ex
        have HK := Lib.hid (kill_any hd0)
        obtain ⟨up2, uc2, rfl⟩ := HE.out.want.len
        obtain ⟨fp2, fc2, rfl⟩ := HE.out.wantf.len
        have hn2 := HE.out.num
        have hfl := HE.out.ln
        clear hd0 hdk he1
        go_wp2_with fail
        refine (HK.out).mono ?_
        rintro e w7 ⟨rfl, hw7⟩
        rw [← hw7] at HDK HE1
        clear hw7 HK HE
        have HOD := Lib.hid (open_dead HDK.out hdd)
        go_wp2_with fail
        refine (HOD.out).mono ?_
        rintro e w8 ⟨rfl, hb8⟩
        have HE2 := Lib.hid (HE1.out.to hb8)
        have HRS := Lib.hid (HE2.out.restart HQ.out x.fs _ HXT.out (by have := HFX.out.2.1; omega))
        obtain ⟨c0, c1, c2⟩ := HRC.out w8 HE2.out.b
        clear hb8 HDK HE1 HOD
        go_wp2_with fail
        refine (HRS.out).mono ?_
        rintro e w9 ⟨rfl, rs3, h3, hF9⟩
        have HF9 := Lib.hid hF9
        obtain ⟨la9, hd9, hh9⟩ := hF9.ex
        have HO9 := Lib.hid (open_hold hd9 rfl hh9)
        have hn3 := hh9.num
        have hl3 := hh9.len
        clear hF9 hd9 hh9 HRS HE2
        go_wp2_with fail
        refine (HO9.out).mono ?_
        rintro e w10 ⟨Ja, va, rfl, hj10, hJ10, hb10⟩
        have HF10 := Lib.hid (HF9.out.to hb10)
        have HJ10 := Lib.hid hj10
        obtain ⟨la10, hd10, hh10⟩ := HF10.out.ex
        have HO10 := Lib.hid (open_hold hd10 rfl hh10)
        have hs10 := hb10.size
        clear hj10 hb10 hd10 hh10 HF9 HO9
        go_wp2_with fail
        refine (HO10.out).mono ?_
        rintro e w11 ⟨Jb, vb, rfl, hj11, hJ11, hb11⟩
        have HF11 := Lib.hid (HF10.out.to hb11)
        have HJA := Lib.hid (HJ10.out.to hb11)
        have HJB2 := Lib.hid hj11
        have HR11 := Lib.hid (records_any HJA.out (by omega))
        clear hj11 hb11 HF10 HO10 HJ10
        go_wp2_with fail
        refine (HR11.out).mono ?_
        rintro e w12 ⟨q, rfl, hq12, hb12⟩
        have HF12 := Lib.hid (HF11.out.to hb12)
        have HJA2 := Lib.hid (HJA.out.to hb12)
        have HR12 := Lib.hid (records_any (HJB2.out.to hb12) (by omega))
        have HQA := Lib.hid hq12
        have hs12 := hb12.size
        obtain ⟨qp, qc, rfl⟩ := hq12.len
        clear hb12 hq12 HF11 HJA HR11
        go_wp2_with fail
        refine (HR12.out).mono ?_
        rintro e w13 ⟨q2, rfl, hq13, hb13⟩
        have HF13 := Lib.hid (HF12.out.to hb13)
        have HJA3 := Lib.hid (HJA2.out.to hb13)
        have hsm := same_any rs3 rs3 _ _ w13 ((HQA.out.keep (fun g cs t _ _ hg => (hb13.block g (lt_of_heap hg)).trans hg)).row (Nat.le_trans hs12 hb13.size)) (hq13.row hb13.size) (by omega) (by omega)
        rw [show decide (rs3 = rs3) = true from decide_eq_true rfl] at hsm
        have HSM := Lib.hid hsm
        obtain ⟨q2p, q2c, rfl⟩ := hq13.len
        clear hb13 hq13 HF12 HJA2 HR12 hsm
        go_wp2_with fail
        refine (HSM.out).mono ?_
        rintro e w14 ⟨rfl, hb14⟩
        have HF14 := Lib.hid (HF13.out.to hb14)
        have HJA4 := Lib.hid (HJA3.out.to hb14)
        clear hb14 HF13 HJA3 HSM HQA HJB2
        obtain ⟨m1, w15, m2, w16, hr15, hr16, hm16, hb16, pm1, cm1, rfl⟩ := HF14.out.more HQ.out 28
        obtain ⟨ml, hml⟩ : ∃ ml, ml = rs2 ++ fl := ⟨_, rfl⟩
        rw [← hml] at hm16 h3
        obtain ⟨pm2, cm2, rfl⟩ := hm16.len
        have HF16 := Lib.hid (HF14.out.to hb16)
        have HM16 := Lib.hid hm16
        have HJA5 := Lib.hid (HJA4.out.to hb16)
        have HR16 := Lib.hid (records_any HJA5.out (by omega))
        have hmll : ml.length ≤ 100000 := by rw [hml, List.length_append]; omega
        have HML := Lib.hid hml
        clear hm16 hb16 HF14 HJA4 hml
        go_wp2_with (first | ((with_reducible refine wl_appB (.slice (some ⟨w14.heap.size, 0, none⟩) 0 0) (.slice up2 rs2.length uc2) (.slice pm1 rs2.length cm1) ?_ ?_ hr15 ?_); (· rfl); (· rfl)) | ((with_reducible refine wl_appB (.slice pm1 rs2.length cm1) (.slice fp2 fl.length fc2) (.slice pm2 ml.length cm2) ?_ ?_ hr16 ?_); (· rfl); (· rfl)))
        refine (HR16.out).mono ?_
        rintro e w17 ⟨q, rfl, hq17, hb17⟩
        have HF17 := Lib.hid (HF16.out.to hb17)
        have HM17 := Lib.hid (HM16.out.to (fun x hx => Nat.lt_of_lt_of_le hx HF16.out.b.size) hb17)
        have HJA6 := Lib.hid (HJA5.out.to hb17)
        have hsm := same_any rs3 rs2 _ _ w17 (hq17.row hb17.size) (HF17.out.want.row (fun x hx => Nat.lt_of_lt_of_le hx HF17.out.b.size)) (by omega) (by omega)
        have HSM := Lib.hid hsm
        obtain ⟨qp, qc, rfl⟩ := hq17.len
        clear hq17 hb17 hsm HF16 HM16 HJA5 HR16 hr15 hr16
        rcases h3 with rfl | ⟨hfn, rfl⟩
        · rw [show decide (rs3 = rs3) = true from decide_eq_true rfl] at HSM
          go_wp2_with fail
          refine (HSM.out).mono ?_
          rintro e w18 ⟨rfl, hb18⟩
          have HF18 := Lib.hid (HF17.out.to hb18)
          clear hb18
          go_wp2_with fail
          go_roundw
          case rel => exact ⟨k + 1, rs3, by omega, by go_num, Lib.hid ⟨HF18.out.ex, HF18.out.want, HF18.out.b, HF18.out.s⟩⟩
          case measure => simp [intOf]; omega
        · have hne : decide (rs3 = rs2) = false := decide_eq_false (fun e => by
            have h := congrArg List.length HML.out
            rw [e, List.length_append] at h
            cases fl with
            | nil => exact hfn rfl
            | cons a b => rw [List.length_cons] at h; omega)
          rw [hne] at HSM
          have hf0 : 0 < fl.length := by
            cases fl with
            | nil => exact absurd rfl hfn
            | cons a b => rw [List.length_cons]; omega
          have i7 : decide (0 < fl.length) = true := decide_eq_true hf0
          go_wp2_with fail
          refine (HSM.out).mono ?_
          rintro e w18 ⟨rfl, hb18⟩
          have HF18 := Lib.hid (HF17.out.to hb18)
          have HM18 := Lib.hid (HM17.out.to (fun x hx => Nat.lt_of_lt_of_le hx HF17.out.b.size) hb18)
          have HR18 := Lib.hid (records_any (HJA6.out.to hb18) (by omega))
          clear hb18
          go_wp2_with fail
          refine (HR18.out).mono ?_
          rintro e w19 ⟨q, rfl, hq19, hb19⟩
          have HF19 := Lib.hid (HF18.out.to hb19)
          have HM19 := Lib.hid (HM18.out.to (fun x hx => Nat.lt_of_lt_of_le hx HF18.out.b.size) hb19)
          have HSM2 := Lib.hid (same_rows hq19 hb19.size HM19.out (fun x hx => Nat.lt_of_lt_of_le hx HF19.out.b.size) (by omega))
          obtain ⟨qp, qc, rfl⟩ := hq19.len
          clear hq19 hb19
          go_wp2_with fail
          refine (HSM2.out).mono ?_
          rintro e w20 ⟨rfl, hb20⟩
          have HF20 := Lib.hid (HF19.out.to hb20)
          have HM20 := Lib.hid (HM19.out.to (fun x hx => Nat.lt_of_lt_of_le hx HF19.out.b.size) hb20)
          clear hb20
          go_wp2_with fail
          go_roundw
          case rel => exact ⟨k + 1, rs3, by omega, by go_num, Lib.hid ⟨HF20.out.ex, HM20.out, HF20.out.b, HF20.out.s⟩⟩
          case measure => simp [intOf]; omega
    · obtain rfl : k = l.length := by omega
      go_wp2_with fail
      refine (keeps_any wr).mono ?_
      rintro e w3 ⟨rfl, hb3⟩
      go_wp2_with fail
      go_ret
      exact ⟨rfl, HI.out.b.trans (hb3.mono HI.out.b.size)⟩
end Go.Proofs.Ytabahkeologbmaa.Jn
