/- The walk of JournalRoom. -/
import Derived.Test.YtabahkeologbmaaJnRm
namespace Go.Proofs.Ytabahkeologbmaa.Jn
open Go.RowKit Go.Shelf Go.Dk Go.Jn Go.Sha Go.Proofs.Ytabahkeologbmaa.Dk

/-- between two rounds -/
structure RoI (w : World) (D L M J b1 b2 n : Nat) (rs : List By) (u : Value) (W : World) : Prop where
  ex : ∃ la v, DkAt W D L M (mkD n la) ∧ Hold (mkD n la) rs ∧ JnAt W J D b1 v rs rs.length false
  want : BsW W b2 (· < w.heap.size) u rs
  b : Below w.heap.size w W
  s : b1 ≤ W.heap.size ∧ b2 ≤ W.heap.size
structure RoB (w : World) (D L M J b1 b2 : Nat) : Prop where
  d : w.heap.size ≤ D ∧ w.heap.size ≤ L ∧ w.heap.size ≤ M ∧ w.heap.size ≤ J
  b : w.heap.size ≤ b1 ∧ w.heap.size ≤ b2
theorem keysW_none0 (n : Nat) (la : Nat → By) : (keysW (mkD n la).wt (mkD n la).n).length = 0 := by
  show (keysW (fun _ => none) n).length = 0
  rw [keysW_none]; rfl
/-- only reading, and new blocks -/
theorem RoI.to {w : World} {D L M J b1 b2 n : Nat} {rs : List By} {u : Value} {W W' : World} (h : RoI w D L M J b1 b2 n rs u W) (hb : Below W.heap.size W W') : RoI w D L M J b1 b2 n rs u W' := by
  obtain ⟨la, v, hd, hh, hj⟩ := h.ex
  refine ⟨⟨la, v, hd.below hb hd.ltD hd.ltL hd.ltM, hh, (hb.block _ (lt_of_heap hj.hj)).trans hj.hj, own_keep hj.row (fun g cs _ hg => (hb.block _ (lt_of_heap hg)).trans hg)⟩, h.want.keep (fun g cs _ hg => (hb.block _ (lt_of_heap hg)).trans hg) (fun x hx => hb.block x (Nat.lt_of_lt_of_le hx h.b.size)), h.b.trans (hb.mono h.b.size), Nat.le_trans h.s.1 hb.size, Nat.le_trans h.s.2 hb.size⟩
/-- one more is wanted -/
theorem ro_grow {w : World} {D L M J b1 b2 n : Nat} {rs rs' : List By} {u u' v : Value} {la : Nat → By} {W W' : World} (hd : DkAt W D L M (mkD n la)) (hh : Hold (mkD n la) rs') (hj : JnAt W J D b1 v rs' rs'.length false) (hw : BsW W b2 (· < w.heap.size) u rs) (hb : Below w.heap.size w W) (q : RoB w D L M J b1 b2) (hs : b1 ≤ W.heap.size ∧ b2 ≤ W.heap.size)
    (hw' : BsW W' b2 (· < w.heap.size) u' rs') (hf : Frq (fun k => u.ownBlock = some k) W W') : RoI w D L M J b1 b2 n rs' u' W' := by
  obtain ⟨ys, hy, _⟩ := hw
  have hne : ∀ k, AdG D L M J v k → u.ownBlock ≠ some k := fun k ha e => by
    obtain ⟨cs, hcs⟩ := own_cells hy e
    exact adG_not hj hd hcs ha
  refine ⟨⟨la, v, hd.kept (hf.block D hd.ltD (hne D (.inl (.inl rfl)))) (hf.block L hd.ltL (hne L (.inl (.inr (.inl rfl))))) (hf.block M hd.ltM (hne M (.inl (.inr (.inr rfl))))), hh, ⟨(hf.block J (lt_of_heap hj.hj) (hne J (.inr (.inl rfl)))).trans hj.hj, own_keep hj.row (fun g cs e hg => (hf.block g (lt_of_heap hg) (hne g (.inr (.inr e.symm)))).trans hg)⟩⟩, hw', hb.trans (hf.below hb.size (fun k e => Nat.le_trans q.b.2 (own_lt hy e).1)), Nat.le_trans hs.1 hf.size, Nat.le_trans hs.2 hf.size⟩
set_option maxRecDepth 100000 in
set_option maxHeartbeats 6400000 in
theorem jnroom_any (a : Int) (l : List By) (lp : Option Addr) (lc : Nat) (w : World) (hl0 : BsF w (· < w.heap.size) (.slice lp l.length lc) l) : Calls Try.prog 4 #[.int .i64 a, .slice lp l.length lc] w fun e w' => e = .returned (.bool true) ∧ Below w.heap.size w w' := by
  have hl1 : (0 : Int) ≤ (l.length : Int) := Int.natCast_nonneg _
  by_cases hA : a < 4
  · have i1 : decide (a < 4) = true := decide_eq_true hA
    go_enter Try.func4, Try.ntmps4
    go_wp2
    go_ret
    exact ⟨rfl, Below.refl _ _⟩
  have i1 : decide (a < 4) = false := decide_eq_false hA
  by_cases hB : 60 < a
  · have i2 : decide (60 < a) = true := decide_eq_true hB
    go_enter Try.func4, Try.ntmps4
    go_wp2
    go_ret
    exact ⟨rfl, Below.refl _ _⟩
  have i2 : decide (60 < a) = false := decide_eq_false hB
  by_cases hC : 60 < l.length
  · have i3 : decide ((60 : Int) < (l.length : Int)) = true := decide_eq_true (by omega)
    go_enter Try.func4, Try.ntmps4
    go_wp2
    go_ret
    exact ⟨rfl, Below.refl _ _⟩
  have i3 : decide ((60 : Int) < (l.length : Int)) = false := decide_eq_false (by omega)
  obtain ⟨n, rfl⟩ := Int.eq_ofNat_of_zero_le (show (0 : Int) ≤ a by omega)
  have hn4 : 4 ≤ n := by omega
  have hn60 : n ≤ 60 := by omega
  have hll : l.length ≤ 60 := by omega
  have hlI : (l.length : Int) ≤ 60 := by omega
  have HL0 := Lib.hid hl0
  clear hA hB hC hl0
  go_enter Try.func4, Try.ntmps4
  go_wp2_with fail
  refine (new_any n (by omega) (by omega) w).mono ?_
  rintro e w1 ⟨D, L, M, rfl, hd1, hb1, h1, h2, h3⟩
  have HB1 := Lib.hid hb1
  have HD1 := Lib.hid hd1
  have hH0 := hold_new hn4 (by omega)
  have HO := Lib.hid (open_hold hd1 rfl hH0)
  have hz1 := hb1.size
  clear hb1 hd1
  go_wp2_with fail
  refine (HO.out).mono ?_
  rintro e w2 ⟨J, v, rfl, hj2, hJ2, hb2⟩
  have HB2 := Lib.hid (HB1.out.trans (hb2.mono HB1.out.size))
  have HQ := Lib.hid (show RoB w D L M J w1.heap.size w2.heap.size from ⟨⟨h1, h2, h3, by omega⟩, hz1, HB2.out.size⟩)
  have HI2 := Lib.hid (show RoI w D L M J w1.heap.size w2.heap.size n [] (.slice none 0 0) w2 from
    ⟨⟨_, v, HD1.out.below hb2 HD1.out.ltD HD1.out.ltL HD1.out.ltM, hH0, hj2⟩, bsW_nil _ _ _, HB2.out, hb2.size, Nat.le_refl _⟩)
  have n0 : (4 : Int) ≤ (n : Int) := by omega
  have n1 : (n : Int) ≤ 60 := by omega
  have HR := Lib.hid (show ∃ R : Nat, ((n : Int) - 2) * 64 = (R : Int) ∧ R = 64 * (n - 2) from ⟨64 * (n - 2), by omega, rfl⟩)
  clear hj2 hb2
  obtain ⟨R, hR, hR2⟩ := HR.out
  have hRb : (R : Int) ≤ 4000 := by omega
  have HR2 := Lib.hid hR2
  clear hR2
  go_wp2_with fail
  clear hR
  go_loopw [9, 10, 11] (fun lf u i wr => ∃ (k ln lv : Nat) (rs : List By), k ≤ l.length ∧ i = .int .i64 (k : Int) ∧ lf = .int .i64 (lv : Int) ∧ Hid (lv + ln = R) ∧ Hid ((dat rs).length = ln) ∧ rs.length ≤ k ∧ RoI w D L M J w1.heap.size w2.heap.size n rs u wr) (fun _ _ i _ => l.length - (intOf i).toNat)
  case atStart => exact ⟨0, 0, R, [], Nat.zero_le _, rfl, rfl, Lib.hid rfl, Lib.hid rfl, Nat.zero_le _, HI2.out⟩
  case round =>
    obtain ⟨k, ln, lv, rs, hk, rfl, rfl, hlv, hln, hrk, hI⟩ := hrel
    have hk0 : (0 : Int) ≤ (k : Int) := Int.natCast_nonneg _
    have HI := Lib.hid hI
    by_cases hlt : (k : Int) < (l.length : Int)
    · have hkl : k < l.length := by omega
      obtain ⟨r, hr⟩ : ∃ r, l[k]? = some r := ⟨_, List.getElem?_eq_getElem hkl⟩
      obtain ⟨lp', lc', e, hp⟩ := HL0.out
      simp only [Value.slice.injEq] at e
      obtain ⟨rfl, -, rfl⟩ := e
      obtain ⟨lg, lo, rfl, hlg, hcell⟩ := hp (by omega)
      obtain ⟨y, hy, hyb⟩ := hcell k r hr
      have hyb' := hyb
      obtain ⟨yp, yc, rfl, _, _⟩ := hyb'
      have HYB := Lib.hid hyb
      have HY := Lib.hid (show ∀ W', Below w.heap.size w W' → W'.cell? ⟨lg, lo + k, none⟩ = some (.slice yp r.length yc) from fun W' h' => (World.cell?_of_block (a := ⟨lg, lo + k, none⟩) (h'.block lg hlg)).trans hy)
      have cl := HY.out wr hI.b
      have r0 : (0 : Int) ≤ (r.length : Int) := Int.natCast_nonneg _
      clear hcell hp hr hy hI
      by_cases h4 : 400 < r.length
      · have i4 : decide ((400 : Int) < (r.length : Int)) = true := decide_eq_true (by omega)
        go_wp2
        go_ret
        exact ⟨rfl, HI.out.b⟩
      have i4 : decide ((400 : Int) < (r.length : Int)) = false := decide_eq_false (by omega)
      have r1 : (r.length : Int) ≤ 400 := by omega
      obtain ⟨la, v, hd, hh, hj⟩ := HI.out.ex
      have hln2 := hln.out
      have hlv2 := hlv.out
      have hRR := HR2.out
      have HRM := Lib.hid (room_any hj hd (by exact hn4) (by exact hh.fit))
      have erm : ((roomL (mkD n la) rs : Nat) : Int) = max 0 ((lv : Int) - 4) := by
        show ((64 * (n - 2) - (dat rs).length - 4 : Nat) : Int) = _
        omega
      rw [erm] at HRM
      have lv0 : (0 : Int) ≤ (lv : Int) := Int.natCast_nonneg _
      have lv1 : (lv : Int) ≤ 4000 := by omega
      have HD := Lib.hid hd
      have HH := Lib.hid hh
      have HJ := Lib.hid hj
      have ho := HQ.out
      have hob := ho.b
      have hod := ho.d
      have hs := HI.out.s
      have hwb := HI.out.b.size
      have hvb : ∀ k, some k = v.ownBlock → w1.heap.size ≤ k := fun k e => (own_lt hj.row e.symm).1
      have HDR := Lib.hid (show Below wr.heap.size wr wr.drew from ⟨rfl, rfl, rfl, Nat.le_refl _, fun _ _ => rfl⟩)
      obtain ⟨wp, wc, rfl⟩ := HI.out.want.len
      have HI1 := Lib.hid (HI.out.to HDR.out)
      by_cases hf : ln + 4 + r.length ≤ R
      · have i5 : decide (4 + (r.length : Int) ≤ (lv : Int)) = true := decide_eq_true (by omega)
        have HAD := Lib.hid (add_mk (w := wr.drew) (u := .slice yp r.length yc) ⟨hj.hj, hj.row⟩ (hd.below HDR.out hd.ltD hd.ltL hd.ltM) hh hs.1 r (· < w.heap.size)
          (HYB.out.kept (fun x hx => ⟨hx, HI.out.b.block x hx⟩)) (fun x hx => ⟨Nat.lt_of_lt_of_le hx hwb, fun e => by have := hvb x e; omega⟩) (by omega) (by omega))
        have HFT := Lib.hid (show (dat (rs ++ [r])).length ≤ 64 * (n - 2) from by rw [dat_snoc_len]; omega)
        have HLV := Lib.hid hlv2
        have HLN := Lib.hid hln2
        have HF := Lib.hid hf
        clear hd hh hj erm hln2 hlv2 hRR hf hwb hs hod hob ho
        go_wp2_with (go_at_call 14; refine (HRM.out).mono ?_; rintro e w3 ⟨rfl, rfl⟩)
        refine (HAD.out).mono ?_
        rintro e w3 ⟨rfl, hd3, hf3, v3, hj3, hv3⟩
        have hb3 : Below w.heap.size wr.drew w3 := adG_below hf3 (show JnAt wr.drew J D w1.heap.size v rs rs.length false from ⟨HJ.out.hj, HJ.out.row⟩) (HI.out.b.size) ⟨HQ.out.d.1, HQ.out.d.2.1, HQ.out.d.2.2.1⟩ HQ.out.d.2.2.2 HQ.out.b.1
        have hjd : JnAt wr.drew J D w1.heap.size v rs rs.length false := ⟨HJ.out.hj, HJ.out.row⟩
        have hdd := HD.out.below HDR.out HD.out.ltD HD.out.ltL HD.out.ltM
        have hwant3 : BsW w3 w2.heap.size (· < w.heap.size) (.slice wp rs.length wc) rs := HI1.out.want.keep (fun g cs _ hg => (hf3.block g (lt_of_heap hg) (adG_not hjd hdd hg)).trans hg) (fun x hx => hb3.block x hx)
        have hB3 : Below w.heap.size w w3 := HI1.out.b.trans hb3
        obtain ⟨u4, w4, hr4, hw4, hf4⟩ := want_app (y := .slice yp r.length yc) hwant3 (Nat.le_trans HI1.out.s.2 hf3.size) (fun x hx => Nat.lt_of_lt_of_le hx HQ.out.b.2) (HYB.out.kept (fun x hx => ⟨hx, hB3.block x hx⟩)) (by omega)
        have hI3 := ro_grow hd3 (hold_mk HH.out r HFT.out) hj3 hwant3 hB3 HQ.out ⟨Nat.le_trans HI1.out.s.1 hf3.size, Nat.le_trans HI1.out.s.2 hf3.size⟩ hw4 hf4
        have c3 := HY.out w3 hB3
        obtain ⟨p4, cp4, rfl⟩ := hw4.len
        rw [show (rs ++ [r]).length = rs.length + 1 by simp] at hr4 hI3
        clear hd3 hf3 hj3 hv3 hb3 hjd hdd hwant3 hB3 hw4 hf4
        go_wp2_with ((with_reducible refine wl_appB (dst := 102) (.slice wp rs.length wc) (.slice (some ⟨w3.heap.size, 0, none⟩) 1 1) (.slice p4 (rs.length + 1) cp4) ?_ ?_ hr4 ?_); (· rfl); (· rfl))
        have hcr := hI3.ex
        obtain ⟨la3, v3, hd3, hh3, hj3⟩ := hcr
        have HRC := Lib.hid (records_any hj3 (by have := hh3.len; omega))
        have HI3 := Lib.hid hI3
        clear hd3 hh3 hj3 hI3
        go_wp2_with fail
        refine (HRC.out).mono ?_
        rintro e w5 ⟨q, rfl, hq5, hb5⟩
        have HI5 := Lib.hid (HI3.out.to hb5)
        have HSM := Lib.hid (same_any (rs ++ [r]) (rs ++ [r]) _ _ w5 (hq5.row hb5.size) (HI5.out.want.row (fun x hx => Nat.lt_of_lt_of_le hx HI5.out.b.size)) (by rw [List.length_append, List.length_singleton]; omega) (by rw [List.length_append, List.length_singleton]; omega))
        rw [show decide ((rs ++ [r]) = (rs ++ [r])) = true from decide_eq_true rfl] at HSM
        obtain ⟨qp, qc, rfl⟩ := hq5.len
        rw [show (rs ++ [r]).length = rs.length + 1 by simp] at HSM
        clear hq5 hb5
        go_wp2_with fail
        refine (HSM.out).mono ?_
        rintro e w6 ⟨rfl, hb6⟩
        have HI6 := Lib.hid (HI5.out.to hb6)
        clear hb6
        obtain ⟨la6, v6, hd6, hh6, hj6⟩ := HI6.out.ex
        have HWA := Lib.hid (waiting_any hd6)
        rw [keysW_none0] at HWA
        clear hd6 hh6 hj6
        go_wp2_with (go_at_call 20; refine (HWA.out).mono ?_; rintro e w7 ⟨rfl, rfl⟩)
        go_roundw
        case rel =>
          have hlv := HLV.out
          have hln := HLN.out
          have hf := HF.out
          refine ⟨k + 1, ln + 4 + r.length, lv - 4 - r.length, rs ++ [r], by omega, by go_num, ?_, Lib.hid (by omega), Lib.hid (by rw [dat_snoc_len, hln]), by rw [List.length_append, List.length_singleton]; omega, HI6.out⟩
          rw [show ((lv - 4 - r.length : Nat) : Int) = (lv : Int) - 4 - (r.length : Int) by omega]
        case measure => simp [intOf]; omega
      · have i5 : decide (4 + (r.length : Int) ≤ (lv : Int)) = false := decide_eq_false (by omega)
        have HAF := Lib.hid (add_full (w := wr.drew) (p := yp) (n := r.length) (cap := yc) (num := rs.length) (dead := false) (v := v) (base := w1.heap.size) ⟨hj.hj, hj.row⟩ (hd.below HDR.out hd.ltD hd.ltL hd.ltM) (by exact hn4) (by exact hh.fit) (by omega) (by show 64 * (n - 2) < _; omega))
        have HLV := Lib.hid hlv2
        have HLN := Lib.hid hln2
        have hI3 := HI1.out.to (show Below wr.drew.heap.size wr.drew wr.drew.drew from ⟨rfl, rfl, rfl, Nat.le_refl _, fun _ _ => rfl⟩)
        clear hd hh hj erm hln2 hlv2 hRR hf hwb hs hod hob ho
        go_wp2_with (go_at_call 14; refine (HRM.out).mono ?_; rintro e w3 ⟨rfl, rfl⟩)
        refine (HAF.out).mono ?_
        rintro e w3 ⟨rfl, rfl⟩
        have hcr := hI3.ex
        obtain ⟨la3, v3, hd3, hh3, hj3⟩ := hcr
        have HRC := Lib.hid (records_any hj3 (by have := hh3.len; omega))
        have HI3 := Lib.hid hI3
        clear hd3 hh3 hj3 hI3
        go_wp2_with fail
        refine (HRC.out).mono ?_
        rintro e w5 ⟨q, rfl, hq5, hb5⟩
        have HI5 := Lib.hid (HI3.out.to hb5)
        have HSM := Lib.hid (same_any rs rs _ _ w5 (hq5.row hb5.size) (HI5.out.want.row (fun x hx => Nat.lt_of_lt_of_le hx HI5.out.b.size)) (by omega) (by omega))
        rw [show decide (rs = rs) = true from decide_eq_true rfl] at HSM
        obtain ⟨qp, qc, rfl⟩ := hq5.len
        skip
        clear hq5 hb5
        go_wp2_with fail
        refine (HSM.out).mono ?_
        rintro e w6 ⟨rfl, hb6⟩
        have HI6 := Lib.hid (HI5.out.to hb6)
        clear hb6
        obtain ⟨la6, v6, hd6, hh6, hj6⟩ := HI6.out.ex
        have HWA := Lib.hid (waiting_any hd6)
        rw [keysW_none0] at HWA
        clear hd6 hh6 hj6
        go_wp2_with (go_at_call 20; refine (HWA.out).mono ?_; rintro e w7 ⟨rfl, rfl⟩)
        go_roundw
        case rel => exact ⟨k + 1, ln, lv, rs, by omega, by go_num, rfl, Lib.hid HLV.out, Lib.hid HLN.out, by omega, HI6.out⟩
        case measure => simp [intOf]; omega
    · obtain rfl : k = l.length := by omega
      clear hI
      go_wp2_with fail
      refine (keeps_any wr).mono ?_
      rintro e w3 ⟨rfl, hb3⟩
      go_wp2_with fail
      go_ret
      exact ⟨rfl, HI.out.b.trans (hb3.mono HI.out.b.size)⟩
end Go.Proofs.Ytabahkeologbmaa.Jn
