/- Contract: Same. (Written by tools/cd-sm.py.) -/
import Derived.Test.YtjdfdihopgceoaaCdGr
import Derived.Deep.DeepCutAuto
namespace Go.Proofs.Ytjdfdihopgceoaa.Cd
open Go.RowKit Go.Shelf Go.Dk Go.Jn Go.Cod

abbrev saC (r : Rc) (lv tv : Value) : Array Value := #[str r.cmd.name, lv, .int .i64 (wrap64 (r.cmd.fare : Int)), tv, .int .i64 (wrap64 (r.cmd.pen : Int))]
/-- behind the two sales' making -/
structure SmI (w : World) (Ca Cb Sa Sb : Array Value) (X Y : Nat) (w' : World) : Prop where
  ca : w'.heap[w.heap.size]? = some (.cells Ca 44 (0, 0))
  cb : w'.heap[w.heap.size + 1]? = some (.cells Cb 44 (0, 0))
  sx : w'.heap[X]? = some (.cells Sa 28 (0, 0))
  sy : w'.heap[Y]? = some (.cells Sb 28 (0, 0))
  bel : Below w.heap.size w w'
theorem SmI.drewN {w : World} {Ca Cb Sa Sb : Array Value} {X Y : Nat} {w' : World} (h : SmI w Ca Cb Sa Sb X Y w') (n : Nat) : SmI w Ca Cb Sa Sb X Y (w'.drewN n) := ⟨h.ca, h.cb, h.sx, h.sy, ⟨h.bel.os, h.bel.tape, h.bel.output, h.bel.size, h.bel.block⟩⟩
theorem smI_1 {w w2 : World} {Ca Cb Sa Sb : Array Value} (ha : w2.heap[w.heap.size]? = some (.cells Ca 44 (0, 0))) (hb : w2.heap[w.heap.size + 1]? = some (.cells Cb 44 (0, 0))) (hbel : Below w.heap.size w w2) (hs : w2.heap.size = w.heap.size + 1 + 1) :
    SmI w Ca Cb Sa Sb (w.heap.size + 1 + 1) (w.heap.size + 1 + 1 + 1) ((w2.alloc (.cells Sa 28)).alloc (.cells Sb 28)).drew := by
  have h3 : (w2.alloc (.cells Sa 28)).heap.size = w.heap.size + 1 + 1 + 1 := by simp [hs]
  have hx : ((w2.alloc (.cells Sa 28)).alloc (.cells Sb 28)).heap[w.heap.size + 1 + 1]? = some (.cells Sa 28 (0, 0)) := by rw [heap_prev _ _ _ (by omega)]; exact heap_last _ _ _ hs.symm
  have hy : ((w2.alloc (.cells Sa 28)).alloc (.cells Sb 28)).heap[w.heap.size + 1 + 1 + 1]? = some (.cells Sb 28 (0, 0)) := heap_last _ _ _ h3.symm
  have h1 : ((w2.alloc (.cells Sa 28)).alloc (.cells Sb 28)).heap[w.heap.size]? = some (.cells Ca 44 (0, 0)) := by rw [heap_prev _ _ _ (by omega), heap_prev _ _ _ (by omega)]; exact ha
  have h2 : ((w2.alloc (.cells Sa 28)).alloc (.cells Sb 28)).heap[w.heap.size + 1]? = some (.cells Cb 44 (0, 0)) := by rw [heap_prev _ _ _ (by omega), heap_prev _ _ _ (by omega)]; exact hb
  exact ⟨h1, h2, hx, hy, (((hbel.alloc hbel.size _)).alloc (by omega) _).drew⟩
theorem SmI.swap {w : World} {Ca Cb Sa Sb : Array Value} {X Y : Nat} {w' : World} (h : SmI w Ca Cb Sa Sb X Y w') : SmI w Ca Cb Sa Sb X Y w' := h
theorem smI_2 {w w2 : World} {Ca Cb Sa Sb : Array Value} (ha : w2.heap[w.heap.size]? = some (.cells Ca 44 (0, 0))) (hb : w2.heap[w.heap.size + 1]? = some (.cells Cb 44 (0, 0))) (hbel : Below w.heap.size w w2) (hs : w2.heap.size = w.heap.size + 1 + 1) :
    SmI w Ca Cb Sa Sb (w.heap.size + 1 + 1 + 1) (w.heap.size + 1 + 1) ((w2.alloc (.cells Sb 28)).alloc (.cells Sa 28)).drew := by
  have h := smI_1 (Sa := Sb) (Sb := Sa) ha hb hbel hs
  exact ⟨h.ca, h.cb, h.sy, h.sx, h.bel⟩
theorem leg_cell {w : World} {F : Nat → Prop} {lp : Option Addr} {n lc : Nat} {T : List Lg} (h : RowF w F (.slice lp n lc) n (flt lgC T)) (hn : n = T.length) {k : Nat} (hk : k < T.length) :
    ∃ b o, lp = some ⟨b, o, none⟩ ∧ F b ∧ w.cell? ⟨b, o + k * 3, none⟩ = some (.int .u8 ((T[k]).c : Int)) ∧ w.cell? ⟨b, o + k * 3 + 1, none⟩ = some (.int .u16 ((T[k]).f : Int)) ∧ w.cell? ⟨b, o + k * 3 + 2, none⟩ = some (.int .u32 ((T[k]).w : Int)) := by
  subst hn
  obtain ⟨p, cap, e, _, hp⟩ := h
  simp only [Value.slice.injEq, true_and] at e
  obtain ⟨rfl, rfl⟩ := e
  obtain ⟨b, o, rfl, hF, hc⟩ := hp (by omega)
  have hsp : flt lgC T = flt lgC (T.take k) ++ (lgC T[k] ++ flt lgC (T.drop (k + 1))) := by
    rw [← flt_one lgC T[k], ← flt_append, ← flt_append]
    congr 1
    rw [← List.append_assoc, ← List.take_succ_eq_append_getElem hk, List.take_append_drop]
  have hl : (flt lgC (T.take k)).length = k * 3 := by rw [flt_len ec_leg.len, List.length_take, Nat.min_eq_left (by omega)]
  refine ⟨b, o, rfl, hF, ?_, ?_, ?_⟩
  · refine hc (k * 3) _ ?_
    rw [hsp, List.getElem?_append_right (by omega), hl, Nat.sub_self]; rfl
  · refine hc (k * 3 + 1) _ ?_
    rw [hsp, List.getElem?_append_right (by omega), hl, show k * 3 + 1 - k * 3 = 1 by omega]; rfl
  · refine hc (k * 3 + 2) _ ?_
    rw [hsp, List.getElem?_append_right (by omega), hl, show k * 3 + 2 - k * 3 = 2 by omega]; rfl
theorem like_all {α : Type} {a b : List α} (hl : a.length = b.length) (h : ∀ j, j < a.length → a[j]? = b[j]?) : a = b := by
  apply List.ext_getElem? 
  intro j
  by_cases hj : j < a.length
  · exact h j hj
  · rw [List.getElem?_eq_none (by omega), List.getElem?_eq_none (by omega)]
theorem wrap_inj {a b : Nat} (ha : a < 18446744073709551616) (hb : b < 18446744073709551616) (h : wrap64 (a : Int) = wrap64 (b : Int)) : a = b := by
  rcases wrap_cases a ha with e | e <;> rcases wrap_cases b hb with e' | e' <;> omega
theorem nof {P : Prop} (h : ¬ P) : (false = true ↔ P) := ⟨(fun e => by cases e), (fun e => absurd e h)⟩
/-- what Same answers -/
def SmP (r s : Rc) (w : World) (e : Ending) (w' : World) : Prop := ∃ b, e = .returned (.bool b) ∧ (b = true ↔ r = s) ∧ Below w.heap.size w w'
structure InR (r : Rc) : Prop where
  fare : r.cmd.fare < 18446744073709551616
  pen : r.cmd.pen < 18446744073709551616
  am : r.cmd.am < 18446744073709551616
  msg : Vld messageK r.msg
  taxes : ∀ x ∈ r.cmd.taxes, x.am < 18446744073709551616
  ll : r.cmd.legs.length ≤ 1000000
  tl : r.cmd.taxes.length ≤ 1000000
set_option maxRecDepth 100000 in
set_option maxHeartbeats 6400000 in
theorem same_l (ak ack acar aser apos afare apen aam afrm anum am0 am1 am2 am3 am4 am5 am6 am7 am8 am9 am10 am11 bk bck bcar bser bpos bfare bpen bam bfrm bnum bm0 bm1 bm2 bm3 bm4 bm5 bm6 bm7 bm8 bm9 bm10 bm11 : Nat) (anm bnm : By) (aL bL : List Lg) (aT bT : List Tx) (lp tp lq tq : Option Addr) (lc tc ld td : Nat) (w : World) (hia : InR ⟨ak, ⟨ack, acar, aser, apos, anm, aL, afare, aT, apen, aam⟩, afrm, anum, [am0, am1, am2, am3, am4, am5, am6, am7, am8, am9, am10, am11]⟩) (hib : InR ⟨bk, ⟨bck, bcar, bser, bpos, bnm, bL, bfare, bT, bpen, bam⟩, bfrm, bnum, [bm0, bm1, bm2, bm3, bm4, bm5, bm6, bm7, bm8, bm9, bm10, bm11]⟩)
    (hla : RowF w (· < w.heap.size) (.slice lp aL.length lc) aL.length (flt lgC aL)) (hta : RowF w (· < w.heap.size) (.slice tp aT.length tc) aT.length (flt txC aT)) (hlb : RowF w (· < w.heap.size) (.slice lq bL.length ld) bL.length (flt lgC bL)) (htb : RowF w (· < w.heap.size) (.slice tq bT.length td) bT.length (flt txC bT)) :
    Calls Try.prog 14 #[.agg (recC ⟨ak, ⟨ack, acar, aser, apos, anm, aL, afare, aT, apen, aam⟩, afrm, anum, [am0, am1, am2, am3, am4, am5, am6, am7, am8, am9, am10, am11]⟩ (.slice lp aL.length lc) (.slice tp aT.length tc)).toArray, .agg (recC ⟨bk, ⟨bck, bcar, bser, bpos, bnm, bL, bfare, bT, bpen, bam⟩, bfrm, bnum, [bm0, bm1, bm2, bm3, bm4, bm5, bm6, bm7, bm8, bm9, bm10, bm11]⟩ (.slice lq bL.length ld) (.slice tq bT.length td)).toArray] w (SmP ⟨ak, ⟨ack, acar, aser, apos, anm, aL, afare, aT, apen, aam⟩, afrm, anum, [am0, am1, am2, am3, am4, am5, am6, am7, am8, am9, am10, am11]⟩ ⟨bk, ⟨bck, bcar, bser, bpos, bnm, bL, bfare, bT, bpen, bam⟩, bfrm, bnum, [bm0, bm1, bm2, bm3, bm4, bm5, bm6, bm7, bm8, bm9, bm10, bm11]⟩ w) := by
  obtain ⟨Ca, hCa⟩ : ∃ C, (recC ⟨ak, ⟨ack, acar, aser, apos, anm, aL, afare, aT, apen, aam⟩, afrm, anum, [am0, am1, am2, am3, am4, am5, am6, am7, am8, am9, am10, am11]⟩ (.slice lp aL.length lc) (.slice tp aT.length tc)).toArray = C := ⟨_, rfl⟩
  obtain ⟨Cb, hCb⟩ : ∃ C, (recC ⟨bk, ⟨bck, bcar, bser, bpos, bnm, bL, bfare, bT, bpen, bam⟩, bfrm, bnum, [bm0, bm1, bm2, bm3, bm4, bm5, bm6, bm7, bm8, bm9, bm10, bm11]⟩ (.slice lq bL.length ld) (.slice tq bT.length td)).toArray = C := ⟨_, rfl⟩
  obtain ⟨w1, hw1⟩ : ∃ w1, w.alloc (.cells Ca 44) = w1 := ⟨_, rfl⟩
  have hs1 : w1.heap.size = w.heap.size + 1 := by rw [← hw1]; simp
  obtain ⟨w2, hw2⟩ : ∃ w2, w1.alloc (.cells Cb 44) = w2 := ⟨_, rfl⟩
  have hs2 : w2.heap.size = w.heap.size + 1 + 1 := by rw [← hw2]; simp [hs1]
  have ha : w2.heap[w.heap.size]? = some (.cells Ca 44 (0, 0)) := by rw [← hw2, heap_prev _ _ _ (by omega), ← hw1]; exact heap_last _ _ _ rfl
  have hb : w2.heap[w.heap.size + 1]? = some (.cells Cb 44 (0, 0)) := by rw [← hw2]; exact heap_last _ _ _ hs1.symm
  have hbel : Below w.heap.size w w2 := by rw [← hw2, ← hw1]; exact ((Below.refl _ _).alloc (Nat.le_refl _) _).alloc (by simp) _
  have x5 := cell_of_arr ha 5
  have y5 := cell_of_arr hb 5
  have x6 := cell_of_arr ha 6
  have y6 := cell_of_arr hb 6
  have x7 := cell_of_arr ha 7
  have y7 := cell_of_arr hb 7
  have x8 := cell_of_arr ha 8
  have y8 := cell_of_arr hb 8
  have x9 := cell_of_arr ha 9
  have y9 := cell_of_arr hb 9
  rw [← hCa] at x5 x6 x7 x8 x9
  rw [← hCb] at y5 y6 y7 y8 y9
  simp only [recC, List.getElem?_toArray, List.getElem?_cons_zero, List.getElem?_cons_succ] at x5 x6 x7 x8 x9 y5 y6 y7 y8 y9
  rw [hCa, hCb]
  have HA := Lib.hid ha
  have HB := Lib.hid hb
  have HBEL := Lib.hid hbel
  have HCA := Lib.hid hCa
  have HCB := Lib.hid hCb
  have HIA := Lib.hid hia
  have HIB := Lib.hid hib
  have HLA := Lib.hid hla
  have HTA := Lib.hid hta
  have HLB := Lib.hid hlb
  have HTB := Lib.hid htb
  clear ha hb hbel hCa hCb hia hib hla hta hlb htb
  go_enter Try.func14, Try.ntmps14
  go_upto_region 1 with fail
  clear hw1 hw2 hs1
  go_cut [5, 6] (fun u v wx => ∃ X Y : Nat, u = pt X ∧ v = pt Y ∧ Hid (SmI w Ca Cb (saC ⟨ak, ⟨ack, acar, aser, apos, anm, aL, afare, aT, apen, aam⟩, afrm, anum, [am0, am1, am2, am3, am4, am5, am6, am7, am8, am9, am10, am11]⟩ (.slice lp aL.length lc) (.slice tp aT.length tc)) (saC ⟨bk, ⟨bck, bcar, bser, bpos, bnm, bL, bfare, bT, bpen, bam⟩, bfrm, bnum, [bm0, bm1, bm2, bm3, bm4, bm5, bm6, bm7, bm8, bm9, bm10, bm11]⟩ (.slice lq bL.length ld) (.slice tq bT.length td)) X Y wx))
  case first =>
    go_region
    · go_wp2
      go_meet
      case rel => exact ⟨_, _, rfl, rfl, Lib.hid (smI_1 HA.out HB.out HBEL.out hs2)⟩
    · go_wp2
      go_meet
      case rel => exact ⟨_, _, rfl, rfl, Lib.hid (smI_2 HA.out HB.out HBEL.out hs2)⟩
  case rest =>
    obtain ⟨X, Y, rfl, rfl, HI⟩ := hcut
    clear x5 x6 x7 x8 x9 y5 y6 y7 y8 y9 HA HB HBEL hs2
    have cx : ∀ w', SmI w Ca Cb (saC ⟨ak, ⟨ack, acar, aser, apos, anm, aL, afare, aT, apen, aam⟩, afrm, anum, [am0, am1, am2, am3, am4, am5, am6, am7, am8, am9, am10, am11]⟩ (.slice lp aL.length lc) (.slice tp aT.length tc)) (saC ⟨bk, ⟨bck, bcar, bser, bpos, bnm, bL, bfare, bT, bpen, bam⟩, bfrm, bnum, [bm0, bm1, bm2, bm3, bm4, bm5, bm6, bm7, bm8, bm9, bm10, bm11]⟩ (.slice lq bL.length ld) (.slice tq bT.length td)) X Y w' → w'.cell? ⟨X, 1, none⟩ = some (.slice lp aL.length lc) ∧ w'.cell? ⟨X, 3, none⟩ = some (.slice tp aT.length tc) ∧ w'.cell? ⟨Y, 1, none⟩ = some (.slice lq bL.length ld) ∧ w'.cell? ⟨Y, 3, none⟩ = some (.slice tq bT.length td) := fun w' h => ⟨cell_of_arr h.sx 1, cell_of_arr h.sx 3, cell_of_arr h.sy 1, cell_of_arr h.sy 3⟩
    have CX := Lib.hid cx
    clear cx
    obtain ⟨p1, p2, p3, p4⟩ := CX.out wc HI.out
    have l0 : (0 : Int) ≤ (aL.length : Int) := Int.natCast_nonneg _
    have l1 : (aL.length : Int) ≤ 1000000 := by have := HIA.out.ll; simp only at this; omega
    have l2 : (0 : Int) ≤ (bL.length : Int) := Int.natCast_nonneg _
    have l3 : (bL.length : Int) ≤ 1000000 := by have := HIB.out.ll; simp only at this; omega
    have t0 : (0 : Int) ≤ (aT.length : Int) := Int.natCast_nonneg _
    have t1 : (aT.length : Int) ≤ 1000000 := by have := HIA.out.tl; simp only at this; omega
    have t2 : (0 : Int) ≤ (bT.length : Int) := Int.natCast_nonneg _
    have t3 : (bT.length : Int) ≤ 1000000 := by have := HIB.out.tl; simp only at this; omega
    by_cases e1 : (aL.length : Int) = (bL.length : Int)
    case neg =>
      go_wp2
      go_ret
      exact ⟨false, rfl, nof (fun h => e1 (by have h2 := congrArg (fun r : Rc => r.cmd.legs.length) h; simp only at h2; omega)), HI.out.bel⟩
    by_cases e2 : (aT.length : Int) = (bT.length : Int)
    case neg =>
      go_wp2
      go_ret
      exact ⟨false, rfl, nof (fun h => e2 (by have h2 := congrArg (fun r : Rc => r.cmd.taxes.length) h; simp only at h2; omega)), HI.out.bel⟩
    have HE1 := Lib.hid (show aL.length = bL.length by omega)
    have HE2 := Lib.hid (show aT.length = bT.length by omega)
    have HE3 := Lib.hid e1
    have HE4 := Lib.hid e2
    rw [HE1.out] at p1
    rw [HE2.out] at p2
    rw [HE1.out] at l0 l1
    rw [HE2.out] at t0 t1
    clear e1 e2
    go_wp2_with fail
    clear p1 p2 p3 p4 l0 l1 t0 t1
    go_loopw [7] (fun i wr => ∃ k : Nat, k ≤ bL.length ∧ i = .int .i64 (k : Int) ∧ Hid (∀ j, j < k → aL[j]? = bL[j]?) ∧ Hid (SmI w Ca Cb (saC ⟨ak, ⟨ack, acar, aser, apos, anm, aL, afare, aT, apen, aam⟩, afrm, anum, [am0, am1, am2, am3, am4, am5, am6, am7, am8, am9, am10, am11]⟩ (.slice lp aL.length lc) (.slice tp aT.length tc)) (saC ⟨bk, ⟨bck, bcar, bser, bpos, bnm, bL, bfare, bT, bpen, bam⟩, bfrm, bnum, [bm0, bm1, bm2, bm3, bm4, bm5, bm6, bm7, bm8, bm9, bm10, bm11]⟩ (.slice lq bL.length ld) (.slice tq bT.length td)) X Y wr)) (fun i _ => bL.length - (vI i).toNat)
    case atStart => exact ⟨0, Nat.zero_le _, rfl, Lib.hid (fun j h => absurd h (Nat.not_lt_zero _)), HI⟩
    case round =>
      obtain ⟨k, hk, rfl, HY, HW⟩ := hrel
      obtain ⟨q1, q2, q3, q4⟩ := CX.out wr HW.out
      rw [HE1.out] at q1
      rw [HE2.out] at q2
      have k0 : (0 : Int) ≤ (k : Int) := Int.natCast_nonneg _
      by_cases hlt : (k : Int) < (bL.length : Int)
      · have hka : k < aL.length := by have := HE1.out; omega
        have hkb : k < bL.length := by omega
        have hrow1 := HLA.out.kept (w' := wr) (F' := (· < w.heap.size)) (fun b hb => ⟨hb, HW.out.bel.block b hb⟩)
        have hrow2 := HLB.out.kept (w' := wr) (F' := (· < w.heap.size)) (fun b hb => ⟨hb, HW.out.bel.block b hb⟩)
        obtain ⟨b1, o1, rfl, _, d0, d1, d2⟩ := leg_cell hrow1 rfl hka
        obtain ⟨b2, o2, rfl, _, f0, f1, f2⟩ := leg_cell hrow2 rfl hkb
        have hq := neq_lg (aL[k].c : Int) (bL[k].c : Int) (aL[k].f : Int) (bL[k].f : Int) (aL[k].w : Int) (bL[k].w : Int)
        clear hrow1 hrow2
        by_cases he : aL[k] = bL[k]
        · have HS := Lib.hid (show aL[k]? = bL[k]? by rw [List.getElem?_eq_getElem hka, List.getElem?_eq_getElem hkb, he])
          rw [he] at hq d0 d1 d2
          simp only [and_self, decide_true, Bool.not_true] at hq
          generalize bL[k] = x at *
          obtain ⟨xc, xf, xw⟩ := x
          clear he
          simp only at hq d0 d1 d2 f0 f1 f2
          go_wp2
          go_quiet (fail)
          go_wp2
          go_roundw
          case rel => exact ⟨k + 1, by omega, rfl, Lib.hid (fun j hj => by
            rcases Nat.lt_succ_iff_lt_or_eq.1 hj with h | rfl
            · exact HY.out j h
            · exact HS.out), Lib.hid (HW.out.drewN _)⟩
          case measure => simp [vI]; omega
        · have hne : ¬ ((aL[k].c : Int) = (bL[k].c : Int) ∧ (aL[k].f : Int) = (bL[k].f : Int) ∧ (aL[k].w : Int) = (bL[k].w : Int)) := fun ⟨h1, h2, h3⟩ => he (by
            have g1 : aL[k].c = bL[k].c := by omega
            have g2 : aL[k].f = bL[k].f := by omega
            have g3 : aL[k].w = bL[k].w := by omega
            generalize aL[k] = x at *
            generalize bL[k] = y at *
            obtain ⟨_, _, _⟩ := x
            obtain ⟨_, _, _⟩ := y
            simp only at g1 g2 g3
            subst g1 g2 g3
            rfl)
          rw [decide_eq_false hne, Bool.not_false] at hq
          have HN := Lib.hid (show ¬ (⟨ak, ⟨ack, acar, aser, apos, anm, aL, afare, aT, apen, aam⟩, afrm, anum, [am0, am1, am2, am3, am4, am5, am6, am7, am8, am9, am10, am11]⟩ : Rc) = ⟨bk, ⟨bck, bcar, bser, bpos, bnm, bL, bfare, bT, bpen, bam⟩, bfrm, bnum, [bm0, bm1, bm2, bm3, bm4, bm5, bm6, bm7, bm8, bm9, bm10, bm11]⟩ from fun h => he (by
            have h2 : aL = bL := congrArg (fun r : Rc => r.cmd.legs) h
            subst h2; rfl))
          clear he hne
          generalize aL[k] = x at *
          generalize bL[k] = y at *
          obtain ⟨xc, xf, xw⟩ := x
          obtain ⟨yc, yf, yw⟩ := y
          simp only at hq d0 d1 d2 f0 f1 f2
          go_wp2
          go_quiet (fail)
          go_wp2
          go_ret
          exact ⟨false, rfl, nof HN.out, (HW.out.drewN _).bel⟩
      · have HLEG := Lib.hid (show aL = bL from like_all HE1.out (fun j hj => HY.out j (by have := HE1.out; omega)))
        clear HY
        go_wp2_with fail
        clear q1 q2 q3 q4
        go_loopw [8] (fun i wr2 => ∃ k : Nat, k ≤ bT.length ∧ i = .int .i64 (k : Int) ∧ Hid (∀ j, j < k → aT[j]? = bT[j]?) ∧ Hid (SmI w Ca Cb (saC ⟨ak, ⟨ack, acar, aser, apos, anm, aL, afare, aT, apen, aam⟩, afrm, anum, [am0, am1, am2, am3, am4, am5, am6, am7, am8, am9, am10, am11]⟩ (.slice lp aL.length lc) (.slice tp aT.length tc)) (saC ⟨bk, ⟨bck, bcar, bser, bpos, bnm, bL, bfare, bT, bpen, bam⟩, bfrm, bnum, [bm0, bm1, bm2, bm3, bm4, bm5, bm6, bm7, bm8, bm9, bm10, bm11]⟩ (.slice lq bL.length ld) (.slice tq bT.length td)) X Y wr2)) (fun i _ => bT.length - (vI i).toNat)
        case atStart => exact ⟨0, Nat.zero_le _, rfl, Lib.hid (fun j h => absurd h (Nat.not_lt_zero _)), HW⟩
        case round =>
          obtain ⟨k, hk, rfl, HY, HW⟩ := hrel
          obtain ⟨q1, q2, q3, q4⟩ := CX.out _ HW.out
          rw [HE1.out] at q1
          rw [HE2.out] at q2
          have k0 : (0 : Int) ≤ (k : Int) := Int.natCast_nonneg _
          by_cases hlt : (k : Int) < (bT.length : Int)
          · have hka : k < aT.length := by have := HE2.out; omega
            have hkb : k < bT.length := by omega
            have hrow1 := HTA.out.kept (F' := (· < w.heap.size)) (fun b hb => ⟨hb, HW.out.bel.block b hb⟩)
            have hrow2 := HTB.out.kept (F' := (· < w.heap.size)) (fun b hb => ⟨hb, HW.out.bel.block b hb⟩)
            obtain ⟨b1, o1, rfl, _, d0, d1⟩ := tax_cell hrow1 rfl hka
            obtain ⟨b2, o2, rfl, _, f0, f1⟩ := tax_cell hrow2 rfl hkb
            have hq := neq_tx aT[k].code bT[k].code (wrap64 (aT[k].am : Int)) (wrap64 (bT[k].am : Int))
            clear hrow1 hrow2
            by_cases he : aT[k] = bT[k]
            · have HS := Lib.hid (show aT[k]? = bT[k]? by rw [List.getElem?_eq_getElem hka, List.getElem?_eq_getElem hkb, he])
              rw [he] at hq d0 d1
              simp only [and_self, decide_true, Bool.not_true] at hq
              generalize bT[k] = x at *
              obtain ⟨xc, xa⟩ := x
              clear he
              simp only at hq d0 d1 f0 f1
              go_wp2
              go_quiet (fail)
              go_wp2
              go_roundw
              case rel => exact ⟨k + 1, by omega, rfl, Lib.hid (fun j hj => by
                rcases Nat.lt_succ_iff_lt_or_eq.1 hj with h | rfl
                · exact HY.out j h
                · exact HS.out), Lib.hid (HW.out.drewN _)⟩
              case measure => simp [vI]; omega
            · have hm1 := HIA.out.taxes _ (List.getElem_mem hka)
              have hm2 := HIB.out.taxes _ (List.getElem_mem hkb)
              have hne : ¬ (aT[k].code = bT[k].code ∧ wrap64 (aT[k].am : Int) = wrap64 (bT[k].am : Int)) := fun ⟨h1, h2⟩ => he (by
                have g2 := wrap_inj hm1 hm2 h2
                generalize aT[k] = x at *
                generalize bT[k] = y at *
                obtain ⟨_, _⟩ := x
                obtain ⟨_, _⟩ := y
                simp only at h1 g2
                subst h1 g2
                rfl)
              rw [decide_eq_false hne, Bool.not_false] at hq
              have HN := Lib.hid (show ¬ (⟨ak, ⟨ack, acar, aser, apos, anm, aL, afare, aT, apen, aam⟩, afrm, anum, [am0, am1, am2, am3, am4, am5, am6, am7, am8, am9, am10, am11]⟩ : Rc) = ⟨bk, ⟨bck, bcar, bser, bpos, bnm, bL, bfare, bT, bpen, bam⟩, bfrm, bnum, [bm0, bm1, bm2, bm3, bm4, bm5, bm6, bm7, bm8, bm9, bm10, bm11]⟩ from fun h => he (by
                have h2 : aT = bT := congrArg (fun r : Rc => r.cmd.taxes) h
                subst h2; rfl))
              clear he hne hm1 hm2
              generalize aT[k] = x at *
              generalize bT[k] = y at *
              obtain ⟨xc, xa⟩ := x
              obtain ⟨yc, ya⟩ := y
              simp only at hq d0 d1 f0 f1
              go_wp2
              go_quiet (fail)
              go_wp2
              go_ret
              exact ⟨false, rfl, nof HN.out, (HW.out.drewN _).bel⟩
          · have HTAX := Lib.hid (show aT = bT from like_all HE2.out (fun j hj => HY.out j (by have := HE2.out; omega)))
            clear HY
            have z0 := cell_of_arr HW.out.sx 0
            have z2 := cell_of_arr HW.out.sx 2
            have z4 := cell_of_arr HW.out.sx 4
            have v0 := cell_of_arr HW.out.sy 0
            have v2 := cell_of_arr HW.out.sy 2
            have v4 := cell_of_arr HW.out.sy 4
            simp only [List.getElem?_toArray, List.getElem?_cons_zero, List.getElem?_cons_succ] at z0 z2 z4 v0 v2 v4
            have x0 := cell_of_arr HW.out.ca 0
            have y0 := cell_of_arr HW.out.cb 0
            have x1 := cell_of_arr HW.out.ca 1
            have y1 := cell_of_arr HW.out.cb 1
            have x2 := cell_of_arr HW.out.ca 2
            have y2 := cell_of_arr HW.out.cb 2
            have x3 := cell_of_arr HW.out.ca 3
            have y3 := cell_of_arr HW.out.cb 3
            have x4 := cell_of_arr HW.out.ca 4
            have y4 := cell_of_arr HW.out.cb 4
            have x10 := cell_of_arr HW.out.ca 10
            have y10 := cell_of_arr HW.out.cb 10
            have x11 := cell_of_arr HW.out.ca 11
            have y11 := cell_of_arr HW.out.cb 11
            have x12 := cell_of_arr HW.out.ca 12
            have y12 := cell_of_arr HW.out.cb 12
            have x13 := cell_of_arr HW.out.ca 13
            have y13 := cell_of_arr HW.out.cb 13
            have x14 := cell_of_arr HW.out.ca 14
            have y14 := cell_of_arr HW.out.cb 14
            have x15 := cell_of_arr HW.out.ca 15
            have y15 := cell_of_arr HW.out.cb 15
            have x16 := cell_of_arr HW.out.ca 16
            have y16 := cell_of_arr HW.out.cb 16
            have x17 := cell_of_arr HW.out.ca 17
            have y17 := cell_of_arr HW.out.cb 17
            have x18 := cell_of_arr HW.out.ca 18
            have y18 := cell_of_arr HW.out.cb 18
            have x19 := cell_of_arr HW.out.ca 19
            have y19 := cell_of_arr HW.out.cb 19
            have x20 := cell_of_arr HW.out.ca 20
            have y20 := cell_of_arr HW.out.cb 20
            have x21 := cell_of_arr HW.out.ca 21
            have y21 := cell_of_arr HW.out.cb 21
            have x22 := cell_of_arr HW.out.ca 22
            have y22 := cell_of_arr HW.out.cb 22
            have x23 := cell_of_arr HW.out.ca 23
            have y23 := cell_of_arr HW.out.cb 23
            have x24 := cell_of_arr HW.out.ca 24
            have y24 := cell_of_arr HW.out.cb 24
            rw [← HCA.out] at x0 x1 x2 x3 x4 x10 x11 x12 x13 x14 x15 x16 x17 x18 x19 x20 x21 x22 x23 x24
            rw [← HCB.out] at y0 y1 y2 y3 y4 y10 y11 y12 y13 y14 y15 y16 y17 y18 y19 y20 y21 y22 y23 y24
            simp only [recC, cellsK, cellK, List.getElem?_toArray, List.getElem?_cons_zero, List.getElem?_cons_succ] at x0 y0 x1 y1 x2 y2 x3 y3 x4 y4 x10 y10 x11 y11 x12 y12 x13 y13 x14 y14 x15 y15 x16 y16 x17 y17 x18 y18 x19 y19 x20 y20 x21 y21 x22 y22 x23 y23 x24 y24
            have fin : ∀ (P : Prop), ¬ P → ((⟨ak, ⟨ack, acar, aser, apos, anm, aL, afare, aT, apen, aam⟩, afrm, anum, [am0, am1, am2, am3, am4, am5, am6, am7, am8, am9, am10, am11]⟩ : Rc) = ⟨bk, ⟨bck, bcar, bser, bpos, bnm, bL, bfare, bT, bpen, bam⟩, bfrm, bnum, [bm0, bm1, bm2, bm3, bm4, bm5, bm6, bm7, bm8, bm9, bm10, bm11]⟩ → P) → (false = true ↔ (⟨ak, ⟨ack, acar, aser, apos, anm, aL, afare, aT, apen, aam⟩, afrm, anum, [am0, am1, am2, am3, am4, am5, am6, am7, am8, am9, am10, am11]⟩ : Rc) = ⟨bk, ⟨bck, bcar, bser, bpos, bnm, bL, bfare, bT, bpen, bam⟩, bfrm, bnum, [bm0, bm1, bm2, bm3, bm4, bm5, bm6, bm7, bm8, bm9, bm10, bm11]⟩) := fun P h1 h2 => nof (fun h => h1 (h2 h))
            have FIN := Lib.hid fin
            have HBE := Lib.hid HW.out.bel
            clear fin HW HI
            obtain ⟨iak, hiak⟩ : ∃ i : Int, (ak : Int) = i := ⟨_, rfl⟩
            rw [hiak] at x0
            have Hak := Lib.hid hiak
            clear hiak
            obtain ⟨ibk, hibk⟩ : ∃ i : Int, (bk : Int) = i := ⟨_, rfl⟩
            rw [hibk] at y0
            have Hbk := Lib.hid hibk
            clear hibk
            obtain ⟨iack, hiack⟩ : ∃ i : Int, (ack : Int) = i := ⟨_, rfl⟩
            rw [hiack] at x1
            have Hack := Lib.hid hiack
            clear hiack
            obtain ⟨ibck, hibck⟩ : ∃ i : Int, (bck : Int) = i := ⟨_, rfl⟩
            rw [hibck] at y1
            have Hbck := Lib.hid hibck
            clear hibck
            obtain ⟨iacar, hiacar⟩ : ∃ i : Int, (acar : Int) = i := ⟨_, rfl⟩
            rw [hiacar] at x2
            have Hacar := Lib.hid hiacar
            clear hiacar
            obtain ⟨ibcar, hibcar⟩ : ∃ i : Int, (bcar : Int) = i := ⟨_, rfl⟩
            rw [hibcar] at y2
            have Hbcar := Lib.hid hibcar
            clear hibcar
            obtain ⟨iaser, hiaser⟩ : ∃ i : Int, (aser : Int) = i := ⟨_, rfl⟩
            rw [hiaser] at x3
            have Haser := Lib.hid hiaser
            clear hiaser
            obtain ⟨ibser, hibser⟩ : ∃ i : Int, (bser : Int) = i := ⟨_, rfl⟩
            rw [hibser] at y3
            have Hbser := Lib.hid hibser
            clear hibser
            obtain ⟨iapos, hiapos⟩ : ∃ i : Int, (apos : Int) = i := ⟨_, rfl⟩
            rw [hiapos] at x4
            have Hapos := Lib.hid hiapos
            clear hiapos
            obtain ⟨ibpos, hibpos⟩ : ∃ i : Int, (bpos : Int) = i := ⟨_, rfl⟩
            rw [hibpos] at y4
            have Hbpos := Lib.hid hibpos
            clear hibpos
            obtain ⟨iaam, hiaam⟩ : ∃ i : Int, wrap64 (aam : Int) = i := ⟨_, rfl⟩
            rw [hiaam] at x10
            have Haam := Lib.hid hiaam
            clear hiaam
            obtain ⟨ibam, hibam⟩ : ∃ i : Int, wrap64 (bam : Int) = i := ⟨_, rfl⟩
            rw [hibam] at y10
            have Hbam := Lib.hid hibam
            clear hibam
            obtain ⟨iafrm, hiafrm⟩ : ∃ i : Int, (afrm : Int) = i := ⟨_, rfl⟩
            rw [hiafrm] at x11
            have Hafrm := Lib.hid hiafrm
            clear hiafrm
            obtain ⟨ibfrm, hibfrm⟩ : ∃ i : Int, (bfrm : Int) = i := ⟨_, rfl⟩
            rw [hibfrm] at y11
            have Hbfrm := Lib.hid hibfrm
            clear hibfrm
            obtain ⟨ianum, hianum⟩ : ∃ i : Int, (anum : Int) = i := ⟨_, rfl⟩
            rw [hianum] at x12
            have Hanum := Lib.hid hianum
            clear hianum
            obtain ⟨ibnum, hibnum⟩ : ∃ i : Int, (bnum : Int) = i := ⟨_, rfl⟩
            rw [hibnum] at y12
            have Hbnum := Lib.hid hibnum
            clear hibnum
            obtain ⟨iam0, hiam0⟩ : ∃ i : Int, (am0 : Int) = i := ⟨_, rfl⟩
            rw [hiam0] at x13
            have Ham0 := Lib.hid hiam0
            clear hiam0
            obtain ⟨ibm0, hibm0⟩ : ∃ i : Int, (bm0 : Int) = i := ⟨_, rfl⟩
            rw [hibm0] at y13
            have Hbm0 := Lib.hid hibm0
            clear hibm0
            obtain ⟨iam1, hiam1⟩ : ∃ i : Int, (am1 : Int) = i := ⟨_, rfl⟩
            rw [hiam1] at x14
            have Ham1 := Lib.hid hiam1
            clear hiam1
            obtain ⟨ibm1, hibm1⟩ : ∃ i : Int, (bm1 : Int) = i := ⟨_, rfl⟩
            rw [hibm1] at y14
            have Hbm1 := Lib.hid hibm1
            clear hibm1
            obtain ⟨iam2, hiam2⟩ : ∃ i : Int, (am2 : Int) = i := ⟨_, rfl⟩
            rw [hiam2] at x15
            have Ham2 := Lib.hid hiam2
            clear hiam2
            obtain ⟨ibm2, hibm2⟩ : ∃ i : Int, (bm2 : Int) = i := ⟨_, rfl⟩
            rw [hibm2] at y15
            have Hbm2 := Lib.hid hibm2
            clear hibm2
            obtain ⟨iam3, hiam3⟩ : ∃ i : Int, (am3 : Int) = i := ⟨_, rfl⟩
            rw [hiam3] at x16
            have Ham3 := Lib.hid hiam3
            clear hiam3
            obtain ⟨ibm3, hibm3⟩ : ∃ i : Int, (bm3 : Int) = i := ⟨_, rfl⟩
            rw [hibm3] at y16
            have Hbm3 := Lib.hid hibm3
            clear hibm3
            obtain ⟨iam4, hiam4⟩ : ∃ i : Int, (am4 : Int) = i := ⟨_, rfl⟩
            rw [hiam4] at x17
            have Ham4 := Lib.hid hiam4
            clear hiam4
            obtain ⟨ibm4, hibm4⟩ : ∃ i : Int, (bm4 : Int) = i := ⟨_, rfl⟩
            rw [hibm4] at y17
            have Hbm4 := Lib.hid hibm4
            clear hibm4
            obtain ⟨iam5, hiam5⟩ : ∃ i : Int, (am5 : Int) = i := ⟨_, rfl⟩
            rw [hiam5] at x18
            have Ham5 := Lib.hid hiam5
            clear hiam5
            obtain ⟨ibm5, hibm5⟩ : ∃ i : Int, (bm5 : Int) = i := ⟨_, rfl⟩
            rw [hibm5] at y18
            have Hbm5 := Lib.hid hibm5
            clear hibm5
            obtain ⟨iam6, hiam6⟩ : ∃ i : Int, (am6 : Int) = i := ⟨_, rfl⟩
            rw [hiam6] at x19
            have Ham6 := Lib.hid hiam6
            clear hiam6
            obtain ⟨ibm6, hibm6⟩ : ∃ i : Int, (bm6 : Int) = i := ⟨_, rfl⟩
            rw [hibm6] at y19
            have Hbm6 := Lib.hid hibm6
            clear hibm6
            obtain ⟨iam7, hiam7⟩ : ∃ i : Int, wrap64 (am7 : Int) = i := ⟨_, rfl⟩
            rw [hiam7] at x20
            have Ham7 := Lib.hid hiam7
            clear hiam7
            obtain ⟨ibm7, hibm7⟩ : ∃ i : Int, wrap64 (bm7 : Int) = i := ⟨_, rfl⟩
            rw [hibm7] at y20
            have Hbm7 := Lib.hid hibm7
            clear hibm7
            obtain ⟨iam8, hiam8⟩ : ∃ i : Int, (am8 : Int) = i := ⟨_, rfl⟩
            rw [hiam8] at x21
            have Ham8 := Lib.hid hiam8
            clear hiam8
            obtain ⟨ibm8, hibm8⟩ : ∃ i : Int, (bm8 : Int) = i := ⟨_, rfl⟩
            rw [hibm8] at y21
            have Hbm8 := Lib.hid hibm8
            clear hibm8
            obtain ⟨iam9, hiam9⟩ : ∃ i : Int, (am9 : Int) = i := ⟨_, rfl⟩
            rw [hiam9] at x22
            have Ham9 := Lib.hid hiam9
            clear hiam9
            obtain ⟨ibm9, hibm9⟩ : ∃ i : Int, (bm9 : Int) = i := ⟨_, rfl⟩
            rw [hibm9] at y22
            have Hbm9 := Lib.hid hibm9
            clear hibm9
            obtain ⟨iam10, hiam10⟩ : ∃ i : Int, wrap64 (am10 : Int) = i := ⟨_, rfl⟩
            rw [hiam10] at x23
            have Ham10 := Lib.hid hiam10
            clear hiam10
            obtain ⟨ibm10, hibm10⟩ : ∃ i : Int, wrap64 (bm10 : Int) = i := ⟨_, rfl⟩
            rw [hibm10] at y23
            have Hbm10 := Lib.hid hibm10
            clear hibm10
            obtain ⟨iam11, hiam11⟩ : ∃ i : Int, wrap64 (am11 : Int) = i := ⟨_, rfl⟩
            rw [hiam11] at x24
            have Ham11 := Lib.hid hiam11
            clear hiam11
            obtain ⟨ibm11, hibm11⟩ : ∃ i : Int, wrap64 (bm11 : Int) = i := ⟨_, rfl⟩
            rw [hibm11] at y24
            have Hbm11 := Lib.hid hibm11
            clear hibm11
            obtain ⟨iafare, hiafare⟩ : ∃ i : Int, wrap64 (afare : Int) = i := ⟨_, rfl⟩
            rw [hiafare] at z2
            have Hafare := Lib.hid hiafare
            clear hiafare
            obtain ⟨ibfare, hibfare⟩ : ∃ i : Int, wrap64 (bfare : Int) = i := ⟨_, rfl⟩
            rw [hibfare] at v2
            have Hbfare := Lib.hid hibfare
            clear hibfare
            obtain ⟨iapen, hiapen⟩ : ∃ i : Int, wrap64 (apen : Int) = i := ⟨_, rfl⟩
            rw [hiapen] at z4
            have Hapen := Lib.hid hiapen
            clear hiapen
            obtain ⟨ibpen, hibpen⟩ : ∃ i : Int, wrap64 (bpen : Int) = i := ⟨_, rfl⟩
            rw [hibpen] at v4
            have Hbpen := Lib.hid hibpen
            clear hibpen
            go_upto_region 14 with fail
            simp only [List.append_eq, List.cons_append, List.nil_append]
            clear q1 q2 q3 q4
            by_cases k0 : iak = ibk
            case neg =>
              have bk0 : (iak == ibk) = false := by simpa using k0
              have HX := Lib.hid (FIN.out _ k0 (fun h => by have h2 := congrArg (fun r : Rc => r.kind) h; simp only at h2; rw [← Hak.out, ← Hbk.out, h2]))
              go_wp2
              all_goals go_ret
              all_goals refine ⟨false, ?_, HX.out, HBE.out⟩
              all_goals (first | rfl | (simp; done) | skip)
            rw [k0] at x0
            by_cases k1 : iafrm = ibfrm
            case neg =>
              have bk1 : (iafrm == ibfrm) = false := by simpa using k1
              have HX := Lib.hid (FIN.out _ k1 (fun h => by have h2 := congrArg (fun r : Rc => r.frm) h; simp only at h2; rw [← Hafrm.out, ← Hbfrm.out, h2]))
              go_wp2
              all_goals go_ret
              all_goals refine ⟨false, ?_, HX.out, HBE.out⟩
              all_goals (first | rfl | (simp; done) | skip)
            rw [k1] at x11
            by_cases k2 : ianum = ibnum
            case neg =>
              have bk2 : (ianum == ibnum) = false := by simpa using k2
              have HX := Lib.hid (FIN.out _ k2 (fun h => by have h2 := congrArg (fun r : Rc => r.num) h; simp only at h2; rw [← Hanum.out, ← Hbnum.out, h2]))
              go_wp2
              all_goals go_ret
              all_goals refine ⟨false, ?_, HX.out, HBE.out⟩
              all_goals (first | rfl | (simp; done) | skip)
            rw [k2] at x12
            by_cases k3 : iam0 = ibm0 ∧ iam1 = ibm1 ∧ iam2 = ibm2 ∧ iam3 = ibm3 ∧ iam4 = ibm4 ∧ iam5 = ibm5 ∧ iam6 = ibm6 ∧ iam7 = ibm7 ∧ iam8 = ibm8 ∧ iam9 = ibm9 ∧ iam10 = ibm10 ∧ iam11 = ibm11
            case neg =>
              have hq := eql_msg iam0 ibm0 iam1 ibm1 iam2 ibm2 iam3 ibm3 iam4 ibm4 iam5 ibm5 iam6 ibm6 iam7 ibm7 iam8 ibm8 iam9 ibm9 iam10 ibm10 iam11 ibm11
              rw [decide_eq_false k3] at hq
              have HX := Lib.hid (FIN.out _ k3 (fun h => by have h2 := congrArg (fun r : Rc => r.msg) h; simp only [List.cons.injEq, and_true] at h2; obtain ⟨g0, g1, g2, g3, g4, g5, g6, g7, g8, g9, g10, g11⟩ := h2; exact ⟨(by rw [← Ham0.out, ← Hbm0.out, g0]), (by rw [← Ham1.out, ← Hbm1.out, g1]), (by rw [← Ham2.out, ← Hbm2.out, g2]), (by rw [← Ham3.out, ← Hbm3.out, g3]), (by rw [← Ham4.out, ← Hbm4.out, g4]), (by rw [← Ham5.out, ← Hbm5.out, g5]), (by rw [← Ham6.out, ← Hbm6.out, g6]), (by rw [← Ham7.out, ← Hbm7.out, g7]), (by rw [← Ham8.out, ← Hbm8.out, g8]), (by rw [← Ham9.out, ← Hbm9.out, g9]), (by rw [← Ham10.out, ← Hbm10.out, g10]), (by rw [← Ham11.out, ← Hbm11.out, g11])⟩))
              go_wp2
              all_goals go_ret
              all_goals refine ⟨false, ?_, HX.out, HBE.out⟩
              all_goals (first | rfl | (simp; done) | skip)
            have hq := eql_msg iam0 ibm0 iam1 ibm1 iam2 ibm2 iam3 ibm3 iam4 ibm4 iam5 ibm5 iam6 ibm6 iam7 ibm7 iam8 ibm8 iam9 ibm9 iam10 ibm10 iam11 ibm11
            rw [decide_eq_true k3] at hq
            have K3 := Lib.hid k3
            clear k3
            by_cases k4 : iack = ibck
            case neg =>
              have bk4 : (iack == ibck) = false := by simpa using k4
              have HX := Lib.hid (FIN.out _ k4 (fun h => by have h2 := congrArg (fun r : Rc => r.cmd.kind) h; simp only at h2; rw [← Hack.out, ← Hbck.out, h2]))
              go_wp2
              all_goals go_ret
              all_goals refine ⟨false, ?_, HX.out, HBE.out⟩
              all_goals (first | rfl | (simp; done) | skip)
            rw [k4] at x1
            by_cases k5 : iacar = ibcar ∧ iaser = ibser
            case neg =>
              have hq2 := eql_tk iacar ibcar iaser ibser
              rw [decide_eq_false k5] at hq2
              have HX := Lib.hid (FIN.out _ k5 (fun h => by have h2 := congrArg (fun r : Rc => r.cmd.car) h; have h3 := congrArg (fun r : Rc => r.cmd.ser) h; simp only at h2 h3; exact ⟨by rw [← Hacar.out, ← Hbcar.out, h2], by rw [← Haser.out, ← Hbser.out, h3]⟩))
              go_wp2
              all_goals go_ret
              all_goals refine ⟨false, ?_, HX.out, HBE.out⟩
              all_goals (first | rfl | (simp; done) | skip)
            have hq2 := eql_tk iacar ibcar iaser ibser
            rw [decide_eq_true k5] at hq2
            have K5 := Lib.hid k5
            clear k5
            by_cases k6 : iapos = ibpos
            case neg =>
              have bk6 : (iapos == ibpos) = false := by simpa using k6
              have HX := Lib.hid (FIN.out _ k6 (fun h => by have h2 := congrArg (fun r : Rc => r.cmd.pos) h; simp only at h2; rw [← Hapos.out, ← Hbpos.out, h2]))
              go_wp2
              all_goals go_ret
              all_goals refine ⟨false, ?_, HX.out, HBE.out⟩
              all_goals (first | rfl | (simp; done) | skip)
            rw [k6] at x4
            by_cases k7 : iaam = ibam
            case neg =>
              have bk7 : (iaam == ibam) = false := by simpa using k7
              have HX := Lib.hid (FIN.out _ k7 (fun h => by have h2 := congrArg (fun r : Rc => r.cmd.am) h; simp only at h2; rw [← Haam.out, ← Hbam.out, h2]))
              go_wp2
              all_goals go_ret
              all_goals refine ⟨false, ?_, HX.out, HBE.out⟩
              all_goals (first | rfl | (simp; done) | skip)
            rw [k7] at x10
            by_cases k8 : anm = bnm
            case neg =>
              have hbe : ((tx anm).toList == (tx bnm).toList) = false := by rw [tx_list, tx_list]; simpa using k8
              have HX := Lib.hid (FIN.out _ k8 (fun h => congrArg (fun r : Rc => r.cmd.name) h))
              go_wp2
              all_goals go_ret
              all_goals refine ⟨false, ?_, HX.out, HBE.out⟩
              all_goals (first | rfl | (simp; done) | skip)
            have K8 := Lib.hid k8
            rw [k8] at z0
            clear k8
            by_cases k9 : iafare = ibfare
            case neg =>
              have bk9 : (iafare == ibfare) = false := by simpa using k9
              have HX := Lib.hid (FIN.out _ k9 (fun h => by have h2 := congrArg (fun r : Rc => r.cmd.fare) h; simp only at h2; rw [← Hafare.out, ← Hbfare.out, h2]))
              go_wp2
              all_goals go_ret
              all_goals refine ⟨false, ?_, HX.out, HBE.out⟩
              all_goals (first | rfl | (simp; done) | skip)
            rw [k9] at z2
            by_cases k10 : iapen = ibpen
            case neg =>
              have bk10 : (iapen == ibpen) = false := by simpa using k10
              have HX := Lib.hid (FIN.out _ k10 (fun h => by have h2 := congrArg (fun r : Rc => r.cmd.pen) h; simp only at h2; rw [← Hapen.out, ← Hbpen.out, h2]))
              go_wp2
              all_goals go_ret
              all_goals refine ⟨false, ?_, HX.out, HBE.out⟩
              all_goals (first | rfl | (simp; done) | skip)
            rw [k10] at z4
            have rk : ak = bk := by have h := Hak.out; have h2 := Hbk.out; omega
            have rfrm : afrm = bfrm := by have h := Hafrm.out; have h2 := Hbfrm.out; omega
            have rnum : anum = bnum := by have h := Hanum.out; have h2 := Hbnum.out; omega
            have rck : ack = bck := by have h := Hack.out; have h2 := Hbck.out; omega
            have rpos : apos = bpos := by have h := Hapos.out; have h2 := Hbpos.out; omega
            have r5 := K5.out
            have rcar : acar = bcar := by have h := Hacar.out; have h2 := Hbcar.out; omega
            have rser : aser = bser := by have h := Haser.out; have h2 := Hbser.out; omega
            have ram : aam = bam := wrap_inj HIA.out.am HIB.out.am (Haam.out.trans (k7.trans Hbam.out.symm))
            have rfare : afare = bfare := wrap_inj HIA.out.fare HIB.out.fare (Hafare.out.trans (k9.trans Hbfare.out.symm))
            have rpen : apen = bpen := wrap_inj HIA.out.pen HIB.out.pen (Hapen.out.trans (k10.trans Hbpen.out.symm))
            obtain ⟨e0, e1, e2, e3, e4, e5, e6, e7, e8, e9, e10, e11⟩ := K3.out
            have rm0 : am0 = bm0 := by have h := Ham0.out; have h2 := Hbm0.out; omega
            have rm1 : am1 = bm1 := by have h := Ham1.out; have h2 := Hbm1.out; omega
            have rm2 : am2 = bm2 := by have h := Ham2.out; have h2 := Hbm2.out; omega
            have rm3 : am3 = bm3 := by have h := Ham3.out; have h2 := Hbm3.out; omega
            have rm4 : am4 = bm4 := by have h := Ham4.out; have h2 := Hbm4.out; omega
            have rm5 : am5 = bm5 := by have h := Ham5.out; have h2 := Hbm5.out; omega
            have rm6 : am6 = bm6 := by have h := Ham6.out; have h2 := Hbm6.out; omega
            have rm7 : am7 = bm7 := wrap_inj (HIA.out.msg.2 7 .i64 am7 rfl rfl) (HIB.out.msg.2 7 .i64 bm7 rfl rfl) (Ham7.out.trans (e7.trans Hbm7.out.symm))
            have rm8 : am8 = bm8 := by have h := Ham8.out; have h2 := Hbm8.out; omega
            have rm9 : am9 = bm9 := by have h := Ham9.out; have h2 := Hbm9.out; omega
            have rm10 : am10 = bm10 := wrap_inj (HIA.out.msg.2 10 .i64 am10 rfl rfl) (HIB.out.msg.2 10 .i64 bm10 rfl rfl) (Ham10.out.trans (e10.trans Hbm10.out.symm))
            have rm11 : am11 = bm11 := wrap_inj (HIA.out.msg.2 11 .i64 am11 rfl rfl) (HIB.out.msg.2 11 .i64 bm11 rfl rfl) (Ham11.out.trans (e11.trans Hbm11.out.symm))
            have HFIN := Lib.hid (show (⟨ak, ⟨ack, acar, aser, apos, anm, aL, afare, aT, apen, aam⟩, afrm, anum, [am0, am1, am2, am3, am4, am5, am6, am7, am8, am9, am10, am11]⟩ : Rc) = ⟨bk, ⟨bck, bcar, bser, bpos, bnm, bL, bfare, bT, bpen, bam⟩, bfrm, bnum, [bm0, bm1, bm2, bm3, bm4, bm5, bm6, bm7, bm8, bm9, bm10, bm11]⟩ by rw [rk, rfrm, rnum, rck, rpos, rcar, rser, ram, rfare, rpen, rm0, rm1, rm2, rm3, rm4, rm5, rm6, rm7, rm8, rm9, rm10, rm11, K8.out, HLEG.out, HTAX.out])
            clear rk rfrm rnum rck rpos rcar rser ram rfare rpen rm0 rm1 rm2 rm3 rm4 rm5 rm6 rm7 rm8 rm9 rm10 rm11 r5 e0 e1 e2 e3 e4 e5 e6 e7 e8 e9 e10 e11
            go_wp2
            all_goals go_ret
            all_goals refine ⟨true, ?_, ⟨fun _ => HFIN.out, fun _ => rfl⟩, HBE.out⟩
            all_goals (first | rfl | (simp; done) | skip)
end Go.Proofs.Ytjdfdihopgceoaa.Cd
