/- The walk of CodecOwn. -/
import Derived.Test.YtjdfdihopgceoaaCdApW
namespace Go.Proofs.Ytjdfdihopgceoaa.Cd
open Go.RowKit Go.Shelf Go.Dk Go.Jn Go.Cod

theorem OwnL.mv {t : TypeId} {k lo n : Nat} {w w' : World} {v : Value} {xs : List Value} (h : OwnL t k lo w v n xs) (hb : ∀ g, lo ≤ g → g < w.heap.size → w'.heap[g]? = w.heap[g]?) : OwnL t k lo w' v n xs := by
  rcases h with h | ⟨g, cap, arr, h1, h2, h3, h4, h5⟩
  · exact .inl h
  · exact .inr ⟨g, cap, arr, h1, h2, h3, (hb g h2 (lt_of_heap h4)).trans h4, h5⟩
/-- while the told bytes are written over -/
structure LpA (ga base N cv : Nat) (w8 wr : World) : Prop where
  row : ∃ l' : By, l'.length = N ∧ OwnB wr base (.slice (some ⟨ga, 0, none⟩) N cv) l'
  fr : Frq (· = ga) w8 wr
theorem LpA.cell {ga base N cv k : Nat} {w8 wr : World} (h : LpA ga base N cv w8 wr) (hk : k < N) : (∃ u, wr.cell? ⟨ga, k, none⟩ = some u) ∧ wr.frozen? ⟨ga, k, none⟩ = false := by
  obtain ⟨l', hl, ho⟩ := h.row
  subst hl
  obtain ⟨h1, h2⟩ := own_cell ho hk
  exact ⟨⟨_, h1⟩, h2⟩
theorem LpA.put {ga base N cv k : Nat} {w8 wr : World} (h : LpA ga base N cv w8 wr) (hk : k < N) : LpA ga base N cv w8 (wr.setCell ⟨ga, k, none⟩ (.int .u8 9)) := by
  obtain ⟨l', hl, ho⟩ := h.row
  exact ⟨⟨l'.set k 9, by rw [List.length_set, hl], own_put ho hl.symm hk 9 rfl⟩, h.fr.setCell (.inl rfl) _⟩
/-- while the told legs are written over -/
structure LpB (lp : Option Addr) (n lo : Nat) (w9 wr : World) : Prop where
  fr : Frq (fun k => ∃ o s, lp = some ⟨k, o, s⟩) w9 wr
  leg : ∀ k, k < n → ∃ gl arr, ∃ c : Int, lp = some ⟨gl, 0, none⟩ ∧ lo ≤ gl ∧ wr.heap[gl]? = some (.cells arr 36 (0, 0)) ∧ arr[k * 3]? = some (.int .u8 c)
theorem LpB.put {lp : Option Addr} {n lo gl k : Nat} {w9 wr : World} (h : LpB lp n lo w9 wr) (hlp : lp = some ⟨gl, 0, none⟩) (x : Int) : LpB lp n lo w9 (wr.setCell ⟨gl, k * 3, none⟩ (.int .u8 x)) := by
  refine ⟨h.fr.setCell (.inl ⟨0, none, hlp⟩) _, fun j hj => ?_⟩
  obtain ⟨g', arr, c, e, h1, h2, h3⟩ := h.leg j hj
  rw [hlp] at e
  obtain rfl : gl = g' := by injection e with e; injection e
  by_cases hjk : j * 3 = k * 3
  · refine ⟨gl, arr.setIfInBounds (k * 3) (.int .u8 x), x, hlp, h1, set_heap h2 _ _, ?_⟩
    have : j * 3 < arr.size := (Array.getElem?_eq_some_iff.1 h3).1
    rw [hjk] at *
    simp [this]
  · refine ⟨gl, arr.setIfInBounds (k * 3) (.int .u8 x), c, hlp, h1, set_heap h2 _ _, ?_⟩
    rw [Array.getElem?_setIfInBounds_ne (fun e => hjk e.symm)]
    exact h3
theorem lpb_new {lo n : Nat} {w : World} {p : Option Addr} {cap : Nat} {L : List Lg} (h : OwnL 36 3 lo w (.slice p n cap) n (flt lgC L)) (hn : n = L.length) : LpB p n lo w w := by
  refine ⟨Frq.refl _ _, fun k hk => ?_⟩
  rcases h with ⟨rfl, _⟩ | ⟨g, cap', arr, e, h2, h3, h4, h5, _⟩
  · omega
  · simp only [Value.slice.injEq, true_and] at e
    obtain ⟨rfl, rfl⟩ := e
    subst hn
    refine ⟨g, arr, ((L[k]).c : Int), rfl, h2, h4, ?_⟩
    have hsp : flt lgC L = flt lgC (L.take k) ++ (lgC L[k] ++ flt lgC (L.drop (k + 1))) := by
      rw [← flt_one lgC L[k], ← flt_append, ← flt_append]
      congr 1
      rw [← List.append_assoc, ← List.take_succ_eq_append_getElem hk, List.take_append_drop]
    have hl : (flt lgC (L.take k)).length = k * 3 := by rw [flt_len ec_leg.len, List.length_take, Nat.min_eq_left (by omega)]
    have := h5 (k * 3) (.int .u8 ((L[k]).c : Int)) (by rw [hsp, List.getElem?_append_right (by omega), hl, Nat.sub_self]; rfl)
    rwa [Nat.zero_add] at this
/-- the told legs, to be written over -/
theorem lgs_of {r : Rc} {lo : Nat} {x6 : World} {lv tv : Value} (h : (r.kind = 1 ∧ OwnL 36 3 lo x6 lv r.cmd.legs.length (flt lgC r.cmd.legs) ∧ OwnL 58 2 lo x6 tv r.cmd.taxes.length (flt txC r.cmd.taxes)) ∨ (r.kind ≠ 1 ∧ lv = nilV ∧ tv = nilV)) (hg : Got r lo x6 lv tv) :
    ∃ q cap, lv = .slice q r.cmd.legs.length cap ∧ (∀ k o s, q = some ⟨k, o, s⟩ → lo ≤ k ∧ k < x6.heap.size) ∧ ∀ w', (∀ g, lo ≤ g → g < x6.heap.size → w'.heap[g]? = x6.heap[g]?) → LpB q r.cmd.legs.length lo w' w' := by
  rcases h with ⟨_, h1, _⟩ | ⟨_, rfl, _⟩
  · obtain ⟨q, cap, e, _⟩ := h1.row2
    subst e
    refine ⟨q, cap, rfl, fun k o s e => ?_, fun w' hw => lpb_new (h1.mv hw) rfl⟩
    rcases h1 with ⟨_, h2⟩ | ⟨g, cap', arr, h2, h3, h4, h5, _⟩
    · simp only [Value.slice.injEq] at h2
      rw [h2.1] at e
      cases e
    · simp only [Value.slice.injEq] at h2
      rw [h2.1] at e
      injection e with e
      injection e with e1
      subst e1
      exact ⟨h3, lt_of_heap h5⟩
  · obtain ⟨p1, c1, _, _, e, _⟩ := hg
    simp only [Value.slice.injEq] at e
    rw [← e.2.1]
    exact ⟨none, 0, rfl, (fun k o s e => by cases e), fun w' _ => ⟨Frq.refl _ _, fun k hk => absurd hk (Nat.not_lt_zero _)⟩⟩
theorem LpB.pt {q : Option Addr} {n lo k : Nat} {w9 wr : World} (h : LpB q n lo w9 wr) (hk : k < n) : ∃ gl, ∃ c : Int, q = some ⟨gl, 0, none⟩ ∧ wr.cell? ⟨gl, k * 3, none⟩ = some (.int .u8 c) ∧ wr.frozen? ⟨gl, k * 3, none⟩ = false := by
  obtain ⟨gl, arr, c, e, _, h1, h2⟩ := h.leg k hk
  exact ⟨gl, c, e, by rw [cell_of_arr h1]; exact h2, froz_of_arr h1 _⟩
set_option maxRecDepth 100000 in
set_option maxHeartbeats 6400000 in
theorem cdown_any (r : Rc) (lp tp : Option Addr) (lc tc : Nat) (w : World) (hr : ApR r lp tp lc tc w) :
    Calls Try.prog 7 #[.agg (recC r (.slice lp r.cmd.legs.length lc) (.slice tp r.cmd.taxes.length tc)).toArray] w fun e w' => e = .returned (.bool true) ∧ Below w.heap.size w w' := by
  obtain ⟨C, hC⟩ : ∃ C, (recC r (.slice lp r.cmd.legs.length lc) (.slice tp r.cmd.taxes.length tc)).toArray = C := ⟨_, rfl⟩
  obtain ⟨w1, hw1⟩ : ∃ w1, w.alloc (.cells C 44) = w1 := ⟨_, rfl⟩
  have hA1 : Arg w C w1 := by rw [← hw1]; exact arg_new w C
  have hsz : (Try.prog.info? 44).map (·.size) = some C.size := by rw [← hC]; exact sizeRec hr.m
  have HG := Lib.hid (by
    have := great_any r lp tp lc tc w1 (hr.on hA1.bel).t
    rw [hC] at this
    exact this)
  have HP := Lib.hid (fun (w' : World) (hb' : Below w.heap.size w w') (hg : greatL r = false) => by
    have := put_any (hr.ok hg) lp tp lc tc w' (hr.on hb').l (hr.on hb').t
    rw [hC] at this
    exact this)
  have HSAME := Lib.hid (fun (w' : World) (lv tv : Value) (hb' : Below w.heap.size w w') (hg : greatL r = false) (lo : Nat) (hgt : Got r lo w' lv tv) => show Calls Try.prog 14 #[.agg (recC r lv tv).toArray, .agg C] w' (fun e w'' => e = .returned (.bool true) ∧ Below w'.heap.size w' w'') from by
    obtain ⟨p1, c1, p2, c2, rfl, rfl, r1, r2⟩ := hgt
    have := same_any (hr.ok hg).inR (hr.ok hg).inR p1 p2 lp tp c1 c2 lc tc w' (r1.kept (fun g h => ⟨h.2, rfl⟩)) (r2.kept (fun g h => ⟨h.2, rfl⟩)) (hr.on hb').l (hr.on hb').t
    rw [hC] at this
    refine this.mono ?_
    rintro e w'' ⟨x, rfl, hx, hb''⟩
    exact ⟨by rw [hx.2 rfl], hb''⟩)
  have HR := Lib.hid hr
  have HA1 := Lib.hid hA1
  have HSZ := Lib.hid hsz
  rw [hC]
  clear hA1 hC hsz hr
  go_enter Try.func7, Try.ntmps7
  go_wp2_with (refine wpList_load_row rfl 44 _ rfl w.heap.size rfl 44 C (0, 0) _ HA1.out.cells Try.underlying44 rfl HSZ.out ?_)
  refine (HG.out).mono ?_
  rintro e w2 ⟨rfl, hb2⟩
  have HA2 := Lib.hid (HA1.out.on hb2)
  clear hb2 HG hw1 HA1
  cases hg : greatL r
  case true =>
    go_wp2
    go_ret
    exact ⟨rfl, HA2.out.bel⟩
  have HP2 := Lib.hid (HP.out w2 HA2.out.bel hg)
  go_wp2_with (refine wpList_load_row rfl 44 _ rfl w.heap.size rfl 44 C (0, 0) _ HA2.out.cells Try.underlying44 rfl HSZ.out ?_)
  refine (HP2.out).mono ?_
  rintro e w3 ⟨v, rfl, ho3, hb3⟩
  have HA3 := Lib.hid (HA2.out.on hb3)
  obtain ⟨pv, cv, rfl⟩ := own_slice ho3
  have HO3 := Lib.hid ho3
  have HP3 := Lib.hid (HP.out w3 HA3.out.bel hg)
  have HW2 := Lib.hid (show w.heap.size < w2.heap.size from lt_of_heap HA2.out.cells)
  have hs23 := hb3.size
  clear ho3 hb3 HP2 HA2
  go_wp2_with (refine wpList_load_row rfl 44 _ rfl w.heap.size rfl 44 C (0, 0) _ HA3.out.cells Try.underlying44 rfl HSZ.out ?_)
  refine (HP3.out).mono ?_
  rintro e w4 ⟨u, rfl, hob, hb4⟩
  have HA4 := Lib.hid (HA3.out.on hb4)
  obtain ⟨pu, cu, rfl⟩ := own_slice hob
  have HOA := Lib.hid (own_keep HO3.out (fun g cs _ hg => (hb4.block g (lt_of_heap hg)).trans hg))
  have HOB := Lib.hid hob
  have HW3 := Lib.hid (show w2.heap.size ≤ w3.heap.size ∧ w3.heap.size ≤ w4.heap.size ∧ ∀ k, (Value.slice pv (putL r).2.length cv).ownBlock = some k → k < w3.heap.size from ⟨hs23, hb4.size, fun k hk => (own_lt HO3.out hk).2⟩)
  by_cases h0 : (putL r).1 = 0
  case neg =>
    have h1 : ¬ ((putL r).1 : Int) = 0 := by omega
    have HU := Lib.hid (puts_any w4)
    rw [put_not h0]
    clear h0 hob hb4 HP3 HA3 HO3
    generalize (putL r).1 = er at *
    go_wp2_with fail
    refine (HU.out).mono ?_
    rintro e w5 ⟨rfl, hb5⟩
    have HX := Lib.hid (HA4.out.on hb5).bel
    clear hb5
    go_wp2
    go_ret
    exact ⟨rfl, HX.out⟩
  have HPR := Lib.hid (put_enc (HR.out.ok hg) h0)
  have HGP := Lib.hid (get_put (HR.out.ok hg) h0)
  have HLE := Lib.hid (enc_le (HR.out.ok hg) HR.out.m h0)
  have HGA := Lib.hid (get_any (putL r).2 pv cv w4 (by rw [HPR.out]; have := HLE.out.2; omega) (row_own HOA.out (fun g hg => (own_lt HOA.out hg).2)))
  have HGB := Lib.hid (fun (wz : World) (h : OwnB wz w3.heap.size (.slice pu (putL r).2.length cu) (putL r).2) => get_any (putL r).2 pu cu wz (by rw [HPR.out]; have := HLE.out.2; omega) (row_own h (fun g hg => (own_lt h hg).2)))
  rw [h0]
  clear h0 hob hb4 HP3 HA3 HO3
  go_wp2_with fail
  refine (HGA.out).mono ?_
  intro e x6 hGet
  unfold GetP at hGet
  rw [HPR.out, HGP.out] at hGet
  obtain ⟨hb6, lv, tv, rfl, hrow⟩ := hGet
  have hgot := got_rows HGP.out hrow
  have hone : lv.oneCell' = true ∧ tv.oneCell' = true := by obtain ⟨a, b, c, d, rfl, rfl, _⟩ := hgot; exact ⟨rfl, rfl⟩
  have hRs1 : (Try.prog.info? 44).map (·.size) = some (recC r lv tv).toArray.size := sizeRec HR.out.m
  have hZR1 : (recC zRc nilV nilV).toArray.size = (recC r lv tv).toArray.size := Option.some.inj ((sizeRec (r := zRc) (lv := nilV) (tv := nilV) rfl).symm.trans hRs1)
  have hRo1 : (recC r lv tv).toArray.all (·.oneCell') = true := recC_one r hone.1 hone.2
  obtain ⟨R1, hR1⟩ : ∃ R, (recC r lv tv).toArray = R := ⟨_, rfl⟩
  obtain ⟨x7, hx7⟩ : ∃ x, x6.alloc (.cells (recC zRc nilV nilV).toArray 44) = x := ⟨_, rfl⟩
  obtain ⟨x8, hx8⟩ : ∃ x, x7.setRow x6.heap.size R1 = x := ⟨_, rfl⟩
  have hLoc1 : Loc x6 R1 x8 := by rw [← hx8, ← hx7]; exact loc_new x6 _ _
  have hg4 : x7.heap[x6.heap.size]? = some (.cells (recC zRc nilV nilV).toArray 44 (0, 0)) := by rw [← hx7]; exact heap_last _ _ _ rfl
  have HST := Lib.hid (And.intro hg4 (And.intro hRs1 (And.intro hZR1 hRo1)))
  rw [zcells] at hx7
  clear hg4 hRs1 hZR1 hRo1
  have hb48 : Below w4.heap.size w4 x8 := hb6.trans (hLoc1.bel.mono hb6.size)
  have HGOT := Lib.hid (hgot.kept (w' := x8) (fun g _ hg => hLoc1.bel.block g hg) hLoc1.bel.size)
  obtain ⟨q, qc, hlv, hq, hlg⟩ := lgs_of hrow hgot
  have HQ := Lib.hid hq
  have HLG := Lib.hid hlg
  have HX68 := Lib.hid (show ∀ g, g < x6.heap.size → x8.heap[g]? = x6.heap[g]? from fun g hg => hLoc1.bel.block g hg)
  have HX6 := Lib.hid (show (∀ k, (Value.slice pu (putL r).2.length cu).ownBlock = some k → w3.heap.size ≤ k ∧ k < w4.heap.size) from fun k e => own_lt HOB.out e)
  have HLOC := Lib.hid (And.intro hLoc1.cells (show w4.heap.size ≤ x6.heap.size ∧ x6.heap.size < x8.heap.size from ⟨hb6.size, lt_of_heap hLoc1.cells⟩))
  have HA8 := Lib.hid (HA4.out.on hb48)
  have HRS := Lib.hid hR1
  have HSZR := Lib.hid (show (Try.prog.info? 44).map (·.size) = some R1.size from by rw [← hR1]; exact sizeRec HR.out.m)
  have HOA8 := Lib.hid (own_keep HOA.out (fun g cs _ hg => (hb48.block g (lt_of_heap hg)).trans hg))
  have HOB8 := Lib.hid (own_keep HOB.out (fun g cs _ hg => (hb48.block g (lt_of_heap hg)).trans hg))
  have HLN := Lib.hid (show 10 ≤ (putL r).2.length ∧ (putL r).2.length ≤ 1000 from by rw [HPR.out]; exact HLE.out)
  have HR6 := Lib.hid (show R1[6]? = some (.slice q r.cmd.legs.length qc) from by rw [← hR1, ← hlv]; simp [recC])
  rw [hR1] at HST
  rw [hR1]
  clear hlv hq hlg hLoc1 hR1 hb6 hrow hgot hone hb48 HA4 HOA HOB HGA HLE
  obtain ⟨hl1, hl2⟩ := HLN.out
  obtain ⟨ga, rfl, hga, _⟩ := own_ptr HOA8.out (by omega)
  have HGA3 := Lib.hid (show ga < w3.heap.size from HW3.out.2.2 ga rfl)
  have HGAW := Lib.hid (show w.heap.size < ga from by have := HW2.out; omega)
  have hPP : (putL r).2 = (putL r).2 := rfl
  obtain ⟨l, hl⟩ : ∃ l, (putL r).2 = l := ⟨_, rfl⟩
  have HPL := Lib.hid (show l = (putL r).2 from hl.symm)
  rw [hl] at HOA8 HOB8 hl1 hl2 HGB
  rw [hl]
  clear hl hPP HLN hga
  have l1 : (10 : Int) ≤ (l.length : Int) := by omega
  have l2 : (l.length : Int) ≤ 1000 := by omega
  go_wp2_with (refine wpList_store_row rfl 44 _ _ rfl x6.heap.size R1 rfl rfl 44 _ HST.out.1 HST.out.2.1 HST.out.2.2.1 HST.out.2.2.2 ?_)
  clear HST hx7 hx8
  go_loopw [9] (fun i wr => ∃ k : Nat, k ≤ l.length ∧ i = .int .i64 (k : Int) ∧ Hid (LpA ga w2.heap.size l.length cv x8 wr)) (fun i _ => l.length - (vI i).toNat)
  case atStart => exact ⟨0, Nat.zero_le _, rfl, Lib.hid ⟨⟨l, rfl, HOA8.out⟩, Frq.refl _ _⟩⟩
  case round =>
    obtain ⟨k, hk, rfl, HL⟩ := hrel
    have hk0 : (0 : Int) ≤ (k : Int) := Int.natCast_nonneg _
    by_cases hlt1 : (k : Int) < (l.length : Int)
    · obtain ⟨⟨u0, hu0⟩, hf0⟩ := HL.out.cell (k := k) (by omega)
      go_wp2
      go_roundw
      case rel => exact ⟨k + 1, by omega, rfl, Lib.hid (HL.out.put (by omega))⟩
      case measure => simp [vI]; omega
    · obtain rfl : k = l.length := by omega
      have HF := Lib.hid HL.out.fr
      have HBR := Lib.hid (show Below w.heap.size w wr from HA8.out.bel.trans (HF.out.below HA8.out.bel.size (fun k h => by subst h; have := HGAW.out; omega)))
      have HAR := Lib.hid (show Arg w C wr from ⟨(HF.out.block _ (lt_of_heap HA8.out.cells) (fun h => by have := HGAW.out; omega)).trans HA8.out.cells, HBR.out⟩)
      have HPW := Lib.hid (HP.out wr HBR.out hg)
      clear HL
      go_wp2_with (refine wpList_load_row rfl 44 _ rfl w.heap.size rfl 44 C (0, 0) _ HAR.out.cells Try.underlying44 rfl HSZ.out ?_)
      refine (HPW.out).mono ?_
      rintro e w10 ⟨v10, rfl, ho10, hb10⟩
      obtain ⟨p10, c10, rfl⟩ := own_slice ho10
      rw [← HPL.out] at ho10
      have HA10 := Lib.hid (HAR.out.on hb10)
      have HKP := Lib.hid (show ∀ g, g < x8.heap.size → g ≠ ga → w10.heap[g]? = x8.heap[g]? from fun g hg hne => (hb10.block g (Nat.lt_of_lt_of_le hg HF.out.size)).trans (HF.out.block g hg hne))
      have HOB10 := Lib.hid (own_keep HOB8.out (fun g cs e hg => (HKP.out g (lt_of_heap hg) (fun h => by have := (own_lt HOB8.out e).1; have := HGA3.out; omega)).trans hg))
      have HW34 := Lib.hid (show ga < w4.heap.size ∧ w4.heap.size ≤ x6.heap.size ∧ x6.heap.size < x8.heap.size ∧ x8.heap.size ≤ w10.heap.size from ⟨by have := HGA3.out; have := HW3.out.2.1; omega, HLOC.out.2.1, HLOC.out.2.2, Nat.le_trans HF.out.size hb10.size⟩)
      have HL10 := Lib.hid (show w10.heap[x6.heap.size]? = some (.cells R1 44 (0, 0)) from (HKP.out _ HW34.out.2.2.1 (fun h => by have := HW34.out.1; have := HW34.out.2.1; omega)).trans HLOC.out.1)
      have HGOT10 := Lib.hid (HGOT.out.kept (w' := w10) (fun g h1 hg => HKP.out g hg (fun h => by have := HW34.out.1; omega)) HW34.out.2.2.2)
      have HSM := Lib.hid (by
        have := HSAME.out w10 lv tv HA10.out.bel hg _ HGOT10.out
        rw [HRS.out] at this
        exact this)
      have hcv1 := bys_str (row_own (F := fun _ => True) HOB10.out (fun _ _ => trivial))
      have hcv2 := bys_str (row_own (F := fun _ => True) ho10 (fun _ _ => trivial))
      rw [← HPL.out]
      clear ho10 hb10 HPW HF HBR HAR
      go_wp2_with (first | (refine wpList_load_rowG rfl 44 _ rfl x6.heap.size rfl 44 R1 (0, 0) _ HL10.out Try.underlying44 rfl HSZR.out ?_) | (refine wpList_load_rowG rfl 44 _ rfl w.heap.size rfl 44 C (0, 0) _ HA10.out.cells Try.underlying44 rfl HSZ.out ?_))
      refine (HSM.out).mono ?_
      rintro e w11 ⟨rfl, hb11⟩
      have HA11 := Lib.hid (HA10.out.on hb11)
      have HOB11 := Lib.hid (own_keep HOB10.out (fun g cs _ hg => (hb11.block g (lt_of_heap hg)).trans hg))
      have HL11 := Lib.hid ((hb11.block _ (lt_of_heap HL10.out)).trans HL10.out)
      have HLB := Lib.hid (HLG.out w11 (fun g h1 h2 => (hb11.block g (by have := HW34.out; omega)).trans ((HKP.out g (by have := HW34.out; omega) (fun h => by have := HW34.out.1; omega)).trans (HX68.out g h2))))
      have n0 : (0 : Int) ≤ (r.cmd.legs.length : Int) := Int.natCast_nonneg _
      have n1 : (r.cmd.legs.length : Int) ≤ 1000000 := by have := (HR.out.ok hg).cmd.legs.1; omega
      obtain ⟨n, hn⟩ : ∃ n, r.cmd.legs.length = n := ⟨_, rfl⟩
      rw [hn] at n0 n1 HLB HR6
      clear hn hb11 hcv1 hcv2 HSM HL10 HOB10 HA10 HKP HX68 HOB8 HLOC HA8 HGOT HGOT10 HLG
      have HC6 := Lib.hid (fun (wz : World) (hz : wz.heap[x6.heap.size]? = some (.cells R1 44 (0, 0))) => show wz.cell? ⟨x6.heap.size, 6, none⟩ = some (.slice q n qc) from (cell_of_arr hz 6).trans HR6.out)
      have HL2 := Lib.hid (fun (wz : World) (hz : LpB q n w4.heap.size w11 wz) => show wz.heap[x6.heap.size]? = some (.cells R1 44 (0, 0)) from (hz.fr.block _ (lt_of_heap HL11.out) (fun h => by obtain ⟨o, s, h⟩ := h; have := (HQ.out _ _ _ h).2; omega)).trans HL11.out)
      go_wp2_with fail
      go_loopw [12] (fun i wz => ∃ k : Nat, k ≤ n ∧ i = .int .i64 (k : Int) ∧ Hid (LpB q n w4.heap.size w11 wz)) (fun i _ => n - (vI i).toNat)
      case atStart => exact ⟨0, Nat.zero_le _, rfl, HLB⟩
      case round =>
        obtain ⟨k, hk, rfl, HY⟩ := hrel
        have hk0 : (0 : Int) ≤ (k : Int) := Int.natCast_nonneg _
        have hc6 := HC6.out _ (HL2.out _ HY.out)
        by_cases hlt2 : (k : Int) < (n : Int)
        · obtain ⟨gl, c, rfl, hcl, hfl⟩ := HY.out.pt (k := k) (by omega)
          go_wp2
          go_roundw
          case rel => exact ⟨k + 1, by omega, rfl, Lib.hid (HY.out.put rfl _)⟩
          case measure => simp [vI]; omega
        · have hkn : k = n := by omega
          have HBY := Lib.hid (show Below w.heap.size w wr from HA11.out.bel.trans (HY.out.fr.below HA11.out.bel.size (fun k h => by obtain ⟨o, s, h⟩ := h; have := (HQ.out _ _ _ h).1; have := HW34.out.1; have := HGAW.out; omega)))
          have HAY := Lib.hid (show Arg w C wr from ⟨(HY.out.fr.block _ (lt_of_heap HA11.out.cells) (fun h => by obtain ⟨o, s, h⟩ := h; have := (HQ.out _ _ _ h).1; have := HW34.out.1; have := HGAW.out; omega)).trans HA11.out.cells, HBY.out⟩)
          have HOY := Lib.hid (own_keep HOB11.out (fun g cs e hg => (HY.out.fr.block _ (lt_of_heap hg) (fun h => by obtain ⟨o, s, h⟩ := h; have := (HQ.out _ _ _ h).1; have := (HX6.out g (by rw [← HPL.out]; exact e)).2; omega)).trans hg))
          have HGY := Lib.hid (HGB.out wr HOY.out)
          subst hkn
          clear HY HA11 HOB11 HL11 HLB HL2 HC6
          go_wp2_with fail
          refine (HGY.out).mono ?_
          intro e z6 hGet
          unfold GetP at hGet
          rw [HPL.out, HPR.out, HGP.out] at hGet
          obtain ⟨hb6, lw, tw, rfl, hrow⟩ := hGet
          have hgot := got_rows HGP.out hrow
          have hone : lw.oneCell' = true ∧ tw.oneCell' = true := by obtain ⟨a, b, c, d, rfl, rfl, _⟩ := hgot; exact ⟨rfl, rfl⟩
          have hRs2 : (Try.prog.info? 44).map (·.size) = some (recC r lw tw).toArray.size := sizeRec HR.out.m
          have hZR2 : (recC zRc nilV nilV).toArray.size = (recC r lw tw).toArray.size := Option.some.inj ((sizeRec (r := zRc) (lv := nilV) (tv := nilV) rfl).symm.trans hRs2)
          have hRo2 : (recC r lw tw).toArray.all (·.oneCell') = true := recC_one r hone.1 hone.2
          obtain ⟨R2, hR2⟩ : ∃ R, (recC r lw tw).toArray = R := ⟨_, rfl⟩
          obtain ⟨z7, hz7⟩ : ∃ x, z6.alloc (.cells (recC zRc nilV nilV).toArray 44) = x := ⟨_, rfl⟩
          obtain ⟨z8, hz8⟩ : ∃ x, z7.setRow z6.heap.size R2 = x := ⟨_, rfl⟩
          have hLoc2 : Loc z6 R2 z8 := by rw [← hz8, ← hz7]; exact loc_new z6 _ _
          have hg4 : z7.heap[z6.heap.size]? = some (.cells (recC zRc nilV nilV).toArray 44 (0, 0)) := by rw [← hz7]; exact heap_last _ _ _ rfl
          have HST := Lib.hid (And.intro hg4 (And.intro hRs2 (And.intro hZR2 hRo2)))
          rw [zcells] at hz7
          clear hg4 hRs2 hZR2 hRo2
          have hbz8 : Below wr.heap.size wr z8 := hb6.trans (hLoc2.bel.mono hb6.size)
          have HAZ := Lib.hid (HAY.out.on hbz8)
          have HLZ := Lib.hid hLoc2
          have HSM2 := Lib.hid (by
            have := HSAME.out z8 lw tw HAZ.out.bel hg _ (hgot.kept (w' := z8) (fun g _ hg => hLoc2.bel.block g hg) hLoc2.bel.size)
            rw [hR2] at this
            exact this)
          have HSZR2 := Lib.hid (show (Try.prog.info? 44).map (·.size) = some R2.size from by rw [← hR2]; exact sizeRec HR.out.m)
          rw [hR2] at HST
          rw [hR2]
          clear hLoc2 hR2 hb6 hrow hgot hone hbz8 HAY HBY HOY HGY hc6
          go_wp2_with (first | (refine wpList_store_row rfl 44 _ _ rfl z6.heap.size R2 rfl rfl 44 _ HST.out.1 HST.out.2.1 HST.out.2.2.1 HST.out.2.2.2 ?_) | (refine wpList_load_row rfl 44 _ rfl z6.heap.size rfl 44 R2 (0, 0) _ HLZ.out.cells Try.underlying44 rfl HSZR2.out ?_) | (refine wpList_load_row rfl 44 _ rfl w.heap.size rfl 44 C (0, 0) _ HAZ.out.cells Try.underlying44 rfl HSZ.out ?_))
          refine (HSM2.out).mono ?_
          rintro e z9 ⟨rfl, hb9⟩
          have HB9 := Lib.hid (HAZ.out.on hb9).bel
          have HU := Lib.hid (puts_any z9)
          clear hb9 HSM2 HST HLZ HAZ HSZR2 hz7 hz8
          go_wp2_with fail
          refine (HU.out).mono ?_
          rintro e za ⟨rfl, hba⟩
          have HBA := Lib.hid (HB9.out.trans (hba.mono HB9.out.size))
          clear hba HU HB9
          go_wp2
          go_ret
          exact ⟨rfl, HBA.out⟩
end Go.Proofs.Ytjdfdihopgceoaa.Cd
