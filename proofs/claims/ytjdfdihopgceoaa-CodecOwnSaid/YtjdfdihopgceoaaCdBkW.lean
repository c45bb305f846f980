/- The walk of CodecBack. -/
import Derived.Test.YtjdfdihopgceoaaCdBkP
import Derived.Test.YtjdfdihopgceoaaCdSzW
namespace Go.Proofs.Ytjdfdihopgceoaa.Cd
open Go.RowKit Go.Shelf Go.Dk Go.Jn Go.Cod

/-- a guarded load of a whole struct, its guard on -/
theorem wpList_load_rowG {P : Program} {ops : Array Oper} {rest : List Oper} {o : Oper} {a : Act} {w : World} {Q : Exit → Act → World → Prop} (hgd : Region.wanted o (yielded ops a.tmps) = true) (ty : TypeId) (x : Operand) (ho : o.op = .load ty x)
    (g : Nat) (hx : a.eval x = .pointer (some ⟨g, 0, none⟩)) (t : TypeId) (cs : Array Value) (fr : Nat × Nat) (d : TypeDesc) (hg : w.heap[g]? = some (.cells cs t fr))
    (hu : P.underlying ty = some d) (hd : (match d with | .struct _ | .array _ _ => true | _ => false) = true) (hi : (P.info? ty).map (·.size) = some cs.size)
    (h : wpList P ops Q rest (a.put o.dst (.agg cs)) w) : wpList P ops Q (o :: rest) a w :=
  wpList_step fun _ hK => by
    rw [if_pos hgd]
    exact wp_load_row ty x ho g hx t cs fr d hg hu hd hi (hK _ _ h)
theorem OwnL.row2 {t : TypeId} {k lo n : Nat} {w : World} {v : Value} {xs : List Value} (h : OwnL t k lo w v n xs) : ∃ p cap, v = .slice p n cap ∧ RowF w (fun g => lo ≤ g ∧ g < w.heap.size) v n xs := by
  rcases h with ⟨rfl, rfl⟩ | ⟨g, cap, arr, rfl, h2, h3, h4, h5, _⟩
  · exact ⟨none, 0, rfl, none, 0, rfl, Nat.le_refl _, fun h => absurd h (by omega)⟩
  · exact ⟨_, cap, rfl, _, cap, rfl, h3, fun _ => ⟨g, 0, rfl, ⟨h2, lt_of_heap h4⟩, fun j u hu => by rw [Nat.zero_add, cell_of_arr h4]; have := h5 j u hu; rwa [Nat.zero_add] at this⟩⟩
/-- the rows of what was got -/
def Got (r : Rc) (lo : Nat) (w : World) (lv tv : Value) : Prop :=
  ∃ lp lc tp tc, lv = .slice lp r.cmd.legs.length lc ∧ tv = .slice tp r.cmd.taxes.length tc ∧
    RowF w (fun g => lo ≤ g ∧ g < w.heap.size) lv r.cmd.legs.length (flt lgC r.cmd.legs) ∧ RowF w (fun g => lo ≤ g ∧ g < w.heap.size) tv r.cmd.taxes.length (flt txC r.cmd.taxes)
theorem got_rows {b : By} {r : Rc} {lo : Nat} {w' : World} {lv tv : Value} (hg : getL b = some r)
    (h : (r.kind = 1 ∧ OwnL 36 3 lo w' lv r.cmd.legs.length (flt lgC r.cmd.legs) ∧ OwnL 58 2 lo w' tv r.cmd.taxes.length (flt txC r.cmd.taxes)) ∨ (r.kind ≠ 1 ∧ lv = nilV ∧ tv = nilV)) : Got r lo w' lv tv := by
  rcases h with ⟨_, h1, h2⟩ | ⟨hk, rfl, rfl⟩
  · obtain ⟨lp, lc, e1, r1⟩ := h1.row2
    obtain ⟨tp, tc, e2, r2⟩ := h2.row2
    exact ⟨lp, lc, tp, tc, e1, e2, r1, r2⟩
  · obtain ⟨hok, h0, _⟩ := get_inv hg
    obtain ⟨hk3, hb⟩ := (may_iff r).1 ((put_zero hok).1 h0).1
    have hz : r.cmd = zCmd := by
      rcases hk3 with h | h | h
      · exact absurd h hk
      · exact hb.2.1 h
      · exact (hb.2.2 h).1
    refine ⟨none, 0, none, 0, ?_, ?_, ?_, ?_⟩
    · rw [hz]; rfl
    · rw [hz]; rfl
    · rw [hz]; exact rowf_nil _ _
    · rw [hz]; exact rowf_nil _ _
theorem Got.kept {r : Rc} {lo : Nat} {w w' : World} {lv tv : Value} (h : Got r lo w lv tv) (hb : ∀ g, lo ≤ g → g < w.heap.size → w'.heap[g]? = w.heap[g]?) (hs : w.heap.size ≤ w'.heap.size) : Got r lo w' lv tv := by
  obtain ⟨lp, lc, tp, tc, e1, e2, r1, r2⟩ := h
  exact ⟨lp, lc, tp, tc, e1, e2, r1.kept (fun g hg => ⟨⟨hg.1, Nat.lt_of_lt_of_le hg.2 hs⟩, hb g hg.1 hg.2⟩), r2.kept (fun g hg => ⟨⟨hg.1, Nat.lt_of_lt_of_le hg.2 hs⟩, hb g hg.1 hg.2⟩)⟩
theorem inR_z : InR zRc := ⟨by decide, by decide, by decide, vld_zmsg, fun x hx => by simp [zRc, zCmd] at hx, by decide, by decide⟩
/-- a local record: made, and written whole -/
structure Loc (w3 : World) (R : Array Value) (w5 : World) : Prop where
  cells : w5.heap[w3.heap.size]? = some (.cells R 44 (0, 0))
  bel : Below w3.heap.size w3 w5
theorem loc_new (w3 : World) (Z R : Array Value) : Loc w3 R ((w3.alloc (.cells Z 44)).setRow w3.heap.size R) := by
  refine ⟨setRow_heap _ _ _ _ _ _ (heap_last w3 (.cells Z 44 (0, 0)) _ rfl), ?_⟩
  exact below_setRow ((Below.refl _ _).alloc (Nat.le_refl _) _) (Nat.le_refl _) _
theorem Loc.on {w3 w5 w6 : World} {R : Array Value} (h : Loc w3 R w5) (hb : Below w5.heap.size w5 w6) : Loc w3 R w6 :=
  ⟨(hb.block _ (lt_of_heap h.cells)).trans h.cells, h.bel.trans (hb.mono h.bel.size)⟩

set_option maxRecDepth 100000 in
set_option maxHeartbeats 6400000 in
theorem cdback_any (r : Rc) (lp tp : Option Addr) (lc tc : Nat) (b : By) (bp : Option Addr) (bcp : Nat) (w : World) (hok : greatL r = false → OkRc true r)
    (hl : RowF w (· < w.heap.size) (.slice lp r.cmd.legs.length lc) r.cmd.legs.length (flt lgC r.cmd.legs)) (ht : RowF w (· < w.heap.size) (.slice tp r.cmd.taxes.length tc) r.cmd.taxes.length (flt txC r.cmd.taxes)) (hm : r.msg.length = 12)
    (hb : BysF w (· < w.heap.size) (.slice bp b.length bcp) b) :
    Calls Try.prog 5 #[.agg (recC r (.slice lp r.cmd.legs.length lc) (.slice tp r.cmd.taxes.length tc)).toArray, .slice bp b.length bcp] w fun e w' => e = .returned (.bool true) ∧ Below w.heap.size w w' := by
  obtain ⟨C, hC⟩ : ∃ C, (recC r (.slice lp r.cmd.legs.length lc) (.slice tp r.cmd.taxes.length tc)).toArray = C := ⟨_, rfl⟩
  obtain ⟨w1, hw1⟩ : ∃ w1, w.alloc (.cells C 44) = w1 := ⟨_, rfl⟩
  have hA1 : Arg w C w1 := by rw [← hw1]; exact arg_new w C
  have hsz : (Try.prog.info? 44).map (·.size) = some C.size := by rw [← hC]; exact sizeRec hm
  have hk : ∀ w', Below w.heap.size w w' → RowF w' (· < w'.heap.size) (.slice lp r.cmd.legs.length lc) r.cmd.legs.length (flt lgC r.cmd.legs) ∧ RowF w' (· < w'.heap.size) (.slice tp r.cmd.taxes.length tc) r.cmd.taxes.length (flt txC r.cmd.taxes) ∧ BysF w' (· < w'.heap.size) (.slice bp b.length bcp) b := fun w' hb' =>
    ⟨hl.kept (fun k h => ⟨Nat.lt_of_lt_of_le h hb'.size, hb'.block k h⟩), ht.kept (fun k h => ⟨Nat.lt_of_lt_of_le h hb'.size, hb'.block k h⟩), hb.kept (fun k h => ⟨Nat.lt_of_lt_of_le h hb'.size, hb'.block k h⟩)⟩
  have HG := Lib.hid (by
    have := great_any r lp tp lc tc w1 (hk w1 hA1.bel).2.1
    rw [hC] at this
    exact this)
  have HP := Lib.hid (fun (w' : World) (hb' : Below w.heap.size w w') (hg : greatL r = false) => by
    have := put_any (hok hg) lp tp lc tc w' (hk w' hb').1 (hk w' hb').2.1
    rw [hC] at this
    exact this)
  have HMAY := Lib.hid (fun (w' : World) (hg : greatL r = false) => by
    have := may_any (hok hg) lp tp lc tc w'
    rw [hC] at this
    exact this)
  have HLONG := Lib.hid (fun (w' : World) (hb' : Below w.heap.size w w') (hg : greatL r = false) => by
    have := long_any r lp tp lc tc w' (by have := (hok hg).cmd.name.1; omega) (hok hg).cmd.legs.1 (hok hg).cmd.taxes.1 (hk w' hb').2.1
    rw [hC] at this
    exact this)
  have HGB := Lib.hid (fun (w' : World) (hb' : Below w.heap.size w w') (h1 : b.length ≤ 1000) => get_any b bp bcp w' (by omega) (hk w' hb').2.2)
  have HCVB := Lib.hid (fun (w' : World) (hb' : Below w.heap.size w w') => bys_str (hk w' hb').2.2)
  have HSAME := Lib.hid (fun (w' : World) (lv tv : Value) (hb' : Below w.heap.size w w') (hg : greatL r = false) (lo : Nat) (hgt : Got r lo w' lv tv) => show Calls Try.prog 14 #[.agg (recC r lv tv).toArray, .agg C] w' (fun e w'' => e = .returned (.bool true) ∧ Below w'.heap.size w' w'') from by
    obtain ⟨p1, c1, p2, c2, rfl, rfl, r1, r2⟩ := hgt
    have := same_any (hok hg).inR (hok hg).inR p1 p2 lp tp c1 c2 lc tc w' (r1.kept (fun g h => ⟨h.2, rfl⟩)) (r2.kept (fun g h => ⟨h.2, rfl⟩)) (hk w' hb').1 (hk w' hb').2.1
    rw [hC] at this
    refine this.mono ?_
    rintro e w'' ⟨x, rfl, hx, hb''⟩
    exact ⟨by rw [hx.2 rfl], hb''⟩)
  have HPI := Lib.hid (fun hg : greatL r = false => And.intro (put_iff (hok hg)) (fun h0 : (putL r).1 = 0 => And.intro (put_enc (hok hg) h0) (And.intro (get_put (hok hg) h0) (show (encRc r).length ≤ 100000 from by
    have h1 := ((put_zero (hok hg)).1 h0)
    rw [enc_len ((may_iff r).1 h1.1).1 hm]
    have hs := sumC_le r.cmd.taxes
    unfold sizeL
    by_cases hk1 : r.kind = 1
    · have hf := h1.2 hk1
      rw [if_pos hk1]
      have := hs hf.2.2.2 r.cmd.taxes.length
      rw [List.take_length] at this
      have := hf.1; have := hf.2.1; have := hf.2.2.1
      omega
    · rw [if_neg hk1]; split <;> omega))))
  have HC := Lib.hid hC
  have HA1 := Lib.hid hA1
  have HSZ := Lib.hid hsz
  have HM := Lib.hid hm
  rw [hC]
  clear hl ht hk hA1 hok hC hsz hm hb
  have bl0 : (0 : Int) ≤ (b.length : Int) := Int.natCast_nonneg _
  go_enter Try.func5, Try.ntmps5
  go_wp2_with (refine wpList_load_row rfl 44 _ rfl w.heap.size rfl 44 C (0, 0) _ HA1.out.cells Try.underlying44 rfl HSZ.out ?_)
  refine (HG.out).mono ?_
  rintro e w2 ⟨rfl, hb2⟩
  have HA2 := Lib.hid (HA1.out.on hb2)
  clear hb2 HG hw1 HA1
  cases hg : greatL r
  · by_cases hbl : (1000 : Int) < (b.length : Int)
    · have hbl' : decide ((1000 : Int) < (b.length : Int)) = true := decide_eq_true hbl
      go_wp2
      go_ret
      exact ⟨rfl, HA2.out.bel⟩
    have hbl' : decide ((1000 : Int) < (b.length : Int)) = false := decide_eq_false hbl
    have HP2 := Lib.hid (HP.out w2 HA2.out.bel hg)
    have HPI2 := Lib.hid (HPI.out hg)
    clear HP HPI
    go_wp2_with (refine wpList_load_row rfl 44 _ rfl w.heap.size rfl 44 C (0, 0) _ HA2.out.cells Try.underlying44 rfl HSZ.out ?_)
    refine (HP2.out).mono ?_
    rintro e w3 ⟨v, rfl, ho3, hb3⟩
    have HA3 := Lib.hid (HA2.out.on hb3)
    obtain ⟨pv, cv, rfl⟩ := own_slice ho3
    have HO3 := Lib.hid ho3
    have HB3 := Lib.hid hb3
    have HMAY3 := Lib.hid (HMAY.out w3 hg)
    have HMAY3 := Lib.hid (HMAY.out w3 hg)
    have HMAY3 := Lib.hid (HMAY.out w3 hg)
    have HMAY3 := Lib.hid (HMAY.out w3 hg)
    have HMAY3 := Lib.hid (HMAY.out w3 hg)
    have HMAY3 := Lib.hid (HMAY.out w3 hg)
    clear ho3 hb3 HP2 HA2
    by_cases h0 : (putL r).1 = 0
    · obtain ⟨hm1, hl1⟩ := (HPI2.out.1).1 h0
      obtain ⟨he1, hg1, hle⟩ := HPI2.out.2 h0
      rw [hm1] at HMAY3
      rw [h0]
      have HE1 := Lib.hid he1
      have HGP := Lib.hid hg1
      have HLE := Lib.hid hle
      clear he1 hg1 hm1 HPI2 hle
      go_wp2_with (refine wpList_load_row rfl 44 _ rfl w.heap.size rfl 44 C (0, 0) _ HA3.out.cells Try.underlying44 rfl HSZ.out ?_)
      refine (HMAY3.out).mono ?_
      rintro e w4 ⟨rfl, hb4⟩
      have HA4 := Lib.hid (HA3.out.on hb4)
      have HO4 := Lib.hid (own_keep HO3.out (fun g cs _ hg => (hb4.block g (lt_of_heap hg)).trans hg))
      have HL4 := Lib.hid (HLONG.out w4 HA4.out.bel hg)
      rw [hl1] at HL4
      clear hb4 HA3 HO3 HB3 hl1 HMAY3
      go_wp2_with (refine wpList_load_rowG rfl 44 _ rfl w.heap.size rfl 44 C (0, 0) _ HA4.out.cells Try.underlying44 rfl HSZ.out ?_)
      refine (HL4.out).mono ?_
      rintro e w5 ⟨rfl, hb5⟩
      have HA5 := Lib.hid (HA4.out.on hb5)
      have HO5 := Lib.hid (own_keep HO4.out (fun g cs _ hg => (hb5.block g (lt_of_heap hg)).trans hg))
      have HG5 := Lib.hid (get_any (putL r).2 pv cv w5 (by rw [HE1.out]; exact HLE.out) (row_own HO5.out (fun g hg => (own_lt HO5.out hg).2)))
      clear hb5 HA4 HO4 HL4
      go_wp2_with fail
      refine (HG5.out).mono ?_
      rintro e w6 hGet
      unfold GetP at hGet
      rw [HE1.out, HGP.out] at hGet
      obtain ⟨hb6, lv, tv, rfl, hrow⟩ := hGet
      have hgot := got_rows HGP.out hrow
      have HA6 := Lib.hid (HA5.out.on hb6)
      have hone : lv.oneCell' = true ∧ tv.oneCell' = true := by obtain ⟨a, b, c, d, rfl, rfl, _⟩ := hgot; exact ⟨rfl, rfl⟩
      have HGOT := Lib.hid hgot
      have hRs1 : (Try.prog.info? 44).map (·.size) = some (recC r lv tv).toArray.size := sizeRec HM.out
      have hZR1 : (recC zRc nilV nilV).toArray.size = (recC r lv tv).toArray.size := Option.some.inj ((sizeRec (r := zRc) (lv := nilV) (tv := nilV) rfl).symm.trans hRs1)
      have hRo1 : (recC r lv tv).toArray.all (·.oneCell') = true := recC_one r hone.1 hone.2
      clear hb6 HG5 HO5 HA5 hrow hgot hone
      obtain ⟨R1, hR1⟩ : ∃ R, (recC r lv tv).toArray = R := ⟨_, rfl⟩
      obtain ⟨w7, hw7⟩ : ∃ x, w6.alloc (.cells (recC zRc nilV nilV).toArray 44) = x := ⟨_, rfl⟩
      obtain ⟨w8, hw8⟩ : ∃ x, w7.setRow w6.heap.size R1 = x := ⟨_, rfl⟩
      have hLoc1 : Loc w6 R1 w8 := by rw [← hw8, ← hw7]; exact loc_new w6 _ _
      have hg4 : w7.heap[w6.heap.size]? = some (.cells (recC zRc nilV nilV).toArray 44 (0, 0)) := by rw [← hw7]; exact heap_last _ _ _ rfl
      have HST := Lib.hid (And.intro hg4 (And.intro hRs1 (And.intro hZR1 hRo1)))
      rw [zcells] at hw7
      clear hg4 hRs1 hZR1 hRo1
      have HGOT7 := Lib.hid (HGOT.out.kept (w' := w8) (fun g _ hg => hLoc1.bel.block g hg) hLoc1.bel.size)
      have HLOC := Lib.hid hLoc1
      have HA8 := Lib.hid (HA6.out.on hLoc1.bel)
      have HRS := Lib.hid hR1
      have HSM := Lib.hid (by
        have := HSAME.out w8 lv tv HA8.out.bel hg _ HGOT7.out
        rw [hR1] at this
        exact this)
      have HSZR := Lib.hid (show (Try.prog.info? 44).map (·.size) = some R1.size from by rw [← hR1]; exact sizeRec HM.out)
      rw [hR1] at HST
      rw [hR1]
      clear hLoc1 hR1 HGOT HGOT7 HA6
      go_wp2_with (first | (refine wpList_store_row rfl 44 _ _ rfl w6.heap.size R1 rfl rfl 44 _ HST.out.1 HST.out.2.1 HST.out.2.2.1 HST.out.2.2.2 ?_) | (refine wpList_load_rowG rfl 44 _ rfl w6.heap.size rfl 44 R1 (0, 0) _ HLOC.out.cells Try.underlying44 rfl HSZR.out ?_) | (refine wpList_load_rowG rfl 44 _ rfl w.heap.size rfl 44 C (0, 0) _ HA8.out.cells Try.underlying44 rfl HSZ.out ?_))
      refine (HSM.out).mono ?_
      rintro e w9 ⟨rfl, hb9⟩
      have HA9 := Lib.hid (HA8.out.on hb9)
      clear hb9 HSM HST HLOC HA8 HRS HSZR hw7 hw8
      have HG9 := Lib.hid (HGB.out w9 HA9.out.bel (by omega))
      have HB9 := Lib.hid HA9.out.bel
      clear HA9 HSAME HSZ HC hg HM HLONG HMAY HGB
      go_wp2_with fail
      refine (HG9.out).mono ?_
      intro e x6 hGet
      unfold GetP at hGet
      cases hgb : getL b
      · rw [hgb] at hGet
        obtain ⟨hb6, rfl⟩ := hGet
        have HB6 := Lib.hid (HB9.out.trans (hb6.mono HB9.out.size))
        clear hb6 HG9 HB9 hgb
        have hRs2 : (Try.prog.info? 44).map (·.size) = some (recC zRc nilV nilV).toArray.size := sizeRec rfl
        have hZR2 : (recC zRc nilV nilV).toArray.size = (recC zRc nilV nilV).toArray.size := rfl
        have hRo2 : (recC zRc nilV nilV).toArray.all (·.oneCell') = true := recC_one zRc rfl rfl
        obtain ⟨R2, hR2⟩ : ∃ R, (recC zRc nilV nilV).toArray = R := ⟨_, rfl⟩
        obtain ⟨x7, hx7⟩ : ∃ x, x6.alloc (.cells (recC zRc nilV nilV).toArray 44) = x := ⟨_, rfl⟩
        obtain ⟨x8, hx8⟩ : ∃ x, x7.setRow x6.heap.size R2 = x := ⟨_, rfl⟩
        have hLoc2 : Loc x6 R2 x8 := by rw [← hx8, ← hx7]; exact loc_new x6 _ _
        have hg4 : x7.heap[x6.heap.size]? = some (.cells (recC zRc nilV nilV).toArray 44 (0, 0)) := by rw [← hx7]; exact heap_last _ _ _ rfl
        have HST := Lib.hid (And.intro hg4 (And.intro hRs2 (And.intro hZR2 hRo2)))
        rw [zcells] at hx7
        clear hg4 hRs2 hZR2 hRo2
        have HLOC := Lib.hid hLoc2
        have HB8 := Lib.hid (HB6.out.trans (hLoc2.bel.mono HB6.out.size))
        have HSM := Lib.hid (show Calls Try.prog 14 #[.agg R2, .agg #[.int .u8 0, .int .u8 0, .int .u8 0, .int .u64 0, .int .u8 0, .string ⟨#[]⟩, .slice none 0 0, .int .i64 0, .slice none 0 0, .int .i64 0, .int .i64 0, .int .u8 0, .int .u64 0, .int .u8 0, .int .u8 0, .int .u64 0, .int .u8 0, .int .u8 0, .int .u16 0, .int .u32 0, .int .i64 0, .int .u8 0, .int .u32 0, .int .i64 0, .int .i64 0]] x8 (fun e w'' => e = .returned (.bool true) ∧ Below x8.heap.size x8 w'') from by
          have : Calls Try.prog 14 #[.agg (recC zRc nilV nilV).toArray, .agg (recC zRc nilV nilV).toArray] x8 (SmP zRc zRc x8) := same_any inR_z inR_z none none none none 0 0 0 0 x8 (rowf_nil _ _) (rowf_nil _ _) (rowf_nil _ _) (rowf_nil _ _)
          rw [zcells] at this
          rw [hR2.symm.trans zcells]
          refine this.mono ?_
          rintro e w'' ⟨y, rfl, hy, hby⟩
          exact ⟨by rw [hy.2 rfl], hby⟩)
        have HSZR := Lib.hid (show (Try.prog.info? 44).map (·.size) = some R2.size from by rw [← hR2]; exact sizeRec rfl)
        rw [hR2] at HST
        rw [hR2]
        clear hLoc2 hR2 HB6
        go_wp2_with (first | (refine wpList_store_row rfl 44 _ _ rfl x6.heap.size R2 rfl rfl 44 _ HST.out.1 HST.out.2.1 rfl HST.out.2.2.2 ?_) | (refine wpList_load_row rfl 44 _ rfl x6.heap.size rfl 44 R2 (0, 0) _ HLOC.out.cells Try.underlying44 rfl HSZR.out ?_))
        refine (HSM.out).mono ?_
        rintro e x9 ⟨rfl, hb9⟩
        have HB9 := Lib.hid (HB8.out.trans (hb9.mono HB8.out.size))
        have HU := Lib.hid (puts_any x9)
        clear hb9 HSM HST HLOC HB8 HSZR hx7 hx8
        go_wp2_with fail
        refine (HU.out).mono ?_
        rintro e xa ⟨rfl, hba⟩
        have HBA := Lib.hid (HB9.out.trans (hba.mono HB9.out.size))
        clear hba HU HB9
        go_wp2
        go_ret
        exact ⟨rfl, HBA.out⟩
      · rename_i s
        rw [hgb] at hGet
        obtain ⟨hb6, sv, uv, rfl, hrow⟩ := hGet
        have hgot := got_rows hgb hrow
        have hinv := get_inv hgb
        have hps := put_same hgb
        have HB6 := Lib.hid (HB9.out.trans (hb6.mono HB9.out.size))
        have hone : sv.oneCell' = true ∧ uv.oneCell' = true := by obtain ⟨a, b, c, d, rfl, rfl, _⟩ := hgot; exact ⟨rfl, rfl⟩
        have HGOT := Lib.hid hgot
        have hRs2 : (Try.prog.info? 44).map (·.size) = some (recC s sv uv).toArray.size := sizeRec hinv.1.msg.1
        have hZR2 : (recC zRc nilV nilV).toArray.size = (recC s sv uv).toArray.size := Option.some.inj ((sizeRec (r := zRc) (lv := nilV) (tv := nilV) rfl).symm.trans hRs2)
        have hRo2 : (recC s sv uv).toArray.all (·.oneCell') = true := recC_one s hone.1 hone.2
        have HINV := Lib.hid hinv
        have HPS := Lib.hid hps
        clear hb6 HG9 HB9 hgb hrow hgot hone hinv hps
        obtain ⟨R2, hR2⟩ : ∃ R, (recC s sv uv).toArray = R := ⟨_, rfl⟩
        obtain ⟨x7, hx7⟩ : ∃ x, x6.alloc (.cells (recC zRc nilV nilV).toArray 44) = x := ⟨_, rfl⟩
        obtain ⟨x8, hx8⟩ : ∃ x, x7.setRow x6.heap.size R2 = x := ⟨_, rfl⟩
        have hLoc2 : Loc x6 R2 x8 := by rw [← hx8, ← hx7]; exact loc_new x6 _ _
        have hg4 : x7.heap[x6.heap.size]? = some (.cells (recC zRc nilV nilV).toArray 44 (0, 0)) := by rw [← hx7]; exact heap_last _ _ _ rfl
        have HST := Lib.hid (And.intro hg4 (And.intro hRs2 (And.intro hZR2 hRo2)))
        rw [zcells] at hx7
        clear hg4 hRs2 hZR2 hRo2
        have HLOC := Lib.hid hLoc2
        have HB8 := Lib.hid (HB6.out.trans (hLoc2.bel.mono HB6.out.size))
        have HPX := Lib.hid (by
          obtain ⟨p1, c1, p2, c2, e1, e2, r1, r2⟩ := HGOT.out.kept (w' := x8) (fun g _ hg => hLoc2.bel.block g hg) hLoc2.bel.size
          have := put_any HINV.out.1 p1 p2 c1 c2 x8 (e1 ▸ r1.kept (fun g h => ⟨h.2, rfl⟩)) (e2 ▸ r2.kept (fun g h => ⟨h.2, rfl⟩))
          unfold PutP at this
          rw [← e1, ← e2, HPS.out, hR2] at this
          exact this)
        have HSZR := Lib.hid (show (Try.prog.info? 44).map (·.size) = some R2.size from by rw [← hR2]; exact sizeRec HINV.out.1.msg.1)
        rw [hR2] at HST
        rw [hR2]
        clear hLoc2 hR2 HB6 HGOT HINV HPS
        go_wp2_with (first | (refine wpList_store_row rfl 44 _ _ rfl x6.heap.size R2 rfl rfl 44 _ HST.out.1 HST.out.2.1 HST.out.2.2.1 HST.out.2.2.2 ?_) | (refine wpList_load_row rfl 44 _ rfl x6.heap.size rfl 44 R2 (0, 0) _ HLOC.out.cells Try.underlying44 rfl HSZR.out ?_))
        refine (HPX.out).mono ?_
        rintro e x9 ⟨v9, rfl, ho9, hb9⟩
        have HB9 := Lib.hid (HB8.out.trans (hb9.mono HB8.out.size))
        have hcv1 := bys_str (row_own (F := fun _ => True) ho9 (fun _ _ => trivial))
        have hcv2 := HCVB.out x9 HB9.out
        have HU := Lib.hid (puts_any x9)
        clear hb9 HPX HST HLOC HB8 HSZR hx7 hx8 ho9
        go_wp2_with fail
        refine (HU.out).mono ?_
        rintro e xa ⟨rfl, hba⟩
        have HBA := Lib.hid (HB9.out.trans (hba.mono HB9.out.size))
        clear hba HU HB9 hcv1 hcv2
        go_wp2
        go_ret
        exact ⟨rfl, HBA.out⟩
    · have hne : ¬ (mayB r = true ∧ longL r = false) := fun h => h0 ((HPI2.out.1).2 h)
      have h1 : ¬ ((putL r).1 : Int) = 0 := by omega
      have h1' : (((putL r).1 : Int) == 0) = false := by simpa using h1
      clear HPI2 h0
      cases hm1 : mayB r
      · rw [hm1] at HMAY3
        generalize (putL r).1 = er at *
        clear hne hm1
        go_wp2_with (refine wpList_load_row rfl 44 _ rfl w.heap.size rfl 44 C (0, 0) _ HA3.out.cells Try.underlying44 rfl HSZ.out ?_)
        refine (HMAY3.out).mono ?_
        rintro e w4 ⟨rfl, hb4⟩
        have HA9 := Lib.hid (HA3.out.on hb4)
        clear hb4 HA3 HO3 HB3 HMAY3
        have HG9 := Lib.hid (HGB.out w4 HA9.out.bel (by omega))
        have HB9 := Lib.hid HA9.out.bel
        clear HA9 HSAME HSZ HC hg HM HLONG HMAY HGB
        go_wp2_with fail
        refine (HG9.out).mono ?_
        intro e x6 hGet
        unfold GetP at hGet
        cases hgb : getL b
        · rw [hgb] at hGet
          obtain ⟨hb6, rfl⟩ := hGet
          have HB6 := Lib.hid (HB9.out.trans (hb6.mono HB9.out.size))
          clear hb6 HG9 HB9 hgb
          have hRs2 : (Try.prog.info? 44).map (·.size) = some (recC zRc nilV nilV).toArray.size := sizeRec rfl
          have hZR2 : (recC zRc nilV nilV).toArray.size = (recC zRc nilV nilV).toArray.size := rfl
          have hRo2 : (recC zRc nilV nilV).toArray.all (·.oneCell') = true := recC_one zRc rfl rfl
          obtain ⟨R2, hR2⟩ : ∃ R, (recC zRc nilV nilV).toArray = R := ⟨_, rfl⟩
          obtain ⟨x7, hx7⟩ : ∃ x, x6.alloc (.cells (recC zRc nilV nilV).toArray 44) = x := ⟨_, rfl⟩
          obtain ⟨x8, hx8⟩ : ∃ x, x7.setRow x6.heap.size R2 = x := ⟨_, rfl⟩
          have hLoc2 : Loc x6 R2 x8 := by rw [← hx8, ← hx7]; exact loc_new x6 _ _
          have hg4 : x7.heap[x6.heap.size]? = some (.cells (recC zRc nilV nilV).toArray 44 (0, 0)) := by rw [← hx7]; exact heap_last _ _ _ rfl
          have HST := Lib.hid (And.intro hg4 (And.intro hRs2 (And.intro hZR2 hRo2)))
          rw [zcells] at hx7
          clear hg4 hRs2 hZR2 hRo2
          have HLOC := Lib.hid hLoc2
          have HB8 := Lib.hid (HB6.out.trans (hLoc2.bel.mono HB6.out.size))
          have HSM := Lib.hid (show Calls Try.prog 14 #[.agg R2, .agg #[.int .u8 0, .int .u8 0, .int .u8 0, .int .u64 0, .int .u8 0, .string ⟨#[]⟩, .slice none 0 0, .int .i64 0, .slice none 0 0, .int .i64 0, .int .i64 0, .int .u8 0, .int .u64 0, .int .u8 0, .int .u8 0, .int .u64 0, .int .u8 0, .int .u8 0, .int .u16 0, .int .u32 0, .int .i64 0, .int .u8 0, .int .u32 0, .int .i64 0, .int .i64 0]] x8 (fun e w'' => e = .returned (.bool true) ∧ Below x8.heap.size x8 w'') from by
            have : Calls Try.prog 14 #[.agg (recC zRc nilV nilV).toArray, .agg (recC zRc nilV nilV).toArray] x8 (SmP zRc zRc x8) := same_any inR_z inR_z none none none none 0 0 0 0 x8 (rowf_nil _ _) (rowf_nil _ _) (rowf_nil _ _) (rowf_nil _ _)
            rw [zcells] at this
            rw [hR2.symm.trans zcells]
            refine this.mono ?_
            rintro e w'' ⟨y, rfl, hy, hby⟩
            exact ⟨by rw [hy.2 rfl], hby⟩)
          have HSZR := Lib.hid (show (Try.prog.info? 44).map (·.size) = some R2.size from by rw [← hR2]; exact sizeRec rfl)
          rw [hR2] at HST
          rw [hR2]
          clear hLoc2 hR2 HB6
          go_wp2_with (first | (refine wpList_store_row rfl 44 _ _ rfl x6.heap.size R2 rfl rfl 44 _ HST.out.1 HST.out.2.1 rfl HST.out.2.2.2 ?_) | (refine wpList_load_row rfl 44 _ rfl x6.heap.size rfl 44 R2 (0, 0) _ HLOC.out.cells Try.underlying44 rfl HSZR.out ?_))
          refine (HSM.out).mono ?_
          rintro e x9 ⟨rfl, hb9⟩
          have HB9 := Lib.hid (HB8.out.trans (hb9.mono HB8.out.size))
          have HU := Lib.hid (puts_any x9)
          clear hb9 HSM HST HLOC HB8 HSZR hx7 hx8
          go_wp2_with fail
          refine (HU.out).mono ?_
          rintro e xa ⟨rfl, hba⟩
          have HBA := Lib.hid (HB9.out.trans (hba.mono HB9.out.size))
          clear hba HU HB9
          go_wp2
          go_ret
          exact ⟨rfl, HBA.out⟩
        · rename_i s
          rw [hgb] at hGet
          obtain ⟨hb6, sv, uv, rfl, hrow⟩ := hGet
          have hgot := got_rows hgb hrow
          have hinv := get_inv hgb
          have hps := put_same hgb
          have HB6 := Lib.hid (HB9.out.trans (hb6.mono HB9.out.size))
          have hone : sv.oneCell' = true ∧ uv.oneCell' = true := by obtain ⟨a, b, c, d, rfl, rfl, _⟩ := hgot; exact ⟨rfl, rfl⟩
          have HGOT := Lib.hid hgot
          have hRs2 : (Try.prog.info? 44).map (·.size) = some (recC s sv uv).toArray.size := sizeRec hinv.1.msg.1
          have hZR2 : (recC zRc nilV nilV).toArray.size = (recC s sv uv).toArray.size := Option.some.inj ((sizeRec (r := zRc) (lv := nilV) (tv := nilV) rfl).symm.trans hRs2)
          have hRo2 : (recC s sv uv).toArray.all (·.oneCell') = true := recC_one s hone.1 hone.2
          have HINV := Lib.hid hinv
          have HPS := Lib.hid hps
          clear hb6 HG9 HB9 hgb hrow hgot hone hinv hps
          obtain ⟨R2, hR2⟩ : ∃ R, (recC s sv uv).toArray = R := ⟨_, rfl⟩
          obtain ⟨x7, hx7⟩ : ∃ x, x6.alloc (.cells (recC zRc nilV nilV).toArray 44) = x := ⟨_, rfl⟩
          obtain ⟨x8, hx8⟩ : ∃ x, x7.setRow x6.heap.size R2 = x := ⟨_, rfl⟩
          have hLoc2 : Loc x6 R2 x8 := by rw [← hx8, ← hx7]; exact loc_new x6 _ _
          have hg4 : x7.heap[x6.heap.size]? = some (.cells (recC zRc nilV nilV).toArray 44 (0, 0)) := by rw [← hx7]; exact heap_last _ _ _ rfl
          have HST := Lib.hid (And.intro hg4 (And.intro hRs2 (And.intro hZR2 hRo2)))
          rw [zcells] at hx7
          clear hg4 hRs2 hZR2 hRo2
          have HLOC := Lib.hid hLoc2
          have HB8 := Lib.hid (HB6.out.trans (hLoc2.bel.mono HB6.out.size))
          have HPX := Lib.hid (by
            obtain ⟨p1, c1, p2, c2, e1, e2, r1, r2⟩ := HGOT.out.kept (w' := x8) (fun g _ hg => hLoc2.bel.block g hg) hLoc2.bel.size
            have := put_any HINV.out.1 p1 p2 c1 c2 x8 (e1 ▸ r1.kept (fun g h => ⟨h.2, rfl⟩)) (e2 ▸ r2.kept (fun g h => ⟨h.2, rfl⟩))
            unfold PutP at this
            rw [← e1, ← e2, HPS.out, hR2] at this
            exact this)
          have HSZR := Lib.hid (show (Try.prog.info? 44).map (·.size) = some R2.size from by rw [← hR2]; exact sizeRec HINV.out.1.msg.1)
          rw [hR2] at HST
          rw [hR2]
          clear hLoc2 hR2 HB6 HGOT HINV HPS
          go_wp2_with (first | (refine wpList_store_row rfl 44 _ _ rfl x6.heap.size R2 rfl rfl 44 _ HST.out.1 HST.out.2.1 HST.out.2.2.1 HST.out.2.2.2 ?_) | (refine wpList_load_row rfl 44 _ rfl x6.heap.size rfl 44 R2 (0, 0) _ HLOC.out.cells Try.underlying44 rfl HSZR.out ?_))
          refine (HPX.out).mono ?_
          rintro e x9 ⟨v9, rfl, ho9, hb9⟩
          have HB9 := Lib.hid (HB8.out.trans (hb9.mono HB8.out.size))
          have hcv1 := bys_str (row_own (F := fun _ => True) ho9 (fun _ _ => trivial))
          have hcv2 := HCVB.out x9 HB9.out
          have HU := Lib.hid (puts_any x9)
          clear hb9 HPX HST HLOC HB8 HSZR hx7 hx8 ho9
          go_wp2_with fail
          refine (HU.out).mono ?_
          rintro e xa ⟨rfl, hba⟩
          have HBA := Lib.hid (HB9.out.trans (hba.mono HB9.out.size))
          clear hba HU HB9 hcv1 hcv2
          go_wp2
          go_ret
          exact ⟨rfl, HBA.out⟩
      · have hl1 : longL r = true := by
          cases h : longL r
          · exact absurd ⟨hm1, h⟩ hne
          · rfl
        rw [hm1] at HMAY3
        generalize (putL r).1 = er at *
        clear hne hm1
        go_wp2_with (refine wpList_load_row rfl 44 _ rfl w.heap.size rfl 44 C (0, 0) _ HA3.out.cells Try.underlying44 rfl HSZ.out ?_)
        refine (HMAY3.out).mono ?_
        rintro e w4 ⟨rfl, hb4⟩
        have HA4 := Lib.hid (HA3.out.on hb4)
        have HL4 := Lib.hid (HLONG.out w4 HA4.out.bel hg)
        rw [hl1] at HL4
        clear hb4 HA3 HO3 HB3 hl1 HMAY3
        go_wp2_with (refine wpList_load_rowG rfl 44 _ rfl w.heap.size rfl 44 C (0, 0) _ HA4.out.cells Try.underlying44 rfl HSZ.out ?_)
        refine (HL4.out).mono ?_
        rintro e w9 ⟨rfl, hb9⟩
        have HA9 := Lib.hid (HA4.out.on hb9)
        clear hb9 HA4 HL4
        have HG9 := Lib.hid (HGB.out w9 HA9.out.bel (by omega))
        have HB9 := Lib.hid HA9.out.bel
        clear HA9 HSAME HSZ HC hg HM HLONG HMAY HGB
        go_wp2_with fail
        refine (HG9.out).mono ?_
        intro e x6 hGet
        unfold GetP at hGet
        cases hgb : getL b
        · rw [hgb] at hGet
          obtain ⟨hb6, rfl⟩ := hGet
          have HB6 := Lib.hid (HB9.out.trans (hb6.mono HB9.out.size))
          clear hb6 HG9 HB9 hgb
          have hRs2 : (Try.prog.info? 44).map (·.size) = some (recC zRc nilV nilV).toArray.size := sizeRec rfl
          have hZR2 : (recC zRc nilV nilV).toArray.size = (recC zRc nilV nilV).toArray.size := rfl
          have hRo2 : (recC zRc nilV nilV).toArray.all (·.oneCell') = true := recC_one zRc rfl rfl
          obtain ⟨R2, hR2⟩ : ∃ R, (recC zRc nilV nilV).toArray = R := ⟨_, rfl⟩
          obtain ⟨x7, hx7⟩ : ∃ x, x6.alloc (.cells (recC zRc nilV nilV).toArray 44) = x := ⟨_, rfl⟩
          obtain ⟨x8, hx8⟩ : ∃ x, x7.setRow x6.heap.size R2 = x := ⟨_, rfl⟩
          have hLoc2 : Loc x6 R2 x8 := by rw [← hx8, ← hx7]; exact loc_new x6 _ _
          have hg4 : x7.heap[x6.heap.size]? = some (.cells (recC zRc nilV nilV).toArray 44 (0, 0)) := by rw [← hx7]; exact heap_last _ _ _ rfl
          have HST := Lib.hid (And.intro hg4 (And.intro hRs2 (And.intro hZR2 hRo2)))
          rw [zcells] at hx7
          clear hg4 hRs2 hZR2 hRo2
          have HLOC := Lib.hid hLoc2
          have HB8 := Lib.hid (HB6.out.trans (hLoc2.bel.mono HB6.out.size))
          have HSM := Lib.hid (show Calls Try.prog 14 #[.agg R2, .agg #[.int .u8 0, .int .u8 0, .int .u8 0, .int .u64 0, .int .u8 0, .string ⟨#[]⟩, .slice none 0 0, .int .i64 0, .slice none 0 0, .int .i64 0, .int .i64 0, .int .u8 0, .int .u64 0, .int .u8 0, .int .u8 0, .int .u64 0, .int .u8 0, .int .u8 0, .int .u16 0, .int .u32 0, .int .i64 0, .int .u8 0, .int .u32 0, .int .i64 0, .int .i64 0]] x8 (fun e w'' => e = .returned (.bool true) ∧ Below x8.heap.size x8 w'') from by
            have : Calls Try.prog 14 #[.agg (recC zRc nilV nilV).toArray, .agg (recC zRc nilV nilV).toArray] x8 (SmP zRc zRc x8) := same_any inR_z inR_z none none none none 0 0 0 0 x8 (rowf_nil _ _) (rowf_nil _ _) (rowf_nil _ _) (rowf_nil _ _)
            rw [zcells] at this
            rw [hR2.symm.trans zcells]
            refine this.mono ?_
            rintro e w'' ⟨y, rfl, hy, hby⟩
            exact ⟨by rw [hy.2 rfl], hby⟩)
          have HSZR := Lib.hid (show (Try.prog.info? 44).map (·.size) = some R2.size from by rw [← hR2]; exact sizeRec rfl)
          rw [hR2] at HST
          rw [hR2]
          clear hLoc2 hR2 HB6
          go_wp2_with (first | (refine wpList_store_row rfl 44 _ _ rfl x6.heap.size R2 rfl rfl 44 _ HST.out.1 HST.out.2.1 rfl HST.out.2.2.2 ?_) | (refine wpList_load_row rfl 44 _ rfl x6.heap.size rfl 44 R2 (0, 0) _ HLOC.out.cells Try.underlying44 rfl HSZR.out ?_))
          refine (HSM.out).mono ?_
          rintro e x9 ⟨rfl, hb9⟩
          have HB9 := Lib.hid (HB8.out.trans (hb9.mono HB8.out.size))
          have HU := Lib.hid (puts_any x9)
          clear hb9 HSM HST HLOC HB8 HSZR hx7 hx8
          go_wp2_with fail
          refine (HU.out).mono ?_
          rintro e xa ⟨rfl, hba⟩
          have HBA := Lib.hid (HB9.out.trans (hba.mono HB9.out.size))
          clear hba HU HB9
          go_wp2
          go_ret
          exact ⟨rfl, HBA.out⟩
        · rename_i s
          rw [hgb] at hGet
          obtain ⟨hb6, sv, uv, rfl, hrow⟩ := hGet
          have hgot := got_rows hgb hrow
          have hinv := get_inv hgb
          have hps := put_same hgb
          have HB6 := Lib.hid (HB9.out.trans (hb6.mono HB9.out.size))
          have hone : sv.oneCell' = true ∧ uv.oneCell' = true := by obtain ⟨a, b, c, d, rfl, rfl, _⟩ := hgot; exact ⟨rfl, rfl⟩
          have HGOT := Lib.hid hgot
          have hRs2 : (Try.prog.info? 44).map (·.size) = some (recC s sv uv).toArray.size := sizeRec hinv.1.msg.1
          have hZR2 : (recC zRc nilV nilV).toArray.size = (recC s sv uv).toArray.size := Option.some.inj ((sizeRec (r := zRc) (lv := nilV) (tv := nilV) rfl).symm.trans hRs2)
          have hRo2 : (recC s sv uv).toArray.all (·.oneCell') = true := recC_one s hone.1 hone.2
          have HINV := Lib.hid hinv
          have HPS := Lib.hid hps
          clear hb6 HG9 HB9 hgb hrow hgot hone hinv hps
          obtain ⟨R2, hR2⟩ : ∃ R, (recC s sv uv).toArray = R := ⟨_, rfl⟩
          obtain ⟨x7, hx7⟩ : ∃ x, x6.alloc (.cells (recC zRc nilV nilV).toArray 44) = x := ⟨_, rfl⟩
          obtain ⟨x8, hx8⟩ : ∃ x, x7.setRow x6.heap.size R2 = x := ⟨_, rfl⟩
          have hLoc2 : Loc x6 R2 x8 := by rw [← hx8, ← hx7]; exact loc_new x6 _ _
          have hg4 : x7.heap[x6.heap.size]? = some (.cells (recC zRc nilV nilV).toArray 44 (0, 0)) := by rw [← hx7]; exact heap_last _ _ _ rfl
          have HST := Lib.hid (And.intro hg4 (And.intro hRs2 (And.intro hZR2 hRo2)))
          rw [zcells] at hx7
          clear hg4 hRs2 hZR2 hRo2
          have HLOC := Lib.hid hLoc2
          have HB8 := Lib.hid (HB6.out.trans (hLoc2.bel.mono HB6.out.size))
          have HPX := Lib.hid (by
            obtain ⟨p1, c1, p2, c2, e1, e2, r1, r2⟩ := HGOT.out.kept (w' := x8) (fun g _ hg => hLoc2.bel.block g hg) hLoc2.bel.size
            have := put_any HINV.out.1 p1 p2 c1 c2 x8 (e1 ▸ r1.kept (fun g h => ⟨h.2, rfl⟩)) (e2 ▸ r2.kept (fun g h => ⟨h.2, rfl⟩))
            unfold PutP at this
            rw [← e1, ← e2, HPS.out, hR2] at this
            exact this)
          have HSZR := Lib.hid (show (Try.prog.info? 44).map (·.size) = some R2.size from by rw [← hR2]; exact sizeRec HINV.out.1.msg.1)
          rw [hR2] at HST
          rw [hR2]
          clear hLoc2 hR2 HB6 HGOT HINV HPS
          go_wp2_with (first | (refine wpList_store_row rfl 44 _ _ rfl x6.heap.size R2 rfl rfl 44 _ HST.out.1 HST.out.2.1 HST.out.2.2.1 HST.out.2.2.2 ?_) | (refine wpList_load_row rfl 44 _ rfl x6.heap.size rfl 44 R2 (0, 0) _ HLOC.out.cells Try.underlying44 rfl HSZR.out ?_))
          refine (HPX.out).mono ?_
          rintro e x9 ⟨v9, rfl, ho9, hb9⟩
          have HB9 := Lib.hid (HB8.out.trans (hb9.mono HB8.out.size))
          have hcv1 := bys_str (row_own (F := fun _ => True) ho9 (fun _ _ => trivial))
          have hcv2 := HCVB.out x9 HB9.out
          have HU := Lib.hid (puts_any x9)
          clear hb9 HPX HST HLOC HB8 HSZR hx7 hx8 ho9
          go_wp2_with fail
          refine (HU.out).mono ?_
          rintro e xa ⟨rfl, hba⟩
          have HBA := Lib.hid (HB9.out.trans (hba.mono HB9.out.size))
          clear hba HU HB9 hcv1 hcv2
          go_wp2
          go_ret
          exact ⟨rfl, HBA.out⟩
  · go_wp2
    go_ret
    exact ⟨rfl, HA2.out.bel⟩
end Go.Proofs.Ytjdfdihopgceoaa.Cd
