/- The walk of CodecApart. -/
import Derived.Test.YtjdfdihopgceoaaCdH
namespace Go.Proofs.Ytjdfdihopgceoaa.Cd
open Go.RowKit Go.Shelf Go.Dk Go.Jn Go.Cod

/-- two records' boxes -/
structure Arg2 (w : World) (C D : Array Value) (w' : World) : Prop where
  c : w'.heap[w.heap.size]? = some (.cells C 44 (0, 0))
  d : w'.heap[w.heap.size + 1]? = some (.cells D 44 (0, 0))
  bel : Below w.heap.size w w'
theorem Arg2.on {w w' w'' : World} {C D : Array Value} (h : Arg2 w C D w') (hb : Below w'.heap.size w' w'') : Arg2 w C D w'' :=
  ⟨(hb.block _ (lt_of_heap h.c)).trans h.c, (hb.block _ (lt_of_heap h.d)).trans h.d, h.bel.trans (hb.mono h.bel.size)⟩
theorem arg2_new (w : World) (C D : Array Value) : Arg2 w C D ((w.alloc (.cells C 44)).alloc (.cells D 44)) :=
  ⟨by rw [heap_prev _ _ _ (by simp)]; exact heap_last _ _ _ rfl, heap_last _ _ _ (by simp), ((Below.refl _ _).alloc (Nat.le_refl _) _).alloc (by simp) _⟩
theorem Arg2.drew {w w' : World} {C D : Array Value} (h : Arg2 w C D w') : Arg2 w C D w'.drew := ⟨h.c, h.d, ⟨h.bel.os, h.bel.tape, h.bel.output, h.bel.size, h.bel.block⟩⟩
theorem own_drew {w : World} {B : Nat} {v : Value} {l : By} (h : OwnB w B v l) : OwnB w.drew B v l := own_keep h (fun g cs _ hg => hg)
/-- while two records' bytes are held against each other -/
structure ApS (w : World) (C D : Array Value) (lo hi : Nat) (v u : Value) (l m : By) (w' : World) : Prop where
  a : Arg2 w C D w'
  ho : OwnB w' lo v l
  hu : OwnB w' hi u m
theorem ApS.on {w w' w'' : World} {C D : Array Value} {lo hi : Nat} {v u : Value} {l m : By} (h : ApS w C D lo hi v u l m w') (hb : Below w'.heap.size w' w'') : ApS w C D lo hi v u l m w'' :=
  ⟨h.a.on hb, own_keep h.ho (fun g cs _ hg => (hb.block g (lt_of_heap hg)).trans hg), own_keep h.hu (fun g cs _ hg => (hb.block g (lt_of_heap hg)).trans hg)⟩
theorem eql_bys (a b : By) (w : World) : (binOp .eql 9 (str a) (str b)).run Try.prog w = .ok (.bool (decide (a = b))) w := by
  have h : ((tx a).toList == (tx b).toList) = decide (a = b) := by rw [tx_list, tx_list, Bool.eq_iff_iff, beq_iff_eq, decide_eq_true_eq]
  go_simp
theorem bys_take {w : World} {F : Nat → Prop} {p : Option Addr} {cap k : Nat} {l : By} (h : BysF w F (.slice p l.length cap) l) (hk : k ≤ l.length) : BysF w F (.slice p k cap) (l.take k) := by
  obtain ⟨p', cap', e, hc, hp⟩ := h
  simp only [Value.slice.injEq, true_and] at e
  obtain ⟨rfl, rfl⟩ := e
  have hlen : (l.take k).length = k := by rw [List.length_take]; omega
  refine ⟨p, cap, by rw [hlen], by omega, fun h0 => ?_⟩
  obtain ⟨b, o, rfl, hF, hcell⟩ := hp (by omega)
  refine ⟨b, o, rfl, hF, fun j u hu => hcell j u ?_⟩
  unfold Lib.byteCells at *
  rw [List.map_take, List.getElem?_take] at hu
  split at hu
  · exact hu
  · cases hu
theorem bys_cap {w : World} {F : Nat → Prop} {p : Option Addr} {cap : Nat} {l : By} (h : BysF w F (.slice p l.length cap) l) : l.length ≤ cap := by
  obtain ⟨p', cap', e, hc, hp⟩ := h
  simp only [Value.slice.injEq, true_and] at e
  obtain ⟨rfl, rfl⟩ := e
  exact hc
theorem tmod_bd {n : Int} {L : Nat} (h : 0 < L) : -(L : Int) < n.tmod L ∧ n.tmod L < L := by
  have h1 := Int.tmod_lt_of_pos n (show (0 : Int) < L by omega)
  have h2 := Int.lt_tmod_of_pos n (show (0 : Int) < L by omega)
  exact ⟨h2, h1⟩
structure ApR (r : Rc) (lp tp : Option Addr) (lc tc : Nat) (w : World) : Prop where
  ok : greatL r = false → OkRc true r
  l : RowF w (· < w.heap.size) (.slice lp r.cmd.legs.length lc) r.cmd.legs.length (flt lgC r.cmd.legs)
  t : RowF w (· < w.heap.size) (.slice tp r.cmd.taxes.length tc) r.cmd.taxes.length (flt txC r.cmd.taxes)
  m : r.msg.length = 12
theorem ApR.on {r : Rc} {lp tp : Option Addr} {lc tc : Nat} {w w' : World} (h : ApR r lp tp lc tc w) (hb : Below w.heap.size w w') : ApR r lp tp lc tc w' :=
  ⟨h.ok, h.l.kept (fun k hk => ⟨Nat.lt_of_lt_of_le hk hb.size, hb.block k hk⟩), h.t.kept (fun k hk => ⟨Nat.lt_of_lt_of_le hk hb.size, hb.block k hk⟩), h.m⟩
theorem enc_le {r : Rc} (hok : OkRc true r) (hm : r.msg.length = 12) (h0 : (putL r).1 = 0) : 10 ≤ (encRc r).length ∧ (encRc r).length ≤ 1000 := by
  have h1 := ((put_zero hok).1 h0)
  have hk3 := ((may_iff r).1 h1.1).1
  rw [enc_len hk3 hm]
  have hs := sumC_le r.cmd.taxes
  unfold sizeL
  by_cases hk1 : r.kind = 1
  · have hf := h1.2 hk1
    rw [if_pos hk1]
    have := hs hf.2.2.2 r.cmd.taxes.length
    rw [List.take_length] at this
    have := hf.1; have := hf.2.1; have := hf.2.2.1
    omega
  · rw [if_neg hk1]; split <;> omega
set_option maxRecDepth 100000 in
set_option maxHeartbeats 6400000 in
theorem cdapart_any (r s : Rc) (rlp rtp slp stp : Option Addr) (rlc rtc slc stc : Nat) (b : By) (bp : Option Addr) (bcp : Nat) (n : Int) (w : World) (hr : ApR r rlp rtp rlc rtc w) (hs : ApR s slp stp slc stc w)
    (hb : BysF w (· < w.heap.size) (.slice bp b.length bcp) b) (hn : -9223372036854775808 ≤ n ∧ n ≤ 9223372036854775807) :
    Calls Try.prog 6 #[.agg (recC r (.slice rlp r.cmd.legs.length rlc) (.slice rtp r.cmd.taxes.length rtc)).toArray, .agg (recC s (.slice slp s.cmd.legs.length slc) (.slice stp s.cmd.taxes.length stc)).toArray, .slice bp b.length bcp, .int .i64 n] w fun e w' => e = .returned (.bool true) ∧ Below w.heap.size w w' := by
  obtain ⟨C, hC⟩ : ∃ C, (recC r (.slice rlp r.cmd.legs.length rlc) (.slice rtp r.cmd.taxes.length rtc)).toArray = C := ⟨_, rfl⟩
  obtain ⟨D, hD⟩ : ∃ C, (recC s (.slice slp s.cmd.legs.length slc) (.slice stp s.cmd.taxes.length stc)).toArray = C := ⟨_, rfl⟩
  obtain ⟨w0, hw0⟩ : ∃ x, w.alloc (.cells C 44) = x := ⟨_, rfl⟩
  obtain ⟨w1, hw1⟩ : ∃ x, w0.alloc (.cells D 44) = x := ⟨_, rfl⟩
  have hs0 : w0.heap.size = w.heap.size + 1 := by rw [← hw0]; simp
  have hA1 : Arg2 w C D w1 := by rw [← hw1, ← hw0]; exact arg2_new w C D
  have HSZ := Lib.hid (show (Try.prog.info? 44).map (·.size) = some C.size ∧ (Try.prog.info? 44).map (·.size) = some D.size from ⟨by rw [← hC]; exact sizeRec hr.m, by rw [← hD]; exact sizeRec hs.m⟩)
  have HG := Lib.hid (fun (w' : World) (hb' : Below w.heap.size w w') => by
    have := great_any r rlp rtp rlc rtc w' (hr.on hb').t
    rw [hC] at this
    exact this)
  have HG' := Lib.hid (fun (w' : World) (hb' : Below w.heap.size w w') => by
    have := great_any s slp stp slc stc w' (hs.on hb').t
    rw [hD] at this
    exact this)
  have HP := Lib.hid (fun (w' : World) (hb' : Below w.heap.size w w') (hg : greatL r = false) => by
    have := put_any (hr.ok hg) rlp rtp rlc rtc w' (hr.on hb').l (hr.on hb').t
    rw [hC] at this
    exact this)
  have HP' := Lib.hid (fun (w' : World) (hb' : Below w.heap.size w w') (hg : greatL s = false) => by
    have := put_any (hs.ok hg) slp stp slc stc w' (hs.on hb').l (hs.on hb').t
    rw [hD] at this
    exact this)
  have HSAME := Lib.hid (fun (w' : World) (hb' : Below w.heap.size w w') (hg : greatL r = false) (hg' : greatL s = false) => by
    have := same_any (hr.ok hg).inR (hs.ok hg').inR rlp rtp slp stp rlc rtc slc stc w' (hr.on hb').l (hr.on hb').t (hs.on hb').l (hs.on hb').t
    rw [hC, hD] at this
    exact this)
  have HBB := Lib.hid (fun (w' : World) (hb' : Below w.heap.size w w') => show BysF w' (· < w'.heap.size) (.slice bp b.length bcp) b from hb.kept (fun k hk => ⟨Nat.lt_of_lt_of_le hk hb'.size, hb'.block k hk⟩))
  have HR := Lib.hid hr
  have HS := Lib.hid hs
  have HA1 := Lib.hid hA1
  have HN := Lib.hid hn
  rw [hC, hD]
  clear hr hs hA1 hb hn hC hD
  have bl0 : (0 : Int) ≤ (b.length : Int) := Int.natCast_nonneg _
  have HG1 := Lib.hid (HG.out w1 HA1.out.bel)
  clear HG
  go_enter Try.func6, Try.ntmps6
  go_wp2_with (refine wpList_load_row rfl 44 _ rfl w.heap.size rfl 44 C (0, 0) _ HA1.out.c Try.underlying44 rfl HSZ.out.1 ?_)
  refine (HG1.out).mono ?_
  rintro e w2 ⟨rfl, hb2⟩
  have HA2 := Lib.hid (HA1.out.on hb2)
  clear hb2 HG1 hw0 hw1 HA1 hs0
  cases hg : greatL r
  · have HG2 := Lib.hid (HG'.out w2 HA2.out.bel)
    clear HG'
    go_wp2_with (refine wpList_load_rowG rfl 44 _ rfl (w.heap.size + 1) rfl 44 D (0, 0) _ HA2.out.d Try.underlying44 rfl HSZ.out.2 ?_)
    refine (HG2.out).mono ?_
    rintro e w3 ⟨rfl, hb3⟩
    have HA3 := Lib.hid (HA2.out.on hb3)
    clear hb3 HG2 HA2
    cases hg' : greatL s
    · by_cases hbl : (200 : Int) < (b.length : Int)
      · have hbl' : decide ((200 : Int) < (b.length : Int)) = true := decide_eq_true hbl
        go_wp2
        go_ret
        exact ⟨rfl, HA3.out.bel⟩
      have hbl' : decide ((200 : Int) < (b.length : Int)) = false := decide_eq_false hbl
      have HP3 := Lib.hid (HP.out w3 HA3.out.bel hg)
      clear HP
      go_wp2_with (refine wpList_load_row rfl 44 _ rfl w.heap.size rfl 44 C (0, 0) _ HA3.out.c Try.underlying44 rfl HSZ.out.1 ?_)
      refine (HP3.out).mono ?_
      rintro e w4 ⟨v, rfl, ho4, hb4⟩
      have HA4 := Lib.hid (HA3.out.on hb4)
      obtain ⟨pv, cv, rfl⟩ := own_slice ho4
      have HO4 := Lib.hid ho4
      have HP4 := Lib.hid (HP'.out w4 HA4.out.bel hg')
      clear ho4 hb4 HP3 HA3 HP' hbl'
      go_wp2_with (refine wpList_load_row rfl 44 _ rfl (w.heap.size + 1) rfl 44 D (0, 0) _ HA4.out.d Try.underlying44 rfl HSZ.out.2 ?_)
      refine (HP4.out).mono ?_
      rintro e w5 ⟨u, rfl, ho5, hb5⟩
      have HA5 := Lib.hid (HA4.out.on hb5)
      obtain ⟨pu, cu, rfl⟩ := own_slice ho5
      have HO5 := Lib.hid ho5
      have HO4 := Lib.hid (own_keep HO4.out (fun g cs _ hg => (hb5.block g (lt_of_heap hg)).trans hg))
      have HU := Lib.hid (puts_any w5)
      clear ho5 hb5 HP4 HA4
      by_cases h0 : (putL r).1 = 0
      case neg =>
        have h1 : ¬ ((putL r).1 : Int) = 0 := by omega
        generalize (putL r).1 = er at *
        go_wp2_with fail
        refine (HU.out).mono ?_
        rintro e w6 ⟨rfl, hb6⟩
        have HX := Lib.hid (HA5.out.on hb6).bel
        clear hb6
        go_wp2
        go_ret
        exact ⟨rfl, HX.out⟩
      by_cases h0' : (putL s).1 = 0
      case neg =>
        have h1 : ¬ ((putL s).1 : Int) = 0 := by omega
        rw [h0]
        clear h0
        generalize (putL s).1 = er at *
        go_wp2_with fail
        refine (HU.out).mono ?_
        rintro e w6 ⟨rfl, hb6⟩
        have HX := Lib.hid (HA5.out.on hb6).bel
        clear hb6
        go_wp2
        go_ret
        exact ⟨rfl, HX.out⟩
      have HPR := Lib.hid (put_enc (HR.out.ok hg) h0)
      have HPS := Lib.hid (put_enc (HS.out.ok hg') h0')
      have HF := Lib.hid (And.intro (And.intro (HR.out.ok hg) h0) (And.intro (HS.out.ok hg') h0'))
      obtain ⟨q, hq⟩ : ∃ q, decide ((putL r).2 = (putL s).2) = q := ⟨_, rfl⟩
      have HQ := Lib.hid (show q = true ↔ r = s from by
        rw [← hq, decide_eq_true_eq, HPR.out, HPS.out]
        exact ⟨fun e => enc_inj HF.out.1.1 HF.out.1.2 HF.out.2.1 HF.out.2.2 e, fun e => by rw [e]⟩)
      have HEQ := Lib.hid (show ((tx (putL r).2).toList == (tx (putL s).2).toList) = q from by
        rw [← hq, tx_list, tx_list, Bool.eq_iff_iff, beq_iff_eq, decide_eq_true_eq])
      have HSM := Lib.hid (show Calls Try.prog 14 #[.agg C, .agg D] w5.drew (SmP r s w5.drew) from HSAME.out w5.drew (HA5.out.drew).bel hg hg')
      clear hq
      rw [h0, h0']
      clear h0 h0' HSAME HU hg hg'
      go_upto_region 7 with fail
      refine wp_region_held (S := ApS w C D w3.heap.size w4.heap.size (.slice pv (putL r).2.length cv) (.slice pu (putL s).2.length cu) (putL r).2 (putL s).2) (by kernel_rfl) ?_
      change wpAnyH _ _ _ _ _ _ _ _ (World.drew _)
      have HS5 := Lib.hid (show ApS w C D w3.heap.size w4.heap.size (.slice pv (putL r).2.length cv) (.slice pu (putL s).2.length cu) (putL r).2 (putL s).2 w5.drew from ⟨HA5.out.drew, own_drew HO4.out, own_drew HO5.out⟩)
      refine tkH (i := 0) (oi := ⟨some 46, .move (.tmp 9), _, _, _, none⟩) (.slice pv (putL r).2.length cv) rfl (by kernel_rfl) (fun _ _ _ h => h) (yH rfl (fun wx h3 => by go_simp)) HS5.out ?_
      simp only [Act.put, s1, s2, s3]
      refine tkH (i := 1) (oi := ⟨some 47, .convert 47 9 (.tmp 46), _, _, _, none⟩) (str (putL r).2) rfl (by kernel_rfl) (fun _ _ _ h => h) (yH rfl (fun wx h3 => by have qq := bys_str (row_own (F := fun _ => True) h3.ho (fun _ _ => trivial)); go_simp)) HS5.out ?_
      simp only [Act.put, s1, s2, s3]
      refine tkH (i := 2) (oi := ⟨some 48, .move (.tmp 11), _, _, _, none⟩) (.slice pu (putL s).2.length cu) rfl (by kernel_rfl) (fun _ _ _ h => h) (yH rfl (fun wx h3 => by go_simp)) HS5.out ?_
      simp only [Act.put, s1, s2, s3]
      refine tkH (i := 3) (oi := ⟨some 49, .convert 47 9 (.tmp 48), _, _, _, none⟩) (str (putL s).2) rfl (by kernel_rfl) (fun _ _ _ h => h) (yH rfl (fun wx h3 => by have qq := bys_str (row_own (F := fun _ => True) h3.hu (fun _ _ => trivial)); go_simp)) HS5.out ?_
      simp only [Act.put, s1, s2, s3]
      refine tkH (i := 4) (oi := ⟨some 50, .binOp .eql 9 (.tmp 47) (.tmp 49) 9, _, _, _, none⟩) (.bool (q)) rfl (by kernel_rfl) (fun _ _ _ h => h) (yH rfl (fun wx h3 => by have qq := HEQ.out; go_simp)) HS5.out ?_
      simp only [Act.put, s1, s2, s3]
      refine tkH (i := 5) (oi := ⟨some 51, .load 44 (.tmp 4), _, _, _, none⟩) (.agg C) rfl (by kernel_rfl) (fun _ _ _ h => h) (yH rfl (fun wx h3 => run_load_rec rfl w.heap.size rfl h3.a.c Try.underlying44 HSZ.out.1)) HS5.out ?_
      simp only [Act.put, s1, s2, s3]
      refine tkH (i := 6) (oi := ⟨some 52, .load 44 (.tmp 5), _, _, _, none⟩) (.agg D) rfl (by kernel_rfl) (fun _ _ _ h => h) (yH rfl (fun wx h3 => run_load_rec rfl (w.heap.size + 1) rfl h3.a.d Try.underlying44 HSZ.out.2)) HS5.out ?_
      simp only [Act.put, s1, s2, s3]
      refine rdH (i := 7) (o := ⟨some 53, .call ⟨.value (.func 14), #[.tmp 51, .tmp 52], _⟩, _, _, _, none⟩) (by kernel_rfl) rfl (fun K' hK => ?_)
      go_simp
      refine (HSM.out).mono ?_
      rintro e w6 ⟨bx, rfl, hbx, hb6⟩
      have hbx' : bx = q := by rw [Bool.eq_iff_iff, hbx, HQ.out]
      subst hbx'
      have HS6 := Lib.hid (HS5.out.on hb6)
      clear hb6 hbx HSM
      refine hK.out _ _ HS6.out (fun _ => ?_)
      clear hK K'
      try (simp only [Act.put, s1, s2, s3])
      refine tkH (i := 8) (oi := ⟨some 54, .binOp .neq 4 (.tmp 50) (.tmp 53) 4, _, _, _, none⟩) (.bool false) rfl (by kernel_rfl) (fun _ _ _ h => h) (yH rfl (fun wx h3 => by go_simp)) HS6.out ?_
      simp only [Act.put, s1, s2, s3]
      refine wpAnyH_done (by kernel_rfl) ?_ _
      clear HEQ HQ
      have HL1 := Lib.hid (And.intro (show 10 ≤ (putL r).2.length from by rw [HPR.out]; exact (enc_le HF.out.1.1 HR.out.m HF.out.1.2).1) (show (putL r).2.length ≤ 1000 from by rw [HPR.out]; exact (enc_le HF.out.1.1 HR.out.m HF.out.1.2).2))
      have HC1 := Lib.hid (fun L hL => by have := get_behind HF.out.1.1 HF.out.1.2 (L := L) hL; rwa [← HPR.out] at this)
      have HC2 := Lib.hid (fun k (hk : k < (putL r).2.length) => by have := get_cut HF.out.1.1 HF.out.1.2 (k := k) (by rwa [← HPR.out]); rwa [← HPR.out] at this)
      have HB6 := Lib.hid HS6.out.a.bel
      have HO6 := Lib.hid HS6.out.ho
      clear HS6 HS5 HO4 HO5 HA5 HR HS HF HPR HPS HSZ
      generalize (putL r).2 = l at *
      generalize (putL s).2 = l' at *
      obtain ⟨hl1, hl2⟩ := HL1.out
      obtain ⟨g, rfl, _⟩ := own_ptr HO6.out (by omega)
      have l1 : (10 : Int) ≤ (l.length : Int) := by omega
      have l2 : (l.length : Int) ≤ 1000 := by omega
      have l3 : ((l.length : Int) == 0) = false := by rw [beq_eq_false_iff_ne]; omega
      by_cases hbe : b = []
      · subst hbe
        have HS9 := Lib.hid (show BysF w6 (· < w6.heap.size) (.slice (some ⟨g, 0, none⟩) l.length cv) l from row_own HO6.out (fun k hk => (own_lt HO6.out hk).2))
        have hcap := bys_cap HS9.out
        obtain ⟨m, hm⟩ : ∃ m, n.tmod (l.length : Int) = m := ⟨_, rfl⟩
        have hmb := tmod_bd (n := n) (L := l.length) (by omega)
        rw [hm] at hmb
        have c1 : (l.length : Int) ≤ (cv : Int) := by omega
        have HXB := Lib.hid HB6.out
        obtain ⟨hm1, hm2⟩ := hmb
        by_cases hneg : m < 0
        · have hneg' : decide (m < 0) = true := decide_eq_true hneg
          obtain ⟨k, hk⟩ : ∃ k : Nat, m + (l.length : Int) = (k : Int) := ⟨(m + l.length).toNat, by omega⟩
          have k1 : (k : Int) < (l.length : Int) := by omega
          have k2 : (k : Int) ≤ (cv : Int) := by omega
          have hkl : k < l.length := by omega
          have HGC := Lib.hid (by
            have hlen : (l.take k).length = k := by rw [List.length_take]; omega
            have := get_any (l.take k) (some ⟨g, 0, none⟩) cv w6 (by omega) (by rw [hlen]; exact bys_take HS9.out (by omega))
            rw [hlen] at this
            exact this)
          have HNC := Lib.hid (HC2.out k hkl)
          clear hkl hcap HS9
          go_wp2_with fail
          refine (HGC.out).mono ?_
          intro e y6 hGet
          unfold GetP at hGet
          rw [HNC.out] at hGet
          obtain ⟨hb6, rfl⟩ := hGet
          have HBy6 := Lib.hid (HXB.out.trans (hb6.mono HXB.out.size))
          clear hb6
          have hRs2 : (Try.prog.info? 44).map (·.size) = some (recC zRc nilV nilV).toArray.size := sizeRec rfl
          have hZR2 : (recC zRc nilV nilV).toArray.size = (recC zRc nilV nilV).toArray.size := rfl
          have hRo2 : (recC zRc nilV nilV).toArray.all (·.oneCell') = true := recC_one zRc rfl rfl
          obtain ⟨R2, hR2⟩ : ∃ R, (recC zRc nilV nilV).toArray = R := ⟨_, rfl⟩
          obtain ⟨y7, hy7⟩ : ∃ x, y6.alloc (.cells (recC zRc nilV nilV).toArray 44) = x := ⟨_, rfl⟩
          obtain ⟨y8, hy8⟩ : ∃ x, y7.setRow y6.heap.size R2 = x := ⟨_, rfl⟩
          have hLoc2 : Loc y6 R2 y8 := by rw [← hy8, ← hy7]; exact loc_new y6 _ _
          have hg4 : y7.heap[y6.heap.size]? = some (.cells (recC zRc nilV nilV).toArray 44 (0, 0)) := by rw [← hy7]; exact heap_last _ _ _ rfl
          have HST := Lib.hid (And.intro hg4 (And.intro hRs2 (And.intro hZR2 hRo2)))
          rw [zcells] at hy7
          clear hg4 hRs2 hZR2 hRo2
          have HBy8 := Lib.hid (HBy6.out.trans (hLoc2.bel.mono HBy6.out.size))
          have hlb := hLoc2.bel
          rw [hR2] at HST
          rw [hR2]
          have HU := Lib.hid (puts_any y8)
          clear hLoc2 hR2 HBy6 hlb
          go_wp2_with (refine wpList_store_row rfl 44 _ _ rfl y6.heap.size R2 rfl rfl 44 _ HST.out.1 HST.out.2.1 rfl HST.out.2.2.2 ?_)
          refine (HU.out).mono ?_
          rintro e y9 ⟨rfl, hb9⟩
          have HX := Lib.hid (HBy8.out.trans (hb9.mono HBy8.out.size))
          clear hb9 HU HST hy7 hy8
          go_wp2
          go_ret
          exact ⟨rfl, HX.out⟩
        · have hneg' : decide (m < 0) = false := decide_eq_false hneg
          obtain ⟨k, rfl⟩ : ∃ k : Nat, m = (k : Int) := ⟨m.toNat, by omega⟩
          have hk : True := trivial
          have k1 : (k : Int) < (l.length : Int) := by omega
          have k2 : (k : Int) ≤ (cv : Int) := by omega
          have hkl : k < l.length := by omega
          have HGC := Lib.hid (by
            have hlen : (l.take k).length = k := by rw [List.length_take]; omega
            have := get_any (l.take k) (some ⟨g, 0, none⟩) cv w6 (by omega) (by rw [hlen]; exact bys_take HS9.out (by omega))
            rw [hlen] at this
            exact this)
          have HNC := Lib.hid (HC2.out k hkl)
          clear hkl hcap HS9
          go_wp2_with fail
          refine (HGC.out).mono ?_
          intro e y6 hGet
          unfold GetP at hGet
          rw [HNC.out] at hGet
          obtain ⟨hb6, rfl⟩ := hGet
          have HBy6 := Lib.hid (HXB.out.trans (hb6.mono HXB.out.size))
          clear hb6
          have hRs2 : (Try.prog.info? 44).map (·.size) = some (recC zRc nilV nilV).toArray.size := sizeRec rfl
          have hZR2 : (recC zRc nilV nilV).toArray.size = (recC zRc nilV nilV).toArray.size := rfl
          have hRo2 : (recC zRc nilV nilV).toArray.all (·.oneCell') = true := recC_one zRc rfl rfl
          obtain ⟨R2, hR2⟩ : ∃ R, (recC zRc nilV nilV).toArray = R := ⟨_, rfl⟩
          obtain ⟨y7, hy7⟩ : ∃ x, y6.alloc (.cells (recC zRc nilV nilV).toArray 44) = x := ⟨_, rfl⟩
          obtain ⟨y8, hy8⟩ : ∃ x, y7.setRow y6.heap.size R2 = x := ⟨_, rfl⟩
          have hLoc2 : Loc y6 R2 y8 := by rw [← hy8, ← hy7]; exact loc_new y6 _ _
          have hg4 : y7.heap[y6.heap.size]? = some (.cells (recC zRc nilV nilV).toArray 44 (0, 0)) := by rw [← hy7]; exact heap_last _ _ _ rfl
          have HST := Lib.hid (And.intro hg4 (And.intro hRs2 (And.intro hZR2 hRo2)))
          rw [zcells] at hy7
          clear hg4 hRs2 hZR2 hRo2
          have HBy8 := Lib.hid (HBy6.out.trans (hLoc2.bel.mono HBy6.out.size))
          have hlb := hLoc2.bel
          rw [hR2] at HST
          rw [hR2]
          have HU := Lib.hid (puts_any y8)
          clear hLoc2 hR2 HBy6 hlb
          go_wp2_with (refine wpList_store_row rfl 44 _ _ rfl y6.heap.size R2 rfl rfl 44 _ HST.out.1 HST.out.2.1 rfl HST.out.2.2.2 ?_)
          refine (HU.out).mono ?_
          rintro e y9 ⟨rfl, hb9⟩
          have HX := Lib.hid (HBy8.out.trans (hb9.mono HBy8.out.size))
          clear hb9 HU HST hy7 hy8
          go_wp2
          go_ret
          exact ⟨rfl, HX.out⟩
      · have hbp : 0 < b.length := List.length_pos_iff.2 hbe
        have b1 : (0 : Int) < (b.length : Int) := by omega
        have b2 : (b.length : Int) ≤ 200 := by omega
        obtain ⟨wz, hwz⟩ : ∃ x, w6.alloc (.cells #[] 5) = x := ⟨_, rfl⟩
        have hbz : Below w6.heap.size w6 wz := by rw [← hwz]; exact (Below.refl _ _).alloc (Nat.le_refl _) _
        have hoz : OwnB wz w6.heap.size (.slice (some ⟨w6.heap.size, 0, none⟩) 0 0) [] := by
          have := own_room 0 (by omega) w6 w6.heap.size (Nat.le_refl _)
          rw [show madeCells #[Value.int .u8 0] 0 = #[] from by rw [madeB]; simp [bc, Lib.byteCells]] at this
          rw [← hwz]
          exact this
        have HOZ6 := Lib.hid (own_keep HO6.out (fun g cs _ hg => (hbz.block g (lt_of_heap hg)).trans hg))
        obtain ⟨v1, wy, hr1, ho1, hg1, hn1⟩ := own_cat hoz (row_own (F := fun _ => True) HOZ6.out (fun _ _ => trivial)) hbz.size (by rw [List.length_nil]; omega) 47
        rw [List.nil_append] at ho1
        have hby : Below w6.heap.size w6 wy := hbz.trans (((Frq.refl (fun k => w6.heap.size ≤ k) wz).grown hg1 (fun k e => .inl (by cases e; exact Nat.le_refl _))).below hbz.size (fun k h => h))
        have hBy : Below w.heap.size w wy := HB6.out.trans (hby.mono HB6.out.size)
        have HOY := Lib.hid (own_keep HO6.out (fun g cs _ hg => (hby.block g (lt_of_heap hg)).trans hg))
        obtain ⟨v2, wx, hr2, ho2, hg2, hn2⟩ := own_cat ho1 (HBB.out wy hBy) hby.size (by omega) 47
        have hbx : Below w6.heap.size w6 wx := hby.trans (((Frq.refl (fun k => w6.heap.size ≤ k) wy).grown hg2 (fun k e => .inl ((own_lt ho1 e).1))).below hby.size (fun k h => h))
        have HOX := Lib.hid (own_keep HO6.out (fun g cs _ hg => (hbx.block g (lt_of_heap hg)).trans hg))
        have HBX := Lib.hid (HB6.out.trans (hbx.mono HB6.out.size))
        obtain ⟨p1, cc1, rfl⟩ := own_slice ho1
        obtain ⟨p2, cc2, rfl⟩ := own_slice ho2
        have HGZ := Lib.hid (by
          have := get_any (l ++ b) p2 cc2 wx (by rw [List.length_append]; omega) (row_own ho2 (fun k hk => (own_lt ho2 hk).2))
          rw [List.length_append] at this
          exact this)
        have HNZ := Lib.hid (HC1.out b hbe)
        clear hbz hoz ho1 hg1 hn1 hby hBy ho2 hg2 hn2 hbx hbe
        go_wp2_with (first | ((with_reducible refine wl_appX (.slice (some ⟨w6.heap.size, 0, none⟩) 0 0) (.slice (some ⟨g, 0, none⟩) l.length cv) (.slice p1 l.length cc1) ?_ ?_ hr1 ?_); (· rfl); (· rfl)) | ((with_reducible refine wl_appX (.slice p1 l.length cc1) (.slice bp b.length bcp) (.slice p2 (l ++ b).length cc2) ?_ ?_ hr2 ?_); (· rfl); (· rfl)))
        refine (HGZ.out).mono ?_
        intro e z6 hGet
        unfold GetP at hGet
        rw [HNZ.out] at hGet
        obtain ⟨hb6, rfl⟩ := hGet
        have HBz6 := Lib.hid (HBX.out.trans (hb6.mono HBX.out.size))
        have HOZ7 := Lib.hid (own_keep HOX.out (fun g cs _ hg => (hb6.block g (lt_of_heap hg)).trans hg))
        clear hb6
        have hRs2 : (Try.prog.info? 44).map (·.size) = some (recC zRc nilV nilV).toArray.size := sizeRec rfl
        have hZR2 : (recC zRc nilV nilV).toArray.size = (recC zRc nilV nilV).toArray.size := rfl
        have hRo2 : (recC zRc nilV nilV).toArray.all (·.oneCell') = true := recC_one zRc rfl rfl
        obtain ⟨R2, hR2⟩ : ∃ R, (recC zRc nilV nilV).toArray = R := ⟨_, rfl⟩
        obtain ⟨z7, hz7⟩ : ∃ x, z6.alloc (.cells (recC zRc nilV nilV).toArray 44) = x := ⟨_, rfl⟩
        obtain ⟨z8, hz8⟩ : ∃ x, z7.setRow z6.heap.size R2 = x := ⟨_, rfl⟩
        have hLoc2 : Loc z6 R2 z8 := by rw [← hz8, ← hz7]; exact loc_new z6 _ _
        have hg4 : z7.heap[z6.heap.size]? = some (.cells (recC zRc nilV nilV).toArray 44 (0, 0)) := by rw [← hz7]; exact heap_last _ _ _ rfl
        have HST := Lib.hid (And.intro hg4 (And.intro hRs2 (And.intro hZR2 hRo2)))
        rw [zcells] at hz7
        clear hg4 hRs2 hZR2 hRo2
        have HBz8 := Lib.hid (HBz6.out.trans (hLoc2.bel.mono HBz6.out.size))
        have hlb := hLoc2.bel
        rw [hR2] at HST
        rw [hR2]
        have HOZ8 := Lib.hid (own_keep HOZ7.out (fun g cs _ hg => (hlb.block g (lt_of_heap hg)).trans hg))
        clear hLoc2 hR2 HBz6 hlb hwz HOZ6 HOY HOX HOZ7 HBX HGZ HNZ
        have HS9 := Lib.hid (show BysF z8 (· < z8.heap.size) (.slice (some ⟨g, 0, none⟩) l.length cv) l from row_own HOZ8.out (fun k hk => (own_lt HOZ8.out hk).2))
        have hcap := bys_cap HS9.out
        obtain ⟨m, hm⟩ : ∃ m, n.tmod (l.length : Int) = m := ⟨_, rfl⟩
        have hmb := tmod_bd (n := n) (L := l.length) (by omega)
        rw [hm] at hmb
        have c1 : (l.length : Int) ≤ (cv : Int) := by omega
        have HXB := Lib.hid HBz8.out
        obtain ⟨hm1, hm2⟩ := hmb
        by_cases hneg : m < 0
        · have hneg' : decide (m < 0) = true := decide_eq_true hneg
          obtain ⟨k, hk⟩ : ∃ k : Nat, m + (l.length : Int) = (k : Int) := ⟨(m + l.length).toNat, by omega⟩
          have k1 : (k : Int) < (l.length : Int) := by omega
          have k2 : (k : Int) ≤ (cv : Int) := by omega
          have hkl : k < l.length := by omega
          have HGC := Lib.hid (by
            have hlen : (l.take k).length = k := by rw [List.length_take]; omega
            have := get_any (l.take k) (some ⟨g, 0, none⟩) cv z8 (by omega) (by rw [hlen]; exact bys_take HS9.out (by omega))
            rw [hlen] at this
            exact this)
          have HNC := Lib.hid (HC2.out k hkl)
          clear hkl hcap HS9
          go_wp2_with (refine wpList_store_row rfl 44 _ _ rfl z6.heap.size R2 rfl rfl 44 _ HST.out.1 HST.out.2.1 rfl HST.out.2.2.2 ?_)
          clear HST hz7 hz8 hr1 hr2
          refine (HGC.out).mono ?_
          intro e y6 hGet
          unfold GetP at hGet
          rw [HNC.out] at hGet
          obtain ⟨hb6, rfl⟩ := hGet
          have HBy6 := Lib.hid (HXB.out.trans (hb6.mono HXB.out.size))
          clear hb6
          have hRs2 : (Try.prog.info? 44).map (·.size) = some (recC zRc nilV nilV).toArray.size := sizeRec rfl
          have hZR2 : (recC zRc nilV nilV).toArray.size = (recC zRc nilV nilV).toArray.size := rfl
          have hRo2 : (recC zRc nilV nilV).toArray.all (·.oneCell') = true := recC_one zRc rfl rfl
          obtain ⟨R2, hR2⟩ : ∃ R, (recC zRc nilV nilV).toArray = R := ⟨_, rfl⟩
          obtain ⟨y7, hy7⟩ : ∃ x, y6.alloc (.cells (recC zRc nilV nilV).toArray 44) = x := ⟨_, rfl⟩
          obtain ⟨y8, hy8⟩ : ∃ x, y7.setRow y6.heap.size R2 = x := ⟨_, rfl⟩
          have hLoc2 : Loc y6 R2 y8 := by rw [← hy8, ← hy7]; exact loc_new y6 _ _
          have hg4 : y7.heap[y6.heap.size]? = some (.cells (recC zRc nilV nilV).toArray 44 (0, 0)) := by rw [← hy7]; exact heap_last _ _ _ rfl
          have HST := Lib.hid (And.intro hg4 (And.intro hRs2 (And.intro hZR2 hRo2)))
          rw [zcells] at hy7
          clear hg4 hRs2 hZR2 hRo2
          have HBy8 := Lib.hid (HBy6.out.trans (hLoc2.bel.mono HBy6.out.size))
          have hlb := hLoc2.bel
          rw [hR2] at HST
          rw [hR2]
          have HU := Lib.hid (puts_any y8)
          clear hLoc2 hR2 HBy6 hlb
          go_wp2_with (refine wpList_store_row rfl 44 _ _ rfl y6.heap.size R2 rfl rfl 44 _ HST.out.1 HST.out.2.1 rfl HST.out.2.2.2 ?_)
          refine (HU.out).mono ?_
          rintro e y9 ⟨rfl, hb9⟩
          have HX := Lib.hid (HBy8.out.trans (hb9.mono HBy8.out.size))
          clear hb9 HU HST hy7 hy8
          go_wp2
          go_ret
          exact ⟨rfl, HX.out⟩
        · have hneg' : decide (m < 0) = false := decide_eq_false hneg
          obtain ⟨k, rfl⟩ : ∃ k : Nat, m = (k : Int) := ⟨m.toNat, by omega⟩
          have hk : True := trivial
          have k1 : (k : Int) < (l.length : Int) := by omega
          have k2 : (k : Int) ≤ (cv : Int) := by omega
          have hkl : k < l.length := by omega
          have HGC := Lib.hid (by
            have hlen : (l.take k).length = k := by rw [List.length_take]; omega
            have := get_any (l.take k) (some ⟨g, 0, none⟩) cv z8 (by omega) (by rw [hlen]; exact bys_take HS9.out (by omega))
            rw [hlen] at this
            exact this)
          have HNC := Lib.hid (HC2.out k hkl)
          clear hkl hcap HS9
          go_wp2_with (refine wpList_store_row rfl 44 _ _ rfl z6.heap.size R2 rfl rfl 44 _ HST.out.1 HST.out.2.1 rfl HST.out.2.2.2 ?_)
          clear HST hz7 hz8 hr1 hr2
          refine (HGC.out).mono ?_
          intro e y6 hGet
          unfold GetP at hGet
          rw [HNC.out] at hGet
          obtain ⟨hb6, rfl⟩ := hGet
          have HBy6 := Lib.hid (HXB.out.trans (hb6.mono HXB.out.size))
          clear hb6
          have hRs2 : (Try.prog.info? 44).map (·.size) = some (recC zRc nilV nilV).toArray.size := sizeRec rfl
          have hZR2 : (recC zRc nilV nilV).toArray.size = (recC zRc nilV nilV).toArray.size := rfl
          have hRo2 : (recC zRc nilV nilV).toArray.all (·.oneCell') = true := recC_one zRc rfl rfl
          obtain ⟨R2, hR2⟩ : ∃ R, (recC zRc nilV nilV).toArray = R := ⟨_, rfl⟩
          obtain ⟨y7, hy7⟩ : ∃ x, y6.alloc (.cells (recC zRc nilV nilV).toArray 44) = x := ⟨_, rfl⟩
          obtain ⟨y8, hy8⟩ : ∃ x, y7.setRow y6.heap.size R2 = x := ⟨_, rfl⟩
          have hLoc2 : Loc y6 R2 y8 := by rw [← hy8, ← hy7]; exact loc_new y6 _ _
          have hg4 : y7.heap[y6.heap.size]? = some (.cells (recC zRc nilV nilV).toArray 44 (0, 0)) := by rw [← hy7]; exact heap_last _ _ _ rfl
          have HST := Lib.hid (And.intro hg4 (And.intro hRs2 (And.intro hZR2 hRo2)))
          rw [zcells] at hy7
          clear hg4 hRs2 hZR2 hRo2
          have HBy8 := Lib.hid (HBy6.out.trans (hLoc2.bel.mono HBy6.out.size))
          have hlb := hLoc2.bel
          rw [hR2] at HST
          rw [hR2]
          have HU := Lib.hid (puts_any y8)
          clear hLoc2 hR2 HBy6 hlb
          go_wp2_with (refine wpList_store_row rfl 44 _ _ rfl y6.heap.size R2 rfl rfl 44 _ HST.out.1 HST.out.2.1 rfl HST.out.2.2.2 ?_)
          refine (HU.out).mono ?_
          rintro e y9 ⟨rfl, hb9⟩
          have HX := Lib.hid (HBy8.out.trans (hb9.mono HBy8.out.size))
          clear hb9 HU HST hy7 hy8
          go_wp2
          go_ret
          exact ⟨rfl, HX.out⟩
    · go_wp2
      go_ret
      exact ⟨rfl, HA3.out.bel⟩
  · go_wp2
    go_ret
    exact ⟨rfl, HA2.out.bel⟩
end Go.Proofs.Ytjdfdihopgceoaa.Cd
