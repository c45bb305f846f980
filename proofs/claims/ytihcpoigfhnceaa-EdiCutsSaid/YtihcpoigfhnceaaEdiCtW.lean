/- The walk of EdiCuts. -/
import Derived.Test.YtihcpoigfhnceaaEdiBkW
import Derived.Test.YtihcpoigfhnceaaEdiOwW
import Derived.Test.YtihcpoigfhnceaaEdiMn
import Derived.BigFrame
namespace Go.Proofs.Ytihcpoigfhnceaa
open Go.RowKit Go.Edi

theorem parse_head {b : Tx} (h : (parseL b).2.2 = 0) : ∀ (h0 : 0 < b.length), ¬ b[0] = 10 := by
  intro h0 he
  cases b with
  | nil => simp at h0
  | cons c t =>
    simp only [List.getElem_cons_zero] at he
    subst he
    obtain ⟨_, h2, _⟩ := parse_ok h
    simp [runL, Go.Edi.step, s0, outS, inTag, tgc] at h2
theorem small_parse (t : Tx) : small (parseL t).1 := by
  by_cases h : (parseL t).2.2 = 0
  · obtain ⟨_, h2, _⟩ := parse_ok h
    have hi := run_inv t s0 0 good_s0 (by rw [h2])
    rw [h2] at hi
    have h1 : (parseL t).1.length ≤ 64 := hi.1.2.1
    refine ⟨by omega, fun s hs => ?_⟩
    have := (hi.1.1 s hs).2.2
    simp only [shortS, shortE, Bool.and_eq_true, decide_eq_true_eq, List.all_eq_true] at this
    exact ⟨by omega, fun e he => by have := (this.2 e he).1; omega⟩
  · rw [parse_bad h]; exact ⟨by simp, fun s hs => by simp at hs⟩
set_option maxRecDepth 100000 in
set_option maxHeartbeats 6400000 in
theorem cuts_bad (a b : Tx) (w : World) (h1 : a.length ≤ 3000) (h2 : b.length ≤ 3000) (h : ¬ (parseL a).2.2 = 0) : Calls Try.prog 5 #[str a, str b] w fun e w' => e = .returned (.bool true) ∧ Below w.heap.size w w' := by
  have hsa : (tx a).size = a.length := by simp [tx, ByteArray.size]
  have hsb : (tx b).size = b.length := by simp [tx, ByteArray.size]
  obtain ⟨c1, c2, c3⟩ := cut (by omega) h
  have Q1 := Lib.hid (parse_any a w)
  unfold PaAt at Q1
  generalize (parseL a).2.1 = p at *
  generalize (parseL a).2.2 = c at *
  have hc0 : ¬ ((c : Nat) : Int) = 0 := by omega
  have hp0 : (0 : Int) ≤ (p : Int) := Int.natCast_nonneg _
  have hpa : (p : Int) ≤ (a.length : Int) := by omega
  have HC3 := Lib.hid c3
  clear h c3
  go_enter Try.func5, Try.ntmps5
  go_wp2_with (go_at_call 16; refine (Q1.out).mono ?_)
  rintro e w2 ⟨⟨v2, F2, rfl, hs2, _⟩, hb2⟩
  have HB2 := Lib.hid hb2
  have Q2 := Lib.hid (parse_any (a.take p) w2)
  have hxt : (tx a).extract 0 p = tx (a.take p) := tx_take a p
  clear hb2 hs2
  by_cases h31 : c = 31
  · have hp : p = a.length := c2.1 h31
    have e1 : ((c : Int) == 31) = true := by rw [beq_iff_eq]; omega
    have e2 : ((p : Int) == (a.length : Int)) = true := by rw [beq_iff_eq]; omega
    clear c1 c2 h31 hp
    go_wp2_with (go_at_call 16; refine (Q2.out).mono ?_)
    rintro e w3 ⟨⟨v3, F3, rfl, _, _⟩, hb3⟩
    have HB3 := Lib.hid (HB2.out.trans (hb3.mono HB2.out.size))
    have HRD := Lib.hid (reads_any w3)
    clear hb3 hxt Q2
    generalize (parseL (a.take p)).2.2 = c3 at *
    generalize (parseL (a.take p)).2.1 = p3 at *
    rcases HC3.out with h0 | ⟨h0, hp3⟩
    · have e3 : ((c3 : Int) == 0) = true := by rw [beq_iff_eq]; omega
      clear h0
      go_wp2_with (go_at_call 15; refine (HRD.out).mono ?_)
      first | rintro e w4 rfl hb4 | rintro e w4 ⟨rfl, hb4⟩
      have HB4 := Lib.hid (HB3.out.trans (hb4.mono HB3.out.size))
      clear hb4
      go_wp2
      go_ret
      exact ⟨rfl, HB4.out⟩
    · have e3 : ((c3 : Int) == 0) = false := by rw [beq_eq_false_iff_ne]; omega
      have e4 : ((c3 : Int) == 31) = true := by rw [beq_iff_eq]; omega
      have e5 : ((p3 : Int) == (p : Int)) = true := by rw [beq_iff_eq]; omega
      clear h0 hp3
      go_wp2_with (go_at_call 15; refine (HRD.out).mono ?_)
      first | rintro e w4 rfl hb4 | rintro e w4 ⟨rfl, hb4⟩
      have HB4 := Lib.hid (HB3.out.trans (hb4.mono HB3.out.size))
      clear hb4
      go_wp2
      go_ret
      exact ⟨rfl, HB4.out⟩
  · have hp : ¬ p = a.length := fun e => h31 (c2.2 e)
    have e1 : ((c : Int) == 31) = false := by rw [beq_eq_false_iff_ne]; omega
    have e2 : ((p : Int) == (a.length : Int)) = false := by rw [beq_eq_false_iff_ne]; omega
    clear c1 c2 h31 hp
    go_wp2_with (go_at_call 16; refine (Q2.out).mono ?_)
    rintro e w3 ⟨⟨v3, F3, rfl, _, _⟩, hb3⟩
    have HB3 := Lib.hid (HB2.out.trans (hb3.mono HB2.out.size))
    have HRD := Lib.hid (reads_any w3)
    clear hb3 hxt Q2
    generalize (parseL (a.take p)).2.2 = c3 at *
    generalize (parseL (a.take p)).2.1 = p3 at *
    rcases HC3.out with h0 | ⟨h0, hp3⟩
    · have e3 : ((c3 : Int) == 0) = true := by rw [beq_iff_eq]; omega
      clear h0
      go_wp2_with (go_at_call 15; refine (HRD.out).mono ?_)
      first | rintro e w4 rfl hb4 | rintro e w4 ⟨rfl, hb4⟩
      have HB4 := Lib.hid (HB3.out.trans (hb4.mono HB3.out.size))
      clear hb4
      go_wp2
      go_ret
      exact ⟨rfl, HB4.out⟩
    · have e3 : ((c3 : Int) == 0) = false := by rw [beq_eq_false_iff_ne]; omega
      have e4 : ((c3 : Int) == 31) = true := by rw [beq_iff_eq]; omega
      have e5 : ((p3 : Int) == (p : Int)) = true := by rw [beq_iff_eq]; omega
      clear h0 hp3
      go_wp2_with (go_at_call 15; refine (HRD.out).mono ?_)
      first | rintro e w4 rfl hb4 | rintro e w4 ⟨rfl, hb4⟩
      have HB4 := Lib.hid (HB3.out.trans (hb4.mono HB3.out.size))
      clear hb4
      go_wp2
      go_ret
      exact ⟨rfl, HB4.out⟩
theorem own_appF {wx wy w' : World} {F : Nat → Prop} {la lb : List Sg} {v v' : Value} {xs ym : List Value} (hs : OwO wx.heap.size F la v wy) (hxs : wy.ownsRow wx.heap.size 37 2 v la.length xs) (hxc : SgC wy F la xs) (hb : Below wx.heap.size wx wy) (hmc : SgC wx (· < wx.heap.size) lb ym)
    (h : w'.ownsRow wx.heap.size 37 2 v' (la.length + lb.length) (xs ++ ym)) (hg : wy.grownBy w' v.ownBlock) : SegsF w' (· < w'.heap.size) v' (la ++ lb) := by
  have hw : Below wx.heap.size wx w' := hb.grown hg hb.size (fun k hk => (hxs.lt k hk).1)
  refine ⟨xs ++ ym, row_own (by rw [List.length_append]; exact h) (fun b e => (h.lt b e).2), SgC.app (hmc.kept (fun b (hb2 : b < wx.heap.size) => ⟨Nat.lt_of_lt_of_le hb2 hw.size, hw.block b hb2⟩)) (hxc.kept (fun b hF => ⟨by have := (hs.fz b hF).2.1; have := hg.size; show b < _; omega, hg.block b (hs.fz b hF).2.1 (Ne.symm (hs.fz b hF).2.2)⟩))⟩
theorem wl_appFg {ops : Array Oper} {rest : List Oper} {a : Act} {w : World} {Q : Exit → Act → World → Prop} {dst : Tmp} {s x : Operand} {typ : TypeId} {pos : String} {after : Array Edge} {gd : Option (Nat × Bool)}
    (t e : TypeId) (z : Value) (size bytes : Nat) (hpar : (Try.prog.info? e).map (fun i => (i.zero, i.size, i.bytes)) = some (some z, size, bytes)) (ht : Try.prog.underlying t = some (.slice e)) (hzs : z.cells.size = size) (hsz : 0 < size) (hby : bytes ≤ 100)
    (base : Nat) (v : Value) (n : Nat) (xs : List Value) (hown : w.ownsRow base e size v n xs) (u : Value) (F : Nat → Prop) (m : Nat) (news : List Value) (hsrc : RowF w F u m news) (hl : news.length = m * size) (h1 : ∀ u ∈ news, u.oneCell' = true) (hn : n + m ≤ 1000000000) (hbase : base ≤ w.heap.size)
    (hw : Region.wanted ⟨some dst, .call { callee := .builtin .append, args := #[s, x], argTypes := #[t, t] }, typ, pos, after, gd⟩ (yielded ops a.tmps) = true) (hs : a.eval s = v) (hx : a.eval x = u)
    (h : ∀ v' w', w'.ownsRow base e size v' (n + m) (xs ++ news) → w.grownBy w' v.ownBlock → (v'.ownBlock = v.ownBlock ∨ v'.ownBlock = some w.heap.size) → wpList Try.prog ops Q rest (a.put (some dst) v') w') :
    wpList Try.prog ops Q (⟨some dst, .call { callee := .builtin .append, args := #[s, x], argTypes := #[t, t] }, typ, pos, after, gd⟩ :: rest) a w :=
  BigFrame.wpList_want hw fun _ hK => st_appF t e z size bytes hpar ht hzs hsz hby base v n xs hs hown u F m news hx hsrc hl h1 hn hbase (fun v' w' h2 h3 h5 => hK _ _ (h v' w' h2 h3 h5))
theorem sane_app {a b : List Sg} (ha : sane a) (hb : sane b) (hl : (a ++ b).length ≤ 1000000000000) : sane (a ++ b) :=
  ⟨hl, fun s hs => (List.mem_append.1 hs).elim (ha.2 s) (hb.2 s)⟩
theorem hrow_later {w w' : World} {v : Value} {n : Nat} {xs : List Value} (h : RowF w (· < w.heap.size) v n xs) (hb : Below w.heap.size w w') : RowF w' (· < w'.heap.size) v n xs := h.kept (old_kept hb (Nat.le_refl _))
set_option maxRecDepth 100000 in
set_option maxHeartbeats 6400000 in
theorem cuts_good (a b : Tx) (w : World) (h1 : a.length ≤ 3000) (h2 : b.length ≤ 3000) (h : (parseL a).2.2 = 0) : Calls Try.prog 5 #[str a, str b] w fun e w' => e = .returned (.bool true) ∧ Below w.heap.size w w' := by
  have hsa : (tx a).size = a.length := by simp [tx, ByteArray.size]
  have hsb : (tx b).size = b.length := by simp [tx, ByteArray.size]
  have Q1 := Lib.hid (parse_any a w)
  unfold PaAt at Q1
  rw [h] at Q1
  have HOK := Lib.hid h
  clear h
  go_enter Try.func5, Try.ntmps5
  go_wp2_with (go_at_call 16; refine (Q1.out).mono ?_)
  rintro e w2 ⟨⟨v2, F2, rfl, hs2, hF2⟩, hb2⟩
  have HS2 := Lib.hid (hs2.kept (F' := (· < w2.heap.size)) (fun b hb => ⟨(hF2 b hb).2, rfl⟩))
  obtain ⟨p2, cap2, rfl⟩ := segs_slice hs2
  have HB2 := Lib.hid hb2
  have Q2 := Lib.hid (parse_any b w2)
  clear hb2 hs2 hF2
  go_wp2_with (go_at_call 16; refine (Q2.out).mono ?_)
  rintro e w3 ⟨⟨v3, F3, rfl, hs3, hF3⟩, hb3⟩
  have HS3 := Lib.hid (hs3.kept (F' := (· < w3.heap.size)) (fun b hb => ⟨(hF3 b hb).2, rfl⟩))
  obtain ⟨p3, cap3, rfl⟩ := segs_slice hs3
  have HB3 := Lib.hid (HB2.out.trans (hb3.mono HB2.out.size))
  have HS2' := Lib.hid (HS2.out.later hb3)
  clear hs3 hF3 hb3 Q1 Q2
  by_cases hbk : (((parseL b).2.2 : Nat) : Int) = 0
  · have hla : (parseL a).1.length ≤ 1000 := (small_parse a).1
    have hlb : (parseL b).1.length ≤ 1000 := (small_parse b).1
    by_cases h64 : (64 : Int) < ((parseL a).1.length : Int) + ((parseL b).1.length : Int)
    · have HRD := Lib.hid (reads_any w3)
      go_wp2_with (go_at_call 15; refine (HRD.out).mono ?_)
      first | rintro e w4 rfl hb4 | rintro e w4 ⟨rfl, hb4⟩
      have HB4 := Lib.hid (HB3.out.trans (hb4.mono HB3.out.size))
      clear hb4
      go_wp2
      go_ret
      exact ⟨rfl, HB4.out⟩
    · have HPA := Lib.hid (parse_app HOK.out (by omega : (parseL b).2.2 = 0) (by omega) (by omega))
      have Q4 := Lib.hid (parse_any (a ++ b) w3)
      unfold PaAt at Q4
      rw [HPA.out] at Q4
      have HSA := Lib.hid (small_parse a)
      have HNA := Lib.hid (sane_parse a)
      have HNB := Lib.hid (sane_parse b)
      clear HPA
      have HHD := Lib.hid (parse_head (b := b) (by omega))
      clear HOK
      generalize (parseL a).1 = la at *
      generalize (parseL b).1 = lb at *
      have hap : tx a ++ tx b = tx (a ++ b) := tx_app a b
      have b2 : ¬ 9223372036854775807 < (tx a).size + (tx b).size := by omega
      by_cases hb0 : 0 < b.length
      · have hi0 : 0 < (tx b).size := by omega
        have hne : ((((tx b)[0]'hi0).toNat : Int) == 10) = false := by
          rw [beq_eq_false_iff_ne]
          exact fun e => HHD.out hb0 ((eq8' 10 _).2 e)
        have hb0' : (0 : Int) < (b.length : Int) := by omega
        go_wp2_with (go_at_call 16; refine (Q4.out).mono ?_)
        rintro e w4 ⟨⟨v4, F4, rfl, hs4, hF4⟩, hb4⟩
        have HS4 := Lib.hid (hs4.kept (F' := (· < w4.heap.size)) (fun b hb => ⟨(hF4 b hb).2, rfl⟩))
        obtain ⟨p4, cap4, e4⟩ := segs_slice hs4
        rw [List.length_append] at e4
        subst e4
        have HB4 := Lib.hid (HB3.out.trans (hb4.mono HB3.out.size))
        have HO := Lib.hid (own_any la _ w4 (HS2'.out.later hb4) HSA.out)
        obtain ⟨ym, hrow4, hyc4⟩ := HS3.out.later hb4
        have HRW := Lib.hid hrow4
        have HYC := Lib.hid hyc4
        clear hs4 hF4 hb4 Q4 hap b2 hrow4 hyc4
        go_wp2_with (go_at_call 11; refine (HO.out).mono ?_)
        rintro e w5 ⟨⟨v5, F5, rfl, ho5⟩, hb5⟩
        obtain ⟨xs5, hx5, hc5⟩ := ho5.out
        obtain ⟨p5, cap5, rfl⟩ := own_slice hx5
        have HRW5 := Lib.hid (hrow_later HRW.out hb5)
        have HX5 := Lib.hid hx5
        have HC5 := Lib.hid hc5
        have HO5 := Lib.hid ho5
        have HB5w := Lib.hid hb5
        have HB5 := Lib.hid (HB4.out.trans (hb5.mono HB4.out.size))
        clear hx5 hc5 ho5 hb5 HO
        have HLEN := Lib.hid (HYC.out.len)
        go_wp2_with (refine wl_appFg 22 37 (.agg #[.string ⟨#[]⟩, .slice none 0 0]) 2 40 par_seg Try.underlying22 rfl (by decide) (by decide) w4.heap.size (.slice p5 la.length cap5) la.length xs5 HX5.out (.slice p3 lb.length cap3) _ lb.length ym HRW5.out HLEN.out (one_sgc HYC.out) (by omega) HB5w.out.size rfl rfl rfl ?_)
        intro v6 w6 ho6 hg6 _
        obtain ⟨p6, cap6, rfl⟩ := own_slice ho6
        have HS6 := Lib.hid (own_appF HO5.out HX5.out HC5.out HB5w.out HYC.out ho6 hg6)
        have hbw : Below w4.heap.size w4 w6 := HB5w.out.grown hg6 HB5w.out.size (fun k hk => (HX5.out.lt k hk).1)
        have HB6 := Lib.hid (HB4.out.trans (hbw.mono HB4.out.size))
        have HSM := Lib.hid (same_any (la ++ lb) _ _ w6 (HS4.out.later hbw) HS6.out (sane_app HNA.out HNB.out (by rw [List.length_append]; omega)))
        clear ho6 hg6 hbw HX5 HC5 HO5 HB5w HRW5 HRW HYC
        go_wp2_with (go_at_call 14; refine (HSM.out).mono ?_)
        first | rintro e w7 rfl hb7 | rintro e w7 ⟨rfl, hb7⟩
        have HB7 := Lib.hid (HB6.out.trans (hb7.mono HB6.out.size))
        have HRD := Lib.hid (reads_any w7)
        clear hb7
        go_wp2_with (go_at_call 15; refine (HRD.out).mono ?_)
        first | rintro e w8 rfl hb8 | rintro e w8 ⟨rfl, hb8⟩
        have HB8 := Lib.hid (HB7.out.trans (hb8.mono HB7.out.size))
        clear hb8
        go_wp2
        go_ret
        exact ⟨rfl, HB8.out⟩
      · have hb0' : ¬ (0 : Int) < (b.length : Int) := by omega
        clear hb0
        go_wp2_with (go_at_call 16; refine (Q4.out).mono ?_)
        rintro e w4 ⟨⟨v4, F4, rfl, hs4, hF4⟩, hb4⟩
        have HS4 := Lib.hid (hs4.kept (F' := (· < w4.heap.size)) (fun b hb => ⟨(hF4 b hb).2, rfl⟩))
        obtain ⟨p4, cap4, e4⟩ := segs_slice hs4
        rw [List.length_append] at e4
        subst e4
        have HB4 := Lib.hid (HB3.out.trans (hb4.mono HB3.out.size))
        have HO := Lib.hid (own_any la _ w4 (HS2'.out.later hb4) HSA.out)
        obtain ⟨ym, hrow4, hyc4⟩ := HS3.out.later hb4
        have HRW := Lib.hid hrow4
        have HYC := Lib.hid hyc4
        clear hs4 hF4 hb4 Q4 hap b2 hrow4 hyc4
        go_wp2_with (go_at_call 11; refine (HO.out).mono ?_)
        rintro e w5 ⟨⟨v5, F5, rfl, ho5⟩, hb5⟩
        obtain ⟨xs5, hx5, hc5⟩ := ho5.out
        obtain ⟨p5, cap5, rfl⟩ := own_slice hx5
        have HRW5 := Lib.hid (hrow_later HRW.out hb5)
        have HX5 := Lib.hid hx5
        have HC5 := Lib.hid hc5
        have HO5 := Lib.hid ho5
        have HB5w := Lib.hid hb5
        have HB5 := Lib.hid (HB4.out.trans (hb5.mono HB4.out.size))
        clear hx5 hc5 ho5 hb5 HO
        have HLEN := Lib.hid (HYC.out.len)
        go_wp2_with (refine wl_appFg 22 37 (.agg #[.string ⟨#[]⟩, .slice none 0 0]) 2 40 par_seg Try.underlying22 rfl (by decide) (by decide) w4.heap.size (.slice p5 la.length cap5) la.length xs5 HX5.out (.slice p3 lb.length cap3) _ lb.length ym HRW5.out HLEN.out (one_sgc HYC.out) (by omega) HB5w.out.size rfl rfl rfl ?_)
        intro v6 w6 ho6 hg6 _
        obtain ⟨p6, cap6, rfl⟩ := own_slice ho6
        have HS6 := Lib.hid (own_appF HO5.out HX5.out HC5.out HB5w.out HYC.out ho6 hg6)
        have hbw : Below w4.heap.size w4 w6 := HB5w.out.grown hg6 HB5w.out.size (fun k hk => (HX5.out.lt k hk).1)
        have HB6 := Lib.hid (HB4.out.trans (hbw.mono HB4.out.size))
        have HSM := Lib.hid (same_any (la ++ lb) _ _ w6 (HS4.out.later hbw) HS6.out (sane_app HNA.out HNB.out (by rw [List.length_append]; omega)))
        clear ho6 hg6 hbw HX5 HC5 HO5 HB5w HRW5 HRW HYC
        go_wp2_with (go_at_call 14; refine (HSM.out).mono ?_)
        first | rintro e w7 rfl hb7 | rintro e w7 ⟨rfl, hb7⟩
        have HB7 := Lib.hid (HB6.out.trans (hb7.mono HB6.out.size))
        have HRD := Lib.hid (reads_any w7)
        clear hb7
        go_wp2_with (go_at_call 15; refine (HRD.out).mono ?_)
        first | rintro e w8 rfl hb8 | rintro e w8 ⟨rfl, hb8⟩
        have HB8 := Lib.hid (HB7.out.trans (hb8.mono HB7.out.size))
        clear hb8
        go_wp2
        go_ret
        exact ⟨rfl, HB8.out⟩
  · have HRD := Lib.hid (reads_any w3)
    go_wp2_with (go_at_call 15; refine (HRD.out).mono ?_)
    first | rintro e w4 rfl hb4 | rintro e w4 ⟨rfl, hb4⟩
    have HB4 := Lib.hid (HB3.out.trans (hb4.mono HB3.out.size))
    clear hb4
    go_wp2
    go_ret
    exact ⟨rfl, HB4.out⟩
set_option maxRecDepth 100000 in
set_option maxHeartbeats 1600000 in
theorem cuts_walk (a b : Tx) (w : World) : Calls Try.prog 5 #[str a, str b] w fun e w' => e = .returned (.bool true) ∧ Below w.heap.size w w' := by
  by_cases h1 : a.length ≤ 3000
  · by_cases h2 : b.length ≤ 3000
    · by_cases h : (parseL a).2.2 = 0
      · exact cuts_good a b w h1 h2 h
      · exact cuts_bad a b w h1 h2 h
    · have hsa : (tx a).size = a.length := by simp [tx, ByteArray.size]
      have hsb : (tx b).size = b.length := by simp [tx, ByteArray.size]
      go_enter Try.func5, Try.ntmps5
      go_wp2
      go_ret
      exact ⟨rfl, Below.refl _ _⟩
  · have hsa : (tx a).size = a.length := by simp [tx, ByteArray.size]
    have hsb : (tx b).size = b.length := by simp [tx, ByteArray.size]
    go_enter Try.func5, Try.ntmps5
    go_wp2
    go_ret
    exact ⟨rfl, Below.refl _ _⟩
end Go.Proofs.Ytihcpoigfhnceaa
