/- SealForged's walk. -/
import Derived.Test.YtklhppkmoddmkabGreatDoorSeT
/- The errors that msg's Parse may tell (no walk). -/
namespace Go.Proofs.YtklhppkmoddmkabGreatDoor
open Go.RowKit Go.Edi Go.Wrap

theorem add_le (s : RS) (c : UInt8) : (Go.Edi.add s c).1 ≤ 31 := by
  unfold Go.Edi.add
  split
  · simp
  · split <;> simp
theorem step_le (s : RS) (c : UInt8) : (Go.Edi.step s c).1 ≤ 31 := by
  have h1 : ∀ s : RS, (beginElem s).1 ≤ 31 := fun s => by unfold beginElem; split <;> simp
  have h2 : ∀ s : RS, (nextComp s).1 ≤ 31 := fun s => by unfold nextComp; split <;> simp
  have h3 : ∀ (s : RS) (c : UInt8), (inTag s c).1 ≤ 31 := fun s c => by
    by_cases ht : tgc c
    · unfold inTag
      rw [if_pos ht]
      split <;> simp
    · unfold inTag
      rw [if_neg ht]
      simp
  unfold Go.Edi.step
  split
  · unfold outS
    split
    · simp
    · split
      · simp
      · exact h3 _ _
  · exact h3 _ _
  · unfold behTag
    split
    · exact h1 _
    · split <;> simp
  · unfold inComp
    split
    · exact h1 _
    · split
      · exact h2 _
      · split
        · simp
        · split
          · simp
          · exact add_le _ _
  · unfold behMark
    split
    · exact add_le _ _
    · simp
theorem runL_le : ∀ (t : Tx) (s : RS) (i : Nat), (runL s i t).2.1 ≤ 31
  | [], s, i => by simp [runL]
  | c :: t, s, i => by
    unfold runL
    split
    · exact runL_le t _ _
    · exact step_le s c
theorem parse_le (t : Tx) : (parseL t).2.2 ≤ 31 := by
  unfold parseL
  split
  · simp
  · split
    · split <;> simp
    · exact runL_le _ _ _
theorem open_le (l : List Sg) : (openL l).2 ≤ 42 := by
  unfold openL
  repeat' split
  all_goals simp
theorem wparse_le (t : Tx) : (wparseL t).2 ≤ 42 := by
  unfold wparseL
  split
  · exact open_le _
  · have := parse_le t; simp only; omega
theorem nparse_le (l : Tx) : (Number.parseL l).2.2 ≤ 90 := by
  unfold Number.parseL
  repeat' split
  all_goals simp
theorem key_le (m : Ms) (s : Sg) : (keyOf' m s).2 ≤ 101 := by
  unfold keyOf'
  split
  · split
    · split
      · split <;> simp
      · simp
    · rename_i a b _ _
      have := nparse_le a
      simp only
      omega
  · simp
theorem readMs_le (m : Ms) (s : Sg) (b : List Sg) : (readMs m s b).2 ≤ 101 := by
  unfold readMs
  split
  · simp
  · split
    · simp
    · split
      · split <;> simp
      · rename_i e he
        exact Nat.le_trans (Nat.le_of_eq (congrArg Prod.snd he).symm) (key_le _ _)
theorem pack_le (x : Wr) : (packL x).2 ≤ 101 := by
  unfold packL
  split
  · simp
  · split
    · simp
    · rename_i s r _
      have hk := readMs_le .zero s r
      split
      · split
        · split <;> simp
        · simp
      · split
        · simp
        · rename_i e he
          rw [he] at hk
          exact hk
theorem mparse_le (t : Tx) : (mparseL t).2 ≤ 101 := by
  unfold mparseL
  split
  · exact pack_le _
  · have := wparse_le t; simp only; omega
/-- what Open answers, as to its errors -/
theorem openD_err {n : Nat} {K : Nat → Nat → Option Tx} {t : Nat} {text s : Tx} (h : anyB n K t text (bn s) = true) :
    (openD n K t text s).2 = 0 ∨ ((openD n K t text s).1 = .zero ∧ (openD n K t text s).2 ≠ 0 ∧ (openD n K t text s).2 ≠ 110) := by
  unfold openD
  rw [h, if_pos rfl]
  have hm := mparse_le text
  split
  · split
    · exact .inl rfl
    · exact .inr ⟨rfl, by simp, by simp⟩
  · rename_i h0
    exact .inr ⟨rfl, h0, by simp only; omega⟩
end Go.Proofs.YtklhppkmoddmkabGreatDoor
namespace Go.Proofs.YtklhppkmoddmkabGreatDoor
open Go.RowKit Go.Edi Go.Wrap Go.Lib
open Go.Sha (bv zl at0)

attribute [local go_sem high, local simp high] z25s
set_option maxRecDepth 100000 in
theorem open_any (rb mb n c t : Nat) (K : Nat → Nat → Option Tx) (l : Tx) (bp : Option Addr) (bc : Nat) (F : Nat → Prop) (B : Nat) (w : World) (hr : RgAt rb mb n c K w) (hn : n ≤ 8) (ht : t < 256)
    (hlen : ∀ f t key, K f t = some key → key.length ≤ 64) (hv : BysF w F (.slice bp l.length bc) l) (hF : ∀ b, F b → b < w.heap.size) (hl : l.length ≤ 1000000) (he : Ev B w) (hB : B ≤ w.heap.size) :
    Calls Tryz.prog 8 #[.pointer (some ⟨rb, 0, none⟩), .int .u8 (t : Int), .slice bp l.length bc] w (PackP (openR n K t l) w) := by
  unfold openR
  by_cases h1 : n ≤ t
  · rw [if_pos h1]
    exact open_few rb mb n c t K l.length bp bc w 1 (.inl ⟨h1, rfl⟩) hr ht
  · rw [if_neg h1]
    by_cases h2 : l.length < 32
    · rw [if_pos h2]
      exact open_few rb mb n c t K l.length bp bc w 110 (.inr ⟨by omega, h2, rfl⟩) hr ht
    · rw [if_neg h2]
      have e : ltext l ++ lmac l = l := List.take_append_drop _ _
      refine open_full rb mb n c t K (ltext l) (lmac l) _ F B w ?_ hr hn (by omega) hlen (by rw [e]; exact hv) hF ?_ he hB
      · unfold lmac; rw [List.length_drop]; omega
      · unfold ltext; rw [List.length_take]; omega
theorem at0_ext {a b : List Nat} (h : a.length = b.length) (hh : ∀ j, j < a.length → at0 a j = at0 b j) : a = b := by
  apply List.ext_getElem h
  intro j h1 h2
  have := hh j h1
  unfold at0 at this
  rw [List.getD_eq_getElem?_getD, List.getD_eq_getElem?_getD, List.getElem?_eq_getElem h1, List.getElem?_eq_getElem h2] at this
  exact this
set_option maxRecDepth 100000 in
set_option maxHeartbeats 3200000 in
theorem seforged_bad (n0 : Int) (M N tu : Nat) (mp lp : Option Addr) (mc lc B : Nat) (w : World) (he : Ev B w) (hB : B ≤ w.heap.size) (h : n0 < 2 ∨ 8 < n0 ∨ 60 < M ∨ 2000 < N) :
    Calls Tryz.prog 3 #[.int .i64 n0, .slice mp M mc, .slice lp N lc, .int .u8 (tu : Int)] w fun e w' => e = .returned (.bool true) ∧ Below w.heap.size w w' := by
  have HWK := Lib.hid (show ∀ wz, Below w.heap.size w wz → Calls Tryz.prog 5 #[] wz fun e w' => e = .returned (.bool true) ∧ Below wz.heap.size wz w' from fun wz hz => sewakes_any B wz (he.on (hz.mono hB)) (Nat.le_trans hB hz.size))
  have HB0 := Lib.hid (Below.refl w.heap.size w)
  clear he hB
  by_cases h1 : n0 < 2
  · clear h
    go_enter Tryz.func3, Tryz.ntmps3
    go_wp2_with (go_at_call 5; refine (HWK.out _ HB0.out).mono ?_; rintro e wk ⟨rfl, hbk⟩; have HBK := Lib.hid (HB0.out.trans (hbk.mono HB0.out.size)); clear hbk)
    go_ret
    exact ⟨rfl, HBK.out⟩
  · by_cases h2 : 8 < n0
    · clear h
      go_enter Tryz.func3, Tryz.ntmps3
      go_wp2_with (go_at_call 5; refine (HWK.out _ HB0.out).mono ?_; rintro e wk ⟨rfl, hbk⟩; have HBK := Lib.hid (HB0.out.trans (hbk.mono HB0.out.size)); clear hbk)
      go_ret
      exact ⟨rfl, HBK.out⟩
    · by_cases h3 : 60 < (M : Int)
      · clear h
        go_enter Tryz.func3, Tryz.ntmps3
        go_wp2_with (go_at_call 5; refine (HWK.out _ HB0.out).mono ?_; rintro e wk ⟨rfl, hbk⟩; have HBK := Lib.hid (HB0.out.trans (hbk.mono HB0.out.size)); clear hbk)
        go_ret
        exact ⟨rfl, HBK.out⟩
      · have h4 : 2000 < (N : Int) := by omega
        clear h
        go_enter Tryz.func3, Tryz.ntmps3
        go_wp2_with (go_at_call 5; refine (HWK.out _ HB0.out).mono ?_; rintro e wk ⟨rfl, hbk⟩; have HBK := Lib.hid (HB0.out.trans (hbk.mono HB0.out.size)); clear hbk)
        go_ret
        exact ⟨rfl, HBK.out⟩
set_option maxRecDepth 100000 in
set_option maxHeartbeats 6400000 in
theorem seforged_good (n : Nat) (more l : Tx) (mp lp : Option Addr) (mc lc tu B : Nat) (w : World) (he : Ev B w) (hB : B ≤ w.heap.size) (h2 : 2 ≤ n) (h8 : n ≤ 8) (hm : more.length ≤ 60) (hl : l.length ≤ 2000) (ht : tu < 256)
    (hv : BysF w (· < w.heap.size) (.slice mp more.length mc) more) (hb : BysF w (· < w.heap.size) (.slice lp l.length lc) l) :
    Calls Tryz.prog 3 #[.int .i64 (n : Int), .slice mp more.length mc, .slice lp l.length lc, .int .u8 (tu : Int)] w fun e w' => e = .returned (.bool true) ∧ Below w.heap.size w w' := by
  have HEV := Lib.hid (show ∀ wz, Below w.heap.size w wz → Ev B wz ∧ B ≤ wz.heap.size from fun wz hz => ⟨he.on (hz.mono hB), Nat.le_trans hB hz.size⟩)
  have HWK := Lib.hid (show ∀ wz, Below w.heap.size w wz → Calls Tryz.prog 5 #[] wz fun e w' => e = .returned (.bool true) ∧ Below wz.heap.size wz w' from fun wz hz => sewakes_any B wz (he.on (hz.mono hB)) (Nat.le_trans hB hz.size))
  have HV := Lib.hid (vk_kkp (n := n) (more := more) h2 h8 (by omega))
  obtain ⟨M, hM⟩ : ∃ M, M = more.length := ⟨_, rfl⟩
  obtain ⟨N, hN⟩ : ∃ N, N = l.length := ⟨_, rfl⟩
  rw [← hM] at hv ⊢
  rw [← hN] at hb ⊢
  have HKY := Lib.hid (show ∀ wz, Below w.heap.size w wz → Calls Tryz.prog 7 #[.int .i64 (n : Int), .slice mp M mc] wz fun e w' => ∃ u, e = .returned u ∧ KyF w' (fun b => wz.heap.size ≤ b ∧ b < w'.heap.size) u (KKp n n more) ∧ Below wz.heap.size wz w' from
    fun wz hz => keys_any n more (.slice mp M mc) (· < w.heap.size) wz h8 (hv.kept (fun b hb => ⟨hb, hz.block b hb⟩)) (fun b hb => Nat.lt_of_lt_of_le hb hz.size) (by omega))
  have HBY := Lib.hid (show ∀ wz, Below w.heap.size w wz → BysF wz (· < w.heap.size) (.slice lp N lc) l from fun wz hz => hb.kept (fun b hb => ⟨hb, hz.block b hb⟩))
  have hM60 : (M : Int) ≤ 60 := by omega
  have hN2k : (N : Int) ≤ 2000 := by omega
  have h2i : 2 ≤ (n : Int) := by omega
  have h8i : (n : Int) ≤ 8 := by omega
  have HN := Lib.hid (And.intro h2 (And.intro h8 (And.intro ht (And.intro hN (And.intro hl (And.intro hM hm))))))
  have htu0 : (0 : Int) ≤ (tu : Int) := Int.natCast_nonneg _
  have hwt : IntKind.i64.wrap (tu : Int) = (tu : Int) := by rw [IntKind.wrap_i64]; omega
  clear he hB hv hb hm hM hl hN ht h2 h8
  go_enter Tryz.func3, Tryz.ntmps3
  go_wp2_with fail
  go_at_call 7
  refine (HKY.out w (Below.refl _ _)).mono ?_
  rintro e w1 ⟨u, rfl, hk1, hb1⟩
  have HB1 := Lib.hid hb1
  have hnew := new_any (KKp n n more) u _ w1 HV.out hk1 (fun b hb => hb.2)
  rw [KKp_len] at hnew
  have HNW := Lib.hid hnew
  clear hk1 hb1 hnew
  go_wp2_with fail
  go_at_call 6
  refine (HNW.out).mono ?_
  rintro e w2 ⟨rfl, hr2, hb2⟩
  have HB2 := Lib.hid (HB1.out.trans (hb2.mono HB1.out.size))
  obtain ⟨rb, hrb⟩ : ∃ rb, rb = w1.heap.size + 1 := ⟨_, rfl⟩
  rw [← hrb] at hr2 ⊢
  obtain ⟨mb, hmb⟩ : ∃ mb, mb = w1.heap.size := ⟨_, rfl⟩
  rw [← hmb] at hr2
  have HRG := Lib.hid hr2
  obtain ⟨K, hK⟩ : ∃ K, K = Kpt (KKp n n more) n 0 := ⟨_, rfl⟩
  rw [← hK] at HRG
  have hlen : ∀ f t key, K f t = some key → key.length ≤ 64 := fun f t key h => kpt_le HV.out (by rw [KKp_len, ← hK]; exact h)
  have HLN := Lib.hid hlen
  have HKD := Lib.hid (show ∀ i, i < n → K i tu = if tu < n ∧ i ≠ tu then some (keyW i tu more) else none from fun i hi => by
    rw [hK]
    unfold Kpt
    rw [KKp_len]
    by_cases hc : tu < n ∧ i ≠ tu
    · rw [if_pos ⟨.inl hi, hc⟩, if_pos hc, kyAt_kkp more hi hc.1]
    · rw [if_neg (fun h => hc h.2), if_neg hc])
  clear hr2 hb2 hrb hlen hmb hK
  have HSR := Lib.hid (HBY.out w2 HB2.out)
  go_wp2_with (at_builtin; refine wl_appF 22 5 (.int .u8 0) 1 1 par_u8 Tryz.underlying22 rfl (by decide) (by decide) w2.heap.size (.slice none 0 0) 0 [] rfl (World.ownsRow_nil _ _ _ _) (.slice lp N lc) (· < w.heap.size) N (Lib.byteCells l) rfl (by have := HSR.out; unfold BysF at this; rw [← HN.out.2.2.2.1] at this; exact this) (by rw [Lib.byteCells_length, HN.out.2.2.2.1, Nat.mul_one]) (one_bys _) (by omega) (Nat.le_refl _) ?_)
  intro v3 w3 ho3 hg3 _
  rw [Nat.zero_add, List.nil_append] at ho3
  obtain ⟨p3, c3, rfl⟩ := own_slice ho3
  have HB23 := Lib.hid (show Below w2.heap.size w2 w3 from (Below.refl _ _).grown hg3 (Nat.le_refl _) (fun b e => by cases e))
  have HB3 := Lib.hid (HB2.out.trans (HB23.out.mono HB2.out.size))
  have HOA := Lib.hid (show Calls Tryz.prog 8 #[.pointer (some ⟨rb, 0, none⟩), .int .u8 (tu : Int), .slice p3 N c3] w3 (PackP (openR n K tu l) w3) from by
    have h := row_own ho3 (F := fun b => b < w3.heap.size) (fun b e => (ho3.lt b e).2)
    have e := HN.out.2.2.2.1
    rw [e] at h ⊢
    exact open_any rb mb n _ tu K l p3 c3 (fun b => b < w3.heap.size) B w3 (HRG.out.later HB23.out) HN.out.2.1 HN.out.2.2.1 HLN.out h (fun b hb => hb) (by have := HN.out; omega) (HEV.out _ HB3.out).1 (HEV.out _ HB3.out).2)
  clear ho3 hg3
  obtain ⟨R, hR⟩ : ∃ R, R = openR n K tu l := ⟨_, rfl⟩
  rw [← hR] at HOA
  have HRR := Lib.hid hR
  unfold PackP at HOA
  obtain ⟨q, E⟩ := R
  dsimp only at HOA
  clear hR
  go_wp2_with fail
  go_at_call 8
  refine (HOA.out).mono ?_
  rintro e w4 ⟨rfl, hb4⟩
  have HB4 := Lib.hid (HB3.out.trans (hb4.mono HB3.out.size))
  have hd4 : (w4.alloc (.cells pk0 45)).heap[w4.heap.size]? = some (.cells pk0 45 (0, 0)) := at_last _ _
  have HD4 := Lib.hid hd4
  obtain ⟨w5, hw5⟩ : ∃ w5, w5 = (w4.alloc (.cells pk0 45)).setRow w4.heap.size (pkV q) := ⟨_, rfl⟩
  have hb5 : Below w4.heap.size w4 w5 := by rw [hw5]; exact below_setR ((Below.refl _ _).alloc (Nat.le_refl _) _) (Nat.le_refl _) _
  have HW5 := Lib.hid hw5
  have HP5 := Lib.hid (show w5.heap[w4.heap.size]? = some (.cells (pkV q) 45 (0, 0)) by rw [hw5]; exact setRow_heap _ _ _ _ _ _ hd4)
  have HB5 := Lib.hid (HB4.out.trans (hb5.mono HB4.out.size))
  have heq : ∀ W, (binOp .eql 45 (.agg (pkV .zero)) (.agg pk0)).run Tryz.prog W = .ok (.bool true) W := fun W => by
    have h := eql_pk .zero .zero W
    rw [decide_eq_true rfl] at h
    exact h
  clear hd4 hw5 hb5 hb4
  by_cases hnt : n ≤ tu
  · have hR := HRR.out
    unfold openR at hR
    rw [if_pos hnt] at hR
    cases hR
    have hnt' : (n : Int) ≤ (tu : Int) := by omega
    have hnt'' : ¬ (tu : Int) < (n : Int) := by omega
    go_wp2_with (first
      | (refine wpList_store_row rfl 45 _ _ rfl w4.heap.size (pkV .zero) rfl rfl 45 pk0 HD4.out sizePk rfl (pkv_one _) ?_; rw [← HW5.out])
      | (refine wpList_load_rowG (by rfl) 45 _ rfl w4.heap.size rfl 45 (pkV .zero) (0, 0) _ HP5.out Tryz.underlying45 rfl sizePk ?_)
      | (go_at_call 5; refine (HWK.out _ HB5.out).mono ?_; rintro e wk ⟨rfl, hbk⟩; have HBK := Lib.hid (HB5.out.trans (hbk.mono HB5.out.size)); clear hbk))
    go_ret
    exact ⟨rfl, HBK.out⟩
  · have hnt' : (tu : Int) < (n : Int) := by omega
    have hnt'' : ¬ (n : Int) ≤ (tu : Int) := by omega
    go_wp2_with (first
      | (refine wpList_store_row rfl 45 _ _ rfl w4.heap.size (pkV q) rfl rfl 45 pk0 HD4.out sizePk rfl (pkv_one _) ?_; rw [← HW5.out]))
    go_at_call 7
    refine (HKY.out w5 HB5.out).mono ?_
    rintro e w6 ⟨u2, rfl, hk6, hb6⟩
    have HB6 := Lib.hid (HB5.out.trans (hb6.mono HB5.out.size))
    have HP6 := Lib.hid ((hb6.block _ (lt_of_heap HP5.out)).trans HP5.out)
    by_cases h32 : N < 32
    · have hR := HRR.out
      unfold openR at hR
      rw [if_neg hnt, if_pos (by rw [← HN.out.2.2.2.1]; exact h32)] at hR
      cases hR
      have h32' : ¬ 32 ≤ (N : Int) := by omega
      have h32'' : (N : Int) < 32 := by omega
      clear hk6 hb6
      go_wp2
      go_loopw [13, 15, 16, 17] (fun r x _ _ wr => ∃ i : Nat, x = .int .i64 (i : Int) ∧ r = .bool false ∧ i ≤ n ∧ w6 = wr) (fun _ x _ _ _ => n - (intOf x).toNat)
      case atStart => exact ⟨0, rfl, rfl, Nat.zero_le _, rfl⟩
      case round =>
        obtain ⟨i, rfl, rfl, hi, rfl⟩ := hrel
        by_cases hlt : (i : Int) < (n : Int)
        · go_wp2_with (first
            | (refine wpList_load_rowG (by rfl) 45 _ rfl w4.heap.size rfl 45 (pkV .zero) (0, 0) _ HP6.out Tryz.underlying45 rfl sizePk ?_)
            | (go_at_call 5; refine (HWK.out _ HB6.out).mono ?_; rintro e wk ⟨rfl, hbk⟩; have HBK := Lib.hid (HB6.out.trans (hbk.mono HB6.out.size)); clear hbk))
          go_ret
          exact ⟨rfl, HBK.out⟩
        · go_wp2_with (first
            | (refine wpList_load_rowG (by rfl) 45 _ rfl w4.heap.size rfl 45 (pkV .zero) (0, 0) _ HP6.out Tryz.underlying45 rfl sizePk ?_)
            | (go_at_call 5; refine (HWK.out _ HB6.out).mono ?_; rintro e wk ⟨rfl, hbk⟩; have HBK := Lib.hid (HB6.out.trans (hbk.mono HB6.out.size)); clear hbk))
          go_ret
          exact ⟨rfl, HBK.out⟩
    · obtain ⟨text, s, hls, hs⟩ : ∃ text s, l = text ++ s ∧ s.length = 32 := ⟨ltext l, lmac l, (List.take_append_drop _ _).symm, by unfold lmac; rw [List.length_drop]; have := HN.out.2.2.2.1; omega⟩
      have hR := HRR.out
      unfold openR at hR
      rw [if_neg hnt, if_neg (by rw [← HN.out.2.2.2.1]; exact h32), hls, (lcut text s hs).1, (lcut text s hs).2] at hR
      obtain ⟨e, he⟩ : ∃ e, e = text.length := ⟨_, rfl⟩
      have hNe : N = e + 32 := by rw [HN.out.2.2.2.1, hls, List.length_append, hs, he]
      obtain ⟨p', cap', e', hcap, hp⟩ := HBY.out w6 HB6.out
      injection e' with e1 e2 e3
      subst e1 e3
      rw [← e2] at hcap hp
      obtain ⟨bb, oo, rfl, hbb, hcell⟩ := hp (by omega)
      have hz6 := HB6.out.size
      have hcl : ∀ wz, Below w6.heap.size w6 wz → ∀ j u, (Lib.byteCells (text ++ s))[j]? = some u → wz.cell? ⟨bb, oo + j, none⟩ = some u := fun wz hz j u hu =>
        (World.cell?_of_block (a := ⟨bb, oo + j, none⟩) (hz.block bb (by omega))).trans (hcell j u (by rw [hls]; exact hu))
      have HTX := Lib.hid (show ∀ wz, Below w6.heap.size w6 wz → BysF wz (· < w6.heap.size) (.slice (some ⟨bb, oo, none⟩) e lc) text from fun wz hz => by
        unfold BysF
        rw [← he]
        refine ⟨_, _, rfl, by omega, fun _ => ⟨bb, oo, rfl, by show bb < _; omega, fun j u hu => hcl wz hz j u ?_⟩⟩
        have e2 : Lib.byteCells (text ++ s) = Lib.byteCells text ++ Lib.byteCells s := by simp [Lib.byteCells]
        rw [e2, List.getElem?_append_left (List.getElem?_eq_some_iff.1 hu).1]; exact hu)
      have HSC := Lib.hid (show ∀ wz, Below w6.heap.size w6 wz → ∀ k, k < 32 → wz.cell? ⟨bb, oo + (e + k), none⟩ = some (.int .u8 ((at0 (bn s) k : Nat) : Int)) from fun wz hz k hk => by
        refine hcl wz hz _ _ ?_
        rw [bys_cell (by rw [List.length_append, hs]; omega)]
        have e3 : bn (text ++ s) = bn text ++ bn s := by unfold bn; rw [List.map_append]
        rw [e3, Go.Sha.at0_append, if_neg (by rw [bn_len]; omega), bn_len, show e + k - text.length = k by omega])
      obtain ⟨xs, ⟨kp0, kc0, rfl, _, hkp⟩, hxs⟩ := hk6
      rw [KKp_len] at hkp ⊢
      obtain ⟨b1, o1, rfl, hF1, hcell1⟩ := hkp (by have := HN.out.1; omega)
      have HKX := Lib.hid (show ∀ i, i < n → ∃ b2 o2 c2 kpp kcap, ∀ wz, Below w6.heap.size w6 wz → wz.cell? ⟨b1, o1 + i, none⟩ = some (.slice (some ⟨b2, o2, none⟩) n c2) ∧ wz.cell? ⟨b2, o2 + tu, none⟩ = some (.slice kpp (M + 1) kcap) ∧ BysF wz (· < w6.heap.size) (.slice kpp (M + 1) kcap) (keyW i tu more) from fun i hi => by
        obtain ⟨x, f1, f2⟩ := hxs.get i (by rw [KKp_len]; exact hi)
        rw [kkp_getD more hi] at f2
        obtain ⟨ys, ⟨p2, c2, rfl, _, hp2⟩, hys⟩ := f2
        rw [rowW_len] at hp2 f1
        obtain ⟨b2, o2, rfl, hF2, hc2⟩ := hp2 (by have := HN.out.1; omega)
        obtain ⟨y, g1, g2⟩ := hys.get tu (by rw [rowW_len]; omega)
        have hk := kyAt_kkp more hi (show tu < n by omega)
        unfold kyAt at hk
        rw [kkp_getD more hi] at hk
        rw [hk] at g2
        obtain ⟨kpp, kcap, hy, hk1, hk2⟩ := g2
        have hkl : (keyW i tu more).length = M + 1 := by unfold keyW; rw [List.length_cons, HN.out.2.2.2.2.2.1]
        refine ⟨b2, o2, c2, kpp, kcap, fun wz hz => ⟨?_, ?_, ?_⟩⟩
        · exact (World.cell?_of_block (a := ⟨b1, o1 + i, none⟩) (hz.block b1 hF1.2)).trans (hcell1 i _ f1)
        · rw [(World.cell?_of_block (a := ⟨b2, o2 + tu, none⟩) (hz.block b2 hF2.2)).trans (hc2 tu _ g1), hy, hkl]
        · have h3 : BysF w6 (fun b => w5.heap.size ≤ b ∧ b < w6.heap.size) (.slice kpp (M + 1) kcap) (keyW i tu more) := by
            unfold BysF
            rw [hkl]
            exact ⟨kpp, kcap, rfl, by rw [← hkl]; exact hk1, fun h0 => hk2 (by rw [hkl]; exact h0)⟩
          exact h3.kept (fun b hb => ⟨hb.2, hz.block b hb.2⟩))
      obtain ⟨S, hS⟩ : ∃ S, S = bn s := ⟨_, rfl⟩
      have HSL := Lib.hid (show S.length = 32 ∧ Go.Sha.Lt 256 S by rw [hS]; exact ⟨by rw [bn_len, hs], bn_lt _⟩)
      have HSB := Lib.hid hS
      rw [← hS] at HSC
      have HRI := Lib.hid (show ∀ i, i < n → rightB K tu text S i = if i = tu then false else decide (Go.Sha.macL (bn (keyW i tu more)) (bn text) = S) from fun i hi => by
        unfold rightB
        rw [HKD.out i hi]
        by_cases hc : i = tu
        · rw [if_neg (fun h => h.2 hc), if_pos hc]
        · rw [if_pos ⟨by omega, hc⟩, if_neg hc])
      have HOD := Lib.hid hR
      have HE := Lib.hid (And.intro he hNe)
      have HCAP := Lib.hid hcap
      have h32' : 32 ≤ (N : Int) := by omega
      have hsub : IntKind.i64.wrap ((N : Int) - 32) = (e : Int) := by rw [IntKind.wrap_i64]; omega
      have he0 : (0 : Int) ≤ (e : Int) := Int.natCast_nonneg _
      have heN : (e : Int) + 32 = (N : Int) := by omega
      have hecap : (e : Int) ≤ (lc : Int) := by omega
      clear hR hb6 hls hs he hNe e2 hcap hp hbb hcell hz6 hcl hkp hF1 hcell1 hxs hS h32
      go_wp2
      go_loopw [13, 15, 16, 17] (fun r x _ _ wr => ∃ (i : Nat) (rt : Bool), x = .int .i64 (i : Int) ∧ r = .bool rt ∧ i ≤ n ∧ Hid (rt = (List.range i).any (rightB K tu text S)) ∧ Below w6.heap.size w6 wr) (fun _ x _ _ _ => n - (intOf x).toNat)
      case atStart => exact ⟨0, false, rfl, rfl, Nat.zero_le _, Lib.hid rfl, Below.refl _ _⟩
      case round =>
        obtain ⟨i, rt, rfl, rfl, hi, HRT, hbl⟩ := hrel
        obtain ⟨wo, rfl⟩ : ∃ wo : World, wo = wr := ⟨_, rfl⟩
        have HBL := Lib.hid hbl
        clear hbl
        by_cases hlt : (i : Int) < (n : Int)
        · have hi0 : (0 : Int) ≤ (i : Int) := Int.natCast_nonneg _
          have HD0 := Lib.hid (show (wo.alloc (.cells (bv (zl 32)) 49)).heap[wo.heap.size]? = some (.cells (bv (zl 32)) 49 (0, 0)) from at_last _ _)
          have HB0 := Lib.hid (show Below wo.heap.size wo (wo.alloc (.cells (bv (zl 32)) 49)) from (Below.refl _ _).alloc (Nat.le_refl _) _)
          go_wp2
          go_loopw [17] (fun x wr => ∃ (k : Nat) (D : List Nat), x = .int .i64 (k : Int) ∧ k ≤ 32 ∧ Hid (D.length = 32) ∧ Hid (∀ j, j < k → at0 D j = at0 S j) ∧ wr.heap[wo.heap.size]? = some (.cells (bv D) 49 (0, 0)) ∧ Below wo.heap.size wo wr) (fun x _ => 32 - (intOf x).toNat)
          case atStart => exact ⟨0, zl 32, rfl, by omega, Lib.hid (Go.Sha.zl_len 32), Lib.hid (fun j hj => by omega), HD0.out, HB0.out⟩
          case round =>
            obtain ⟨k, D, rfl, hk, HDL, HDJ, hrow, hbl2⟩ := hrel
            have HROW := Lib.hid hrow
            have HB2r := Lib.hid hbl2
            have HB6r := Lib.hid (HBL.out.trans (hbl2.mono HBL.out.size))
            by_cases hlt2 : (k : Int) < 32
            · have hk0 : (0 : Int) ≤ (k : Int) := Int.natCast_nonneg _
              have hcb := HSC.out wr HB6r.out k (by omega)
              have hti : ((e : Int) + (k : Int)).toNat = e + k := by omega
              have hwa : IntKind.i64.wrap ((e : Int) + (k : Int)) = (e : Int) + (k : Int) := by rw [IntKind.wrap_i64]; omega
              have hlr := lt_of_heap hrow
              have hck : wr.cell? ⟨wo.heap.size, k, none⟩ = some (.int .u8 ((at0 D k : Nat) : Int)) := by
                rw [cell_of_arr hrow k]
                unfold bv at0
                have hkD : k < D.length := by rw [HDL.out]; omega
                simp only [List.getElem?_toArray, List.getElem?_map, List.getD_eq_getElem?_getD, List.getElem?_eq_getElem hkD, Option.map_some, Option.getD_some]
              have hfk := frozen_of_arr hrow k
              clear hrow hbl2
              go_wp2
              go_roundw
              case rel =>
                have hrow2 := heap_setCell_same wr wo.heap.size k _ _ (.int .u8 ((at0 S k : Nat) : Int)) HROW.out
                rw [Go.Sha.bv_set] at hrow2
                have hj2 : ∀ j, j < k + 1 → at0 (D.set k (at0 S k)) j = at0 S j := fun j hj => by
                  rw [Go.Sha.at0_set _ _ _ _ (by rw [HDL.out]; omega)]
                  by_cases h : k = j
                  · rw [if_pos h, h]
                  · rw [if_neg h]; exact HDJ.out j (by omega)
                exact ⟨k + 1, D.set k (at0 S k), by go_num, by omega, Lib.hid (by rw [List.length_set, HDL.out]), Lib.hid hj2, hrow2, HB2r.out.setCell (Nat.le_refl _) _⟩
              case measure => simp [intOf]; omega
            · obtain rfl : k = 32 := by omega
              have hDS : D = S := at0_ext (by rw [HDL.out, HSL.out.1]) (fun j hj => HDJ.out j (by rw [HDL.out] at hj; exact hj))
              subst hDS
              have HSU := Lib.hid (show (List.range (i + 1)).any (rightB K tu text D) = (rt || rightB K tu text D i) by rw [List.range_succ, List.any_append, ← HRT.out]; simp)
              clear hrow hbl2 HDJ
              go_upto_region 19 with fail
              obtain ⟨wa, hwa⟩ : ∃ wa, wa = wr.drew := ⟨_, rfl⟩
              have hba : Below wr.heap.size wr wa := by rw [hwa]; exact (Below.refl _ _).drew
              have HWA := Lib.hid hwa
              have HB6a := Lib.hid (HB6r.out.trans (hba.mono HB6r.out.size))
              have HQD := Lib.hid (show ∀ w', Below wa.heap.size wa w' → w'.heap[wo.heap.size]? = some (.cells (bv D) 49 (0, 0)) from fun w' hw => by
                have h1 := lt_of_heap HROW.out
                exact (hw.block _ (Nat.lt_of_lt_of_le h1 hba.size)).trans ((hba.block _ h1).trans HROW.out))
              have HUP := Lib.hid (show ∀ w', Below wa.heap.size wa w' → Below w6.heap.size w6 w' from fun w' hw => HB6a.out.trans (hw.mono HB6a.out.size))
              clear hwa hba
              obtain ⟨b2, o2, c2, kpp, kcap, hkx⟩ := HKX.out i (by omega)
              have HQK := Lib.hid (show ∀ w', Below wa.heap.size wa w' → _ from fun w' hw => (hkx w' (HUP.out w' hw)).1)
              have HQC := Lib.hid (show ∀ w', Below wa.heap.size wa w' → _ from fun w' hw => (hkx w' (HUP.out w' hw)).2.1)
              have HKB := Lib.hid ((hkx wa HB6a.out).2.2)
              clear hkx
              refine wp_region_held (S := fun w' => Below wa.heap.size wa w') (by kernel_rfl) ?_
              change wpAnyH _ _ _ _ _ _ _ _ (World.drew _)
              rw [← HWA.out]
              have HS := Lib.hid (Below.refl wa.heap.size wa)
              cases rt with
              | true =>
                refine tkH (i := 0) (oi := ⟨some 93, .move (.tmp 13), _, _, _, none⟩) (v := .bool true) rfl qs HS.out ?_
                simp only [Act.put, zs1, zs2, zs3]
                refine tkH (i := 1) (oi := ⟨some 94, .move (.tmp 93), _, _, _, none⟩) (v := .bool true) rfl qs HS.out ?_
                simp only [Act.put, zs1, zs2, zs3]
                refine tkH (i := 2) (oi := ⟨some 95, .move (.tmp 15), _, _, _, some (1, false)⟩) (v := undef) rfl sko HS.out ?_
                simp only [Act.put, zs1, zs2, zs3]
                refine tkH (i := 3) (oi := ⟨some 96, .move (.tmp 3), _, _, _, some (1, false)⟩) (v := undef) rfl sko HS.out ?_
                simp only [Act.put, zs1, zs2, zs3]
                refine tkH (i := 4) (oi := ⟨some 97, .convert 5 3 (.tmp 96), _, _, _, some (1, false)⟩) (v := undef) rfl sko HS.out ?_
                simp only [Act.put, zs1, zs2, zs3]
                refine tkH (i := 5) (oi := ⟨some 98, .binOp .neq 3 (.tmp 95) (.tmp 97) 3, _, _, _, some (1, false)⟩) (v := undef) rfl sko HS.out ?_
                simp only [Act.put, zs1, zs2, zs3]
                refine tkH (i := 6) (oi := ⟨some 99, .move (.tmp 98), _, _, _, some (1, false)⟩) (v := undef) rfl sko HS.out ?_
                simp only [Act.put, zs1, zs2, zs3]
                refine tkH (i := 7) (oi := ⟨some 100, .move (.tmp 14), _, _, _, some (6, true)⟩) (v := undef) rfl sko HS.out ?_
                simp only [Act.put, zs1, zs2, zs3]
                refine tkH (i := 8) (oi := ⟨some 101, .move (.tmp 15), _, _, _, some (6, true)⟩) (v := undef) rfl sko HS.out ?_
                simp only [Act.put, zs1, zs2, zs3]
                refine tkH (i := 9) (oi := ⟨some 102, .indexAddr 28 (.tmp 100) (.tmp 101), _, _, _, some (6, true)⟩) (v := undef) rfl sko HS.out ?_
                simp only [Act.put, zs1, zs2, zs3]
                refine tkH (i := 10) (oi := ⟨some 103, .load 52 (.tmp 102), _, _, _, some (6, true)⟩) (v := undef) rfl sko HS.out ?_
                simp only [Act.put, zs1, zs2, zs3]
                refine tkH (i := 11) (oi := ⟨some 104, .move (.tmp 3), _, _, _, some (6, true)⟩) (v := undef) rfl sko HS.out ?_
                simp only [Act.put, zs1, zs2, zs3]
                refine tkH (i := 12) (oi := ⟨some 105, .indexAddr 52 (.tmp 103) (.tmp 104), _, _, _, some (6, true)⟩) (v := undef) rfl sko HS.out ?_
                simp only [Act.put, zs1, zs2, zs3]
                refine tkH (i := 13) (oi := ⟨some 106, .load 22 (.tmp 105), _, _, _, some (6, true)⟩) (v := undef) rfl sko HS.out ?_
                simp only [Act.put, zs1, zs2, zs3]
                refine tkH (i := 14) (oi := ⟨some 107, .move (.tmp 2), _, _, _, some (6, true)⟩) (v := undef) rfl sko HS.out ?_
                simp only [Act.put, zs1, zs2, zs3]
                refine tkH (i := 15) (oi := ⟨some 108, .move (.tmp 2), _, _, _, some (6, true)⟩) (v := undef) rfl sko HS.out ?_
                simp only [Act.put, zs1, zs2, zs3]
                refine tkH (i := 16) (oi := ⟨some 109, .call ⟨.builtin .len, #[.tmp 108], _⟩, _, _, _, some (6, true)⟩) (v := undef) rfl sko HS.out ?_
                simp only [Act.put, zs1, zs2, zs3]
                refine tkH (i := 17) (oi := ⟨some 110, .binOp .sub 3 (.tmp 109) (.const (.int .i64 32)) 3, _, _, _, some (6, true)⟩) (v := undef) rfl sko HS.out ?_
                simp only [Act.put, zs1, zs2, zs3]
                refine tkH (i := 18) (oi := ⟨some 111, .slice 22 (.tmp 107) none (some (.tmp 110)) none, _, _, _, some (6, true)⟩) (v := undef) rfl sko HS.out ?_
                simp only [Act.put, zs1, zs2, zs3]
                refine tkH (i := 19) (oi := ⟨some 112, .call ⟨.value (.func 10), #[.tmp 106, .tmp 111], _⟩, _, _, _, some (6, true)⟩) (v := undef) rfl sko HS.out ?_
                simp only [Act.put, zs1, zs2, zs3]
                refine tkH (i := 20) (oi := ⟨some 113, .load 49 (.tmp 16), _, _, _, some (6, true)⟩) (v := undef) rfl sko HS.out ?_
                simp only [Act.put, zs1, zs2, zs3]
                refine tkH (i := 21) (oi := ⟨some 114, .call ⟨.value (.func 9), #[.tmp 112, .tmp 113], _⟩, _, _, _, some (6, true)⟩) (v := undef) rfl sko HS.out ?_
                simp only [Act.put, zs1, zs2, zs3]
                refine tkH (i := 22) (oi := ⟨some 115, .pick (.tmp 99) (.tmp 114) (.const (.bool false)), _, _, _, some (1, false)⟩) (v := undef) rfl sko HS.out ?_
                simp only [Act.put, zs1, zs2, zs3]
                refine tkH (i := 23) (oi := ⟨some 116, .pick (.tmp 94) (.const (.bool true)) (.tmp 115), _, _, _, none⟩) (v := .bool true) rfl qs HS.out ?_
                simp only [Act.put, zs1, zs2, zs3]
                refine tkH (i := 24) (oi := ⟨some 13, .assign (.tmp 116), _, _, _, none⟩) (v := .bool true) rfl qs HS.out ?_
                simp only [Act.put, zs1, zs2, zs3]
                refine wpAnyH_done (by kernel_rfl) ?_ _
                go_wp2
                go_roundw
                case rel => exact ⟨i + 1, true, by go_num, rfl, by omega, Lib.hid (by rw [HSU.out]; simp), HB6a.out⟩
                case measure => simp [intOf]; omega
              | false =>
                by_cases hit : i = tu
                · have hri : rightB K tu text D i = false := by rw [HRI.out i (by omega), if_pos hit]
                  have hiti : (i : Int) = (tu : Int) := by omega
                  refine tkH (i := 0) (oi := ⟨some 93, .move (.tmp 13), _, _, _, none⟩) (v := .bool false) rfl qs HS.out ?_
                  simp only [Act.put, zs1, zs2, zs3]
                  refine tkH (i := 1) (oi := ⟨some 94, .move (.tmp 93), _, _, _, none⟩) (v := .bool false) rfl qs HS.out ?_
                  simp only [Act.put, zs1, zs2, zs3]
                  refine tkH (i := 2) (oi := ⟨some 95, .move (.tmp 15), _, _, _, some (1, false)⟩) (v := .int .i64 (i : Int)) rfl qs HS.out ?_
                  simp only [Act.put, zs1, zs2, zs3]
                  refine tkH (i := 3) (oi := ⟨some 96, .move (.tmp 3), _, _, _, some (1, false)⟩) (v := .int .u8 (tu : Int)) rfl qs HS.out ?_
                  simp only [Act.put, zs1, zs2, zs3]
                  refine tkH (i := 4) (oi := ⟨some 97, .convert 5 3 (.tmp 96), _, _, _, some (1, false)⟩) (v := .int .i64 (tu : Int)) rfl qs HS.out ?_
                  simp only [Act.put, zs1, zs2, zs3]
                  refine tkH (i := 5) (oi := ⟨some 98, .binOp .neq 3 (.tmp 95) (.tmp 97) 3, _, _, _, some (1, false)⟩) (v := .bool false) rfl qs HS.out ?_
                  simp only [Act.put, zs1, zs2, zs3]
                  refine tkH (i := 6) (oi := ⟨some 99, .move (.tmp 98), _, _, _, some (1, false)⟩) (v := .bool false) rfl qs HS.out ?_
                  simp only [Act.put, zs1, zs2, zs3]
                  refine tkH (i := 7) (oi := ⟨some 100, .move (.tmp 14), _, _, _, some (6, true)⟩) (v := undef) rfl sko HS.out ?_
                  simp only [Act.put, zs1, zs2, zs3]
                  refine tkH (i := 8) (oi := ⟨some 101, .move (.tmp 15), _, _, _, some (6, true)⟩) (v := undef) rfl sko HS.out ?_
                  simp only [Act.put, zs1, zs2, zs3]
                  refine tkH (i := 9) (oi := ⟨some 102, .indexAddr 28 (.tmp 100) (.tmp 101), _, _, _, some (6, true)⟩) (v := undef) rfl sko HS.out ?_
                  simp only [Act.put, zs1, zs2, zs3]
                  refine tkH (i := 10) (oi := ⟨some 103, .load 52 (.tmp 102), _, _, _, some (6, true)⟩) (v := undef) rfl sko HS.out ?_
                  simp only [Act.put, zs1, zs2, zs3]
                  refine tkH (i := 11) (oi := ⟨some 104, .move (.tmp 3), _, _, _, some (6, true)⟩) (v := undef) rfl sko HS.out ?_
                  simp only [Act.put, zs1, zs2, zs3]
                  refine tkH (i := 12) (oi := ⟨some 105, .indexAddr 52 (.tmp 103) (.tmp 104), _, _, _, some (6, true)⟩) (v := undef) rfl sko HS.out ?_
                  simp only [Act.put, zs1, zs2, zs3]
                  refine tkH (i := 13) (oi := ⟨some 106, .load 22 (.tmp 105), _, _, _, some (6, true)⟩) (v := undef) rfl sko HS.out ?_
                  simp only [Act.put, zs1, zs2, zs3]
                  refine tkH (i := 14) (oi := ⟨some 107, .move (.tmp 2), _, _, _, some (6, true)⟩) (v := undef) rfl sko HS.out ?_
                  simp only [Act.put, zs1, zs2, zs3]
                  refine tkH (i := 15) (oi := ⟨some 108, .move (.tmp 2), _, _, _, some (6, true)⟩) (v := undef) rfl sko HS.out ?_
                  simp only [Act.put, zs1, zs2, zs3]
                  refine tkH (i := 16) (oi := ⟨some 109, .call ⟨.builtin .len, #[.tmp 108], _⟩, _, _, _, some (6, true)⟩) (v := undef) rfl sko HS.out ?_
                  simp only [Act.put, zs1, zs2, zs3]
                  refine tkH (i := 17) (oi := ⟨some 110, .binOp .sub 3 (.tmp 109) (.const (.int .i64 32)) 3, _, _, _, some (6, true)⟩) (v := undef) rfl sko HS.out ?_
                  simp only [Act.put, zs1, zs2, zs3]
                  refine tkH (i := 18) (oi := ⟨some 111, .slice 22 (.tmp 107) none (some (.tmp 110)) none, _, _, _, some (6, true)⟩) (v := undef) rfl sko HS.out ?_
                  simp only [Act.put, zs1, zs2, zs3]
                  refine tkH (i := 19) (oi := ⟨some 112, .call ⟨.value (.func 10), #[.tmp 106, .tmp 111], _⟩, _, _, _, some (6, true)⟩) (v := undef) rfl sko HS.out ?_
                  simp only [Act.put, zs1, zs2, zs3]
                  refine tkH (i := 20) (oi := ⟨some 113, .load 49 (.tmp 16), _, _, _, some (6, true)⟩) (v := undef) rfl sko HS.out ?_
                  simp only [Act.put, zs1, zs2, zs3]
                  refine tkH (i := 21) (oi := ⟨some 114, .call ⟨.value (.func 9), #[.tmp 112, .tmp 113], _⟩, _, _, _, some (6, true)⟩) (v := undef) rfl sko HS.out ?_
                  simp only [Act.put, zs1, zs2, zs3]
                  refine tkH (i := 22) (oi := ⟨some 115, .pick (.tmp 99) (.tmp 114) (.const (.bool false)), _, _, _, some (1, false)⟩) (v := .bool false) rfl qs HS.out ?_
                  simp only [Act.put, zs1, zs2, zs3]
                  refine tkH (i := 23) (oi := ⟨some 116, .pick (.tmp 94) (.const (.bool true)) (.tmp 115), _, _, _, none⟩) (v := .bool false) rfl qs HS.out ?_
                  simp only [Act.put, zs1, zs2, zs3]
                  refine tkH (i := 24) (oi := ⟨some 13, .assign (.tmp 116), _, _, _, none⟩) (v := .bool false) rfl qs HS.out ?_
                  simp only [Act.put, zs1, zs2, zs3]
                  refine wpAnyH_done (by kernel_rfl) ?_ _
                  go_wp2
                  go_roundw
                  case rel => exact ⟨i + 1, false, by go_num, rfl, by omega, Lib.hid (by rw [HSU.out, hri]; simp), HB6a.out⟩
                  case measure => simp [intOf]; omega
                · have hri : rightB K tu text D i = decide (Go.Sha.macL (bn (keyW i tu more)) (bn text) = D) := by rw [HRI.out i (by omega), if_neg hit]
                  have hiti : ¬ (i : Int) = (tu : Int) := by omega
                  have hitb : ((i : Int) == (tu : Int)) = false := by simp [hiti]
                  obtain ⟨r, hr⟩ : ∃ r, r = decide (Go.Sha.macL (bn (keyW i tu more)) (bn text) = D) := ⟨_, rfl⟩
                  have HRV := Lib.hid (hri.trans hr.symm)
                  have HRE := Lib.hid hr
                  have HMC := Lib.hid (Hs.macOf_any (bn (keyW i tu more)) (bn text) (.slice kpp (M + 1) kcap) (.slice (some ⟨bb, oo, none⟩) e lc) wa (bn_lt _) (bn_lt _) (by rw [bn_len]; unfold keyW; rw [List.length_cons]; have := HN.out; omega) (by rw [bn_len]; have := HE.out; omega) (HEV.out _ (HB6.out.trans (HB6a.out.mono HB6.out.size))).1.gl
                    (bys_byt HKB.out (fun b hb => by have := HB6a.out.size; have : b < w6.heap.size := hb; omega)) (bys_byt (HTX.out wa HB6a.out) (fun b hb => by have := HB6a.out.size; have : b < w6.heap.size := hb; omega)))
                  clear hri hr
                  refine tkH (i := 0) (oi := ⟨some 93, .move (.tmp 13), _, _, _, none⟩) (v := .bool false) rfl qs HS.out ?_
                  simp only [Act.put, zs1, zs2, zs3]
                  refine tkH (i := 1) (oi := ⟨some 94, .move (.tmp 93), _, _, _, none⟩) (v := .bool false) rfl qs HS.out ?_
                  simp only [Act.put, zs1, zs2, zs3]
                  refine tkH (i := 2) (oi := ⟨some 95, .move (.tmp 15), _, _, _, some (1, false)⟩) (v := .int .i64 (i : Int)) rfl qs HS.out ?_
                  simp only [Act.put, zs1, zs2, zs3]
                  refine tkH (i := 3) (oi := ⟨some 96, .move (.tmp 3), _, _, _, some (1, false)⟩) (v := .int .u8 (tu : Int)) rfl qs HS.out ?_
                  simp only [Act.put, zs1, zs2, zs3]
                  refine tkH (i := 4) (oi := ⟨some 97, .convert 5 3 (.tmp 96), _, _, _, some (1, false)⟩) (v := .int .i64 (tu : Int)) rfl qs HS.out ?_
                  simp only [Act.put, zs1, zs2, zs3]
                  refine tkH (i := 5) (oi := ⟨some 98, .binOp .neq 3 (.tmp 95) (.tmp 97) 3, _, _, _, some (1, false)⟩) (v := .bool true) rfl qs HS.out ?_
                  simp only [Act.put, zs1, zs2, zs3]
                  refine tkH (i := 6) (oi := ⟨some 99, .move (.tmp 98), _, _, _, some (1, false)⟩) (v := .bool true) rfl qs HS.out ?_
                  simp only [Act.put, zs1, zs2, zs3]
                  refine tkH (i := 7) (oi := ⟨some 100, .move (.tmp 14), _, _, _, some (6, true)⟩) (v := .slice (some ⟨b1, o1, none⟩) n kc0) rfl qs HS.out ?_
                  simp only [Act.put, zs1, zs2, zs3]
                  refine tkH (i := 8) (oi := ⟨some 101, .move (.tmp 15), _, _, _, some (6, true)⟩) (v := .int .i64 (i : Int)) rfl qs HS.out ?_
                  simp only [Act.put, zs1, zs2, zs3]
                  refine tkH (i := 9) (oi := ⟨some 102, .indexAddr 28 (.tmp 100) (.tmp 101), _, _, _, some (6, true)⟩) (v := .pointer (some ⟨b1, o1 + i, none⟩)) rfl qs HS.out ?_
                  simp only [Act.put, zs1, zs2, zs3]
                  refine tkH (i := 10) (oi := ⟨some 103, .load 52 (.tmp 102), _, _, _, some (6, true)⟩) (v := .slice (some ⟨b2, o2, none⟩) n c2) rfl (Or.inl ⟨by rfl, fun w' hS => by have q1 := HQK.out w' hS; go_simp⟩) HS.out ?_
                  simp only [Act.put, zs1, zs2, zs3]
                  refine tkH (i := 11) (oi := ⟨some 104, .move (.tmp 3), _, _, _, some (6, true)⟩) (v := .int .u8 (tu : Int)) rfl qs HS.out ?_
                  simp only [Act.put, zs1, zs2, zs3]
                  refine tkH (i := 12) (oi := ⟨some 105, .indexAddr 52 (.tmp 103) (.tmp 104), _, _, _, some (6, true)⟩) (v := .pointer (some ⟨b2, o2 + tu, none⟩)) rfl qs HS.out ?_
                  simp only [Act.put, zs1, zs2, zs3]
                  refine tkH (i := 13) (oi := ⟨some 106, .load 22 (.tmp 105), _, _, _, some (6, true)⟩) (v := .slice kpp (M + 1) kcap) rfl (Or.inl ⟨by rfl, fun w' hS => by have q1 := HQC.out w' hS; go_simp⟩) HS.out ?_
                  simp only [Act.put, zs1, zs2, zs3]
                  refine tkH (i := 14) (oi := ⟨some 107, .move (.tmp 2), _, _, _, some (6, true)⟩) (v := .slice (some ⟨bb, oo, none⟩) N lc) rfl qs HS.out ?_
                  simp only [Act.put, zs1, zs2, zs3]
                  refine tkH (i := 15) (oi := ⟨some 108, .move (.tmp 2), _, _, _, some (6, true)⟩) (v := .slice (some ⟨bb, oo, none⟩) N lc) rfl qs HS.out ?_
                  simp only [Act.put, zs1, zs2, zs3]
                  refine tkH (i := 16) (oi := ⟨some 109, .call ⟨.builtin .len, #[.tmp 108], _⟩, _, _, _, some (6, true)⟩) (v := .int .i64 (N : Int)) rfl qs HS.out ?_
                  simp only [Act.put, zs1, zs2, zs3]
                  refine tkH (i := 17) (oi := ⟨some 110, .binOp .sub 3 (.tmp 109) (.const (.int .i64 32)) 3, _, _, _, some (6, true)⟩) (v := .int .i64 (e : Int)) rfl qs HS.out ?_
                  simp only [Act.put, zs1, zs2, zs3]
                  refine tkH (i := 18) (oi := ⟨some 111, .slice 22 (.tmp 107) none (some (.tmp 110)) none, _, _, _, some (6, true)⟩) (v := .slice (some ⟨bb, oo, none⟩) e lc) rfl qs HS.out ?_
                  simp only [Act.put, zs1, zs2, zs3]
                  refine tkH (i := 20) (oi := ⟨some 113, .load 49 (.tmp 16), _, _, _, some (6, true)⟩) (v := .agg (bv D)) rfl (Hs.yi_row' (by rfl) 49 (.tmp 16) rfl wo.heap.size (bv D) 32 5 Tryz.underlying49 (by rw [Go.Sha.bv_size, HSL.out.1]; exact sizeDg) rfl (fun _ h => ⟨_, _, HQD.out _ h⟩)) HS.out ?_
                  simp only [Act.put, zs1, zs2, zs3]
                  refine wpAnyH_ready (rs := [19]) (by kernel_rfl) (by simp) (AllReadyH.cons (o := ⟨some 112, .call ⟨.value (.func 10), #[.tmp 106, .tmp 111], _⟩, _, _, _, some (6, true)⟩) rfl (fun K' hK => ?_) AllReadyH.nil)
                  go_simp
                  refine (HMC.out).mono ?_
                  rintro e1 w3' ⟨rfl, hb3⟩
                  have HS3 := Lib.hid hb3
                  clear hb3
                  refine hK.out _ _ HS3.out (fun _ => ?_)
                  clear hK K'
                  try (simp only [Act.put, zs1, zs2, zs3])
                  refine wpAnyH_ready (rs := [21]) (by kernel_rfl) (by simp) (AllReadyH.cons (o := ⟨some 114, .call ⟨.value (.func 9), #[.tmp 112, .tmp 113], _⟩, _, _, _, some (6, true)⟩) rfl (fun K' hK => ?_) AllReadyH.nil)
                  go_simp
                  refine (Hs.same_any (Go.Sha.macL (bn (keyW i tu more)) (bn text)) D w3' (Go.Sha.macL_len _ _) HSL.out.1 (Go.Sha.macL_lt _ _) HSL.out.2).mono ?_
                  rintro e1 w4' ⟨rfl, hb4⟩
                  have HS4 := Lib.hid (HS3.out.trans (hb4.mono HS3.out.size))
                  clear hb4
                  rw [← HRE.out]
                  refine hK.out _ _ HS4.out (fun _ => ?_)
                  clear hK K'
                  try (simp only [Act.put, zs1, zs2, zs3])
                  refine tkH (i := 22) (oi := ⟨some 115, .pick (.tmp 99) (.tmp 114) (.const (.bool false)), _, _, _, some (1, false)⟩) (v := .bool r) rfl qs HS4.out ?_
                  simp only [Act.put, zs1, zs2, zs3]
                  refine tkH (i := 23) (oi := ⟨some 116, .pick (.tmp 94) (.const (.bool true)) (.tmp 115), _, _, _, none⟩) (v := .bool r) rfl qs HS4.out ?_
                  simp only [Act.put, zs1, zs2, zs3]
                  refine tkH (i := 24) (oi := ⟨some 13, .assign (.tmp 116), _, _, _, none⟩) (v := .bool r) rfl qs HS4.out ?_
                  simp only [Act.put, zs1, zs2, zs3]
                  refine wpAnyH_done (by kernel_rfl) ?_ _
                  go_wp2
                  go_roundw
                  case rel => exact ⟨i + 1, r, by go_num, rfl, by omega, Lib.hid (by rw [HSU.out, HRV.out]; simp), HUP.out _ HS4.out⟩
                  case measure => simp [intOf]; omega
        · obtain rfl : i = n := by omega
          have HP9 := Lib.hid ((HBL.out.block _ (lt_of_heap HP6.out)).trans HP6.out)
          have HB9 := Lib.hid (HB6.out.trans (HBL.out.mono HB6.out.size))
          have hany : anyB i K tu text (bn s) = rt := by rw [← HSB.out]; exact HRT.out.symm
          have hod := HOD.out
          cases rt with
          | false =>
            rw [openD_no hany] at hod
            cases hod
            clear hany
            go_wp2_with (first
              | (refine wpList_load_rowG (by rfl) 45 _ rfl w4.heap.size rfl 45 (pkV .zero) (0, 0) _ HP9.out Tryz.underlying45 rfl sizePk ?_)
              | (go_at_call 5; refine (HWK.out _ HB9.out).mono ?_; rintro e wk ⟨rfl, hbk⟩; have HBK := Lib.hid (HB9.out.trans (hbk.mono HB9.out.size)); clear hbk))
            go_ret
            exact ⟨rfl, HBK.out⟩
          | true =>
            have herr := openD_err hany
            rw [← hod] at herr
            clear hany hod
            dsimp only at herr
            rcases herr with rfl | ⟨rfl, h1, h2⟩
            · go_wp2_with (go_at_call 5; refine (HWK.out _ HB9.out).mono ?_; rintro e wk ⟨rfl, hbk⟩; have HBK := Lib.hid (HB9.out.trans (hbk.mono HB9.out.size)); clear hbk)
              go_ret
              exact ⟨rfl, HBK.out⟩
            · obtain ⟨ei, hei⟩ : ∃ ei : Int, ei = ((E : Nat) : Int) := ⟨_, rfl⟩
              have he1 : ¬ ei = 0 := by omega
              have he2 : ¬ ei = 110 := by omega
              have he3 : (ei == 0) = false := by simp [he1]
              have he4 : (ei == 110) = false := by simp [he2]
              rw [← hei]
              clear hei h1 h2
              go_wp2_with (first
                | (refine wpList_load_rowG (by rfl) 45 _ rfl w4.heap.size rfl 45 (pkV .zero) (0, 0) _ HP9.out Tryz.underlying45 rfl sizePk ?_)
                | (go_at_call 5; refine (HWK.out _ HB9.out).mono ?_; rintro e wk ⟨rfl, hbk⟩; have HBK := Lib.hid (HB9.out.trans (hbk.mono HB9.out.size)); clear hbk))
              go_ret
              exact ⟨rfl, HBK.out⟩
theorem seforged_walk (n0 : Int) (more l : Tx) (mp lp : Option Addr) (mc lc tu B : Nat) (w : World) (he : Ev B w) (hB : B ≤ w.heap.size) (ht : tu < 256) (hv : BysF w (· < w.heap.size) (.slice mp more.length mc) more) (hb : BysF w (· < w.heap.size) (.slice lp l.length lc) l) :
    Calls Tryz.prog 3 #[.int .i64 n0, .slice mp more.length mc, .slice lp l.length lc, .int .u8 (tu : Int)] w fun e w' => e = .returned (.bool true) ∧ Below w.heap.size w w' := by
  by_cases h : n0 < 2 ∨ 8 < n0 ∨ 60 < more.length ∨ 2000 < l.length
  · exact seforged_bad n0 more.length l.length tu mp lp mc lc B w he hB h
  · obtain ⟨n, rfl⟩ : ∃ n : Nat, n0 = (n : Int) := ⟨n0.toNat, by omega⟩
    exact seforged_good n more l mp lp mc lc tu B w he hB (by omega) (by omega) (by omega) (by omega) ht hv hb
end Go.Proofs.YtklhppkmoddmkabGreatDoor
