/- Contract: the example that every statement of the layer seals and opens. -/
import Derived.Test.YtgaoeljdlpemnaaGreatDoorSeK
import Derived.Test.YtgaoeljdlpemnaaGreatDoorMgOnL
namespace Go.Proofs.YtgaoeljdlpemnaaGreatDoor
open Go.RowKit Go.Edi Go.Wrap Go.Lib
open Go.Sha (bv zl)

attribute [local go_sem high, local simp high] z25s
theorem kkp_getD {n f : Nat} (more : Tx) (hf : f < n) : (KKp n n more).getD f [] = rowW f n more := by
  unfold KKp
  rw [List.getD_eq_getElem?_getD, List.getElem?_map, List.getElem?_range hf]
  rfl
theorem kyAt_kkp {n f t : Nat} (more : Tx) (hf : f < n) (ht : t < n) : kyAt (KKp n n more) f t = keyW f t more := by
  unfold kyAt
  rw [kkp_getD more hf]
  unfold rowW
  rw [List.getD_eq_getElem?_getD, List.getElem?_map, List.getElem?_range ht]
  rfl
theorem vk_kkp {n : Nat} {more : Tx} (h2 : 2 ≤ n) (h8 : n ≤ 8) (hm : more.length ≤ 63) : Vk (KKp n n more) := by
  refine ⟨by rw [KKp_len]; exact h2, by rw [KKp_len]; exact h8, fun f hf => ?_, fun f t hf ht _ => ?_, fun f t a b hf ht ha hb _ _ h => ?_⟩
  · rw [KKp_len] at hf ⊢
    rw [kkp_getD more hf, rowW_len]
  · rw [KKp_len] at hf ht
    rw [kyAt_kkp more hf ht]
    unfold keyW
    rw [List.length_cons]
    omega
  · rw [KKp_len] at hf ht ha hb
    rw [kyAt_kkp more hf ht, kyAt_kkp more ha hb] at h
    unfold keyW at h
    have e := congrArg UInt8.toNat (List.cons.inj h).1
    rw [UInt8.toNat_ofNat', UInt8.toNat_ofNat', Nat.mod_eq_of_lt (by omega), Nat.mod_eq_of_lt (by omega)] at e
    omega
/-- the keys of a ring made by Keys -/
theorem kpt_some {kk : List (List Tx)} {n f t : Nat} {key : Tx} (hn : n = kk.length) (h : Kpt kk n 0 f t = some key) : f < n ∧ t < n ∧ f ≠ t ∧ key = kyAt kk f t := by
  unfold Kpt at h
  split at h
  · rename_i hc
    exact ⟨by omega, by omega, hc.2.2, (Option.some.inj h).symm⟩
  · cases h
theorem kpt_le {kk : List (List Tx)} (hV : Vk kk) {f t : Nat} {key : Tx} (h : Kpt kk kk.length 0 f t = some key) : key.length ≤ 64 := by
  obtain ⟨h1, h2, h3, rfl⟩ := kpt_some rfl h
  exact (hV.len f t h1 h2 h3).2
theorem nb_inj {a b : List Nat} (ha : Go.Sha.Lt 256 a) (hb : Go.Sha.Lt 256 b) (h : nb a = nb b) : a = b := by rw [← bn_nb ha, ← bn_nb hb, h]
theorem lcut (text s : Tx) (hs : s.length = 32) : ltext (text ++ s) = text ∧ lmac (text ++ s) = s := by
  have e : (text ++ s).length - 32 = text.length := by rw [List.length_append, hs]; omega
  unfold ltext lmac
  rw [e]
  exact ⟨List.take_left, List.drop_left⟩
/-- what is sealed is opened by whom it is for, as the packet -/
theorem seal_back {n : Nat} {K : Nat → Nat → Option Tx} {p : Pk} (hp : p.Ty) (hK : ∀ f t key, K f t = some key → f < n ∧ t < n) (h : (sealL K p).2 = 0) :
    ∃ key, K p.from_ p.to_ = some key ∧ (mtextL p).2 = 0 ∧ (sealL K p).1 = (mtextL p).1 ++ macT key (mtextL p).1 ∧ openD n K p.to_ (mtextL p).1 (macT key (mtextL p).1) = (p, 0) := by
  unfold sealL at h ⊢
  cases hk : K p.from_ p.to_ with
  | none => rw [hk] at h; exact absurd (show (1 : Nat) = 0 from h) (by decide)
  | some key =>
    rw [hk] at h
    by_cases h0 : (mtextL p).2 = 0
    · have hm := mtext_parse hp h0
      have hr : rightB K p.to_ (mtextL p).1 (bn (macT key (mtextL p).1)) p.from_ = true := by
        unfold rightB
        rw [hk, bn_macT]
        simp
      refine ⟨key, rfl, h0, by simp only [h0, if_true], ?_⟩
      have ha : anyB n K p.to_ (mtextL p).1 (bn (macT key (mtextL p).1)) = true := by
        unfold anyB
        rw [List.any_eq_true]
        exact ⟨p.from_, List.mem_range.2 (hK _ _ _ hk).1, hr⟩
      have := openD_yes (n := n) (K := K) (t := p.to_) (text := (mtextL p).1) (s := macT key (mtextL p).1) ha (by rw [hm]) (by rw [hm]) (by rw [hm]; exact hr)
      rw [this, hm]
    · simp only [h0, if_false] at h
theorem sealL_some {K : Nat → Nat → Option Tx} {p : Pk} {key : Tx} (h : K p.from_ p.to_ = some key) : sealL K p = if (mtextL p).2 = 0 then ((mtextL p).1 ++ macT key (mtextL p).1, 0) else ([], (mtextL p).2) := by unfold sealL; rw [h]
/-- the example -/
def wP : Pk := ⟨1, 2, 7, true, .zero⟩
theorem zero_tyS : Ms.zero.Ty := ⟨by decide, by decide, by decide, by decide, by decide, by decide, by decide, by decide, by decide, by decide, by decide, by decide⟩
theorem wP_ty : wP.Ty := ⟨by decide, by decide, by decide, zero_tyS⟩
theorem wP_text : (mtextL wP).2 = 0 := by
  have e : mwrapL wP = (⟨1, 2, 7, [sgL ackT []]⟩, 0) := rfl
  unfold mtextL
  rw [e, if_pos rfl]
  have h1 : digs 1 = [49] := digs_small (by omega)
  have h2 : digs 2 = [50] := digs_small (by omega)
  have h7 : digs 7 = [55] := digs_small (by omega)
  unfold wprintL
  rw [if_neg (by decide), if_neg (by decide)]
  show (printL (Sg.mk [85, 78, 66] [[digs 1], [digs 2], [digs 7]] :: ([sgL ackT []] ++ [Sg.mk [85, 78, 90] [[digs 1], [digs 7]]]))).2 = 0
  rw [h1, h2, h7]
  kernel_rfl
set_option maxRecDepth 100000 in
set_option maxHeartbeats 3200000 in
theorem sewakes_any (B : Nat) (w : World) (he : Ev B w) (hB : B ≤ w.heap.size) : Calls Tryz.prog 8 #[] w fun e w' => e = .returned (.bool true) ∧ Below w.heap.size w w' := by
  have HEV := Lib.hid (show ∀ wz, Below w.heap.size w wz → Ev B wz ∧ B ≤ wz.heap.size from fun wz hz => ⟨he.on (hz.mono hB), Nat.le_trans hB hz.size⟩)
  have HV := Lib.hid (vk_kkp (n := 3) (more := []) (by decide) (by decide) (by decide))
  have HKY := Lib.hid (keys_any 3 [] (.slice none 0 0) (fun _ => False) w (by decide) (RowF.no none 0) (fun _ h => h.elim) (by decide))
  clear he hB
  go_enter Tryz.func8, Tryz.ntmps8
  go_wp2_with fail
  go_at_call 10
  refine (HKY.out).mono ?_
  rintro e w1 ⟨u, rfl, hk1, hb1⟩
  have HB1 := Lib.hid hb1
  have hnew := new_any (KKp 3 3 []) u _ w1 HV.out hk1 (fun b hb => hb.2)
  rw [KKp_len] at hnew
  have HNW := Lib.hid hnew
  clear hk1 hb1 hnew
  go_wp2_with fail
  go_at_call 9
  refine (HNW.out).mono ?_
  rintro e w2 ⟨rfl, hr2, hb2⟩
  have HB2 := Lib.hid (HB1.out.trans (hb2.mono HB1.out.size))
  obtain ⟨rb, hrb⟩ : ∃ rb, rb = w1.heap.size + 1 := ⟨_, rfl⟩
  rw [← hrb] at hr2 ⊢
  have HRG := Lib.hid hr2
  clear hr2 hb2 hrb
  have hd2 : (w2.alloc (.cells pk0 38)).heap[w2.heap.size]? = some (.cells pk0 38 (0, 0)) := at_last _ _
  have HD2 := Lib.hid hd2
  obtain ⟨w3, hw3⟩ : ∃ w3, w3 = (w2.alloc (.cells pk0 38)).setRow w2.heap.size (pkV wP) := ⟨_, rfl⟩
  have hb3 : Below w2.heap.size w2 w3 := by rw [hw3]; exact below_setR ((Below.refl _ _).alloc (Nat.le_refl _) _) (Nat.le_refl _) _
  have HW3 := Lib.hid hw3
  have HP3 := Lib.hid (show w3.heap[w2.heap.size]? = some (.cells (pkV wP) 38 (0, 0)) by rw [hw3]; exact setRow_heap _ _ _ _ _ _ hd2)
  have HB3 := Lib.hid (HB2.out.trans (hb3.mono HB2.out.size))
  have HR3 := Lib.hid (HRG.out.later hb3)
  have hlen : ∀ f t key, Kpt (KKp 3 3 []) 3 0 f t = some key → key.length ≤ 64 := fun f t key h => kpt_le HV.out (by rw [KKp_len]; exact h)
  have HLN := Lib.hid hlen
  have hke : Kpt (KKp 3 3 []) 3 0 1 2 = some [18] := by decide
  have hs0 : (sealL (Kpt (KKp 3 3 []) 3 0) wP).2 = 0 := by
    rw [sealL_some (K := Kpt (KKp 3 3 []) 3 0) (p := wP) hke, if_pos wP_text]
  obtain ⟨key, hk, _, hsl, hod⟩ := seal_back (n := 3) wP_ty (fun f t key h => by have := kpt_some (KKp_len 3 3 []).symm h; exact ⟨this.1, this.2.1⟩) hs0
  have HSE := Lib.hid (seal_any rb w1.heap.size 3 _ (Kpt (KKp 3 3 []) 3 0) wP B w3 wP_ty HR3.out hlen (HEV.out _ HB3.out).1 (HEV.out _ HB3.out).2)
  have hml := mtext_len wP_text
  have HSL := Lib.hid hsl
  have HOD := Lib.hid hod
  have HML := Lib.hid hml
  have HS0 := Lib.hid hs0
  clear hd2 hw3 hb3 hke hk hsl hod hlen hml hs0
  go_wp2_with (first
    | (go_at_call 7; refine (carriers_any 3 w1.heap.size rb w2 HRG.out.row).mono ?_; rintro e w' ⟨rfl, hq⟩; have hq2 := hq.symm; subst hq2)
    | (refine wpList_store_row rfl 38 _ _ rfl w2.heap.size (pkV wP) rfl rfl 38 pk0 HD2.out sizePk rfl (pkv_one _) ?_; rw [← HW3.out])
    | (refine wpList_load_row rfl 38 _ rfl w2.heap.size rfl 38 (pkV wP) (0, 0) _ HP3.out Tryz.underlying38 rfl sizePk ?_))
  go_at_call 5
  refine (HSE.out).mono ?_
  rintro e w4 ⟨pv, cv, rfl, hbs4, hb4⟩
  rw [HS0.out]
  rw [HSL.out] at hbs4 ⊢
  obtain ⟨text, ht⟩ : ∃ t, t = (mtextL wP).1 := ⟨_, rfl⟩
  rw [← ht] at hbs4 HOD HML ⊢
  obtain ⟨mc, hmc⟩ : ∃ t, t = macT key text := ⟨_, rfl⟩
  have hmcl : mc.length = 32 := by rw [hmc]; exact macT_len _ _
  rw [← hmc] at hbs4 HOD ⊢
  obtain ⟨L, hL⟩ : ∃ L, L = (text ++ mc).length := ⟨_, rfl⟩
  have hL32 : L = text.length + 32 := by rw [hL, List.length_append, hmcl]
  rw [← hL] at hbs4 ⊢
  have HB4 := Lib.hid (HB3.out.trans (hb4.mono HB3.out.size))
  have HR4 := Lib.hid (HR3.out.later hb4)
  have HP4 := Lib.hid ((hb4.block _ (lt_of_heap HP3.out)).trans HP3.out)
  have HOP := Lib.hid (open_full rb w1.heap.size 3 _ 2 (Kpt (KKp 3 3 []) 3 0) text mc (.slice pv L cv) _ B w4 hmcl HR4.out (by decide) (by decide) HLN.out hbs4 (fun b hb => hb.2) (by have := HML.out; omega) (HEV.out _ HB4.out).1 (HEV.out _ HB4.out).2)
  rw [show openD 3 (Kpt (KKp 3 3 []) 3 0) 2 text mc = (wP, 0) from HOD.out] at HOP
  unfold PackP at HOP
  obtain ⟨pa, rfl⟩ : ∃ pa, pv = some pa := by
    obtain ⟨p, cap, e, hc, hp⟩ := hbs4
    obtain ⟨b, o, e2, _⟩ := hp (by omega)
    cases e
    exact ⟨_, e2⟩
  have hcv : 31 ≤ (cv : Int) := by
    obtain ⟨p, cap, e, hc, hp⟩ := hbs4
    cases e
    omega
  have HL := Lib.hid hL
  have HL32 := Lib.hid hL32
  clear ht hmc hbs4 hb4 hL hL32 hmcl
  go_wp2_with fail
  go_at_call 6
  refine (HOP.out).mono ?_
  rintro e w5 ⟨rfl, hb5⟩
  have HB5 := Lib.hid (HB4.out.trans (hb5.mono HB4.out.size))
  have HP5 := Lib.hid ((hb5.block _ (lt_of_heap HP4.out)).trans HP4.out)
  have hr5 := HR4.out.later hb5
  have hd5 : (w5.alloc (.cells pk0 38)).heap[w5.heap.size]? = some (.cells pk0 38 (0, 0)) := at_last _ _
  have HD5 := Lib.hid hd5
  obtain ⟨w6, hw6⟩ : ∃ w6, w6 = (w5.alloc (.cells pk0 38)).setRow w5.heap.size (pkV wP) := ⟨_, rfl⟩
  have hb6 : Below w5.heap.size w5 w6 := by rw [hw6]; exact below_setR ((Below.refl _ _).alloc (Nat.le_refl _) _) (Nat.le_refl _) _
  have HW6 := Lib.hid hw6
  have HQ6 := Lib.hid (show w6.heap[w5.heap.size]? = some (.cells (pkV wP) 38 (0, 0)) by rw [hw6]; exact setRow_heap _ _ _ _ _ _ hd5)
  have HB6 := Lib.hid (HB5.out.trans (hb6.mono HB5.out.size))
  have HP6 := Lib.hid ((hb6.block _ (lt_of_heap HP5.out)).trans HP5.out)
  have HFW := Lib.hid (open_few rb w1.heap.size 3 _ 2 (Kpt (KKp 3 3 []) 3 0) 31 (some pa) cv w6 110 (.inr ⟨by decide, by decide, rfl⟩) (hr5.later hb6) (by decide))
  unfold PackP at HFW
  clear hd5 hw6 hb6 hb5 hr5
  go_wp2_with (first
    | (refine wpList_store_row rfl 38 _ _ rfl w5.heap.size (pkV wP) rfl rfl 38 pk0 HD5.out sizePk rfl (pkv_one _) ?_; rw [← HW6.out]))
  go_at_call 6
  refine (HFW.out).mono ?_
  rintro e w7 ⟨rfl, hb7⟩
  have HB7 := Lib.hid (HB6.out.trans (hb7.mono HB6.out.size))
  have HP7 := Lib.hid ((hb7.block _ (lt_of_heap HP6.out)).trans HP6.out)
  have HQ7 := Lib.hid ((hb7.block _ (lt_of_heap HQ6.out)).trans HQ6.out)
  have hd7 : (w7.alloc (.cells pk0 38)).heap[w7.heap.size]? = some (.cells pk0 38 (0, 0)) := at_last _ _
  have HD7 := Lib.hid hd7
  obtain ⟨w8, hw8⟩ : ∃ w8, w8 = (w7.alloc (.cells pk0 38)).setRow w7.heap.size pk0 := ⟨_, rfl⟩
  have hb8 : Below w7.heap.size w7 w8 := by rw [hw8]; exact below_setR ((Below.refl _ _).alloc (Nat.le_refl _) _) (Nat.le_refl _) _
  have HW8 := Lib.hid hw8
  have HB8 := Lib.hid (HB7.out.trans (hb8.mono HB7.out.size))
  have HP8 := Lib.hid ((hb8.block _ (lt_of_heap HP7.out)).trans HP7.out)
  have HQ8 := Lib.hid ((hb8.block _ (lt_of_heap HQ7.out)).trans HQ7.out)
  have heq : ∀ W, (binOp .eql 38 (.agg (pkV wP)) (.agg (pkV wP))).run Tryz.prog W = .ok (.bool true) W := fun W => by
    have h := eql_pk wP wP W
    rw [decide_eq_true rfl] at h
    exact h
  clear hd7 hw8 hb8 hb7
  go_wp2_with (first
    | (refine wpList_store_row rfl 38 _ _ rfl w7.heap.size pk0 rfl rfl 38 pk0 HD7.out sizePk rfl pk0_one ?_; rw [← HW8.out])
    | (refine wpList_load_rowG (by rfl) 38 _ rfl w5.heap.size rfl 38 (pkV wP) (0, 0) _ HQ8.out Tryz.underlying38 rfl sizePk ?_)
    | (refine wpList_load_rowG (by rfl) 38 _ rfl w2.heap.size rfl 38 (pkV wP) (0, 0) _ HP8.out Tryz.underlying38 rfl sizePk ?_))
  go_ret
  exact ⟨rfl, HB8.out⟩
end Go.Proofs.YtgaoeljdlpemnaaGreatDoor
