/- SealBack -/
import Derived.Test.YtgaoeljdlpemnaaGreatDoorSeT
/- What SealBack and SealRings share -/
namespace Go.Proofs.YtgaoeljdlpemnaaGreatDoor
open Go.RowKit Go.Edi Go.Wrap Go.Lib
open Go.Sha (bv zl)

theorem sealL_err {K : Nat → Nat → Option Tx} {p : Pk} (h : (sealL K p).2 ≠ 0) : (sealL K p).1 = [] := by
  unfold sealL at h ⊢
  split
  · rfl
  · rename_i key hk
    rw [hk] at h
    simp only at h
    split
    · rename_i h0
      rw [if_pos h0] at h
      exact absurd rfl h
    · rfl
theorem seal_other {n : Nat} {K : Nat → Nat → Option Tx} {p : Pk} {i : Nat} {mac : Tx} (hp : p.Ty) (h0 : (mtextL p).2 = 0) (hi : p.to_ ≠ i) :
    ∃ e, openD n K i (mtextL p).1 mac = (.zero, e) ∧ e ≠ 0 := by
  cases ha : anyB n K i (mtextL p).1 (bn mac) with
  | false => exact ⟨_, openD_no ha, by decide⟩
  | true =>
    have hm := mtext_parse hp h0
    exact ⟨_, openD_not ha (by rw [hm]) (fun h => hi (by rw [hm] at h; exact h.1)), by decide⟩
theorem wk_any {B : Nat} {w : World} (he : Ev B w) (hB : B ≤ w.heap.size) : ∀ wz, Below w.heap.size w wz → Calls Tryz.prog 8 #[] wz fun e w' => e = .returned (.bool true) ∧ Below wz.heap.size wz w' := fun wz hz => sewakes_any B wz (he.on (hz.mono hB)) (Nat.le_trans hB hz.size)
theorem neq_pk' (a : Pk) (W : World) : (binOp .neq 38 (.agg (pkV a)) (.agg (pkV a))).run Tryz.prog W = .ok (.bool false) W := by
  have h := neq_pk a a W
  rw [decide_eq_true rfl] at h
  exact h
end Go.Proofs.YtgaoeljdlpemnaaGreatDoor
namespace Go.Proofs.YtgaoeljdlpemnaaGreatDoor
open Go.RowKit Go.Edi Go.Wrap Go.Lib
open Go.Sha (bv zl)

set_option maxRecDepth 100000 in
theorem sealback_bad (n0 : Int) (p : Pk) (M : Nat) (mp : Option Addr) (cap B : Nat) (w : World) (he : Ev B w) (hB : B ≤ w.heap.size) (h : n0 < 2 ∨ 8 < n0 ∨ 60 < M) :
    Calls Tryz.prog 4 #[.int .i64 n0, .slice mp M cap, .agg (pkV p)] w fun e w' => e = .returned (.bool true) ∧ Below w.heap.size w w' := by
  have HB0 := hid (show Below w.heap.size w (w.alloc (.cells (pkV p) 38)) from (Below.refl _ _).alloc (Nat.le_refl _) _)
  have HWK := hid (wk_any he hB)
  clear he hB
  have hc : n0 < 2 ∨ (¬ n0 < 2 ∧ 8 < n0) ∨ (¬ n0 < 2 ∧ ¬ 8 < n0 ∧ 60 < (M : Int)) := by omega
  clear h
  rcases hc with h | ⟨h1, h2⟩ | ⟨h1, h2, h3⟩
  all_goals
    go_enter Tryz.func4, Tryz.ntmps4
    go_wp2_with (go_at_call 8; refine (HWK.out _ HB0.out).mono ?_; rintro e w4 ⟨rfl, hb4⟩; have HB4 := hid (HB0.out.trans (hb4.mono HB0.out.size)); clear hb4)
    go_ret
    exact ⟨rfl, HB4.out⟩
set_option maxRecDepth 100000 in
set_option maxHeartbeats 3200000 in
theorem sealback_good (n : Nat) (p : Pk) (more : Tx) (mp : Option Addr) (cap B : Nat) (w : World) (hp : p.Ty) (he : Ev B w) (hB : B ≤ w.heap.size) (h2 : 2 ≤ n) (h8 : n ≤ 8) (hm : more.length ≤ 60) (hv : BysF w (· < w.heap.size) (.slice mp more.length cap) more) :
    Calls Tryz.prog 4 #[.int .i64 (n : Int), .slice mp more.length cap, .agg (pkV p)] w fun e w' => e = .returned (.bool true) ∧ Below w.heap.size w w' := by
  have hb0 : Below w.heap.size w (w.alloc (.cells (pkV p) 38)) := (Below.refl _ _).alloc (Nat.le_refl _) _
  have HB0 := hid hb0
  have HP0 := hid (show (w.alloc (.cells (pkV p) 38)).heap[w.heap.size]? = some (.cells (pkV p) 38 (0, 0)) from at_last _ _)
  have HEV := hid (show ∀ wz, Below w.heap.size w wz → Ev B wz ∧ B ≤ wz.heap.size from fun wz hz => ⟨he.on (hz.mono hB), Nat.le_trans hB hz.size⟩)
  have HWK := hid (wk_any he hB)
  have HV := hid (vk_kkp (n := n) (more := more) h2 h8 (by omega))
  have hky := keys_any n more (.slice mp more.length cap) (· < w.heap.size) (w.alloc (.cells (pkV p) 38)) h8 (hv.kept (fun b hb => ⟨hb, hb0.block b hb⟩)) (fun b hb => by rw [size_a]; omega) (by omega)
  obtain ⟨M, hM⟩ : ∃ M, M = more.length := ⟨_, rfl⟩
  rw [← hM] at hky ⊢
  have HKY := hid hky
  have hM60 : (M : Int) ≤ 60 := by omega
  have h2i : 2 ≤ (n : Int) := by omega
  have h8i : (n : Int) ≤ 8 := by omega
  have HN := hid (And.intro h2 h8)
  have HPT := hid hp
  clear hb0 he hB hv hky hm hM hp h2 h8
  go_enter Tryz.func4, Tryz.ntmps4
  go_wp2_with fail
  go_at_call 10
  refine (HKY.out).mono ?_
  rintro e w1 ⟨u, rfl, hk1, hb1⟩
  have HB1 := hid (HB0.out.trans (hb1.mono HB0.out.size))
  have HP1 := hid ((hb1.block _ (lt_of_heap HP0.out)).trans HP0.out)
  have hnew := new_any (KKp n n more) u _ w1 HV.out hk1 (fun b hb => hb.2)
  rw [KKp_len] at hnew
  have HNW := hid hnew
  clear hk1 hb1 hnew
  go_wp2_with fail
  go_at_call 9
  refine (HNW.out).mono ?_
  rintro e w2 ⟨rfl, hr2, hb2⟩
  have HB2 := hid (HB1.out.trans (hb2.mono HB1.out.size))
  have HP2 := hid ((hb2.block _ (lt_of_heap HP1.out)).trans HP1.out)
  obtain ⟨rb, hrb⟩ : ∃ rb, rb = w1.heap.size + 1 := ⟨_, rfl⟩
  rw [← hrb] at hr2 ⊢
  have HRG := hid hr2
  have hlen : ∀ f t key, Kpt (KKp n n more) n 0 f t = some key → key.length ≤ 64 := fun f t key h => kpt_le HV.out (by rw [KKp_len]; exact h)
  have HKN := hid (show ∀ f t key, Kpt (KKp n n more) n 0 f t = some key → f < n ∧ t < n from fun f t key h => by have := kpt_some (KKp_len n n more).symm h; exact ⟨this.1, this.2.1⟩)
  generalize Kpt (KKp n n more) n 0 = K at *
  have HLN := hid hlen
  obtain ⟨mb, hmb⟩ : ∃ mb, mb = w1.heap.size := ⟨_, rfl⟩
  rw [← hmb] at HRG
  obtain ⟨o, ho⟩ : ∃ o, o = sealL K p := ⟨_, rfl⟩
  have HO := hid ho
  have hse := seal_any rb mb n _ K p B w2 HPT.out HRG.out hlen (HEV.out _ HB2.out).1 (HEV.out _ HB2.out).2
  rw [← ho] at hse
  have HSE := hid hse
  clear hr2 hb2 hrb hlen hmb ho hse
  go_wp2_with (first
    | (refine wpList_load_row rfl 38 _ rfl w.heap.size rfl 38 (pkV p) (0, 0) _ HP2.out Tryz.underlying38 rfl sizePk ?_))
  go_at_call 5
  refine (HSE.out).mono ?_
  rintro e w4 ⟨pv, cv, rfl, hbs4, hb4⟩
  have HB4 := hid (HB2.out.trans (hb4.mono HB2.out.size))
  have HP4 := hid ((hb4.block _ (lt_of_heap HP2.out)).trans HP2.out)
  have HR4 := hid (HRG.out.later hb4)
  have hse2 := seal_any rb mb n _ K p B w4 HPT.out HR4.out HLN.out (HEV.out _ HB4.out).1 (HEV.out _ HB4.out).2
  rw [← HO.out] at hse2
  have HSE2 := hid hse2
  have HBS4 := hid hbs4
  clear hbs4 hb4 hse2
  go_wp2_with (first
    | (refine wpList_load_row rfl 38 _ rfl w.heap.size rfl 38 (pkV p) (0, 0) _ HP4.out Tryz.underlying38 rfl sizePk ?_))
  go_at_call 5
  refine (HSE2.out).mono ?_
  rintro e w5 ⟨pv2, cv2, rfl, hbs5, hb5⟩
  have HB5 := hid (HB4.out.trans (hb5.mono HB4.out.size))
  have HP5 := hid ((hb5.block _ (lt_of_heap HP4.out)).trans HP4.out)
  have HR5 := hid (HR4.out.later hb5)
  have hc2 := bys_str hbs5
  have HBS5 := hid (HBS4.out.kept (w' := w5) (F' := (· < w5.heap.size)) (fun b hb => ⟨by have := hb5.size; show b < _; omega, hb5.block b hb.2⟩))
  have hc1 := bys_str HBS5.out
  obtain ⟨l, E⟩ := o
  simp only at hc1 hc2 HBS5
  clear hbs5 hb5
  by_cases hE : E = 0
  · subst hE
    obtain ⟨key, hk, h0, hl, hod⟩ := seal_back (n := n) (K := K) HPT.out HKN.out (by rw [← HO.out])
    have hl2 : l = (mtextL p).1 ++ macT key (mtextL p).1 := by rw [← hl, ← HO.out]
    have hml := mtext_len h0
    have hmc := macT_len key (mtextL p).1
    have HOT := hid (show ∀ i, p.to_ ≠ i → ∃ e, openD n K i (mtextL p).1 (macT key (mtextL p).1) = (.zero, e) ∧ e ≠ 0 from fun i hi => seal_other HPT.out h0 hi)
    have hto := (HKN.out _ _ _ hk).2
    obtain ⟨text, ht⟩ : ∃ t, t = (mtextL p).1 := ⟨_, rfl⟩
    rw [← ht] at hl2 hml hmc hod HOT
    obtain ⟨mc, hmcc⟩ : ∃ t, t = macT key text := ⟨_, rfl⟩
    rw [← hmcc] at hl2 hmc hod HOT
    subst hl2
    obtain ⟨L, hL⟩ : ∃ L, L = (text ++ mc).length := ⟨_, rfl⟩
    rw [← hL] at hc1 hc2 HBS5 ⊢
    have HOPN := hid (show ∀ (i : Nat) wz, i < n → Below w5.heap.size w5 wz → Calls Tryz.prog 6 #[.pointer (some ⟨rb, 0, none⟩), .int .u8 (i : Int), .slice pv L cv] wz (PackP (openD n K i text mc) wz) from
      fun i wz hi hz => open_full rb mb n _ i K text mc _ (· < w5.heap.size) B wz hmc (HR5.out.later hz) HN.out.2 hi HLN.out (by have := HBS5.out.kept (w' := wz) (F' := (· < w5.heap.size)) (fun b hb => ⟨hb, hz.block b hb⟩); unfold BysF; rw [← hL]; exact this) (fun b hb => Nat.lt_of_lt_of_le hb hz.size) (by omega) (HEV.out _ (HB5.out.trans (hz.mono HB5.out.size))).1 (HEV.out _ (HB5.out.trans (hz.mono HB5.out.size))).2)
    have HPB := hid (show ∀ wz, Below w5.heap.size w5 wz → wz.heap[w.heap.size]? = some (.cells (pkV p) 38 (0, 0)) from fun wz hz => (hz.block _ (lt_of_heap HP5.out)).trans HP5.out)
    have hop := HOPN.out p.to_ w5 hto (Below.refl _ _)
    rw [hod] at hop
    unfold PackP at hop
    have HOP := hid hop
    have hto8 : (p.to_ : Int) ≤ 7 := by have := HN.out; omega
    have hq1 : w5.cell? ⟨w.heap.size, 1, none⟩ = some (.int .u8 (p.to_ : Int)) := cell_of_arr HP5.out 1
    have hlq := lt_of_heap HP5.out
    clear hk h0 hl hml hmc hod ht hmcc hL hop
    go_wp2_with fail
    go_at_call 6
    refine (HOP.out).mono ?_
    rintro e w6 ⟨rfl, hb6⟩
    have HB56 := hid hb6
    have HB6 := hid (HB5.out.trans (hb6.mono HB5.out.size))
    have hd6 : (w6.alloc (.cells pk0 38)).heap[w6.heap.size]? = some (.cells pk0 38 (0, 0)) := at_last _ _
    have HD6 := hid hd6
    obtain ⟨w7, hw7⟩ : ∃ w7, w7 = (w6.alloc (.cells pk0 38)).setRow w6.heap.size (pkV p) := ⟨_, rfl⟩
    have hb7 : Below w6.heap.size w6 w7 := by rw [hw7]; exact below_setR ((Below.refl _ _).alloc (Nat.le_refl _) _) (Nat.le_refl _) _
    have HW7 := hid hw7
    have HP7 := hid (show w7.heap[w6.heap.size]? = some (.cells (pkV p) 38 (0, 0)) by rw [hw7]; exact setRow_heap _ _ _ _ _ _ hd6)
    have HB67 := hid hb7
    have HX7 := hid (HPB.out w7 (hb6.trans (hb7.mono hb6.size)))
    have hnq := neq_pk' p
    have hnz := neq_pk' .zero
    simp only [pk0_zero] at hnz
    clear hd6 hw7 hb7 hb6 hq1
    go_wp2_with (first
      | (refine wpList_store_row rfl 38 _ _ rfl w6.heap.size (pkV p) rfl rfl 38 pk0 HD6.out sizePk rfl (pkv_one _) ?_; rw [← HW7.out])
      | (refine wpList_load_rowG (by rfl) 38 _ rfl w6.heap.size rfl 38 (pkV p) (0, 0) _ HP7.out Tryz.underlying38 rfl sizePk ?_)
      | (refine wpList_load_rowG (by rfl) 38 _ rfl w.heap.size rfl 38 (pkV p) (0, 0) _ HX7.out Tryz.underlying38 rfl sizePk ?_))
    go_loopw [14, 15] (fun _ x wr => ∃ (i : Nat) (q : Pk), x = .int .i64 (i : Int) ∧ i ≤ n ∧ wr.heap[w6.heap.size]? = some (.cells (pkV q) 38 (0, 0)) ∧ Below w6.heap.size w6 wr) (fun _ x _ => n - (intOf x).toNat)
    case atStart => exact ⟨0, p, rfl, Nat.zero_le _, HP7.out, HB67.out⟩
    case round =>
      obtain ⟨i, q, rfl, hi, hq, hbl⟩ := hrel
      have HBL := hid hbl
      have HQ := hid hq
      have HB5r := hid (HB56.out.trans (hbl.mono HB56.out.size))
      clear hq hbl
      by_cases hlt : (i : Int) < (n : Int)
      · have hi0 : (0 : Int) ≤ (i : Int) := Int.natCast_nonneg _
        have hqr : wr.cell? ⟨w.heap.size, 1, none⟩ = some (.int .u8 (p.to_ : Int)) := cell_of_arr (HPB.out wr HB5r.out) 1
        have hlr := lt_of_heap (HPB.out wr HB5r.out)
        have hwt : IntKind.i64.wrap (p.to_ : Int) = (p.to_ : Int) := by rw [IntKind.wrap_i64]; omega
        by_cases hit : (i : Int) = (p.to_ : Int)
        · go_wp2
          go_roundw
          case rel => exact ⟨i + 1, q, by go_num, by omega, HQ.out, HBL.out⟩
          case measure => simp [intOf]; omega
        · obtain ⟨e, hoe, hne⟩ := HOT.out i (by omega)
          have hopi := HOPN.out i wr (by omega) HB5r.out
          rw [hoe] at hopi
          unfold PackP at hopi
          dsimp only at hopi
          obtain ⟨ei, hee⟩ : ∃ ei : Int, ei = ((e : Nat) : Int) := ⟨_, rfl⟩
          have hei : ¬ ei = 0 := by omega
          have heb : (ei == 0) = false := by simp [hei]
          rw [← hee] at hopi
          have HOI := hid hopi
          have hw8 : IntKind.u8.wrap (i : Int) = (i : Int) := IntWalk.u8_in _ (by omega)
          clear hoe hopi hne hee
          go_wp2_with fail
          go_at_call 6
          refine (HOI.out).mono ?_
          rintro e w8 ⟨rfl, hb8⟩
          have HB8 := hid (HBL.out.trans (hb8.mono HBL.out.size))
          have HQ8 := hid ((hb8.block _ (lt_of_heap HQ.out)).trans HQ.out)
          obtain ⟨w9, hw9⟩ : ∃ w9, w9 = w8.setRow w6.heap.size pk0 := ⟨_, rfl⟩
          have HW9 := hid hw9
          have HQ9 := hid (show w9.heap[w6.heap.size]? = some (.cells pk0 38 (0, 0)) by rw [hw9]; exact setRow_heap _ _ _ _ _ _ HQ8.out)
          have HB9 := hid (show Below w6.heap.size w6 w9 by rw [hw9]; exact below_setR HB8.out (Nat.le_refl _) _)
          clear hw9 hb8
          go_wp2_with (first
            | (refine wpList_store_row rfl 38 _ _ rfl w6.heap.size pk0 rfl rfl 38 (pkV q) HQ8.out sizePk rfl pk0_one ?_; rw [← HW9.out])
            | (refine wpList_load_rowG (by rfl) 38 _ rfl w6.heap.size rfl 38 pk0 (0, 0) _ HQ9.out Tryz.underlying38 rfl sizePk ?_))
          go_roundw
          case rel => exact ⟨i + 1, .zero, by go_num, by omega, HQ9.out, HB9.out⟩
          case measure => simp [intOf]; omega
      · have HB7 := hid (HB6.out.trans (HBL.out.mono HB6.out.size))
        go_wp2_with (go_at_call 8; refine (HWK.out _ HB7.out).mono ?_; rintro e w8 ⟨rfl, hb8⟩; have HB8 := hid (HB7.out.trans (hb8.mono HB7.out.size)); clear hb8)
        go_ret
        exact ⟨rfl, HB8.out⟩
  · have hl0 : l = [] := by have := sealL_err (K := K) (p := p) (by rw [← HO.out]; exact hE); rw [← HO.out] at this; exact this
    subst hl0
    simp only [List.length_nil] at hc1 hc2
    have hEi : ¬ ((E : Nat) : Int) = 0 := by omega
    clear hE
    go_wp2_with (go_at_call 8; refine (HWK.out _ HB5.out).mono ?_; rintro e w6 ⟨rfl, hb6⟩; have HB6 := hid (HB5.out.trans (hb6.mono HB5.out.size)); clear hb6)
    go_ret
    exact ⟨rfl, HB6.out⟩
theorem sealback_walk (n0 : Int) (p : Pk) (more : Tx) (mp : Option Addr) (cap B : Nat) (w : World) (hp : p.Ty) (he : Ev B w) (hB : B ≤ w.heap.size) (hv : BysF w (· < w.heap.size) (.slice mp more.length cap) more) :
    Calls Tryz.prog 4 #[.int .i64 n0, .slice mp more.length cap, .agg (pkV p)] w fun e w' => e = .returned (.bool true) ∧ Below w.heap.size w w' := by
  by_cases h : n0 < 2 ∨ 8 < n0 ∨ 60 < more.length
  · exact sealback_bad n0 p more.length mp cap B w he hB h
  · obtain ⟨n, rfl⟩ : ∃ n : Nat, n0 = (n : Int) := ⟨n0.toNat, by omega⟩
    exact sealback_good n p more mp cap B w hp he hB (by omega) (by omega) (by omega) hv
end Go.Proofs.YtgaoeljdlpemnaaGreatDoor
