/- Contract: keys, all unlike. -/
import Derived.Test.YtgaoeljdlpemnaaGreatDoorSeR
import Derived.Test.YtgaoeljdlpemnaaGreatDoorWrapDcQ
import Derived.Test.YtgaoeljdlpemnaaGreatDoorEdiLt
/- Contract: a letter is opened. -/
namespace Go.Proofs.YtgaoeljdlpemnaaGreatDoor
open Go.RowKit Go.Edi Go.Wrap Go.Lib
open Go.Sha (bv zl)

attribute [local go_sem high, local simp high] z25s
/-- a letter's text and mac -/
def ltext (l : Tx) : Tx := l.take (l.length - 32)
def lmac (l : Tx) : Tx := l.drop (l.length - 32)
/-- a letter's packet -/
def openD (n : Nat) (K : Nat → Nat → Option Tx) (t : Nat) (text s : Tx) : Pk × Nat :=
  if anyB n K t text (bn s) then
    if (mparseL text).2 = 0 then
      if (mparseL text).1.to_ = t ∧ rightB K t text (bn s) (mparseL text).1.from_ then ((mparseL text).1, 0) else (.zero, 101)
    else (.zero, (mparseL text).2)
  else (.zero, 110)
def openR (n : Nat) (K : Nat → Nat → Option Tx) (t : Nat) (l : Tx) : Pk × Nat :=
  if n ≤ t then (.zero, 1) else if l.length < 32 then (.zero, 110) else openD n K t (ltext l) (lmac l)
theorem openD_no {n : Nat} {K : Nat → Nat → Option Tx} {t : Nat} {text s : Tx} (h : anyB n K t text (bn s) = false) : openD n K t text s = (.zero, 110) := by unfold openD; rw [h]; rfl
theorem openD_bad {n : Nat} {K : Nat → Nat → Option Tx} {t : Nat} {text s : Tx} (h : anyB n K t text (bn s) = true) (h2 : (mparseL text).2 ≠ 0) : openD n K t text s = (.zero, (mparseL text).2) := by unfold openD; rw [h, if_pos rfl, if_neg h2]
theorem openD_not {n : Nat} {K : Nat → Nat → Option Tx} {t : Nat} {text s : Tx} (h : anyB n K t text (bn s) = true) (h2 : (mparseL text).2 = 0) (h3 : ¬ ((mparseL text).1.to_ = t ∧ rightB K t text (bn s) (mparseL text).1.from_ = true)) : openD n K t text s = (.zero, 101) := by unfold openD; rw [h, if_pos rfl, if_pos h2, if_neg h3]
theorem openD_yes {n : Nat} {K : Nat → Nat → Option Tx} {t : Nat} {text s : Tx} (h : anyB n K t text (bn s) = true) (h2 : (mparseL text).2 = 0) (h3 : (mparseL text).1.to_ = t) (h4 : rightB K t text (bn s) (mparseL text).1.from_ = true) : openD n K t text s = ((mparseL text).1, 0) := by unfold openD; rw [h, if_pos rfl, if_pos h2, if_pos ⟨h3, h4⟩]
theorem mparse_ft {t : Tx} (h : (mparseL t).2 = 0) : (mparseL t).1.from_ < 8 ∧ (mparseL t).1.to_ < 8 := by
  unfold mparseL at h ⊢
  split at h
  · rename_i h0
    rw [if_pos h0]
    unfold packL at h ⊢
    split at h
    · cases h
    · rename_i hft
      rw [if_neg hft]
      split at h
      · cases h
      · split at h
        · rename_i ha
          simp only [ha, if_true]
          split at h
          · rename_i hel
            simp only [hel, if_true]
            split at h
            · simp only; omega
            · cases h
          · cases h
        · rename_i ha
          simp only [ha, if_false]
          split at h
          · simp only; omega
          · rename_i hq
            exact absurd h (rm_ne hq)
  · rename_i h0; exact absurd h h0
set_option maxRecDepth 100000 in
theorem open_nil (t : Nat) (v : Value) (w : World) : Calls Tryz.prog 6 #[.pointer none, .int .u8 (t : Int), v] w (PackP (.zero, 8) w) := by
  have hd0 : (w.alloc (.cells pk0 38)).heap[w.heap.size]? = some (.cells pk0 38 (0, 0)) := at_last _ _
  have HD0 := Lib.hid hd0
  have HB0 := Lib.hid (show Below w.heap.size w (w.alloc (.cells pk0 38)) from (Below.refl _ _).alloc (Nat.le_refl _) _)
  clear hd0
  go_enter Tryz.func6, Tryz.ntmps6
  go_wp2_with (refine wpList_store_row rfl 38 _ _ rfl w.heap.size pk0 rfl rfl 38 pk0 HD0.out sizePk rfl pk0_one ?_)
  refine bodyPost_ret (results_cell_tmp_row rfl _ _ w.heap.size 38 pk0 (0, 0) _ rfl (setRow_heap _ _ _ _ _ _ HD0.out) Tryz.underlying38 rfl sizePk) rfl ?_
  exact ⟨rfl, below_setR HB0.out (by omega) _⟩
set_option maxRecDepth 100000 in
set_option maxHeartbeats 3200000 in
theorem open_few (rb mb n c t : Nat) (K : Nat → Nat → Option Tx) (N : Nat) (bp : Option Addr) (bc : Nat) (w : World) (E : Nat) (hE : (n ≤ t ∧ E = 1) ∨ (t < n ∧ N < 32 ∧ E = 110)) (hr : RgAt rb mb n c K w) (ht : t < 256) :
    Calls Tryz.prog 6 #[.pointer (some ⟨rb, 0, none⟩), .int .u8 (t : Int), .slice bp N bc] w (PackP (.zero, E) w) := by
  have hd0 : (w.alloc (.cells pk0 38)).heap[w.heap.size]? = some (.cells pk0 38 (0, 0)) := at_last _ _
  have hb0 : Below w.heap.size w (w.alloc (.cells pk0 38)) := (Below.refl _ _).alloc (Nat.le_refl _) _
  have hr1 := hr.later hb0
  have c0 := cell_of_arr hr1.row 0
  simp only [List.getElem?_toArray, List.getElem?_cons_zero] at c0
  have hlr := lt_of_heap hr.row
  have HD0 := Lib.hid hd0
  have HB0 := Lib.hid hb0
  have hw1 : IntKind.i64.wrap (t : Int) = (t : Int) := by rw [IntKind.wrap_i64]; omega
  rcases hE with ⟨h1, rfl⟩ | ⟨h1, h2, rfl⟩
  · have h1' : (n : Int) ≤ (t : Int) := by omega
    have h1b : ¬ (t : Int) < (n : Int) := by omega
    clear hd0 hb0 hr hr1 ht h1
    go_enter Tryz.func6, Tryz.ntmps6
    go_wp2_with (refine wpList_store_row rfl 38 _ _ rfl w.heap.size pk0 rfl rfl 38 pk0 HD0.out sizePk rfl pk0_one ?_)
    refine bodyPost_ret (results_cell_tmp_row rfl _ _ w.heap.size 38 pk0 (0, 0) _ rfl (setRow_heap _ _ _ _ _ _ HD0.out) Tryz.underlying38 rfl sizePk) rfl ?_
    exact ⟨rfl, below_setR HB0.out (by omega) _⟩
  · have h1' : (t : Int) < (n : Int) := by omega
    have h1b : ¬ (n : Int) ≤ (t : Int) := by omega
    have h2' : (N : Int) < 32 := by omega
    clear hd0 hb0 hr hr1 ht h1 h2
    go_enter Tryz.func6, Tryz.ntmps6
    go_wp2_with (refine wpList_store_row rfl 38 _ _ rfl w.heap.size pk0 rfl rfl 38 pk0 HD0.out sizePk rfl pk0_one ?_)
    refine bodyPost_ret (results_cell_tmp_row rfl _ _ w.heap.size 38 pk0 (0, 0) _ rfl (setRow_heap _ _ _ _ _ _ HD0.out) Tryz.underlying38 rfl sizePk) rfl ?_
    exact ⟨rfl, below_setR HB0.out (by omega) _⟩
set_option maxRecDepth 100000 in
set_option maxHeartbeats 3200000 in
theorem open_full (rb mb n c t : Nat) (K : Nat → Nat → Option Tx) (text s : Tx) (bvv : Value) (F : Nat → Prop) (B : Nat) (w : World) (hs : s.length = 32) (hr : RgAt rb mb n c K w) (hn : n ≤ 8) (ht : t < n)
    (hlen : ∀ f t key, K f t = some key → key.length ≤ 64) (hv : BysF w F bvv (text ++ s)) (hF : ∀ b, F b → b < w.heap.size) (hl : text.length ≤ 1000000) (he : Ev B w) (hB : B ≤ w.heap.size) :
    Calls Tryz.prog 6 #[.pointer (some ⟨rb, 0, none⟩), .int .u8 (t : Int), bvv] w (PackP (openD n K t text s) w) := by
  obtain ⟨w1, hw1⟩ : ∃ w1, w1 = w.alloc (.cells pk0 38) := ⟨_, rfl⟩
  have hd0 : w1.heap[w.heap.size]? = some (.cells pk0 38 (0, 0)) := by rw [hw1]; exact at_last _ _
  have hb0 : Below w.heap.size w w1 := by rw [hw1]; exact (Below.refl _ _).alloc (Nat.le_refl _) _
  have hr1 := hr.later hb0
  have c0 := cell_of_arr hr1.row 0
  simp only [List.getElem?_toArray, List.getElem?_cons_zero] at c0
  have hlr := lt_of_heap hr.row
  have hwt : IntKind.i64.wrap (t : Int) = (t : Int) := by rw [IntKind.wrap_i64]; omega
  have HPA := Lib.hid (parted_any text s bvv F w1 hs (hv.kept (fun b hb => ⟨hb, hb0.block b (hF b hb)⟩)) (fun b hb => Nat.lt_of_lt_of_le (hF b hb) hb0.size) hl)
  obtain ⟨bp, bc, rfl, hbc, _⟩ := hv
  have HSL := Lib.hid (show (bn s).length = 32 by rw [bn_len, hs])
  have HSS := Lib.hid (show (bv (bn s)).size = 32 by rw [Go.Sha.bv_size, bn_len, hs])
  have HD0 := Lib.hid hd0
  have HB0 := Lib.hid hb0
  have HRG := Lib.hid hr1
  have HN := Lib.hid (And.intro hn ht)
  have HL := Lib.hid hl
  have HF := Lib.hid (show ∀ b, F b → b < w.heap.size from hF)
  have HLN := Lib.hid hlen
  have HEV := Lib.hid (show ∀ wz, Below w.heap.size w wz → Ev B wz ∧ B ≤ wz.heap.size from fun wz hz => ⟨he.on (hz.mono hB), Nat.le_trans hB hz.size⟩)
  obtain ⟨N, hN⟩ : ∃ N, N = (text ++ s).length := ⟨_, rfl⟩
  have hN2 : ¬ (N : Int) < 32 := by rw [hN, List.length_append, hs]; omega
  have h1' : (t : Int) < (n : Int) := by omega
  have h1b : ¬ (n : Int) ≤ (t : Int) := by omega
  rw [← hN] at HPA ⊢
  have HW1 := Lib.hid hw1
  clear hd0 hb0 hr hr1 hn ht hlen hF hl he hB hs hN hbc
  go_enter Tryz.func6, Tryz.ntmps6
  go_upto_region 1 with fail
  rw [← HW1.out]
  clear HW1 hw1
  go_wp2_with fail
  go_at_call 13
  refine (HPA.out).mono ?_
  rintro e w2 ⟨tp, rfl, hbs2, hb2⟩
  have HB2 := Lib.hid (HB0.out.trans (hb2.mono HB0.out.size))
  have HBS2 := Lib.hid hbs2
  have HRG2 := Lib.hid (HRG.out.later hb2)
  have HD2 := Lib.hid ((hb2.block _ (lt_of_heap HD0.out)).trans HD0.out)
  have HE0 := Lib.hid (show (w2.alloc (.cells (bv (zl 32)) 62)).heap[w2.heap.size]? = some (.cells (bv (zl 32)) 62 (0, 0)) from at_last _ _)
  have HZ2 := Lib.hid hb2.size
  clear hb2 hbs2
  have hb3 : Below w2.heap.size w2 ((w2.alloc (.cells (bv (zl 32)) 62)).setRow w2.heap.size (bv (bn s))) := below_setR ((Below.refl _ _).alloc (Nat.le_refl _) _) (Nat.le_refl _) _
  have HE3 := Lib.hid (show ((w2.alloc (.cells (bv (zl 32)) 62)).setRow w2.heap.size (bv (bn s))).heap[w2.heap.size]? = some (.cells (bv (bn s)) 62 (0, 0)) from setRow_heap _ _ _ _ _ _ HE0.out)
  have HB3 := Lib.hid (HB2.out.trans (hb3.mono HB2.out.size))
  have HRG3 := Lib.hid (HRG2.out.later hb3)
  have HD3 := Lib.hid ((hb3.block _ (lt_of_heap HD2.out)).trans HD2.out)
  have HBS3 := Lib.hid (HBS2.out.kept (w' := ((w2.alloc (.cells (bv (zl 32)) 62)).setRow w2.heap.size (bv (bn s)))) (F' := F) (fun b hb => ⟨hb, hb3.block b (by have := HF.out b hb; have := HB2.out.size; omega)⟩))
  have hrf := rightFor_any rb t tp text.length text.length (bn s) ((w2.alloc (.cells (bv (zl 32)) 62)).setRow w2.heap.size (bv (bn s)))
  obtain ⟨c3, hc3⟩ : ∃ c3, c3 = ((w2.alloc (.cells (bv (zl 32)) 62)).setRow w2.heap.size (bv (bn s))).heap.size := ⟨_, rfl⟩
  rw [← hc3] at hrf
  have HRF := Lib.hid hrf
  have HC3 := Lib.hid hc3
  clear hb3 hrf hc3
  go_wp2_with (first
    | (refine wpList_store_row rfl 62 _ _ rfl w2.heap.size (bv (bn s)) rfl rfl 62 (bv (zl 32)) HE0.out (by rw [HSS.out]; exact sizeDg) (by rw [HSS.out, Go.Sha.bv_size, Go.Sha.zl_len]) (Go.Sha.bv_one _) ?_)
    | (refine wpList_load_row rfl 62 _ rfl w2.heap.size rfl 62 (bv (bn s)) (0, 0) _ HE3.out Tryz.underlying62 rfl (by rw [HSS.out]; exact sizeDg) ?_))
  go_at_call 14
  refine (HRF.out).mono ?_
  rintro e w4 ⟨rfl, hc4, hb4⟩
  have HB4 := Lib.hid (HB3.out.trans (hb4.mono (by rw [HC3.out]; exact HB3.out.size)))
  have hb4' := hb4
  rw [HC3.out] at hb4'
  have HRG4 := Lib.hid (HRG3.out.later hb4')
  have HC4 := Lib.hid hc4
  have HD4 := Lib.hid ((hb4'.block _ (lt_of_heap HD3.out)).trans HD3.out)
  have HBS4 := Lib.hid (HBS3.out.kept (w' := w4) (F' := F) (fun b hb => ⟨hb, hb4'.block b (by have := HF.out b hb; have := HB3.out.size; omega)⟩))
  have HF4 := Lib.hid (show ∀ b, F b → b < w4.heap.size from fun b hb => by have := HF.out b hb; have := HB4.out.size; omega)
  have HOA := Lib.hid (ofAnybody_any c3 rb mb n c t K text _ F (bn s) B w4 hc4 HRG4.out HN.out.1 (by have := HN.out; omega) HLN.out HBS4.out HF4.out HL.out HSL.out (bn_lt _) (HEV.out _ HB4.out).1 (HEV.out _ HB4.out).2)
  have HRI := Lib.hid (show ∀ (f : Nat) (wz : World), f < 256 → Below w4.heap.size w4 wz → Calls Tryz.prog 23 #[.int .u8 (f : Int), .pointer (some ⟨c3, 0, none⟩), .pointer (some ⟨c3 + 1, 0, none⟩), .pointer (some ⟨c3 + 2, 0, none⟩), .pointer (some ⟨c3 + 3, 0, none⟩)] wz fun e w' => e = .returned (.bool (rightB K t text (bn s) f)) ∧ Below wz.heap.size wz w' from
    fun f wz hf hz => right1_any c3 rb mb n c t f K text _ F (bn s) B wz (hc4.later hz) (HRG4.out.later hz) hf (by have := HN.out; omega) HLN.out (HBS4.out.kept (fun b hb => ⟨hb, hz.block b (HF4.out b hb)⟩)) (fun b hb => Nat.lt_of_lt_of_le (HF4.out b hb) hz.size) HL.out HSL.out (bn_lt _) ((HEV.out _ HB4.out).1.on (hz.mono (HEV.out _ HB4.out).2)) (Nat.le_trans (HEV.out _ HB4.out).2 hz.size))
  clear hc4 hb4 hb4'
  go_wp2_with fail
  go_at_call 15
  refine (HOA.out).mono ?_
  rintro e w5 ⟨rfl, hb5⟩
  have HB5 := Lib.hid (HB4.out.trans (hb5.mono HB4.out.size))
  have HB45 := Lib.hid hb5
  have HD5 := Lib.hid ((hb5.block _ (lt_of_heap HD4.out)).trans HD4.out)
  have HBS5 := Lib.hid (HBS4.out.kept (w' := w5) (F' := F) (fun b hb => ⟨hb, hb5.block b (HF4.out b hb)⟩))
  clear hb5
  cases hq : anyB n K t text (bn s) with
  | false =>
    have HOP := Lib.hid (openD_no hq)
    clear hq
    go_wp2_with (refine wpList_store_row rfl 38 _ _ rfl w.heap.size pk0 rfl rfl 38 pk0 HD5.out sizePk rfl pk0_one ?_)
    refine bodyPost_ret (results_cell_tmp_row rfl _ _ w.heap.size 38 pk0 (0, 0) _ rfl (setRow_heap _ _ _ _ _ _ HD5.out) Tryz.underlying38 rfl sizePk) rfl ?_
    rw [HOP.out]
    exact ⟨rfl, below_setR HB5.out (Nat.le_refl _) _⟩
  | true =>
    have HOB := Lib.hid (fun h => openD_bad (K := K) hq h)
    have HON := Lib.hid (fun h h3 => openD_not (K := K) hq h h3)
    have HOY := Lib.hid (fun h h3 h4 => openD_yes (K := K) hq h h3 h4)
    have HFT := Lib.hid (show (mparseL text).2 = 0 → _ from mparse_ft)
    clear hq
    have HMP := Lib.hid (mparse_any text B w5 (HEV.out _ HB5.out).1.env (HEV.out _ HB5.out).2)
    unfold PackP at HMP
    have hcv := bys_str HBS5.out
    generalize mparseL text = R at *
    obtain ⟨p, E⟩ := R
    simp only at HMP HOB HON HOY HFT
    go_wp2_with fail
    go_at_call 16
    refine (HMP.out).mono ?_
    rintro e w6 ⟨rfl, hb6⟩
    have HB6 := Lib.hid (HB5.out.trans (hb6.mono HB5.out.size))
    have HB46 := Lib.hid (HB45.out.trans (hb6.mono HB45.out.size))
    have HD6 := Lib.hid ((hb6.block _ (lt_of_heap HD5.out)).trans HD5.out)
    have HP0 := Lib.hid (show (w6.alloc (.cells pk0 38)).heap[w6.heap.size]? = some (.cells pk0 38 (0, 0)) from at_last _ _)
    obtain ⟨w7, hw7⟩ : ∃ w7, w7 = (w6.alloc (.cells pk0 38)).setRow w6.heap.size (pkV p) := ⟨_, rfl⟩
    have hb7 : Below w6.heap.size w6 w7 := by rw [hw7]; exact below_setR ((Below.refl _ _).alloc (Nat.le_refl _) _) (Nat.le_refl _) _
    have HP7 := Lib.hid (show w7.heap[w6.heap.size]? = some (.cells (pkV p) 38 (0, 0)) by rw [hw7]; exact setRow_heap _ _ _ _ _ _ HP0.out)
    have HW7 := Lib.hid hw7
    have HB7 := Lib.hid (HB6.out.trans (hb7.mono HB6.out.size))
    have HB47 := Lib.hid (HB46.out.trans (hb7.mono HB46.out.size))
    have HD7 := Lib.hid ((hb7.block _ (lt_of_heap HD6.out)).trans HD6.out)
    clear hb6 hb7 hcv hw7
    by_cases hE : E = 0
    · subst hE
      have hft := HFT.out (by trivial)
      obtain ⟨f, tt, num, ack, m⟩ := p
      simp only at hft HON HOY
      have hlt7 := lt_of_heap HP7.out
      have q0 : w7.cell? ⟨w6.heap.size, 0, none⟩ = some (.int .u8 (f : Int)) := cell_of_arr HP7.out 0
      have q1 : w7.cell? ⟨w6.heap.size, 1, none⟩ = some (.int .u8 (tt : Int)) := cell_of_arr HP7.out 1
      have HQ := Lib.hid (HRI.out f _ (by omega) HB47.out)
      by_cases htt : tt = t
      · subst htt
        cases hri : rightB K tt text (bn s) f with
        | false =>
          have HOP := Lib.hid (HON.out (by trivial) (fun h => by rw [hri] at h; exact Bool.noConfusion h.2))
          rw [hri] at HQ
          clear HFT HON HOY hft hri
          go_wp2_with (first
            | (refine wpList_store_row rfl 38 _ _ rfl w6.heap.size (pkV ⟨f, tt, num, ack, m⟩) rfl rfl 38 pk0 HP0.out sizePk rfl (pkv_one _) ?_; rw [← HW7.out])
            | (go_at_call 23; refine (HQ.out).mono ?_; rintro e w8 ⟨rfl, hb8⟩; have HB8 := Lib.hid (HB7.out.trans (hb8.mono HB7.out.size)); have HD8 := Lib.hid ((hb8.block _ (lt_of_heap HD7.out)).trans HD7.out); clear hb8)
            | (refine wpList_store_row rfl 38 _ _ rfl w.heap.size pk0 rfl rfl 38 pk0 HD8.out sizePk rfl pk0_one ?_))
          refine bodyPost_ret (results_cell_tmp_row rfl _ _ w.heap.size 38 pk0 (0, 0) _ rfl (setRow_heap _ _ _ _ _ _ HD8.out) Tryz.underlying38 rfl sizePk) rfl ?_
          rw [HOP.out]
          exact ⟨rfl, below_setR HB8.out (Nat.le_refl _) _⟩
        | true =>
          have HOP := Lib.hid (HOY.out (by trivial) rfl hri)
          rw [hri] at HQ
          clear HFT HON HOY hft hri
          go_wp2_with (first
            | (refine wpList_store_row rfl 38 _ _ rfl w6.heap.size (pkV ⟨f, tt, num, ack, m⟩) rfl rfl 38 pk0 HP0.out sizePk rfl (pkv_one _) ?_; rw [← HW7.out])
            | (go_at_call 23; refine (HQ.out).mono ?_; rintro e w8 ⟨rfl, hb8⟩; have HB8 := Lib.hid (HB7.out.trans (hb8.mono HB7.out.size)); have HP8 := Lib.hid ((hb8.block _ (lt_of_heap HP7.out)).trans HP7.out); have HD8 := Lib.hid ((hb8.block _ (lt_of_heap HD7.out)).trans HD7.out); clear hb8)
            | (refine wpList_load_row rfl 38 _ rfl w6.heap.size rfl 38 (pkV ⟨f, tt, num, ack, m⟩) (0, 0) _ HP8.out Tryz.underlying38 rfl sizePk ?_)
            | (refine wpList_store_row rfl 38 _ _ rfl w.heap.size (pkV ⟨f, tt, num, ack, m⟩) rfl rfl 38 pk0 HD8.out sizePk rfl (pkv_one _) ?_))
          refine bodyPost_ret (results_cell_tmp_row rfl _ _ w.heap.size 38 (pkV ⟨f, tt, num, ack, m⟩) (0, 0) _ rfl (setRow_heap _ _ _ _ _ _ HD8.out) Tryz.underlying38 rfl sizePk) rfl ?_
          rw [HOP.out]
          exact ⟨rfl, below_setR HB8.out (Nat.le_refl _) _⟩
      · have HOP := Lib.hid (HON.out (by trivial) (fun h => htt h.1))
        have hti : ¬ (tt : Int) = (t : Int) := by omega
        clear HFT HON HOY hft htt
        go_wp2_with (first
          | (refine wpList_store_row rfl 38 _ _ rfl w6.heap.size (pkV ⟨f, tt, num, ack, m⟩) rfl rfl 38 pk0 HP0.out sizePk rfl (pkv_one _) ?_; rw [← HW7.out])
          | (refine wpList_store_row rfl 38 _ _ rfl w.heap.size pk0 rfl rfl 38 pk0 HD7.out sizePk rfl pk0_one ?_))
        refine bodyPost_ret (results_cell_tmp_row rfl _ _ w.heap.size 38 pk0 (0, 0) _ rfl (setRow_heap _ _ _ _ _ _ HD7.out) Tryz.underlying38 rfl sizePk) rfl ?_
        rw [HOP.out]
        exact ⟨rfl, below_setR HB7.out (Nat.le_refl _) _⟩
    · have hEi : ¬ ((E : Nat) : Int) = 0 := by omega
      have HOP := Lib.hid (HOB.out hE)
      clear hE
      go_wp2_with (first
        | (refine wpList_store_row rfl 38 _ _ rfl w6.heap.size (pkV p) rfl rfl 38 pk0 HP0.out sizePk rfl (pkv_one _) ?_; rw [← HW7.out])
        | (refine wpList_store_row rfl 38 _ _ rfl w.heap.size pk0 rfl rfl 38 pk0 HD7.out sizePk rfl pk0_one ?_))
      refine bodyPost_ret (results_cell_tmp_row rfl _ _ w.heap.size 38 pk0 (0, 0) _ rfl (setRow_heap _ _ _ _ _ _ HD7.out) Tryz.underlying38 rfl sizePk) rfl ?_
      rw [HOP.out]
      exact ⟨rfl, below_setR HB7.out (Nat.le_refl _) _⟩
end Go.Proofs.YtgaoeljdlpemnaaGreatDoor
/- Contract: a ring is made of keys that may be. -/
namespace Go.Proofs.YtgaoeljdlpemnaaGreatDoor
open Go.RowKit Go.Edi Go.Wrap Go.Lib
open Go.Maps (Keyed)

theorem rgAt_made (kk : List (List Tx)) (w : World) : RgAt (w.heap.size + 1) w.heap.size kk.length 0 (Kpt kk 0 0) ((w.alloc (.map #[] 0)).alloc (.cells (rgV kk.length w.heap.size) 56)) := by
  have hk : ∀ f t, Kpt kk 0 0 f t = none := fun f t => by unfold Kpt; rw [if_neg (by omega)]
  refine ⟨heap_new _ _ _ (by simp only [size_a]), Nat.lt_succ_self _, ⟨⟨.map [], (World.ownsMap_made w _ _ _).alloc _, fun f t key _ _ h => (by rw [hk] at h; cases h), fun f t _ _ _ => rfl, fun kl h => (by cases h)⟩, fun b hb => ⟨hb.2, by omega⟩⟩⟩
set_option maxRecDepth 100000 in
set_option maxHeartbeats 3200000 in
theorem new_any (kk : List (List Tx)) (v : Value) (F : Nat → Prop) (w : World) (hV : Vk kk) (hv : KyF w F v kk) (hF : ∀ b, F b → b < w.heap.size) :
    Calls Tryz.prog 9 #[v] w fun e w' => e = .returned (.tuple #[.pointer (some ⟨w.heap.size + 1, 0, none⟩), .int .i64 0]) ∧ RgAt (w.heap.size + 1) w.heap.size kk.length (8 * kk.length) (Kpt kk kk.length 0) w' ∧ Below w.heap.size w w' := by
  obtain ⟨n, hn⟩ : ∃ n, n = kk.length := ⟨_, rfl⟩
  obtain ⟨xs, ⟨p, cap, rfl, hcap, hp⟩, hxs⟩ := hv
  have hmade := rgAt_made kk w
  rw [← hn] at hp hcap hmade ⊢
  obtain ⟨b, o, rfl, hFb, hcell⟩ := hp (by have := hV.n2; omega)
  have HG := Lib.hid (show ∀ i, i < n → ∃ pu cu, (∀ wz, Below w.heap.size w wz → wz.cell? ⟨b, o + i, none⟩ = some (.slice pu n cu)) ∧ (∀ wz, Below w.heap.size w wz → RwF wz F (.slice pu n cu) (kk.getD i [])) from fun i hi => by
    obtain ⟨u, e1, e2⟩ := hxs.get i (by rw [← hn]; exact hi)
    obtain ⟨pu, cu, rfl⟩ : ∃ pu cu, u = .slice pu n cu := by
      obtain ⟨ys, ⟨pu, cu, e, _⟩, _⟩ := e2
      rw [hV.row i (by rw [← hn]; exact hi), ← hn] at e
      exact ⟨pu, cu, e⟩
    exact ⟨pu, cu, fun wz hz => (World.cell?_of_block (a := ⟨b, o + i, none⟩) (hz.block b (hF b hFb))).trans (hcell i _ e1), fun wz hz => e2.kept (fun x hx => ⟨hx, hz.block x (hF x hx)⟩)⟩)
  have HVK := Lib.hid hV
  have HN := Lib.hid hn
  have HF := Lib.hid hF
  have hn2 : (2 : Int) ≤ (n : Int) := by have := hV.n2; omega
  have hn8 : (n : Int) ≤ 8 := by have := hV.n8; omega
  have HMD := Lib.hid hmade
  have HB0 := Lib.hid (show Below w.heap.size w ((w.alloc (.map #[] 0)).alloc (.cells (rgV n w.heap.size) 56)) from ((Below.refl _ _).alloc (Nat.le_refl _) _).alloc (by simp only [size_a]; omega) _)
  have hmk := @run_makeMap Tryz.prog
  clear hxs hp hcell hFb hV hF hn hmade
  go_enter Tryz.func9, Tryz.ntmps9
  go_wp2
  go_loopw [5, 6, 22] (fun _ _ x wr => ∃ i : Nat, x = .int .i64 (i : Int) ∧ i ≤ n ∧ RgAt (w.heap.size + 1) w.heap.size n (8 * i) (Kpt kk i 0) wr ∧ Below w.heap.size w wr) (fun _ _ x _ => n - (intOf x).toNat)
  case atStart => exact ⟨0, rfl, Nat.zero_le _, HMD.out, HB0.out⟩
  case round =>
    obtain ⟨i, rfl, hi, hrg, hbl⟩ := hrel
    have HRG := Lib.hid hrg
    have HBL := Lib.hid hbl
    clear hrg hbl
    by_cases hlt : (i : Int) < (n : Int)
    · have hin : i < n := by omega
      obtain ⟨pu, cu, hu1, hu2⟩ := HG.out i hin
      have c0 := hu1 wr HBL.out
      have hi0 : (0 : Int) ≤ (i : Int) := Int.natCast_nonneg _
      have hw8 : IntKind.u8.wrap (i : Int) = (i : Int) := IntWalk.u8_in _ (by omega)
      have had := add_any kk i (w.heap.size + 1) w.heap.size w.heap.size (.slice pu n cu) F wr HVK.out (by rw [← HN.out]; exact hin) (by rw [← HN.out]; exact HRG.out) (Nat.le_refl _) (hu2 wr HBL.out) HF.out
      rw [← HN.out] at had
      have HAD := Lib.hid had
      have HIN := Lib.hid hin
      clear had hu1 hu2
      go_wp2_with (go_at_call 17; refine (HAD.out).mono ?_; rintro e w2 ⟨rfl, hr2, hb2⟩)
      go_roundw
      case rel => exact ⟨i + 1, by go_num, by have := HIN.out; omega, hr2, HBL.out.trans hb2⟩
      case measure => simp [intOf]; have := HIN.out; omega
    · obtain rfl : i = n := by omega
      go_wp2
      go_ret2
      exact ⟨rfl, HRG.out, HBL.out⟩
end Go.Proofs.YtgaoeljdlpemnaaGreatDoor
namespace Go.Proofs.YtgaoeljdlpemnaaGreatDoor
open Go.RowKit Go.Edi Go.Wrap Go.Lib

theorem par_bytes : (Tryz.prog.info? 39).map (fun i => (i.zero, i.size, i.bytes)) = some (some (.slice none 0 0), 1, 24) := by kernel_rfl
theorem par_kk : (Tryz.prog.info? 70).map (fun i => (i.zero, i.size, i.bytes)) = some (some (.slice none 0 0), 1, 24) := by kernel_rfl
/-- the keys of one -/
def keyW (i k : Nat) (more : Tx) : Tx := UInt8.ofNat (16 * i + k) :: more
def rowW (i k : Nat) (more : Tx) : List Tx := (List.range k).map fun j => keyW i j more
def KKp (n i : Nat) (more : Tx) : List (List Tx) := (List.range i).map fun j => rowW j n more
theorem rowW_len (i k : Nat) (more : Tx) : (rowW i k more).length = k := by simp [rowW]
theorem rowW_succ (i k : Nat) (more : Tx) : rowW i (k + 1) more = rowW i k more ++ [keyW i k more] := by simp [rowW, List.range_succ]
theorem KKp_len (n i : Nat) (more : Tx) : (KKp n i more).length = i := by simp [KKp]
theorem KKp_succ (n i : Nat) (more : Tx) : KKp n (i + 1) more = KKp n i more ++ [rowW i n more] := by simp [KKp, List.range_succ]
theorem RwC.snoc {w : World} {F : Nat → Prop} {k : Tx} {v : Value} (hk : BysF w F v k) : ∀ {row : List Tx} {ys : List Value}, RwC w F row ys → RwC w F (row ++ [k]) (ys ++ [v])
  | [], [], _ => ⟨hk, True.intro⟩
  | _ :: _, _ :: _, h => ⟨h.1, RwC.snoc hk h.2⟩
  | [], _ :: _, h => h.elim
  | _ :: _, [], h => h.elim
theorem KyC.snoc {w : World} {F : Nat → Prop} {k : List Tx} {v : Value} (hk : RwF w F v k) : ∀ {kk : List (List Tx)} {xs : List Value}, KyC w F kk xs → KyC w F (kk ++ [k]) (xs ++ [v])
  | [], [], _ => ⟨hk, True.intro⟩
  | _ :: _, _ :: _, h => ⟨h.1, KyC.snoc hk h.2⟩
  | [], _ :: _, h => h.elim
  | _ :: _, [], h => h.elim
theorem kp_step {A : Nat} {wz wb w2 : World} {e : TypeId} {size k : Nat} {v v2 : Value} {ys : List Value} (_hown : wz.ownsRow A e size v k ys) (hbz : Below wz.heap.size wz wb) (hg : wb.grownBy w2 v.ownBlock) (hor : v2.ownBlock = v.ownBlock ∨ v2.ownBlock = some wb.heap.size) :
    Kp (fun b => A ≤ b ∧ b < wz.heap.size ∧ v.ownBlock ≠ some b) (fun b => A ≤ b ∧ b < w2.heap.size ∧ v2.ownBlock ≠ some b) wz w2 := fun b hb => by
  have h1 := hbz.size
  have h2 := hg.size
  refine ⟨⟨hb.1, by omega, ?_⟩, (hg.block b (by omega) (fun e => hb.2.2 e.symm)).trans (hbz.block b hb.2.1)⟩
  rcases hor with h | h
  · rw [h]; exact hb.2.2
  · rw [h]; intro e2; have := Option.some.inj e2; omega
theorem kp_new {A : Nat} {wz wb w2 : World} {e : TypeId} {size k : Nat} {v v2 : Value} {ys : List Value} (hA : A ≤ wz.heap.size) (hown : wz.ownsRow A e size v k ys) (_hbz : wz.heap.size ≤ wb.heap.size) (hg : wb.grownBy w2 v.ownBlock) (hor : v2.ownBlock = v.ownBlock ∨ v2.ownBlock = some wb.heap.size) :
    Kp (fun b => wz.heap.size ≤ b ∧ b < wb.heap.size) (fun b => A ≤ b ∧ b < w2.heap.size ∧ v2.ownBlock ≠ some b) wb w2 := fun b hb => by
  have h2 := hg.size
  have hne : v.ownBlock ≠ some b := fun e => by have := (hown.lt b e).2; omega
  refine ⟨⟨by omega, by omega, ?_⟩, hg.block b hb.2 (fun e => hne e.symm)⟩
  rcases hor with h | h
  · rw [h]; exact hne
  · rw [h]; intro e2; have := Option.some.inj e2; omega
theorem own_lit1 (w : World) (base : Nat) (hb : base ≤ w.heap.size) (x : Value) (e : TypeId) : (w.alloc (.cells #[x] e)).ownsRow base e 1 (.slice (some ⟨w.heap.size, 0, none⟩) 1 1) 1 [x] :=
  ⟨by simp, .inr ⟨w.heap.size, 1, #[x], rfl, hb, heap_alloc_new w _, Nat.le_refl _, by decide, by simp, by simp⟩⟩
theorem one_bys (l : Tx) : ∀ u ∈ Lib.byteCells l, u.oneCell' = true := by
  intro u hu
  simp only [Lib.byteCells, List.mem_map] at hu
  obtain ⟨t, _, rfl⟩ := hu
  rfl
theorem key_cells (i k : Nat) (more : Tx) (h : 16 * i + k < 256) : Lib.byteCells (keyW i k more) = [.int .u8 ((16 * (i : Int) + (k : Int)))] ++ Lib.byteCells more := by
  unfold keyW Lib.byteCells
  rw [List.map_cons]
  congr 1
  rw [UInt8.toNat_ofNat', Nat.mod_eq_of_lt h]
  simp
set_option maxRecDepth 100000 in
set_option maxHeartbeats 3200000 in
theorem keys_any (n : Nat) (more : Tx) (v : Value) (F : Nat → Prop) (w : World) (hn : n ≤ 8) (hv : BysF w F v more) (hF : ∀ b, F b → b < w.heap.size) (hm : more.length ≤ 1000) :
    Calls Tryz.prog 10 #[.int .i64 (n : Int), v] w fun e w' => ∃ u, e = .returned u ∧ KyF w' (fun b => w.heap.size ≤ b ∧ b < w'.heap.size) u (KKp n n more) ∧ Below w.heap.size w w' := by
  have HV := Lib.hid (show ∀ wz, Below w.heap.size w wz → BysF wz F v more from fun wz hz => hv.kept (fun b hb => ⟨hb, hz.block b (hF b hb)⟩))
  obtain ⟨mp, mc, rfl⟩ : ∃ mp mc, v = .slice mp more.length mc := by obtain ⟨a, b, e, _⟩ := hv; exact ⟨a, b, e⟩
  obtain ⟨M, hM⟩ : ∃ M, M = more.length := ⟨_, rfl⟩
  rw [← hM] at HV ⊢
  have HN := Lib.hid hn
  have HM := Lib.hid (And.intro hM hm)
  clear hn hv hF hm hM
  go_enter Tryz.func10, Tryz.ntmps10
  go_wp2
  go_loopw [5, 6, 7, 8] (fun o x _ _ wr => ∃ (i : Nat) (xs : List Value), x = .int .i64 (i : Int) ∧ i ≤ n ∧ wr.ownsRow w.heap.size 70 1 o i xs ∧ KyC wr (fun b => w.heap.size ≤ b ∧ b < wr.heap.size ∧ o.ownBlock ≠ some b) (KKp n i more) xs ∧ Below w.heap.size w wr) (fun _ x _ _ _ => n - (intOf x).toNat)
  case atStart => exact ⟨0, [], rfl, Nat.zero_le _, World.ownsRow_nil _ _ _ _, True.intro, Below.refl _ _⟩
  case round =>
    obtain ⟨i, xs, rfl, hi, ho, hc, hbl⟩ := hrel
    obtain ⟨op, oc, rfl⟩ := own_slice ho
    have HO := Lib.hid ho
    have HC := Lib.hid hc
    have HBL := Lib.hid hbl
    have HI := Lib.hid hi
    clear ho hc hbl
    by_cases hlt : (i : Int) < (n : Int)
    · have hi0 : (0 : Int) ≤ (i : Int) := Int.natCast_nonneg _
      obtain ⟨wo, rfl⟩ : ∃ wo : World, wo = wr := ⟨_, rfl⟩
      go_wp2
      go_loopw [7, 8] (fun v x wr => ∃ (k : Nat) (ys : List Value), x = .int .i64 (k : Int) ∧ k ≤ n ∧ wr.ownsRow wo.heap.size 39 1 v k ys ∧ RwC wr (fun b => wo.heap.size ≤ b ∧ b < wr.heap.size ∧ v.ownBlock ≠ some b) (rowW i k more) ys ∧ Below wo.heap.size wo wr) (fun _ x _ => n - (intOf x).toNat)
      case atStart => exact ⟨0, [], rfl, Nat.zero_le _, World.ownsRow_nil _ _ _ _, True.intro, Below.refl _ _⟩
      case round =>
        obtain ⟨k, ys, rfl, hk, ho, hc, hbl⟩ := hrel
        obtain ⟨rp, rc, rfl⟩ := own_slice ho
        have HO2 := Lib.hid ho
        have HC2 := Lib.hid hc
        have HB2 := Lib.hid hbl
        have HK := Lib.hid hk
        clear ho hc hbl
        by_cases hlt2 : (k : Int) < (n : Int)
        · have hk0 : (0 : Int) ≤ (k : Int) := Int.natCast_nonneg _
          have hn8 := HN.out
          have hw1 : IntKind.i64.wrap (16 * (i : Int)) = 16 * (i : Int) := by rw [IntKind.wrap_i64]; omega
          have hw2 : IntKind.i64.wrap (16 * (i : Int) + (k : Int)) = 16 * (i : Int) + (k : Int) := by rw [IntKind.wrap_i64]; omega
          have hw3 : IntKind.u8.wrap (16 * (i : Int) + (k : Int)) = 16 * (i : Int) + (k : Int) := IntWalk.u8_in _ (by omega)
          have HOL := Lib.hid (own_lit1 wr wr.heap.size (Nat.le_refl _) (.int .u8 (16 * (i : Int) + (k : Int))) 5)
          have hbA : Below wr.heap.size wr (wr.alloc (.cells #[.int .u8 (16 * (i : Int) + (k : Int))] 5)) := (Below.refl _ _).alloc (Nat.le_refl _) _
          have HBA := Lib.hid hbA
          have HMV := Lib.hid (HV.out _ (HBL.out.trans ((HB2.out.trans (hbA.mono HB2.out.size)).mono HBL.out.size)))
          have HKC := Lib.hid (key_cells i k more (by omega))
          clear hn8 hbA
          go_wp2_with (at_builtin; refine wl_appF 39 5 (.int .u8 0) 1 1 par_u8 Tryz.underlying39 rfl (by decide) (by decide) wr.heap.size (.slice (some ⟨wr.heap.size, 0, none⟩) 1 1) 1 [.int .u8 (16 * (i : Int) + (k : Int))] rfl HOL.out (.slice mp M mc) F M (Lib.byteCells more) rfl (by rw [HM.out.1]; have := HMV.out; rw [HM.out.1] at this; exact this) (by rw [Lib.byteCells_length, HM.out.1, Nat.mul_one]) (one_bys _) (by have := HM.out; omega) (by simp only [size_a]; omega) ?_)
          intro v1 w1 ho1 hg1 _
          obtain ⟨p1, c1, rfl⟩ := own_slice ho1
          have hb1 : Below wr.heap.size wr w1 := HBA.out.grown hg1 (by simp only [size_a]; omega) (fun b e => by cases e; exact Nat.le_refl _)
          rw [← HKC.out] at ho1
          have HO1 := Lib.hid ho1
          have HB1 := Lib.hid hb1
          clear ho1 hg1 hb1
          have hbB : Below wr.heap.size wr (w1.alloc (.cells #[.slice p1 (1 + M) c1] 39)) := HB1.out.alloc (by have := HB1.out.size; omega) _
          have HBB := Lib.hid hbB
          have HO3 := Lib.hid (show (w1.alloc (.cells #[.slice p1 (1 + M) c1] 39)).ownsRow wo.heap.size 39 1 (.slice rp k rc) k ys from HO2.out.kept (row := none) ⟨hbB.os, hbB.tape, hbB.output, hbB.size, fun b hb _ => hbB.block b hb⟩ (by
            cases hq : (Value.slice rp k rc).ownBlock with
            | none => exact .inl rfl
            | some b => exact .inr (fun e => by cases e)))
          have HZ := Lib.hid HB2.out.size
          clear hbB
          go_wp2_with (at_builtin; refine wl_app1 70 39 (.slice none 0 0) 1 24 par_bytes Tryz.underlying70 rfl (by decide) (by decide) wo.heap.size (.slice rp k rc) k ys rfl HO3.out w1.heap.size 1 [.slice p1 (1 + M) c1] 39 (0, 0) rfl rfl (at_last _ _) (by intro u hu; simp at hu; subst hu; rfl) (by have := HN.out; omega) (by have := HBB.out.size; have := HZ.out; omega) ?_)
          intro v2 w2 ho2 hg2 hor2
          obtain ⟨p2, c2, rfl⟩ := own_slice ho2
          have hkey : BysF (w1.alloc (.cells #[.slice p1 (1 + M) c1] 39)) (fun b => wr.heap.size ≤ b ∧ b < (w1.alloc (.cells #[.slice p1 (1 + M) c1] 39)).heap.size) (.slice p1 (1 + M) c1) (keyW i k more) := by
            unfold BysF
            have e : (keyW i k more).length = 1 + M := by unfold keyW; rw [List.length_cons, HM.out.1]; omega
            rw [e]
            exact row_own (HO1.out.alloc _) (fun b e => by have := HO1.out.lt b e; rw [size_a]; omega)
          have HR2 := Lib.hid (show RwC w2 (fun b => wo.heap.size ≤ b ∧ b < w2.heap.size ∧ (Value.slice p2 (k + 1) c2).ownBlock ≠ some b) (rowW i (k + 1) more) (ys ++ [.slice p1 (1 + M) c1]) by
            rw [rowW_succ]
            exact RwC.snoc (hkey.kept (kp_new HZ.out HO2.out HBB.out.size hg2 (by simp only [size_a] at hor2 ⊢; exact hor2))) (HC2.out.kept (kp_step HO2.out HBB.out hg2 (by simp only [size_a] at hor2 ⊢; exact hor2))))
          have HB3 := Lib.hid (show Below wo.heap.size wo w2 from (HB2.out.trans (HBB.out.mono HZ.out)).grown hg2 (by have := HBB.out.size; have := HZ.out; omega) (fun b e => (HO2.out.lt b e).1))
          have HO4 := Lib.hid ho2
          clear ho2 hg2 hor2 hkey
          have hn8 : (n : Int) ≤ 8 := by have := HN.out; omega
          clear hw1 hw2 hw3
          go_wp2
          go_roundw
          case rel => exact ⟨k + 1, _, by go_num, by omega, HO4.out, HR2.out, HB3.out⟩
          case measure => simp [intOf]; omega
        · obtain rfl : k = n := by omega
          have HZ := Lib.hid HB2.out.size
          have hbB : Below wo.heap.size wo (wr.alloc (.cells #[.slice rp k rc] 70)) := HB2.out.alloc HZ.out _
          have HBB := Lib.hid hbB
          have HO3 := Lib.hid (show (wr.alloc (.cells #[.slice rp k rc] 70)).ownsRow w.heap.size 70 1 (.slice op i oc) i xs from HO.out.kept (row := none) ⟨hbB.os, hbB.tape, hbB.output, hbB.size, fun b hb _ => hbB.block b hb⟩ (by
            cases hq : (Value.slice op i oc).ownBlock with
            | none => exact .inl rfl
            | some b => exact .inr (fun e => by cases e)))
          have HZ2 := Lib.hid HBL.out.size
          have hn8 := HN.out
          clear hbB
          go_wp2_with (at_builtin; refine wl_app1 50 70 (.slice none 0 0) 1 24 par_kk Tryz.underlying50 rfl (by decide) (by decide) w.heap.size (.slice op i oc) i xs rfl HO3.out wr.heap.size 1 [.slice rp k rc] 70 (0, 0) rfl rfl (at_last _ _) (by intro u hu; simp at hu; subst hu; rfl) (by omega) (by have := HBB.out.size; have := HZ2.out; omega) ?_)
          intro v2 w2 ho2 hg2 hor2
          obtain ⟨p2, c2, rfl⟩ := own_slice ho2
          have hrow : RwF (wr.alloc (.cells #[.slice rp k rc] 70)) (fun b => wo.heap.size ≤ b ∧ b < (wr.alloc (.cells #[.slice rp k rc] 70)).heap.size) (.slice rp k rc) (rowW i k more) := by
            refine ⟨ys, ?_, HC2.out.kept (fun b hb => ⟨⟨hb.1, by rw [size_a]; omega⟩, Below.heap_alloc _ _ _ hb.2.1⟩)⟩
            rw [rowW_len]
            exact row_own (HO2.out.alloc _) (fun b e => by have := HO2.out.lt b e; rw [size_a]; omega)
          have HR2 := Lib.hid (show KyC w2 (fun b => w.heap.size ≤ b ∧ b < w2.heap.size ∧ (Value.slice p2 (i + 1) c2).ownBlock ≠ some b) (KKp k (i + 1) more) (xs ++ [.slice rp k rc]) by
            rw [KKp_succ]
            exact KyC.snoc (hrow.kept (kp_new HZ2.out HO.out HBB.out.size hg2 (by simp only [size_a] at hor2 ⊢; exact hor2))) (HC.out.kept (kp_step HO.out HBB.out hg2 (by simp only [size_a] at hor2 ⊢; exact hor2))))
          have HB3 := Lib.hid (show Below w.heap.size w w2 from (HBL.out.trans (HBB.out.mono HZ2.out)).grown hg2 (by have := HBB.out.size; have := HZ2.out; omega) (fun b e => (HO.out.lt b e).1))
          have HO4 := Lib.hid ho2
          clear ho2 hg2 hor2 hrow
          have hn8 : (k : Int) ≤ 8 := by have := HN.out; omega
          go_wp2
          go_roundw
          case rel => exact ⟨i + 1, _, by go_num, by omega, HO4.out, HR2.out, HB3.out⟩
          case measure => simp [intOf]; omega
    · obtain rfl : i = n := by omega
      go_wp2
      go_ret
      exact ⟨_, rfl, ⟨xs, row_own (by rw [KKp_len]; exact HO.out) (fun b e => HO.out.lt b e), HC.out.kept (fun b hb => ⟨⟨hb.1, hb.2.1⟩, rfl⟩)⟩, HBL.out⟩
end Go.Proofs.YtgaoeljdlpemnaaGreatDoor
