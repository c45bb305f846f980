/- DiskLast's walk. -/
import Derived.Test.YtiegicdfgbpmiaaDkLc
import Derived.OrdersHeld
import Derived.Laws.Cover3
namespace Go.Proofs.Ytiegicdfgbpmiaa.Dk
open Go.RowKit Go.Shelf Go.Dk Go.Sha

theorem neq_nil (W : World) : (binOp .neq 29 (.slice none 0 0) (.slice none 0 0)).run Try.prog W = .ok (.bool false) W := by
  simp [binOp, run_equal_slice_nil W 29 5 none 0 0 Try.underlying29]
theorem neq_some (a : Addr) (l c : Nat) (W : World) : (binOp .neq 29 (.slice (some a) l c) (.slice none 0 0)).run Try.prog W = .ok (.bool true) W := by
  simp [binOp, run_equal_slice_nil W 29 5 (some a) l c Try.underlying29]
theorem wf_small {a : Nat} (h : a ≤ 4096) : (Lit.int .i64 (a : Int)).wf = true := by
  have e1 : IntKind.i64.min = -9223372036854775808 := rfl
  have e2 : IntKind.i64.max = 9223372036854775807 := rfl
  simp only [Lit.wf, e1, e2, Bool.and_eq_true, decide_eq_true_eq]
  omega
/-- the pieces that were written last -/
structure LvAt (W : World) (n : Nat) (wt : Nat → Option By) (A : Array Value) : Prop where
  size : A.size = n
  no : ∀ j, j < n → wt j = none → A[j]? = some (.slice none 0 0)
  yes : ∀ j s, j < n → wt j = some s → s.length = 64 ∧ ∃ b o cap, A[j]? = some (.slice (some ⟨b, o, none⟩) 64 cap) ∧ BysF W (· < W.heap.size) (.slice (some ⟨b, o, none⟩) 64 cap) s
theorem LvAt.put {W : World} {n j b o cap : Nat} {wt : Nat → Option By} {A : Array Value} {s : By} (h : LvAt W n wt A) (hj : j < n) (hs : s.length = 64) (hb : BysF W (· < W.heap.size) (.slice (some ⟨b, o, none⟩) 64 cap) s) :
    LvAt W n (upd wt j (some s)) (A.setIfInBounds j (.slice (some ⟨b, o, none⟩) 64 cap)) := by
  refine ⟨by rw [Array.size_setIfInBounds]; exact h.size, fun i hi hw => ?_, fun i t hi hw => ?_⟩
  · by_cases e : i = j
    · subst e; rw [upd_same] at hw; cases hw
    · rw [upd_other _ _ e] at hw
      rw [Array.getElem?_setIfInBounds_ne (Ne.symm e)]
      exact h.no i hi hw
  · by_cases e : i = j
    · subst e; rw [upd_same] at hw; cases hw
      exact ⟨hs, b, o, cap, by rw [Array.getElem?_setIfInBounds_self_of_lt (by rw [h.size]; exact hi)], hb⟩
    · rw [upd_other _ _ e] at hw
      rw [Array.getElem?_setIfInBounds_ne (Ne.symm e)]
      exact h.yes i t hi hw
/-- where the blocks lie -/
structure LtB (z D L M D2 L2 M2 G : Nat) : Prop where
  d : z ≤ D
  l : z ≤ L
  m : z ≤ M
  d2 : D < D2 ∧ L < D2 ∧ M < D2
  l2 : D < L2 ∧ L < L2 ∧ M < L2
  m2 : D < M2 ∧ L < M2 ∧ M < M2
  g : D2 < G ∧ L2 < G ∧ M2 < G
/-- between two rounds -/
structure LtI (w : World) (D L M D2 L2 M2 G n : Nat) (wx wy wl : Nat → Option By) (A : Array Value) (W : World) : Prop where
  x : DkAt W D L M (dn n wx)
  y : DkAt W D2 L2 M2 (dn n wy)
  g : W.heap[G]? = some (.cells A 29 (0, 0))
  lv : LvAt w n wl A
  b : Below w.heap.size w W
theorem LtI.set {w W : World} {D L M D2 L2 M2 G n j b o cap : Nat} {wx wy wl : Nat → Option By} {A : Array Value} {s : By} (h : LtI w D L M D2 L2 M2 G n wx wy wl A W) (q : LtB w.heap.size D L M D2 L2 M2 G) (hj : j < n) (hs : s.length = 64) (hb : BysF w (· < w.heap.size) (.slice (some ⟨b, o, none⟩) 64 cap) s) :
    LtI w D L M D2 L2 M2 G n wx wy (upd wl j (some s)) (A.setIfInBounds j (.slice (some ⟨b, o, none⟩) 64 cap)) (W.drew.setCell ⟨G, j, none⟩ (.slice (some ⟨b, o, none⟩) 64 cap)) := by
  have ne : ∀ k, k < G → (W.drew.setCell ⟨G, j, none⟩ (.slice (some ⟨b, o, none⟩) 64 cap)).heap[k]? = W.heap[k]? := fun k hk => Below.heap_setCell _ _ _ _ (by show k ≠ G; omega)
  have hg := q.g; have hd2 := q.d2; have hl2 := q.l2; have hm2 := q.m2; have hd := q.d
  exact ⟨h.x.kept (ne _ (by omega)) (ne _ (by omega)) (ne _ (by omega)), h.y.kept (ne _ (by omega)) (ne _ (by omega)) (ne _ (by omega)), set_heap (w := W.drew) h.g j _, h.lv.put hj hs hb, Below.setCell (show Below w.heap.size w W.drew from ⟨h.b.os, h.b.tape, h.b.output, h.b.size, h.b.block⟩) (p := ⟨G, j, none⟩) (by show w.heap.size ≤ G; omega) _⟩
/-- x's Write -/
theorem LtI.wx {w W W' : World} {D L M D2 L2 M2 G n : Nat} {wx wx' wy wl : Nat → Option By} {A : Array Value} (h : LtI w D L M D2 L2 M2 G n wx wy wl A W) (q : LtB w.heap.size D L M D2 L2 M2 G) (hd : DkAt W' D L M (dn n wx')) (hf : Frq (fun k => k = D ∨ k = M) W W') (hb : Below w.heap.size w W') : LtI w D L M D2 L2 M2 G n wx' wy wl A W' := by
  have hg := q.g; have hd2 := q.d2; have hl2 := q.l2; have hm2 := q.m2
  exact ⟨hd, h.y.kept (hf.block _ h.y.ltD (by omega)) (hf.block _ h.y.ltL (by omega)) (hf.block _ h.y.ltM (by omega)), (hf.block _ (lt_of_heap h.g) (by omega)).trans h.g, h.lv, hb⟩
theorem LtI.wy {w W W' : World} {D L M D2 L2 M2 G n : Nat} {wx wy' wy wl : Nat → Option By} {A : Array Value} (h : LtI w D L M D2 L2 M2 G n wx wy wl A W) (q : LtB w.heap.size D L M D2 L2 M2 G) (hd : DkAt W' D2 L2 M2 (dn n wy')) (hf : Frq (fun k => k = D2 ∨ k = M2) W W') : LtI w D L M D2 L2 M2 G n wx wy' wl A W' := by
  have hg := q.g; have hd2 := q.d2; have hl2 := q.l2; have hm2 := q.m2; have hd1 := q.d; have hl1 := q.l; have hm1 := q.m
  exact ⟨h.x.kept (hf.block _ h.x.ltD (by omega)) (hf.block _ h.x.ltL (by omega)) (hf.block _ h.x.ltM (by omega)), hd, (hf.block _ (lt_of_heap h.g) (by omega)).trans h.g, h.lv, h.b.trans (hf.below (B := w.heap.size) h.b.size (fun k e => e.elim (fun e => by omega) (fun e => by omega)))⟩
set_option maxRecDepth 100000 in
theorem dklast_bad (a0 : Int) (L : List Ac) (lp : Option Addr) (lc : Nat) (fs : List Int) (fp : Option Addr) (fc : Nat) (w : World) (hL : ActsF w lp L) (h : greatB L = true ∨ a0 < 1 ∨ 40 < a0 ∨ 60 < fs.length) :
    Calls Try.prog 6 #[.int .i64 a0, .slice lp L.length lc, .slice fp fs.length fc] w fun e w' => e = .returned (.bool true) ∧ Below w.heap.size w w' := by
  have HG := Lib.hid (great_any L lp lc w w hL (Below.refl _ _))
  clear hL
  generalize greatB L = g at *
  cases g with
  | true =>
    go_enter Try.func6, Try.ntmps6
    go_wp2_with (go_at_call 7; refine HG.out.mono ?_; rintro e w' ⟨rfl, rfl⟩)
    go_ret
    exact ⟨rfl, Below.refl _ _⟩
  | false =>
    by_cases h1 : a0 < 1
    · have i1 : decide (a0 < 1) = true := decide_eq_true h1
      go_enter Try.func6, Try.ntmps6
      go_wp2_with (go_at_call 7; refine HG.out.mono ?_; rintro e w' ⟨rfl, rfl⟩)
      go_ret
      exact ⟨rfl, Below.refl _ _⟩
    · have i1 : decide (a0 < 1) = false := decide_eq_false h1
      by_cases h2 : 40 < a0
      · have i2 : decide (40 < a0) = true := decide_eq_true h2
        go_enter Try.func6, Try.ntmps6
        go_wp2_with (go_at_call 7; refine HG.out.mono ?_; rintro e w' ⟨rfl, rfl⟩)
        go_ret
        exact ⟨rfl, Below.refl _ _⟩
      · have i2 : decide (40 < a0) = false := decide_eq_false h2
        have h3 : (60 : Int) < (fs.length : Int) := by simp only [Bool.false_eq_true, false_or] at h; omega
        have i3 : decide ((60 : Int) < (fs.length : Int)) = true := decide_eq_true h3
        clear h
        go_enter Try.func6, Try.ntmps6
        go_wp2_with (go_at_call 7; refine HG.out.mono ?_; rintro e w' ⟨rfl, rfl⟩)
        go_ret
        exact ⟨rfl, Below.refl _ _⟩
set_option maxRecDepth 100000 in
set_option maxHeartbeats 4000000 in
theorem dklast_any (a0 : Int) (_ : (Lit.int .i64 a0).wf = true) (L : List Ac) (lp : Option Addr) (lc : Nat) (fs : List Int) (fp : Option Addr) (fc : Nat) (w : World) (hL : ActsF w lp L) (hf : FtsF w (· < w.heap.size) (.slice fp fs.length fc) fs) :
    Calls Try.prog 6 #[.int .i64 a0, .slice lp L.length lc, .slice fp fs.length fc] w fun e w' => e = .returned (.bool true) ∧ Below w.heap.size w w' := by
  by_cases hbad : greatB L = true ∨ a0 < 1 ∨ 40 < a0 ∨ 60 < fs.length
  · exact dklast_bad a0 L lp lc fs fp fc w hL hbad
  obtain ⟨n, rfl⟩ : ∃ n : Nat, a0 = (n : Int) := ⟨a0.toNat, by omega⟩
  have hgr : greatB L = false := by
    cases e : greatB L with
    | false => rfl
    | true => exact absurd (Or.inl e) hbad
  have hn1 : 1 ≤ n := by omega
  have hn2 : n ≤ 40 := by omega
  have hfl : fs.length ≤ 60 := by omega
  have HG := Lib.hid (great_any L lp lc w w hL (Below.refl _ _))
  rw [hgr] at HG
  have hll := great_len hgr
  have HGR := Lib.hid hgr
  have HL := Lib.hid hL
  have HFT := Lib.hid (fun w3 h3 => below_row hf (w3 := w3) h3)
  have i1 : decide ((n : Int) < 1) = false := decide_eq_false (by omega)
  have i2 : decide ((40 : Int) < (n : Int)) = false := decide_eq_false (by omega)
  have i3 : decide ((60 : Int) < (fs.length : Int)) = false := decide_eq_false (by omega)
  have HFL := Lib.hid hfl
  have HMK := Lib.hid (mk_rows n (by omega))
  clear hbad hgr hL hf hfl
  go_enter Try.func6, Try.ntmps6
  go_wp2_with (go_at_call 7; refine HG.out.mono ?_; rintro e w' ⟨rfl, rfl⟩)
  refine (new_any n hn1 (by omega) w).mono ?_
  rintro e w1 ⟨D, Lx, M, rfl, hd1, hb1, hD, hLx, hM⟩
  have HD1 := Lib.hid hd1
  have HB1 := Lib.hid hb1
  clear hd1 hb1
  go_wp2_with fail
  refine (new_any n hn1 (by omega) w1).mono ?_
  rintro e w2 ⟨D2, L2, M2, rfl, hd2, hb2, hD2, hL2, hM2⟩
  have HX2 := Lib.hid (HD1.out.below hb2 HD1.out.ltD HD1.out.ltL HD1.out.ltM)
  have HD2 := Lib.hid hd2
  have HB2 := Lib.hid (HB1.out.trans (hb2.mono HB1.out.size))
  have hmk := HMK.out w2
  obtain ⟨G, hG⟩ : ∃ G, w2.heap.size = G := ⟨_, rfl⟩
  have HQ := Lib.hid (show LtB w.heap.size D Lx M D2 L2 M2 G from by
    have a1 := HD1.out.ltD; have a2 := HD1.out.ltL; have a3 := HD1.out.ltM; have a4 := hd2.ltD; have a5 := hd2.ltL; have a6 := hd2.ltM
    exact ⟨hD, hLx, hM, ⟨by omega, by omega, by omega⟩, ⟨by omega, by omega, by omega⟩, ⟨by omega, by omega, by omega⟩, ⟨by omega, by omega, by omega⟩⟩)
  have HI0 := Lib.hid (show LtI w D Lx M D2 L2 M2 G n (fun _ => none) (fun _ => none) (fun _ => none) (nilsA n) (w2.alloc (.cells (nilsA n) 29)) from by
    have hba : Below w2.heap.size w2 (w2.alloc (.cells (nilsA n) 29)) := (Below.refl _ _).alloc (Nat.le_refl _) _
    exact ⟨HX2.out.below hba HX2.out.ltD HX2.out.ltL HX2.out.ltM, hd2.below hba hd2.ltD hd2.ltL hd2.ltM, by rw [← hG]; exact heap_last _ _ _ rfl, ⟨nils_size n, fun j hj _ => nils_get hj, (fun _ _ _ h => by cases h)⟩, HB2.out.trans (hba.mono HB2.out.size)⟩)
  clear hd2 hb2
  go_wp2_with fail
  try rw [hG]
  generalize w2.alloc (.cells (nilsA n) 29) = wa at *
  clear hmk hG HX2 HD2 HB2 HB1 HD1 HMK hD hLx hM hD2 hL2 hM2
  go_loopw [12] (fun i wr => ∃ (k : Nat) (wt : Nat → Option By) (A : Array Value), k ≤ L.length ∧ i = .int .i64 (k : Int) ∧ LtI w D Lx M D2 L2 M2 G n wt (fun _ => none) wt A wr) (fun i _ => L.length - (intOf i).toNat)
  case atStart => exact ⟨0, _, _, Nat.zero_le _, rfl, HI0.out⟩
  case round =>
    obtain ⟨k, wt, A, hk, rfl, hI⟩ := hrel
    have HI := Lib.hid hI
    clear hI
    by_cases hlt : k < L.length
    · have hlt1 : (k : Int) < (L.length : Int) := by omega
      have hk0 : (0 : Int) ≤ (k : Int) := Int.natCast_nonneg _
      obtain ⟨x, hx⟩ : ∃ x, L[k]? = some x := ⟨_, List.getElem?_eq_getElem hlt⟩
      obtain ⟨b, o, pb, cb, pf, cf, rfl, hwf, _, hc⟩ := HL.out.get hx
      have hbl := (great_get HGR.out hx).1
      have hdrew : Below w.heap.size w wr.drew := ⟨HI.out.b.os, HI.out.b.tape, HI.out.b.output, HI.out.b.size, HI.out.b.block⟩
      have hwrp : ∃ er wt', Dk.wr (dn n wt) x.at_ x.b = (er, dn n wt') ∧ ((er = 1 ∧ wt' = wt) ∨ (er = 0 ∧ ∃ a m : Nat, x.at_ = (a : Int) ∧ x.b.length = 64 * m ∧ a + m ≤ n ∧ wt' = wtW wt a x.b m)) := by
        rcases wr_part (dn n wt) x.at_ x.b with hh | ⟨a, m, e1, e2, e3⟩
        · exact ⟨1, wt, wr_bad rfl hh, .inl ⟨rfl, rfl⟩⟩
        · exact ⟨0, _, by rw [e1]; exact wr_dn_good e2 e3, .inr ⟨rfl, a, m, e1, e2, e3, rfl⟩⟩
      obtain ⟨er, wt', hwr, hor⟩ := hwrp
      have hct := write_gen (HI.out.x.kept (w' := wr.drew) rfl rfl rfl) x.at_ hwf x.b _ (· < w.heap.size) (by omega) ((hc wr.drew hdrew).bs) (fun y hy => ⟨Nat.lt_of_lt_of_le hy hdrew.size, by have := HQ.out.d; omega, by have := HQ.out.m; omega⟩)
      unfold WrP at hct
      rw [hwr] at hct
      dsimp only at hct
      have HWR := Lib.hid hct
      have HC := Lib.hid hc
      have HOR := Lib.hid hor
      have HS := Lib.hid hdrew
      clear hct hc hor hdrew hwr hwf hx
      go_wp2_with fail
      refine wp_region_held (S := Below w.heap.size w) (by kernel_rfl) ?_
      change wpAnyH _ _ _ _ _ _ _ _ (World.drew _)
      refine tkH (i := 0) (oi := ⟨some 66, .move (.tmp 7), _, _, _, none⟩) (pD D) rfl (by kernel_rfl) (fun _ _ _ h => h) (yH rfl (fun w3 h3 => by go_simp)) HS.out ?_
      simp only [Act.put, s1, s2, s3]
      refine tkH (i := 1) (oi := ⟨some 67, .move (.tmp 1), _, _, _, none⟩) (.slice (some ⟨b, o, none⟩) L.length lc) rfl (by kernel_rfl) (fun _ _ _ h => h) (yH rfl (fun w3 h3 => by go_simp)) HS.out ?_
      simp only [Act.put, s1, s2, s3]
      refine tkH (i := 2) (oi := ⟨some 68, .move (.tmp 12), _, _, _, none⟩) (.int .i64 (k : Int)) rfl (by kernel_rfl) (fun _ _ _ h => h) (yH rfl (fun w3 h3 => by go_simp)) HS.out ?_
      simp only [Act.put, s1, s2, s3]
      refine tkH (i := 3) (oi := ⟨some 69, .indexAddr 22 (.tmp 67) (.tmp 68), _, _, _, none⟩) (.pointer (some ⟨b, o + k * 5, none⟩)) rfl (by kernel_rfl) (fun _ _ _ h => h) (yH rfl (fun w3 h3 => by go_simp)) HS.out ?_
      simp only [Act.put, s1, s2, s3]
      refine tkH (i := 4) (oi := ⟨some 70, .fieldAddr 31 (.tmp 69) 1, _, _, _, none⟩) (.pointer (some ⟨b, o + k * 5 + 1, none⟩)) rfl (by kernel_rfl) (fun _ _ _ h => h) (yH rfl (fun w3 h3 => by go_simp)) HS.out ?_
      simp only [Act.put, s1, s2, s3]
      refine tkH (i := 5) (oi := ⟨some 71, .load 3 (.tmp 70), _, _, _, none⟩) (.int .i64 x.at_) rfl (by kernel_rfl) (fun _ _ _ h => h) (yH rfl (fun w3 h3 => by have q := (HC.out w3 h3).c1; go_simp)) HS.out ?_
      simp only [Act.put, s1, s2, s3]
      refine tkH (i := 6) (oi := ⟨some 72, .move (.tmp 1), _, _, _, none⟩) (.slice (some ⟨b, o, none⟩) L.length lc) rfl (by kernel_rfl) (fun _ _ _ h => h) (yH rfl (fun w3 h3 => by go_simp)) HS.out ?_
      simp only [Act.put, s1, s2, s3]
      refine tkH (i := 7) (oi := ⟨some 73, .move (.tmp 12), _, _, _, none⟩) (.int .i64 (k : Int)) rfl (by kernel_rfl) (fun _ _ _ h => h) (yH rfl (fun w3 h3 => by go_simp)) HS.out ?_
      simp only [Act.put, s1, s2, s3]
      refine tkH (i := 8) (oi := ⟨some 74, .indexAddr 22 (.tmp 72) (.tmp 73), _, _, _, none⟩) (.pointer (some ⟨b, o + k * 5, none⟩)) rfl (by kernel_rfl) (fun _ _ _ h => h) (yH rfl (fun w3 h3 => by go_simp)) HS.out ?_
      simp only [Act.put, s1, s2, s3]
      refine tkH (i := 9) (oi := ⟨some 75, .fieldAddr 31 (.tmp 74) 3, _, _, _, none⟩) (.pointer (some ⟨b, o + k * 5 + 3, none⟩)) rfl (by kernel_rfl) (fun _ _ _ h => h) (yH rfl (fun w3 h3 => by go_simp)) HS.out ?_
      simp only [Act.put, s1, s2, s3]
      refine tkH (i := 10) (oi := ⟨some 76, .load 29 (.tmp 75), _, _, _, none⟩) (.slice pb x.b.length cb) rfl (by kernel_rfl) (fun _ _ _ h => h) (yH rfl (fun w3 h3 => by have q := (HC.out w3 h3).c3; go_simp)) HS.out ?_
      simp only [Act.put, s1, s2, s3]
      refine rdH (i := 11) (o := ⟨some 77, .call ⟨.value (.func 9), #[.tmp 66, .tmp 71, .tmp 76], _⟩, _, _, _, none⟩) (by kernel_rfl) rfl (fun K' hK => ?_)
      go_simp
      refine HWR.out.mono ?_
      rintro e w3 ⟨rfl, hd3, hf3⟩
      have HD3 := Lib.hid hd3
      have HF3 := Lib.hid (show Frq (fun k => k = D ∨ k = M) wr w3 from Frq.trans (Frq.drew (Frq.refl _ _)) hf3)
      have HS3 := Lib.hid (show Below w.heap.size w w3 from HI.out.b.trans (HF3.out.below (B := w.heap.size) HI.out.b.size (fun k h => h.elim (fun e => by have := HQ.out.d; omega) (fun e => by have := HQ.out.m; omega))))
      clear hd3 hf3
      refine hK.out _ _ HS3.out (fun _ => ?_)
      clear hK K'
      try (simp only [Act.put, s1, s2, s3])
      rcases HOR.out with ⟨rfl, rfl⟩ | ⟨rfl, a, m, ea, em, ham, rfl⟩
      · have HI3 := Lib.hid (HI.out.wx HQ.out HD3.out HF3.out HS3.out)
        refine rdH (i := 12) (o := ⟨some 78, .binOp .neq 26 (.tmp 77) (.const (.int .i64 0)) 26, _, _, _, none⟩) (by kernel_rfl) rfl (fun K' hK => ?_)
        go_simp
        refine hK.out _ _ HS3.out (fun _ => ?_)
        clear hK K'
        try (simp only [Act.put, s1, s2, s3])
        refine wpAnyH_done (by kernel_rfl) ?_ _
        go_wp2_with fail
        go_roundw
        case rel => exact ⟨k + 1, _, A, by omega, by go_num, HI3.out⟩
        case measure => simp [intOf]; omega
      · have HI3 := Lib.hid (HI.out.wx HQ.out HD3.out HF3.out HS3.out)
        refine rdH (i := 12) (o := ⟨some 78, .binOp .neq 26 (.tmp 77) (.const (.int .i64 0)) 26, _, _, _, none⟩) (by kernel_rfl) rfl (fun K' hK => ?_)
        go_simp
        refine hK.out _ _ HS3.out (fun _ => ?_)
        clear hK K'
        try (simp only [Act.put, s1, s2, s3])
        refine wpAnyH_done (by kernel_rfl) ?_ _
        go_wp2_with fail
        have HA1 := Lib.hid (show ∀ w3, Below w.heap.size w w3 → w3.cell? ⟨b, o + k * 5 + 1, none⟩ = some (.int .i64 (a : Int)) from fun w3 h3 => by rw [(HC.out w3 h3).c1, ea])
        have HA3 := Lib.hid (show ∀ w3, Below w.heap.size w w3 → w3.cell? ⟨b, o + k * 5 + 3, none⟩ = some (.slice pb (64 * m) cb) from fun w3 h3 => by rw [(HC.out w3 h3).c3, em])
        have HEM := Lib.hid em
        have hm : m ≤ 16 := by omega
        clear ea em HWR HI HS HD3 HF3 HS3
        go_loopw [13] (fun i wq => ∃ (q : Nat) (A : Array Value), q ≤ m ∧ i = .int .i64 (q : Int) ∧ LtI w D Lx M D2 L2 M2 G n (wtW wt a x.b m) (fun _ => none) (wtW wt a x.b q) A wq) (fun i _ => m - (intOf i).toNat)
        case atStart => exact ⟨0, A, Nat.zero_le _, rfl, by rw [wtW_zero]; exact HI3.out⟩
        case round =>
          clear HI3
          obtain ⟨q, A, hq, rfl, hI⟩ := hrel
          have HI := Lib.hid hI
          have c3 := HA3.out _ hI.b
          have l0 : (0 : Int) ≤ ((64 * m : Nat) : Int) := Int.natCast_nonneg _
          have l1 : ((64 * m : Nat) : Int) ≤ 1024 := by omega
          have l3 : ((64 * m : Nat) : Int) / 64 = (m : Int) := by omega
          have q0 : (0 : Int) ≤ (q : Int) := Int.natCast_nonneg _
          clear hI
          by_cases hqm : q < m
          · have hqm1 : (q : Int) < (m : Int) := by omega
            have hpos : 0 < x.b.length := by have := HEM.out; omega
            have hdrew : Below w.heap.size w wr.drew := ⟨HI.out.b.os, HI.out.b.tape, HI.out.b.output, HI.out.b.size, HI.out.b.block⟩
            obtain ⟨xb, xo, rfl⟩ := row_at (HC.out w (Below.refl _ _)).bs hpos
            obtain ⟨hcb, hxb, hbs⟩ := row_cut (k := q) (HC.out w (Below.refl _ _)).bs (by have := HEM.out; omega)
            have HCB := Lib.hid hcb
            have HBS := Lib.hid hbs
            have HCL := Lib.hid (chunk_len (b := x.b) (k := q) (by have := HEM.out; omega))
            have HS := Lib.hid hdrew
            have haq : a + q < n := by omega
            have e18 : ((a : Int) + (q : Int)).toNat = a + q := by omega
            have e19 : (0 : Int) ≤ (a : Int) + (q : Int) := by omega
            have e20 : (a : Int) + (q : Int) < (n : Int) := by omega
            have e7 : IntKind.i64.wrap ((a : Int) + (q : Int)) = (a : Int) + (q : Int) := IntWalk.i64_in _ (by omega)
            have e14 : IntKind.i64.wrap ((q : Int) * 64) = (q : Int) * 64 := IntWalk.i64_in _ (by omega)
            have e16 : IntKind.i64.wrap ((q : Int) + 1) = (q : Int) + 1 := IntWalk.i64_in _ (by omega)
            have e17 : IntKind.i64.wrap (((q : Int) + 1) * 64) = ((q : Int) + 1) * 64 := IntWalk.i64_in _ (by omega)
            have cg : ∃ u, wr.drew.cell? ⟨G, a + q, none⟩ = some u := ⟨_, (cell_of_arr (W := wr.drew) HI.out.g (a + q)).trans (Array.getElem?_eq_getElem (by rw [HI.out.lv.size]; exact haq))⟩
            obtain ⟨ug, cg⟩ := cg
            have fg : wr.drew.frozen? ⟨G, a + q, none⟩ = false := froz_of_arr (W := wr.drew) HI.out.g (a + q)
            have HI4 := Lib.hid (HI.out.set HQ.out haq HCL.out HBS.out)
            have HS4 := Lib.hid HI4.out.b
            rw [wtW_succ] at HI4
            have HM := Lib.hid hm
            clear hdrew hcb hbs hpos hm
            go_wp2_with fail
            refine wp_region_held (S := Below w.heap.size w) (by kernel_rfl) ?_
            change wpAnyH _ _ _ _ _ _ _ _ (World.drew _)
            refine tkH (i := 0) (oi := ⟨some 90, .move (.tmp 11), _, _, _, none⟩) (.slice (some ⟨G, 0, none⟩) n n) rfl (by kernel_rfl) (fun _ _ _ h => h) (yH rfl (fun w3 h3 => by go_simp)) HS.out ?_
            simp only [Act.put, s1, s2, s3]
            refine tkH (i := 1) (oi := ⟨some 91, .move (.tmp 1), _, _, _, none⟩) (.slice (some ⟨b, o, none⟩) L.length lc) rfl (by kernel_rfl) (fun _ _ _ h => h) (yH rfl (fun w3 h3 => by go_simp)) HS.out ?_
            simp only [Act.put, s1, s2, s3]
            refine tkH (i := 2) (oi := ⟨some 92, .move (.tmp 12), _, _, _, none⟩) (.int .i64 (k : Int)) rfl (by kernel_rfl) (fun _ _ _ h => h) (yH rfl (fun w3 h3 => by go_simp)) HS.out ?_
            simp only [Act.put, s1, s2, s3]
            refine tkH (i := 3) (oi := ⟨some 93, .indexAddr 22 (.tmp 91) (.tmp 92), _, _, _, none⟩) (.pointer (some ⟨b, o + k * 5, none⟩)) rfl (by kernel_rfl) (fun _ _ _ h => h) (yH rfl (fun w3 h3 => by go_simp)) HS.out ?_
            simp only [Act.put, s1, s2, s3]
            refine tkH (i := 4) (oi := ⟨some 94, .fieldAddr 31 (.tmp 93) 1, _, _, _, none⟩) (.pointer (some ⟨b, o + k * 5 + 1, none⟩)) rfl (by kernel_rfl) (fun _ _ _ h => h) (yH rfl (fun w3 h3 => by go_simp)) HS.out ?_
            simp only [Act.put, s1, s2, s3]
            refine tkH (i := 5) (oi := ⟨some 95, .load 3 (.tmp 94), _, _, _, none⟩) (.int .i64 (a : Int)) rfl (by kernel_rfl) (fun _ _ _ h => h) (yH rfl (fun w3 h3 => by have q := HA1.out w3 h3; go_simp)) HS.out ?_
            simp only [Act.put, s1, s2, s3]
            refine tkH (i := 6) (oi := ⟨some 96, .move (.tmp 13), _, _, _, none⟩) (.int .i64 (q : Int)) rfl (by kernel_rfl) (fun _ _ _ h => h) (yH rfl (fun w3 h3 => by go_simp)) HS.out ?_
            simp only [Act.put, s1, s2, s3]
            refine tkH (i := 7) (oi := ⟨some 97, .binOp .add 3 (.tmp 95) (.tmp 96) 3, _, _, _, none⟩) (.int .i64 ((a : Int) + (q : Int))) rfl (by kernel_rfl) (fun _ _ _ h => h) (yH rfl (fun w3 h3 => by go_simp)) HS.out ?_
            simp only [Act.put, s1, s2, s3]
            refine tkH (i := 8) (oi := ⟨some 98, .move (.tmp 1), _, _, _, none⟩) (.slice (some ⟨b, o, none⟩) L.length lc) rfl (by kernel_rfl) (fun _ _ _ h => h) (yH rfl (fun w3 h3 => by go_simp)) HS.out ?_
            simp only [Act.put, s1, s2, s3]
            refine tkH (i := 9) (oi := ⟨some 99, .move (.tmp 12), _, _, _, none⟩) (.int .i64 (k : Int)) rfl (by kernel_rfl) (fun _ _ _ h => h) (yH rfl (fun w3 h3 => by go_simp)) HS.out ?_
            simp only [Act.put, s1, s2, s3]
            refine tkH (i := 10) (oi := ⟨some 100, .indexAddr 22 (.tmp 98) (.tmp 99), _, _, _, none⟩) (.pointer (some ⟨b, o + k * 5, none⟩)) rfl (by kernel_rfl) (fun _ _ _ h => h) (yH rfl (fun w3 h3 => by go_simp)) HS.out ?_
            simp only [Act.put, s1, s2, s3]
            refine tkH (i := 11) (oi := ⟨some 101, .fieldAddr 31 (.tmp 100) 3, _, _, _, none⟩) (.pointer (some ⟨b, o + k * 5 + 3, none⟩)) rfl (by kernel_rfl) (fun _ _ _ h => h) (yH rfl (fun w3 h3 => by go_simp)) HS.out ?_
            simp only [Act.put, s1, s2, s3]
            refine tkH (i := 12) (oi := ⟨some 102, .load 29 (.tmp 101), _, _, _, none⟩) (.slice (some ⟨xb, xo, none⟩) (64 * m) cb) rfl (by kernel_rfl) (fun _ _ _ h => h) (yH rfl (fun w3 h3 => by have q := HA3.out w3 h3; go_simp)) HS.out ?_
            simp only [Act.put, s1, s2, s3]
            refine tkH (i := 13) (oi := ⟨some 103, .move (.tmp 13), _, _, _, none⟩) (.int .i64 (q : Int)) rfl (by kernel_rfl) (fun _ _ _ h => h) (yH rfl (fun w3 h3 => by go_simp)) HS.out ?_
            simp only [Act.put, s1, s2, s3]
            refine tkH (i := 14) (oi := ⟨some 104, .binOp .mul 3 (.tmp 103) (.const (.int .i64 64)) 3, _, _, _, none⟩) (.int .i64 ((q : Int) * 64)) rfl (by kernel_rfl) (fun _ _ _ h => h) (yH rfl (fun w3 h3 => by go_simp)) HS.out ?_
            simp only [Act.put, s1, s2, s3]
            refine tkH (i := 15) (oi := ⟨some 105, .move (.tmp 13), _, _, _, none⟩) (.int .i64 (q : Int)) rfl (by kernel_rfl) (fun _ _ _ h => h) (yH rfl (fun w3 h3 => by go_simp)) HS.out ?_
            simp only [Act.put, s1, s2, s3]
            refine tkH (i := 16) (oi := ⟨some 106, .binOp .add 3 (.tmp 105) (.const (.int .i64 1)) 3, _, _, _, none⟩) (.int .i64 ((q : Int) + 1)) rfl (by kernel_rfl) (fun _ _ _ h => h) (yH rfl (fun w3 h3 => by go_simp)) HS.out ?_
            simp only [Act.put, s1, s2, s3]
            refine tkH (i := 17) (oi := ⟨some 107, .binOp .mul 3 (.tmp 106) (.const (.int .i64 64)) 3, _, _, _, none⟩) (.int .i64 (((q : Int) + 1) * 64)) rfl (by kernel_rfl) (fun _ _ _ h => h) (yH rfl (fun w3 h3 => by go_simp)) HS.out ?_
            simp only [Act.put, s1, s2, s3]
            refine tkH (i := 18) (oi := ⟨some 108, .slice 29 (.tmp 102) (some (.tmp 104)) (some (.tmp 107)) none, _, _, _, none⟩) (.slice (some ⟨xb, xo + 64 * q, none⟩) 64 (cb - 64 * q)) rfl (by kernel_rfl) (fun _ _ _ h => h) (yH rfl (fun w3 h3 => cutY xb xo (64 * m) cb q ((q : Int) * 64) (((q : Int) + 1) * 64) rfl rfl rfl (by omega) (by omega) HCB.out)) HS.out ?_
            simp only [Act.put, s1, s2, s3]
            refine tkH (i := 19) (oi := ⟨some 109, .indexAddr 45 (.tmp 90) (.tmp 97), _, _, _, none⟩) (.pointer (some ⟨G, a + q, none⟩)) rfl (by kernel_rfl) (fun _ _ _ h => h) (yH rfl (fun w3 h3 => by go_simp)) HS.out ?_
            simp only [Act.put, s1, s2, s3]
            refine rdH (i := 20) (o := ⟨none, .store 29 (.tmp 109) (.tmp 108), _, _, _, none⟩) (by kernel_rfl) rfl (fun K' hK => ?_)
            go_simp
            refine hK.out _ _ HS4.out (fun _ => ?_)
            clear hK K'
            try (simp only [Act.put, s1, s2, s3])
            refine wpAnyH_done (by kernel_rfl) ?_ _
            clear e7 e14 e16 e17 e18 e19 e20 cg fg
            go_wp2_with fail
            go_roundw
            case rel => exact ⟨q + 1, _, by omega, by go_num, HI4.out⟩
            case measure => simp [intOf]; omega
          · obtain rfl : q = m := by omega
            go_wp2_with fail
            go_roundw
            case rel => exact ⟨k + 1, _, A, by omega, by go_num, HI.out⟩
            case measure => simp [intOf]; omega
    · obtain rfl : k = L.length := by omega
      have h00 : decide ((0 : Int) ≤ -1) = false := rfl
      go_wp2_with fail
      go_loopw [14] (fun i wr => ∃ (k : Nat) (z : Int) (wy : Nat → Option By), k ≤ n ∧ z = (k : Int) - 1 ∧ i = .int .i64 z ∧ (∀ j, wy j = if k ≤ j then wt j else none) ∧ LtI w D Lx M D2 L2 M2 G n wt wy wt A wr) (fun i _ => (intOf i + 1).toNat)
      case atStart => exact ⟨n, (n : Int) - 1, _, Nat.le_refl _, rfl, rfl, (fun j => by
        by_cases h : n ≤ j
        · rw [if_pos h]
          cases e : wt j with
          | none => rfl
          | some s => have := (HI.out.x.ok.wt j s e).1; exact absurd this (by show ¬ j < n; omega)
        · rw [if_neg h]), HI.out⟩
      case round =>
        clear HI
        obtain ⟨k, z, wy, hk, hz, rfl, hwy, hI⟩ := hrel
        have HI := Lib.hid hI
        clear hI
        cases k with
        | succ j =>
          obtain rfl : z = (j : Int) := by omega
          clear hz
          have hj0 : (0 : Int) ≤ (j : Int) := Int.natCast_nonneg _
          have hjn : (j : Int) < (n : Int) := by omega
          have hjn2 : (j : Int) ≤ 40 := by omega
          cases hw : wt j with
          | none =>
            have cA := (cell_of_arr HI.out.g j).trans (HI.out.lv.no j (by omega) hw)
            have HWY := Lib.hid (show ∀ i, wy i = if j ≤ i then wt i else none from fun i => by
              rw [hwy]
              by_cases e : i = j
              · subst e; rw [if_neg (by omega), if_pos (Nat.le_refl _), hw]
              · by_cases e2 : j ≤ i
                · rw [if_pos e2, if_pos (by omega)]
                · rw [if_neg e2, if_neg (by omega)])
            clear hwy hw
            have hnil := neq_nil
            go_wp2_with fail
            go_roundw
            case rel => exact ⟨j, (j : Int) - 1, _, by omega, rfl, by go_num, HWY.out, HI.out⟩
            case measure => show (((j : Int) - 1) + 1).toNat < ((j : Int) + 1).toNat; omega
          | some s =>
            obtain ⟨hs, bb, bo, bc, hcell, hbs⟩ := HI.out.lv.yes j s (by omega) hw
            have cA := (cell_of_arr HI.out.g j).trans hcell
            have hct := write_gen HI.out.y (j : Int) (wf_small (by omega)) s (.slice (some ⟨bb, bo, none⟩) 64 bc) (· < w.heap.size) (by omega) (below_row hbs HI.out.b) (fun y hy => ⟨Nat.lt_of_lt_of_le hy HI.out.b.size, by have := HQ.out.d; have := HQ.out.d2; omega, by have := HQ.out.d; have := HQ.out.m2; omega⟩)
            unfold WrP at hct
            rw [wr_dn_good (m := 1) (by omega) (by omega), wtW_one _ _ hs] at hct
            dsimp only at hct
            have HWR := Lib.hid hct
            have HWY := Lib.hid (show ∀ i, upd wy j (some s) i = if j ≤ i then wt i else none from fun i => by
              unfold upd
              by_cases e : i = j
              · subst e; rw [if_pos rfl, if_pos (Nat.le_refl _), hw]
              · rw [if_neg e, hwy]
                by_cases e2 : j ≤ i
                · rw [if_pos e2, if_pos (by omega)]
                · rw [if_neg e2, if_neg (by omega)])
            clear hwy hw hct hcell hbs
            have hsome := neq_some ⟨bb, bo, none⟩ 64 bc
            go_wp2_with (go_at_call 9; refine HWR.out.mono ?_; rintro e w3 ⟨rfl, hd3, hf3⟩)
            have HI3 := Lib.hid (HI.out.wy HQ.out hd3 hf3)
            clear hd3 hf3
            go_roundw
            case rel => exact ⟨j, (j : Int) - 1, _, by omega, rfl, by go_num, HWY.out, HI3.out⟩
            case measure => show (((j : Int) - 1) + 1).toNat < ((j : Int) + 1).toNat; omega
        | zero =>
          obtain rfl : z = -1 := by omega
          obtain rfl : wy = wt := by funext j; rw [hwy, if_pos (Nat.zero_le _)]
          clear hwy hz
          have HX := Lib.hid HI.out.x
          have HY := Lib.hid HI.out.y
          go_wp2_with fail
          refine (waiting_any HX.out).mono ?_
          rintro e w3 ⟨rfl, rfl⟩
          go_wp2_with fail
          refine (waiting_any HY.out).mono ?_
          rintro e w3 ⟨rfl, rfl⟩
          obtain ⟨cn, hcn⟩ : ∃ cn : Int, (((keysW (dn n wy).wt (dn n wy).n).length : Nat) : Int) = cn := ⟨_, rfl⟩
          rw [hcn]
          clear hcn
          go_wp2_with fail
          refine (restart_any HX.out fs _ (· < w.heap.size) (by have := HFL.out; omega) (HFT.out _ HI.out.b) (fun y hy => ⟨Nat.lt_of_lt_of_le hy HI.out.b.size, by have := HQ.out.l; omega⟩)).mono ?_
          rintro e w4 ⟨rfl, hd4, hf4⟩
          have hq := HQ.out
          have q1 := hq.d; have q2 := hq.l; have q3 := hq.m; have q4 := hq.d2; have q5 := hq.l2; have q6 := hq.m2
          have HX4 := Lib.hid hd4
          have HY4 := Lib.hid (HY.out.kept (hf4.block _ HY.out.ltD (by omega)) (hf4.block _ HY.out.ltL (by omega)) (hf4.block _ HY.out.ltM (by omega)))
          have HB4 := Lib.hid (HI.out.b.trans (hf4.below (B := w.heap.size) HI.out.b.size (fun k e => by omega)))
          clear hd4 hf4 hq q1 q2 q3 q4 q5 q6
          go_wp2_with fail
          refine (restart_any HY4.out fs _ (· < w.heap.size) (by have := HFL.out; omega) (HFT.out _ HB4.out) (fun y hy => ⟨Nat.lt_of_lt_of_le hy HB4.out.size, by have := HQ.out.d; have := HQ.out.l2; omega⟩)).mono ?_
          rintro e w5 ⟨rfl, hd5, hf5⟩
          have hq := HQ.out
          have q1 := hq.d; have q2 := hq.l; have q3 := hq.m; have q4 := hq.d2; have q5 := hq.l2; have q6 := hq.m2
          have HX5 := Lib.hid (HX4.out.kept (hf5.block _ HX4.out.ltD (by omega)) (hf5.block _ HX4.out.ltL (by omega)) (hf5.block _ HX4.out.ltM (by omega)))
          have HY5 := Lib.hid hd5
          have HB5 := Lib.hid (HB4.out.trans (hf5.below (B := w.heap.size) HB4.out.size (fun k e => by omega)))
          clear hd5 hf5 hq q1 q2 q3 q4 q5 q6
          go_wp2_with fail
          refine (read_any HX5.out rfl 0 n (by show 0 + n ≤ n; omega)).mono ?_
          rintro e w6 ⟨v6, rfl, hr6, hb6⟩
          have HR6 := Lib.hid (row_own (F := (· < w6.heap.size)) hr6 (fun b hb => (own_lt hr6 hb).2))
          have HY6 := Lib.hid (HY5.out.below hb6 HY5.out.ltD HY5.out.ltL HY5.out.ltM)
          have HB6 := Lib.hid (HB5.out.trans (hb6.mono HB5.out.size))
          clear hr6 hb6
          go_wp2_with fail
          refine (read_any HY6.out rfl 0 n (by show 0 + n ≤ n; omega)).mono ?_
          rintro e w7 ⟨v7, rfl, hr7, hb7⟩
          have hcv6 := bys_str (HR6.out.kept (fun b hb => ⟨hb, hb7.block b hb⟩))
          have hcv7 := bys_str (row_own (F := fun _ => True) hr7 (fun _ _ => trivial))
          have HB7 := Lib.hid (HB6.out.trans (hb7.mono HB6.out.size))
          clear hr7 hb7
          generalize rdsL ((dn n wy).rst fs) 0 n = rd at *
          go_wp2_with (go_at_call 17; refine (keeps_any _).mono ?_; rintro e w8 ⟨rfl, hb8⟩)
          go_ret
          exact ⟨rfl, HB7.out.trans (hb8.mono HB7.out.size)⟩
end Go.Proofs.Ytiegicdfgbpmiaa.Dk
