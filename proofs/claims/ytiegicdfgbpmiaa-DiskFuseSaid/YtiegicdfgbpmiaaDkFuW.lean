/- DiskFuse's walk. -/
import Derived.Test.YtiegicdfgbpmiaaDkLc
import Derived.OrdersHeld
namespace Go.Proofs.Ytiegicdfgbpmiaa.Dk
open Go.RowKit Go.Shelf Go.Dk Go.Sha

/-- where the blocks lie -/
structure FuB (z D L M D2 L2 M2 : Nat) : Prop where
  d : z ≤ D
  l : z ≤ L
  m : z ≤ M
  d2 : D < D2 ∧ L < D2 ∧ M < D2
  l2 : D < L2 ∧ L < L2 ∧ M < L2
  m2 : D < M2 ∧ L < M2 ∧ M < M2
/-- two disks -/
structure FuI (w : World) (D L M D2 L2 M2 : Nat) (dx dy : Dk) (W : World) : Prop where
  x : DkAt W D L M dx
  y : DkAt W D2 L2 M2 dy
  b : Below w.heap.size w W
theorem FuI.wx {w W W' : World} {D L M D2 L2 M2 : Nat} {dx dx' dy : Dk} (h : FuI w D L M D2 L2 M2 dx dy W) (q : FuB w.heap.size D L M D2 L2 M2) (hd : DkAt W' D L M dx') (hf : Frq (fun k => k = D ∨ k = L ∨ k = M) W W') : FuI w D L M D2 L2 M2 dx' dy W' := by
  have hd2 := q.d2; have hl2 := q.l2; have hm2 := q.m2; have hd1 := q.d; have hl1 := q.l; have hm1 := q.m
  exact ⟨hd, h.y.kept (hf.block _ h.y.ltD (by omega)) (hf.block _ h.y.ltL (by omega)) (hf.block _ h.y.ltM (by omega)), h.b.trans (hf.below (B := w.heap.size) h.b.size (fun k e => by omega))⟩
theorem FuI.wy {w W W' : World} {D L M D2 L2 M2 : Nat} {dx dy dy' : Dk} (h : FuI w D L M D2 L2 M2 dx dy W) (q : FuB w.heap.size D L M D2 L2 M2) (hd : DkAt W' D2 L2 M2 dy') (hf : Frq (fun k => k = D2 ∨ k = L2 ∨ k = M2) W W') : FuI w D L M D2 L2 M2 dx dy' W' := by
  have hd2 := q.d2; have hl2 := q.l2; have hm2 := q.m2; have hd1 := q.d; have hl1 := q.l; have hm1 := q.m
  exact ⟨h.x.kept (hf.block _ h.x.ltD (by omega)) (hf.block _ h.x.ltL (by omega)) (hf.block _ h.x.ltM (by omega)), hd, h.b.trans (hf.below (B := w.heap.size) h.b.size (fun k e => by omega))⟩
/-- a Write on either, while the fuse burns -/
theorem fu_wr (n f c : Nat) (la : Nat → By) (wt : Nat → Option By) (a : Int) (b : By) (hc : c < f) : ∃ (er : Int) (c' : Nat) (wt' : Nat → Option By), c' ≤ f ∧ (er = 0 ∧ c' = c + 1 ∨ er = 1 ∧ c' = c) ∧
    Dk.wr ⟨n, la, wt, false, (f : Int) - (c : Int)⟩ a b = (er, ⟨n, la, wt', false, (f : Int) - (c' : Int)⟩) ∧ Dk.wr ⟨n, la, wt, false, -1⟩ a b = (er, ⟨n, la, wt', false, -1⟩) := by
  rcases wr_part ⟨n, la, wt, false, -1⟩ a b with hh | ⟨a', m, rfl, e2, e3⟩
  · exact ⟨1, c, wt, by omega, .inr ⟨rfl, rfl⟩, wr_bad rfl hh, wr_bad rfl hh⟩
  · refine ⟨0, c + 1, wtW wt a' b m, by omega, .inl ⟨rfl, rfl⟩, ?_, ?_⟩
    · rw [wr_good (d := ⟨n, la, wt, false, (f : Int) - (c : Int)⟩) rfl (by show (f : Int) - (c : Int) ≠ 0; omega) e2 e3]
      unfold Dk.burn Dk.wrote
      dsimp only
      rw [if_neg (by omega), if_pos (by omega), e2, show 64 * m / 64 = m by omega, show (f : Int) - (c : Int) - 1 = (f : Int) - ((c + 1 : Nat) : Int) by omega]
    · rw [wr_good rfl (by show (-1 : Int) ≠ 0; omega) e2 e3]
      unfold Dk.burn Dk.wrote
      dsimp only
      rw [if_neg (by omega), if_neg (by omega), e2, show 64 * m / 64 = m by omega]
theorem fu_wr0 (n f : Nat) (la : Nat → By) (wt : Nat → Option By) (a : Int) (b : By) : ∃ (er : Int) (dd : Bool), (er = 1 ∧ dd = false ∨ er = 120 ∧ dd = true) ∧
    Dk.wr ⟨n, la, wt, false, (f : Int) - (f : Int)⟩ a b = (er, ⟨n, la, wt, dd, 0⟩) := by
  rw [Int.sub_self]
  rcases wr_part ⟨n, la, wt, false, 0⟩ a b with hh | ⟨a', m, rfl, e2, e3⟩
  · exact ⟨1, false, .inl ⟨rfl, rfl⟩, wr_bad rfl hh⟩
  · refine ⟨120, true, .inr ⟨rfl, rfl⟩, ?_⟩
    unfold Dk.wr
    rw [if_neg (by simp), if_neg (by rw [e2, has_nat _ e3]; simp), if_pos rfl]
    rfl
theorem fu_sy (n f c : Nat) (la : Nat → By) (wt : Nat → Option By) (hc : c < f) : ∃ (la' : Nat → By) (wt' : Nat → Option By),
    Dk.sy ⟨n, la, wt, false, (f : Int) - (c : Int)⟩ = (0, ⟨n, la', wt', false, (f : Int) - ((c + 1 : Nat) : Int)⟩) ∧ Dk.sy ⟨n, la, wt, false, -1⟩ = (0, ⟨n, la', wt', false, -1⟩) := by
  refine ⟨fun i => (wt i).getD (la i), fun _ => none, ?_, ?_⟩
  · unfold Dk.sy
    dsimp only
    rw [if_neg (by simp), if_neg (by omega)]
    unfold Dk.burn Dk.sync
    dsimp only
    rw [if_neg (by omega), if_pos (by omega), show (f : Int) - (c : Int) - 1 = (f : Int) - ((c + 1 : Nat) : Int) by omega]
  · unfold Dk.sy
    dsimp only
    rw [if_neg (by simp), if_neg (by omega)]
    unfold Dk.burn Dk.sync
    dsimp only
    rw [if_neg (by omega), if_neg (by omega)]
theorem fu_sy0 (n f : Nat) (la : Nat → By) (wt : Nat → Option By) : Dk.sy ⟨n, la, wt, false, (f : Int) - (f : Int)⟩ = (120, ⟨n, la, wt, true, 0⟩) := by
  rw [Int.sub_self]
  unfold Dk.sy
  rw [if_neg (by simp), if_pos rfl]
  rfl
set_option maxRecDepth 100000 in
theorem dkfuse_bad (a0 : Int) (L : List Ac) (lp : Option Addr) (lc : Nat) (f : Nat) (fs : List Int) (fp : Option Addr) (fc : Nat) (w : World) (hL : ActsF w lp L) (h : greatB L = true ∨ a0 < 1 ∨ 40 < a0 ∨ 60 < fs.length) :
    Calls Try.prog 4 #[.int .i64 a0, .slice lp L.length lc, .int .u8 (f : Int), .slice fp fs.length fc] w fun e w' => e = .returned (.bool true) ∧ Below w.heap.size w w' := by
  have HG := Lib.hid (great_any L lp lc w w hL (Below.refl _ _))
  clear hL
  generalize greatB L = g at *
  cases g with
  | true =>
    go_enter Try.func4, Try.ntmps4
    go_wp2_with (go_at_call 7; refine HG.out.mono ?_; rintro e w' ⟨rfl, rfl⟩)
    go_ret
    exact ⟨rfl, Below.refl _ _⟩
  | false =>
    by_cases h1 : a0 < 1
    · have i1 : decide (a0 < 1) = true := decide_eq_true h1
      go_enter Try.func4, Try.ntmps4
      go_wp2_with (go_at_call 7; refine HG.out.mono ?_; rintro e w' ⟨rfl, rfl⟩)
      go_ret
      exact ⟨rfl, Below.refl _ _⟩
    · have i1 : decide (a0 < 1) = false := decide_eq_false h1
      by_cases h2 : 40 < a0
      · have i2 : decide (40 < a0) = true := decide_eq_true h2
        go_enter Try.func4, Try.ntmps4
        go_wp2_with (go_at_call 7; refine HG.out.mono ?_; rintro e w' ⟨rfl, rfl⟩)
        go_ret
        exact ⟨rfl, Below.refl _ _⟩
      · have i2 : decide (40 < a0) = false := decide_eq_false h2
        have h3 : (60 : Int) < (fs.length : Int) := by simp only [Bool.false_eq_true, false_or] at h; omega
        have i3 : decide ((60 : Int) < (fs.length : Int)) = true := decide_eq_true h3
        clear h
        go_enter Try.func4, Try.ntmps4
        go_wp2_with (go_at_call 7; refine HG.out.mono ?_; rintro e w' ⟨rfl, rfl⟩)
        go_ret
        exact ⟨rfl, Below.refl _ _⟩
set_option maxRecDepth 100000 in
set_option maxHeartbeats 8000000 in
theorem dkfuse_any (a0 : Int) (L : List Ac) (lp : Option Addr) (lc : Nat) (f : Nat) (hf8 : f < 256) (fs : List Int) (fp : Option Addr) (fc : Nat) (w : World) (hL : ActsF w lp L) (hf : FtsF w (· < w.heap.size) (.slice fp fs.length fc) fs) :
    Calls Try.prog 4 #[.int .i64 a0, .slice lp L.length lc, .int .u8 (f : Int), .slice fp fs.length fc] w fun e w' => e = .returned (.bool true) ∧ Below w.heap.size w w' := by
  by_cases hbad : greatB L = true ∨ a0 < 1 ∨ 40 < a0 ∨ 60 < fs.length
  · exact dkfuse_bad a0 L lp lc f fs fp fc w hL hbad
  obtain ⟨n, rfl⟩ : ∃ n : Nat, a0 = (n : Int) := ⟨a0.toNat, by omega⟩
  have hgr : greatB L = false := by
    cases e : greatB L with
    | false => rfl
    | true => exact absurd (Or.inl e) hbad
  have hn1 : 1 ≤ n := by omega
  have hn2 : n ≤ 40 := by omega
  have hfl : fs.length ≤ 60 := by omega
  have HG := Lib.hid (great_any L lp lc w w hL (Below.refl _ _))
  rw [hgr] at HG
  have hll := great_len hgr
  have HGR := Lib.hid hgr
  have HL := Lib.hid hL
  have HFT := Lib.hid (fun w3 h3 => below_row hf (w3 := w3) h3)
  have i1 : decide ((n : Int) < 1) = false := decide_eq_false (by omega)
  have i2 : decide ((40 : Int) < (n : Int)) = false := decide_eq_false (by omega)
  have i3 : decide ((60 : Int) < (fs.length : Int)) = false := decide_eq_false (by omega)
  have f0 : (0 : Int) ≤ (f : Int) := Int.natCast_nonneg _
  have f1 : (f : Int) ≤ 255 := by omega
  have HFL := Lib.hid hfl
  clear hbad hgr hL hf hfl hf8
  go_enter Try.func4, Try.ntmps4
  go_wp2_with (go_at_call 7; refine HG.out.mono ?_; rintro e w' ⟨rfl, rfl⟩)
  refine (new_any n hn1 (by omega) w).mono ?_
  rintro e w1 ⟨D, Lx, M, rfl, hd1, hb1, hD, hLx, hM⟩
  have HD1 := Lib.hid hd1
  have HB1 := Lib.hid hb1
  clear hd1 hb1
  go_wp2_with fail
  refine (new_any n hn1 (by omega) w1).mono ?_
  rintro e w2 ⟨D2, L2, M2, rfl, hd2, hb2, hD2, hL2, hM2⟩
  have HQ := Lib.hid (show FuB w.heap.size D Lx M D2 L2 M2 from by
    have a1 := HD1.out.ltD; have a2 := HD1.out.ltL; have a3 := HD1.out.ltM
    exact ⟨hD, hLx, hM, ⟨by omega, by omega, by omega⟩, ⟨by omega, by omega, by omega⟩, ⟨by omega, by omega, by omega⟩⟩)
  have HI2 := Lib.hid (show FuI w D Lx M D2 L2 M2 (Dk.new n) (Dk.new n) w2 from ⟨HD1.out.below hb2 HD1.out.ltD HD1.out.ltL HD1.out.ltM, hd2, HB1.out.trans (hb2.mono HB1.out.size)⟩)
  clear hd2 hb2 HD1 HB1 hD hLx hM hD2 hL2 hM2
  go_wp2_with fail
  refine (fuse_any HI2.out.x rfl (f : Int) f0).mono ?_
  rintro e w3 ⟨rfl, rfl⟩
  have HI0 := Lib.hid (show FuI w D Lx M D2 L2 M2 ⟨n, fun _ => zero64, fun _ => none, false, (f : Int) - ((0 : Nat) : Int)⟩ ⟨n, fun _ => zero64, fun _ => none, false, -1⟩ (w2.setCell ⟨D, 3, none⟩ (.int .i64 (f : Int))) from by
    have h1 := HI2.out.x.setFuse (f := (f : Int)) (by omega) (by omega)
    refine HI2.out.wx HQ.out ?_ (Frq.setCell (p := ⟨D, 3, none⟩) (Frq.refl _ _) (Or.inl (Or.inl rfl)) _)
    rw [show (f : Int) - ((0 : Nat) : Int) = (f : Int) by omega]
    exact h1)
  go_wp2_with fail
  generalize w2.setCell ⟨D, 3, none⟩ (.int .i64 (f : Int)) = wa at *
  clear HI2
  go_loopw [13, 14] (fun dv i wr => ∃ (k c : Nat) (la : Nat → By) (wt : Nat → Option By), k ≤ L.length ∧ i = .int .i64 (k : Int) ∧ dv = .int .i64 (c : Int) ∧ c ≤ f ∧ FuI w D Lx M D2 L2 M2 ⟨n, la, wt, false, (f : Int) - (c : Int)⟩ ⟨n, la, wt, false, -1⟩ wr) (fun _ i _ => L.length - (intOf i).toNat)
  case atStart => exact ⟨0, 0, _, _, Nat.zero_le _, rfl, rfl, Nat.zero_le _, HI0.out⟩
  case round =>
    obtain ⟨k, c, la, wt, hk, rfl, rfl, hcf, hI⟩ := hrel
    have HI := Lib.hid hI
    clear hI HI0
    by_cases hlt : k < L.length
    · have hlt1 : (k : Int) < (L.length : Int) := by omega
      have hk0 : (0 : Int) ≤ (k : Int) := Int.natCast_nonneg _
      have hc0 : (0 : Int) ≤ (c : Int) := Int.natCast_nonneg _
      have hc1 : (c : Int) ≤ 255 := by omega
      obtain ⟨x, hx⟩ : ∃ x, L[k]? = some x := ⟨_, List.getElem?_eq_getElem hlt⟩
      obtain ⟨b, o, pb, cb, pf, cf, rfl, hwf, hdo, hc⟩ := HL.out.get hx
      have hbl : x.b.length ≤ 1000000 := by have := (great_get HGR.out hx).1; omega
      have hdrew : Below w.heap.size w wr.drew := ⟨HI.out.b.os, HI.out.b.tape, HI.out.b.output, HI.out.b.size, HI.out.b.block⟩
      have c0 := (hc wr HI.out.b).c0
      obtain ⟨dv, hdv⟩ : ∃ dv : Int, (x.do_ : Int) = dv := ⟨_, rfl⟩
      have d0 : (0 : Int) ≤ dv := by omega
      have d1 : dv ≤ 255 := by omega
      rw [hdv] at c0
      have HC := Lib.hid hc
      have HS := Lib.hid hdrew
      clear hdv hdo hc hdrew hx
      by_cases m0 : dv % 6 = 0
      · have m1 : (dv % 6 == 0) = true := by simp [m0]
        have m2 : (dv % 6 != 0) = false := by simp [m0]
        by_cases hcf2 : c = f
        · subst hcf2
          obtain ⟨er, dd, hor, hwx⟩ := fu_wr0 n c la wt x.at_ x.b
          have hct := write_gen (HI.out.x.kept (w' := wr.drew) rfl rfl rfl) x.at_ hwf x.b _ (· < w.heap.size) hbl ((HC.out wr.drew HS.out).bs) (fun y hy => ⟨Nat.lt_of_lt_of_le hy HS.out.size, by have := HQ.out.d; omega, by have := HQ.out.m; omega⟩)
          unfold WrP at hct
          rw [hwx] at hct
          dsimp only at hct
          have HWR := Lib.hid hct
          have HOR := Lib.hid hor
          clear hct hor hwx hwf
          go_wp2_with fail
          refine wp_region_held (S := Below w.heap.size w) (by kernel_rfl) ?_
          change wpAnyH _ _ _ _ _ _ _ _ (World.drew _)
          refine tkH (i := 0) (oi := ⟨some 97, .move (.tmp 9), _, _, _, none⟩) (pD D) rfl (by kernel_rfl) (fun _ _ _ h => h) (yH rfl (fun w3 h3 => by go_simp)) HS.out ?_
          simp only [Act.put, s1, s2, s3]
          refine tkH (i := 1) (oi := ⟨some 98, .move (.tmp 1), _, _, _, none⟩) (.slice (some ⟨b, o, none⟩) L.length lc) rfl (by kernel_rfl) (fun _ _ _ h => h) (yH rfl (fun w3 h3 => by go_simp)) HS.out ?_
          simp only [Act.put, s1, s2, s3]
          refine tkH (i := 2) (oi := ⟨some 99, .move (.tmp 14), _, _, _, none⟩) (.int .i64 (k : Int)) rfl (by kernel_rfl) (fun _ _ _ h => h) (yH rfl (fun w3 h3 => by go_simp)) HS.out ?_
          simp only [Act.put, s1, s2, s3]
          refine tkH (i := 3) (oi := ⟨some 100, .indexAddr 22 (.tmp 98) (.tmp 99), _, _, _, none⟩) (.pointer (some ⟨b, o + k * 5, none⟩)) rfl (by kernel_rfl) (fun _ _ _ h => h) (yH rfl (fun w3 h3 => by go_simp)) HS.out ?_
          simp only [Act.put, s1, s2, s3]
          refine tkH (i := 4) (oi := ⟨some 101, .fieldAddr 31 (.tmp 100) 1, _, _, _, none⟩) (.pointer (some ⟨b, o + k * 5 + 1, none⟩)) rfl (by kernel_rfl) (fun _ _ _ h => h) (yH rfl (fun w3 h3 => by go_simp)) HS.out ?_
          simp only [Act.put, s1, s2, s3]
          refine tkH (i := 5) (oi := ⟨some 102, .load 3 (.tmp 101), _, _, _, none⟩) (.int .i64 x.at_) rfl (by kernel_rfl) (fun _ _ _ h => h) (yH rfl (fun w3 h3 => by have q := (HC.out w3 h3).c1; go_simp)) HS.out ?_
          simp only [Act.put, s1, s2, s3]
          refine tkH (i := 6) (oi := ⟨some 103, .move (.tmp 1), _, _, _, none⟩) (.slice (some ⟨b, o, none⟩) L.length lc) rfl (by kernel_rfl) (fun _ _ _ h => h) (yH rfl (fun w3 h3 => by go_simp)) HS.out ?_
          simp only [Act.put, s1, s2, s3]
          refine tkH (i := 7) (oi := ⟨some 104, .move (.tmp 14), _, _, _, none⟩) (.int .i64 (k : Int)) rfl (by kernel_rfl) (fun _ _ _ h => h) (yH rfl (fun w3 h3 => by go_simp)) HS.out ?_
          simp only [Act.put, s1, s2, s3]
          refine tkH (i := 8) (oi := ⟨some 105, .indexAddr 22 (.tmp 103) (.tmp 104), _, _, _, none⟩) (.pointer (some ⟨b, o + k * 5, none⟩)) rfl (by kernel_rfl) (fun _ _ _ h => h) (yH rfl (fun w3 h3 => by go_simp)) HS.out ?_
          simp only [Act.put, s1, s2, s3]
          refine tkH (i := 9) (oi := ⟨some 106, .fieldAddr 31 (.tmp 105) 3, _, _, _, none⟩) (.pointer (some ⟨b, o + k * 5 + 3, none⟩)) rfl (by kernel_rfl) (fun _ _ _ h => h) (yH rfl (fun w3 h3 => by go_simp)) HS.out ?_
          simp only [Act.put, s1, s2, s3]
          refine tkH (i := 10) (oi := ⟨some 107, .load 29 (.tmp 106), _, _, _, none⟩) (.slice pb x.b.length cb) rfl (by kernel_rfl) (fun _ _ _ h => h) (yH rfl (fun w3 h3 => by have q := (HC.out w3 h3).c3; go_simp)) HS.out ?_
          simp only [Act.put, s1, s2, s3]
          refine rdH (i := 11) (o := ⟨some 108, .call ⟨.value (.func 9), #[.tmp 97, .tmp 102, .tmp 107], _⟩, _, _, _, none⟩) (by kernel_rfl) rfl (fun K' hK => ?_)
          go_simp
          refine HWR.out.mono ?_
          rintro e w3 ⟨rfl, hd3, hf3⟩
          have HI3 := Lib.hid (HI.out.wx HQ.out hd3 (Frq.trans (Frq.drew (Frq.refl _ _)) (hf3.mono (fun k h => h.elim Or.inl (fun h => Or.inr (Or.inr h))))))
          clear hd3 hf3
          refine hK.out _ _ HI3.out.b (fun _ => ?_)
          clear hK K'
          try (simp only [Act.put, s1, s2, s3])
          rcases HOR.out with ⟨rfl, rfl⟩ | ⟨rfl, rfl⟩
          · refine tkH (i := 12) (oi := ⟨some 15, .assign (.tmp 108), _, _, _, none⟩) (.int .i64 1) rfl (by kernel_rfl) (fun _ _ _ h => h) (yH rfl (fun w3 h3 => by go_simp)) HI3.out.b ?_
            simp only [Act.put, s1, s2, s3]
            refine wpAnyH_done (by kernel_rfl) ?_ _
            have hdd := Lib.hid (dead_any HI3.out.x)
            go_wp2_with (go_at_call 16; refine hdd.out.mono ?_; rintro e w4 ⟨rfl, rfl⟩)
            go_roundw
            case rel => exact ⟨k + 1, c, la, wt, by omega, by go_num, rfl, Nat.le_refl _, by rw [Int.sub_self]; exact HI3.out⟩
            case measure => simp [intOf]; omega
          · refine tkH (i := 12) (oi := ⟨some 15, .assign (.tmp 108), _, _, _, none⟩) (.int .i64 120) rfl (by kernel_rfl) (fun _ _ _ h => h) (yH rfl (fun w3 h3 => by go_simp)) HI3.out.b ?_
            simp only [Act.put, s1, s2, s3]
            refine wpAnyH_done (by kernel_rfl) ?_ _
            have hdd := Lib.hid (dead_any HI3.out.x)
            go_wp2_with (go_at_call 16; refine hdd.out.mono ?_; rintro e w4 ⟨rfl, rfl⟩)
            go_wp2_with fail
            refine (restart_any HI3.out.x fs _ (· < w.heap.size) (by have := HFL.out; omega) (HFT.out _ HI3.out.b) (fun y hy => ⟨Nat.lt_of_lt_of_le hy HI3.out.b.size, by have := HQ.out.l; omega⟩)).mono ?_
            rintro e w5 ⟨rfl, hd5, hf5⟩
            have HI5 := Lib.hid (HI3.out.wx HQ.out hd5 hf5)
            clear hd5 hf5
            go_wp2_with fail
            refine (restart_any HI5.out.y fs _ (· < w.heap.size) (by have := HFL.out; omega) (HFT.out _ HI5.out.b) (fun y hy => ⟨Nat.lt_of_lt_of_le hy HI5.out.b.size, by have := HQ.out.d; have := HQ.out.l2; omega⟩)).mono ?_
            rintro e w6 ⟨rfl, hd6, hf6⟩
            have HI6 := Lib.hid (HI5.out.wy HQ.out hd6 hf6)
            clear hd6 hf6
            go_wp2_with fail
            refine (read_any HI6.out.x rfl 0 n (by show 0 + n ≤ n; omega)).mono ?_
            rintro e w7 ⟨v7, rfl, hr7, hb7⟩
            have HY7 := Lib.hid (HI6.out.y.below hb7 HI6.out.y.ltD HI6.out.y.ltL HI6.out.y.ltM)
            have HB7 := Lib.hid (HI6.out.b.trans (hb7.mono HI6.out.b.size))
            obtain ⟨p7, cp7, rfl⟩ := own_slice hr7
            have HR7 := Lib.hid (row_own (F := (· < w7.heap.size)) hr7 (fun b hb => (own_lt hr7 hb).2))
            have hlen := rds_len HI6.out.x.ok 0 n
            rw [hlen] at HR7 ⊢
            clear hr7 hb7
            go_wp2_with fail
            refine (read_any HY7.out rfl 0 n (by show 0 + n ≤ n; omega)).mono ?_
            rintro e w8 ⟨v8, rfl, hr8, hb8⟩
            obtain ⟨N, hN⟩ : ∃ N : Nat, 64 * n = N := ⟨_, rfl⟩
            have hcv7 := bys_str (l := rdsL (Dk.rst ⟨n, la, wt, false, -1⟩ fs) 0 n) (by
              have := HR7.out.kept (fun b hb => ⟨hb, hb8.block b hb⟩)
              unfold BysF
              rw [rds_len HY7.out.ok]
              exact this)
            have hcv8 := bys_str (row_own (F := fun _ => True) hr8 (fun _ _ => trivial))
            have HB8 := Lib.hid (HB7.out.trans (hb8.mono HB7.out.size))
            rw [hN] at hcv7 ⊢
            have hN2 : (n : Int) * 64 = (N : Int) := by omega
            have hN3 : (N : Int) ≤ 2560 := by omega
            have hN4 : (0 : Int) ≤ (N : Int) := Int.natCast_nonneg _
            clear hr8 hb8 hN hlen
            generalize rdsL (Dk.rst ⟨n, la, wt, false, -1⟩ fs) 0 n = rd at *
            go_wp2_with (go_at_call 17; refine (keeps_any _).mono ?_; rintro e w9 ⟨rfl, hb9⟩)
            go_ret
            exact ⟨rfl, HB8.out.trans (hb9.mono HB8.out.size)⟩
        · have m3 : ((c : Int) == (f : Int)) = false := by simp; omega
          have m4 : decide ((c : Int) = (f : Int)) = false := decide_eq_false (by omega)
          obtain ⟨er, c', wt', hc', hor, hwx, hwy⟩ := fu_wr n f c la wt x.at_ x.b (by omega)
          have hct := write_gen (HI.out.x.kept (w' := wr.drew) rfl rfl rfl) x.at_ hwf x.b _ (· < w.heap.size) hbl ((HC.out wr.drew HS.out).bs) (fun y hy => ⟨Nat.lt_of_lt_of_le hy HS.out.size, by have := HQ.out.d; omega, by have := HQ.out.m; omega⟩)
          unfold WrP at hct
          rw [hwx] at hct
          dsimp only at hct
          have HWR := Lib.hid hct
          have HOR := Lib.hid hor
          clear hct hor hwx
          go_wp2_with fail
          refine wp_region_held (S := Below w.heap.size w) (by kernel_rfl) ?_
          change wpAnyH _ _ _ _ _ _ _ _ (World.drew _)
          refine tkH (i := 0) (oi := ⟨some 133, .move (.tmp 9), _, _, _, none⟩) (pD D) rfl (by kernel_rfl) (fun _ _ _ h => h) (yH rfl (fun w3 h3 => by go_simp)) HS.out ?_
          simp only [Act.put, s1, s2, s3]
          refine tkH (i := 1) (oi := ⟨some 134, .move (.tmp 1), _, _, _, none⟩) (.slice (some ⟨b, o, none⟩) L.length lc) rfl (by kernel_rfl) (fun _ _ _ h => h) (yH rfl (fun w3 h3 => by go_simp)) HS.out ?_
          simp only [Act.put, s1, s2, s3]
          refine tkH (i := 2) (oi := ⟨some 135, .move (.tmp 14), _, _, _, none⟩) (.int .i64 (k : Int)) rfl (by kernel_rfl) (fun _ _ _ h => h) (yH rfl (fun w3 h3 => by go_simp)) HS.out ?_
          simp only [Act.put, s1, s2, s3]
          refine tkH (i := 3) (oi := ⟨some 136, .indexAddr 22 (.tmp 134) (.tmp 135), _, _, _, none⟩) (.pointer (some ⟨b, o + k * 5, none⟩)) rfl (by kernel_rfl) (fun _ _ _ h => h) (yH rfl (fun w3 h3 => by go_simp)) HS.out ?_
          simp only [Act.put, s1, s2, s3]
          refine tkH (i := 4) (oi := ⟨some 137, .fieldAddr 31 (.tmp 136) 1, _, _, _, none⟩) (.pointer (some ⟨b, o + k * 5 + 1, none⟩)) rfl (by kernel_rfl) (fun _ _ _ h => h) (yH rfl (fun w3 h3 => by go_simp)) HS.out ?_
          simp only [Act.put, s1, s2, s3]
          refine tkH (i := 5) (oi := ⟨some 138, .load 3 (.tmp 137), _, _, _, none⟩) (.int .i64 x.at_) rfl (by kernel_rfl) (fun _ _ _ h => h) (yH rfl (fun w3 h3 => by have q := (HC.out w3 h3).c1; go_simp)) HS.out ?_
          simp only [Act.put, s1, s2, s3]
          refine tkH (i := 6) (oi := ⟨some 139, .move (.tmp 1), _, _, _, none⟩) (.slice (some ⟨b, o, none⟩) L.length lc) rfl (by kernel_rfl) (fun _ _ _ h => h) (yH rfl (fun w3 h3 => by go_simp)) HS.out ?_
          simp only [Act.put, s1, s2, s3]
          refine tkH (i := 7) (oi := ⟨some 140, .move (.tmp 14), _, _, _, none⟩) (.int .i64 (k : Int)) rfl (by kernel_rfl) (fun _ _ _ h => h) (yH rfl (fun w3 h3 => by go_simp)) HS.out ?_
          simp only [Act.put, s1, s2, s3]
          refine tkH (i := 8) (oi := ⟨some 141, .indexAddr 22 (.tmp 139) (.tmp 140), _, _, _, none⟩) (.pointer (some ⟨b, o + k * 5, none⟩)) rfl (by kernel_rfl) (fun _ _ _ h => h) (yH rfl (fun w3 h3 => by go_simp)) HS.out ?_
          simp only [Act.put, s1, s2, s3]
          refine tkH (i := 9) (oi := ⟨some 142, .fieldAddr 31 (.tmp 141) 3, _, _, _, none⟩) (.pointer (some ⟨b, o + k * 5 + 3, none⟩)) rfl (by kernel_rfl) (fun _ _ _ h => h) (yH rfl (fun w3 h3 => by go_simp)) HS.out ?_
          simp only [Act.put, s1, s2, s3]
          refine tkH (i := 10) (oi := ⟨some 143, .load 29 (.tmp 142), _, _, _, none⟩) (.slice pb x.b.length cb) rfl (by kernel_rfl) (fun _ _ _ h => h) (yH rfl (fun w3 h3 => by have q := (HC.out w3 h3).c3; go_simp)) HS.out ?_
          simp only [Act.put, s1, s2, s3]
          refine tkH (i := 12) (oi := ⟨some 145, .move (.tmp 11), _, _, _, none⟩) (pD D2) rfl (by kernel_rfl) (fun _ _ _ h => h) (yH rfl (fun w3 h3 => by go_simp)) HS.out ?_
          simp only [Act.put, s1, s2, s3]
          refine tkH (i := 13) (oi := ⟨some 146, .move (.tmp 1), _, _, _, none⟩) (.slice (some ⟨b, o, none⟩) L.length lc) rfl (by kernel_rfl) (fun _ _ _ h => h) (yH rfl (fun w3 h3 => by go_simp)) HS.out ?_
          simp only [Act.put, s1, s2, s3]
          refine tkH (i := 14) (oi := ⟨some 147, .move (.tmp 14), _, _, _, none⟩) (.int .i64 (k : Int)) rfl (by kernel_rfl) (fun _ _ _ h => h) (yH rfl (fun w3 h3 => by go_simp)) HS.out ?_
          simp only [Act.put, s1, s2, s3]
          refine tkH (i := 15) (oi := ⟨some 148, .indexAddr 22 (.tmp 146) (.tmp 147), _, _, _, none⟩) (.pointer (some ⟨b, o + k * 5, none⟩)) rfl (by kernel_rfl) (fun _ _ _ h => h) (yH rfl (fun w3 h3 => by go_simp)) HS.out ?_
          simp only [Act.put, s1, s2, s3]
          refine tkH (i := 16) (oi := ⟨some 149, .fieldAddr 31 (.tmp 148) 1, _, _, _, none⟩) (.pointer (some ⟨b, o + k * 5 + 1, none⟩)) rfl (by kernel_rfl) (fun _ _ _ h => h) (yH rfl (fun w3 h3 => by go_simp)) HS.out ?_
          simp only [Act.put, s1, s2, s3]
          refine tkH (i := 17) (oi := ⟨some 150, .load 3 (.tmp 149), _, _, _, none⟩) (.int .i64 x.at_) rfl (by kernel_rfl) (fun _ _ _ h => h) (yH rfl (fun w3 h3 => by have q := (HC.out w3 h3).c1; go_simp)) HS.out ?_
          simp only [Act.put, s1, s2, s3]
          refine tkH (i := 18) (oi := ⟨some 151, .move (.tmp 1), _, _, _, none⟩) (.slice (some ⟨b, o, none⟩) L.length lc) rfl (by kernel_rfl) (fun _ _ _ h => h) (yH rfl (fun w3 h3 => by go_simp)) HS.out ?_
          simp only [Act.put, s1, s2, s3]
          refine tkH (i := 19) (oi := ⟨some 152, .move (.tmp 14), _, _, _, none⟩) (.int .i64 (k : Int)) rfl (by kernel_rfl) (fun _ _ _ h => h) (yH rfl (fun w3 h3 => by go_simp)) HS.out ?_
          simp only [Act.put, s1, s2, s3]
          refine tkH (i := 20) (oi := ⟨some 153, .indexAddr 22 (.tmp 151) (.tmp 152), _, _, _, none⟩) (.pointer (some ⟨b, o + k * 5, none⟩)) rfl (by kernel_rfl) (fun _ _ _ h => h) (yH rfl (fun w3 h3 => by go_simp)) HS.out ?_
          simp only [Act.put, s1, s2, s3]
          refine tkH (i := 21) (oi := ⟨some 154, .fieldAddr 31 (.tmp 153) 3, _, _, _, none⟩) (.pointer (some ⟨b, o + k * 5 + 3, none⟩)) rfl (by kernel_rfl) (fun _ _ _ h => h) (yH rfl (fun w3 h3 => by go_simp)) HS.out ?_
          simp only [Act.put, s1, s2, s3]
          refine tkH (i := 22) (oi := ⟨some 155, .load 29 (.tmp 154), _, _, _, none⟩) (.slice pb x.b.length cb) rfl (by kernel_rfl) (fun _ _ _ h => h) (yH rfl (fun w3 h3 => by have q := (HC.out w3 h3).c3; go_simp)) HS.out ?_
          simp only [Act.put, s1, s2, s3]
          refine rdH (i := 11) (o := ⟨some 144, .call ⟨.value (.func 9), #[.tmp 133, .tmp 138, .tmp 143], _⟩, _, _, _, none⟩) (by kernel_rfl) rfl (fun K' hK => ?_)
          go_simp
          refine HWR.out.mono ?_
          rintro e w3 ⟨rfl, hd3, hf3⟩
          have HI3 := Lib.hid (HI.out.wx HQ.out hd3 (Frq.trans (Frq.drew (Frq.refl _ _)) (hf3.mono (fun k h => h.elim Or.inl (fun h => Or.inr (Or.inr h))))))
          clear hd3 hf3
          refine hK.out _ _ HI3.out.b (fun _ => ?_)
          clear hK K'
          try (simp only [Act.put, s1, s2, s3])
          refine rdH (i := 23) (o := ⟨some 156, .call ⟨.value (.func 9), #[.tmp 145, .tmp 150, .tmp 155], _⟩, _, _, _, none⟩) (by kernel_rfl) rfl (fun K' hK => ?_)
          go_simp
          have hct2 := write_gen HI3.out.y x.at_ hwf x.b _ (· < w.heap.size) hbl ((HC.out w3 HI3.out.b).bs) (fun y hy => ⟨Nat.lt_of_lt_of_le hy HI3.out.b.size, by have := HQ.out.d; have := HQ.out.d2; omega, by have := HQ.out.d; have := HQ.out.m2; omega⟩)
          unfold WrP at hct2
          rw [hwy] at hct2
          dsimp only at hct2
          refine hct2.mono ?_
          rintro e w4 ⟨rfl, hd4, hf4⟩
          have HI4 := Lib.hid (HI3.out.wy HQ.out hd4 (hf4.mono (fun k h => h.elim Or.inl (fun h => Or.inr (Or.inr h)))))
          clear hd4 hf4 hct2
          refine hK.out _ _ HI4.out.b (fun _ => ?_)
          clear hK K'
          try (simp only [Act.put, s1, s2, s3])
          rcases HOR.out with ⟨rfl, rfl⟩ | ⟨rfl, rfl⟩
          · refine tkH (i := 24) (oi := ⟨some 15, .assign (.tmp 144), _, _, _, none⟩) (.int .i64 0) rfl (by kernel_rfl) (fun _ _ _ h => h) (yH rfl (fun w3 h3 => by go_simp)) HI4.out.b ?_
            simp only [Act.put, s1, s2, s3]
            refine tkH (i := 25) (oi := ⟨some 16, .assign (.tmp 156), _, _, _, none⟩) (.int .i64 0) rfl (by kernel_rfl) (fun _ _ _ h => h) (yH rfl (fun w3 h3 => by go_simp)) HI4.out.b ?_
            simp only [Act.put, s1, s2, s3]
            refine wpAnyH_done (by kernel_rfl) ?_ _
            have hdd := Lib.hid (dead_any HI4.out.x)
            go_wp2_with (go_at_call 16; refine hdd.out.mono ?_; rintro e w4 ⟨rfl, rfl⟩)
            go_roundw
            case rel => exact ⟨k + 1, c + 1, la, wt', by omega, by go_num, by go_num, hc', HI4.out⟩
            case measure => simp [intOf]; omega
          · refine tkH (i := 24) (oi := ⟨some 15, .assign (.tmp 144), _, _, _, none⟩) (.int .i64 1) rfl (by kernel_rfl) (fun _ _ _ h => h) (yH rfl (fun w3 h3 => by go_simp)) HI4.out.b ?_
            simp only [Act.put, s1, s2, s3]
            refine tkH (i := 25) (oi := ⟨some 16, .assign (.tmp 156), _, _, _, none⟩) (.int .i64 1) rfl (by kernel_rfl) (fun _ _ _ h => h) (yH rfl (fun w3 h3 => by go_simp)) HI4.out.b ?_
            simp only [Act.put, s1, s2, s3]
            refine wpAnyH_done (by kernel_rfl) ?_ _
            have hdd := Lib.hid (dead_any HI4.out.x)
            go_wp2_with (go_at_call 16; refine hdd.out.mono ?_; rintro e w4 ⟨rfl, rfl⟩)
            go_roundw
            case rel => exact ⟨k + 1, c', la, wt', by omega, by go_num, rfl, hc', HI4.out⟩
            case measure => simp [intOf]; omega
      · have m1 : (dv % 6 == 0) = false := by simpa using m0
        have m2 : (dv % 6 != 0) = true := by simpa using m0
        by_cases m5 : dv % 6 = 2
        · have m6 : (dv % 6 == 2) = true := by simp [m5]
          have m7 : (dv % 6 != 2) = false := by simp [m5]
          by_cases hcf2 : c = f
          · subst hcf2
            have hct := sync_gen HI.out.x
            unfold SyP at hct
            rw [fu_sy0] at hct
            dsimp only at hct
            have HWR := Lib.hid hct
            clear hct
            go_wp2_with (go_at_call 10; refine HWR.out.mono ?_; rintro e w3 ⟨rfl, hd3, hf3⟩)
            have HI3 := Lib.hid (HI.out.wx HQ.out hd3 hf3)
            clear hd3 hf3
            have hdd := Lib.hid (dead_any HI3.out.x)
            go_wp2_with (go_at_call 16; refine hdd.out.mono ?_; rintro e w4 ⟨rfl, rfl⟩)
            go_wp2_with fail
            refine (restart_any HI3.out.x fs _ (· < w.heap.size) (by have := HFL.out; omega) (HFT.out _ HI3.out.b) (fun y hy => ⟨Nat.lt_of_lt_of_le hy HI3.out.b.size, by have := HQ.out.l; omega⟩)).mono ?_
            rintro e w5 ⟨rfl, hd5, hf5⟩
            have HI5 := Lib.hid (HI3.out.wx HQ.out hd5 hf5)
            clear hd5 hf5
            go_wp2_with fail
            refine (restart_any HI5.out.y fs _ (· < w.heap.size) (by have := HFL.out; omega) (HFT.out _ HI5.out.b) (fun y hy => ⟨Nat.lt_of_lt_of_le hy HI5.out.b.size, by have := HQ.out.d; have := HQ.out.l2; omega⟩)).mono ?_
            rintro e w6 ⟨rfl, hd6, hf6⟩
            have HI6 := Lib.hid (HI5.out.wy HQ.out hd6 hf6)
            clear hd6 hf6
            go_wp2_with fail
            refine (read_any HI6.out.x rfl 0 n (by show 0 + n ≤ n; omega)).mono ?_
            rintro e w7 ⟨v7, rfl, hr7, hb7⟩
            have HY7 := Lib.hid (HI6.out.y.below hb7 HI6.out.y.ltD HI6.out.y.ltL HI6.out.y.ltM)
            have HB7 := Lib.hid (HI6.out.b.trans (hb7.mono HI6.out.b.size))
            obtain ⟨p7, cp7, rfl⟩ := own_slice hr7
            have HR7 := Lib.hid (row_own (F := (· < w7.heap.size)) hr7 (fun b hb => (own_lt hr7 hb).2))
            have hlen := rds_len HI6.out.x.ok 0 n
            rw [hlen] at HR7 ⊢
            clear hr7 hb7
            go_wp2_with fail
            refine (read_any HY7.out rfl 0 n (by show 0 + n ≤ n; omega)).mono ?_
            rintro e w8 ⟨v8, rfl, hr8, hb8⟩
            obtain ⟨N, hN⟩ : ∃ N : Nat, 64 * n = N := ⟨_, rfl⟩
            have hcv7 := bys_str (l := rdsL (Dk.rst ⟨n, la, wt, false, -1⟩ fs) 0 n) (by
              have := HR7.out.kept (fun b hb => ⟨hb, hb8.block b hb⟩)
              unfold BysF
              rw [rds_len HY7.out.ok]
              exact this)
            have hcv8 := bys_str (row_own (F := fun _ => True) hr8 (fun _ _ => trivial))
            have HB8 := Lib.hid (HB7.out.trans (hb8.mono HB7.out.size))
            rw [hN] at hcv7 ⊢
            have hN2 : (n : Int) * 64 = (N : Int) := by omega
            have hN3 : (N : Int) ≤ 2560 := by omega
            have hN4 : (0 : Int) ≤ (N : Int) := Int.natCast_nonneg _
            clear hr8 hb8 hN hlen
            generalize rdsL (Dk.rst ⟨n, la, wt, false, -1⟩ fs) 0 n = rd at *
            go_wp2_with (go_at_call 17; refine (keeps_any _).mono ?_; rintro e w9 ⟨rfl, hb9⟩)
            go_ret
            exact ⟨rfl, HB8.out.trans (hb9.mono HB8.out.size)⟩
          · have m3 : ((c : Int) == (f : Int)) = false := by simp; omega
            have m4 : decide ((c : Int) = (f : Int)) = false := decide_eq_false (by omega)
            obtain ⟨la', wt', hsx, hsy⟩ := fu_sy n f c la wt (by omega)
            have hct := sync_gen HI.out.x
            unfold SyP at hct
            rw [hsx] at hct
            dsimp only at hct
            have HWR := Lib.hid hct
            clear hct hsx
            go_wp2_with fail
            refine HWR.out.mono ?_
            rintro e w3 ⟨rfl, hd3, hf3⟩
            have HI3 := Lib.hid (HI.out.wx HQ.out hd3 hf3)
            have hct := sync_gen HI3.out.y
            unfold SyP at hct
            rw [hsy] at hct
            dsimp only at hct
            have HWR2 := Lib.hid hct
            clear hct hsy hd3 hf3 HWR
            go_wp2_with fail
            refine HWR2.out.mono ?_
            rintro e w4 ⟨rfl, hd4, hf4⟩
            have HI4 := Lib.hid (HI3.out.wy HQ.out hd4 hf4)
            clear hd4 hf4
            have hdd := Lib.hid (dead_any HI4.out.x)
            go_wp2_with (go_at_call 16; refine hdd.out.mono ?_; rintro e w5 ⟨rfl, rfl⟩)
            go_roundw
            case rel => exact ⟨k + 1, c + 1, la', wt', by omega, by go_num, by go_num, by omega, HI4.out⟩
            case measure => simp [intOf]; omega
        · have m6 : (dv % 6 == 2) = false := by simpa using m5
          have m7 : (dv % 6 != 2) = true := by simpa using m5
          go_wp2_with fail
          go_roundw
          case rel => exact ⟨k + 1, c, _, _, by omega, by go_num, rfl, hcf, HI.out⟩
          case measure => simp [intOf]; omega
    · obtain rfl : k = L.length := by omega
      go_wp2_with fail
      refine (restart_any HI.out.x fs _ (· < w.heap.size) (by have := HFL.out; omega) (HFT.out _ HI.out.b) (fun y hy => ⟨Nat.lt_of_lt_of_le hy HI.out.b.size, by have := HQ.out.l; omega⟩)).mono ?_
      rintro e w5 ⟨rfl, hd5, hf5⟩
      have HI5 := Lib.hid (HI.out.wx HQ.out hd5 hf5)
      clear hd5 hf5
      go_wp2_with fail
      refine (restart_any HI5.out.y fs _ (· < w.heap.size) (by have := HFL.out; omega) (HFT.out _ HI5.out.b) (fun y hy => ⟨Nat.lt_of_lt_of_le hy HI5.out.b.size, by have := HQ.out.d; have := HQ.out.l2; omega⟩)).mono ?_
      rintro e w6 ⟨rfl, hd6, hf6⟩
      have HI6 := Lib.hid (HI5.out.wy HQ.out hd6 hf6)
      clear hd6 hf6
      go_wp2_with fail
      refine (read_any HI6.out.x rfl 0 n (by show 0 + n ≤ n; omega)).mono ?_
      rintro e w7 ⟨v7, rfl, hr7, hb7⟩
      have HY7 := Lib.hid (HI6.out.y.below hb7 HI6.out.y.ltD HI6.out.y.ltL HI6.out.y.ltM)
      have HB7 := Lib.hid (HI6.out.b.trans (hb7.mono HI6.out.b.size))
      obtain ⟨p7, cp7, rfl⟩ := own_slice hr7
      have HR7 := Lib.hid (row_own (F := (· < w7.heap.size)) hr7 (fun b hb => (own_lt hr7 hb).2))
      have hlen := rds_len HI6.out.x.ok 0 n
      rw [hlen] at HR7 ⊢
      clear hr7 hb7
      go_wp2_with fail
      refine (read_any HY7.out rfl 0 n (by show 0 + n ≤ n; omega)).mono ?_
      rintro e w8 ⟨v8, rfl, hr8, hb8⟩
      obtain ⟨N, hN⟩ : ∃ N : Nat, 64 * n = N := ⟨_, rfl⟩
      have hcv7 := bys_str (l := rdsL (Dk.rst ⟨n, la, wt, false, -1⟩ fs) 0 n) (by
        have := HR7.out.kept (fun b hb => ⟨hb, hb8.block b hb⟩)
        unfold BysF
        rw [rds_len HY7.out.ok]
        exact this)
      have hcv8 := bys_str (row_own (F := fun _ => True) hr8 (fun _ _ => trivial))
      have HB8 := Lib.hid (HB7.out.trans (hb8.mono HB7.out.size))
      rw [hN] at hcv7 ⊢
      have hN2 : (n : Int) * 64 = (N : Int) := by omega
      have hN3 : (N : Int) ≤ 2560 := by omega
      have hN4 : (0 : Int) ≤ (N : Int) := Int.natCast_nonneg _
      clear hr8 hb8 hN hlen
      generalize rdsL (Dk.rst ⟨n, la, wt, false, -1⟩ fs) 0 n = rd at *
      go_wp2_with (go_at_call 17; refine (keeps_any _).mono ?_; rintro e w9 ⟨rfl, hb9⟩)
      go_ret
      exact ⟨rfl, HB8.out.trans (hb9.mono HB8.out.size)⟩
theorem dkfuse_law (a0 : Int) (_ : (Lit.int .i64 a0).wf = true) (L : List Ac) (lp : Option Addr) (lc : Nat) (z : Nat) (hz : z < 256) (fs : List Int) (fp : Option Addr) (fc : Nat) (w : World) (hL : ActsF w lp L) (hf : FtsF w (· < w.heap.size) (.slice fp fs.length fc) fs) :
    Calls Try.prog 4 #[.int .i64 a0, .slice lp L.length lc, .int .u8 (z : Int), .slice fp fs.length fc] w fun e w' => e = .returned (.bool true) ∧ Below w.heap.size w w' :=
  dkfuse_any a0 L lp lc z hz fs fp fc w hL hf
end Go.Proofs.Ytiegicdfgbpmiaa.Dk
