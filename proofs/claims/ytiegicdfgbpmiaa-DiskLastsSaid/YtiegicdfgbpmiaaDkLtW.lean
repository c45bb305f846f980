/- DiskLasts' walk. -/
import Derived.Test.YtiegicdfgbpmiaaDkLtP
import Derived.OrdersHeld
namespace Go.Proofs.Ytiegicdfgbpmiaa.Dk
open Go.RowKit Go.Shelf Go.Dk Go.Sha

/-- a disk above -/
structure LsI (w : World) (D L M : Nat) (d : Dk) (W : World) : Prop where
  x : DkAt W D L M d
  b : Below w.heap.size w W
theorem LsI.mk' {w W W' : World} {D L M : Nat} {d d' : Dk} (h : LsI w D L M d W) (hd : DkAt W' D L M d') (h1 : w.heap.size ≤ D) (h2 : w.heap.size ≤ L) (h3 : w.heap.size ≤ M) (hf : Frq (fun k => k = D ∨ k = L ∨ k = M) W W') : LsI w D L M d' W' :=
  ⟨hd, h.b.trans (hf.below (B := w.heap.size) h.b.size (fun k e => by omega))⟩
/-- where the blocks lie -/
structure LsB (z D L M bs G : Nat) : Prop where
  d : z ≤ D
  l : z ≤ L
  m : z ≤ M
  s : D < bs ∧ L < bs ∧ M < bs
  g : bs < G
/-- the second time -/
structure LsJ (w : World) (D L M G n bs os cs : Nat) (la : Nat → By) (wt wl : Nat → Option By) (A : Array Value) (W : World) : Prop where
  x : DkAt W D L M (dm n la wt)
  g : W.heap[G]? = some (.cells A 4 (0, 0))
  bo : BoA n wl A
  s : RowF W (· = bs) (.slice (some ⟨bs, os, none⟩) (64 * n) cs) (64 * n) (Lib.byteCells (flat la n))
  b : Below w.heap.size w W
theorem LsJ.mk' {w W W' : World} {D L M G n bs os cs : Nat} {la : Nat → By} {wt wt' wl : Nat → Option By} {A : Array Value} (h : LsJ w D L M G n bs os cs la wt wl A W) (hd : DkAt W' D L M (dm n la wt')) (q : LsB w.heap.size D L M bs G) (hf : Frq (fun k => k = D ∨ k = M) W W') : LsJ w D L M G n bs os cs la wt' wl A W' := by
  have h1 := q.d; have h2 := q.l; have h3 := q.m; have h4 := q.s; have h5 := q.g
  exact ⟨hd, (hf.block _ (lt_of_heap h.g) (by omega)).trans h.g, h.bo, h.s.kept (fun y hy => ⟨hy, hf.block y (by have := lt_of_heap h.g; omega) (by omega)⟩), h.b.trans (hf.below (B := w.heap.size) h.b.size (fun k e => e.elim (fun e => by omega) (fun e => by omega)))⟩
theorem LsJ.set {w W : World} {D L M G n bs os cs j : Nat} {la : Nat → By} {wt wl : Nat → Option By} {A : Array Value} (h : LsJ w D L M G n bs os cs la wt wl A W) (q : LsB w.heap.size D L M bs G) (hj : j < n) (s : By) : LsJ w D L M G n bs os cs la wt (upd wl j (some s)) (A.setIfInBounds j (.bool true)) (W.setCell ⟨G, j, none⟩ (.bool true)) := by
  have h1 := q.d; have h2 := q.l; have h3 := q.m; have h4 := q.s; have h5 := q.g
  have ne : ∀ k, k < G → (W.setCell ⟨G, j, none⟩ (.bool true)).heap[k]? = W.heap[k]? := fun k hk => Below.heap_setCell _ _ _ _ (by show k ≠ G; omega)
  exact ⟨h.x.kept (ne _ (by omega)) (ne _ (by omega)) (ne _ (by omega)), set_heap h.g j _, h.bo.put hj, h.s.kept (fun y hy => ⟨hy, ne _ (by omega)⟩), Below.setCell h.b (p := ⟨G, j, none⟩) (by show w.heap.size ≤ G; omega) _⟩
theorem waiting_none {w : World} {D L M n : Nat} {la : Nat → By} (h : DkAt w D L M (dm n la (fun _ => none))) : Calls Try.prog 12 #[pD D] w fun e w' => e = .returned (.int .i64 0) ∧ w = w' := by
  have := waiting_any h
  rw [show (keysW (dm n la (fun _ => none)).wt (dm n la (fun _ => none)).n).length = 0 from by show (keysW (fun _ => none) n).length = 0; rw [keysW_none]; rfl] at this
  exact this
theorem rds_dm (n : Nat) (la : Nat → By) (wt : Nat → Option By) : rdsL (dm n la wt) 0 n = flat (fun j => (wt j).getD (la j)) n := by
  unfold rdsL
  refine flat_congr (fun i _ => ?_)
  show Dk.rd (dm n la wt) (0 + i) = _
  rw [Nat.zero_add]
  rfl
/-- what is read at last -/
structure LsK (w : World) (G n bs os cs bn on_ cn bx ox cx : Nat) (ls ln lx : Nat → By) (A : Array Value) (W : World) : Prop where
  g : W.heap[G]? = some (.cells A 4 (0, 0))
  s : RowF W (fun _ => True) (.slice (some ⟨bs, os, none⟩) (64 * n) cs) (64 * n) (Lib.byteCells (flat ls n))
  nw : RowF W (fun _ => True) (.slice (some ⟨bn, on_, none⟩) (64 * n) cn) (64 * n) (Lib.byteCells (flat ln n))
  x : RowF W (fun _ => True) (.slice (some ⟨bx, ox, none⟩) (64 * n) cx) (64 * n) (Lib.byteCells (flat lx n))
  b : Below w.heap.size w W
set_option maxRecDepth 100000 in
theorem dklasts_bad (a0 : Int) (L : List Ac) (lp : Option Addr) (lc : Nat) (L2 : List Ac) (lp2 : Option Addr) (lc2 : Nat) (fs : List Int) (fp : Option Addr) (fc : Nat) (w : World) (hL : ActsF w lp L) (hL2 : ActsF w lp2 L2) (h : greatB L = true ∨ greatB L2 = true ∨ a0 < 1 ∨ 40 < a0 ∨ 60 < fs.length) :
    Calls Try.prog 3 #[.int .i64 a0, .slice lp L.length lc, .slice lp2 L2.length lc2, .slice fp fs.length fc] w fun e w' => e = .returned (.bool true) ∧ Below w.heap.size w w' := by
  have HG := Lib.hid (great_any L lp lc w w hL (Below.refl _ _))
  have HG2 := Lib.hid (great_any L2 lp2 lc2 w w hL2 (Below.refl _ _))
  clear hL hL2
  generalize greatB L = g at *
  generalize greatB L2 = g2 at *
  cases g with
  | true =>
    go_enter Try.func3, Try.ntmps3
    go_wp2_with fail
    refine HG.out.mono ?_
    rintro e w' ⟨rfl, rfl⟩
    go_wp2_with fail
    go_ret
    exact ⟨rfl, Below.refl _ _⟩
  | false =>
    cases g2 with
    | true =>
      go_enter Try.func3, Try.ntmps3
      go_wp2_with fail
      refine HG.out.mono ?_
      rintro e w' ⟨rfl, rfl⟩
      go_wp2_with fail
      refine HG2.out.mono ?_
      rintro e w' ⟨rfl, rfl⟩
      go_wp2_with fail
      go_ret
      exact ⟨rfl, Below.refl _ _⟩
    | false =>
      have hh : a0 < 1 ∨ (¬ a0 < 1 ∧ 40 < a0) ∨ (¬ a0 < 1 ∧ ¬ 40 < a0 ∧ (60 : Int) < (fs.length : Int)) := by simp only [Bool.false_eq_true, false_or] at h; omega
      clear h
      rcases hh with h | ⟨h1, h2⟩ | ⟨h1, h2, h3⟩
      all_goals
        go_enter Try.func3, Try.ntmps3
        go_wp2_with fail
        refine HG.out.mono ?_
        rintro e w' ⟨rfl, rfl⟩
        go_wp2_with fail
        refine HG2.out.mono ?_
        rintro e w' ⟨rfl, rfl⟩
        go_wp2_with fail
        go_ret
        exact ⟨rfl, Below.refl _ _⟩
set_option maxRecDepth 100000 in
set_option maxHeartbeats 8000000 in
theorem dklasts_any (a0 : Int) (_ : (Lit.int .i64 a0).wf = true) (L : List Ac) (lp : Option Addr) (lc : Nat) (L2 : List Ac) (lp2 : Option Addr) (lc2 : Nat) (fs : List Int) (fp : Option Addr) (fc : Nat) (w : World) (hL : ActsF w lp L) (hL2 : ActsF w lp2 L2) (hf : FtsF w (· < w.heap.size) (.slice fp fs.length fc) fs) :
    Calls Try.prog 3 #[.int .i64 a0, .slice lp L.length lc, .slice lp2 L2.length lc2, .slice fp fs.length fc] w fun e w' => e = .returned (.bool true) ∧ Below w.heap.size w w' := by
  by_cases hbad : greatB L = true ∨ greatB L2 = true ∨ a0 < 1 ∨ 40 < a0 ∨ 60 < fs.length
  · exact dklasts_bad a0 L lp lc L2 lp2 lc2 fs fp fc w hL hL2 hbad
  obtain ⟨n, rfl⟩ : ∃ n : Nat, a0 = (n : Int) := ⟨a0.toNat, by omega⟩
  have hgr : greatB L = false := by
    cases e : greatB L with
    | false => rfl
    | true => exact absurd (Or.inl e) hbad
  have hgr2 : greatB L2 = false := by
    cases e : greatB L2 with
    | false => rfl
    | true => exact absurd (Or.inr (Or.inl e)) hbad
  have hn1 : 1 ≤ n := by omega
  have hn2 : n ≤ 40 := by omega
  have hfl : fs.length ≤ 60 := by omega
  have HG := Lib.hid (great_any L lp lc w w hL (Below.refl _ _))
  have HG2 := Lib.hid (great_any L2 lp2 lc2 w w hL2 (Below.refl _ _))
  rw [hgr] at HG
  rw [hgr2] at HG2
  have hll := great_len hgr
  have hll2 := great_len hgr2
  have HGR := Lib.hid hgr
  have HGR2 := Lib.hid hgr2
  have HL := Lib.hid hL
  have HL2 := Lib.hid hL2
  have HFT := Lib.hid (fun w3 h3 => below_row hf (w3 := w3) h3)
  have i1 : decide ((n : Int) < 1) = false := decide_eq_false (by omega)
  have i2 : decide ((40 : Int) < (n : Int)) = false := decide_eq_false (by omega)
  have i3 : decide ((60 : Int) < (fs.length : Int)) = false := decide_eq_false (by omega)
  have HFL := Lib.hid hfl
  clear hbad hgr hgr2 hL hL2 hf hfl
  go_enter Try.func3, Try.ntmps3
  go_wp2_with fail
  refine HG.out.mono ?_
  rintro e w' ⟨rfl, rfl⟩
  go_wp2_with fail
  refine HG2.out.mono ?_
  rintro e w' ⟨rfl, rfl⟩
  go_wp2_with fail
  refine (new_any n hn1 (by omega) w).mono ?_
  rintro e w1 ⟨D, Lx, M, rfl, hd1, hb1, hD, hLx, hM⟩
  have HI0 := Lib.hid (show LsI w D Lx M (dm n (fun _ => zero64) (fun _ => none)) w1 from ⟨hd1, hb1⟩)
  have HQ1 := Lib.hid hD
  have HQ2 := Lib.hid hLx
  have HQ3 := Lib.hid hM
  clear hd1 hb1 HG HG2 hD hLx hM
  go_wp2_with fail
  go_loopw [11] (fun i wr => ∃ (k : Nat) (la : Nat → By) (wt : Nat → Option By), k ≤ L.length ∧ i = .int .i64 (k : Int) ∧ LsI w D Lx M (dm n la wt) wr) (fun i _ => L.length - (intOf i).toNat)
  case atStart => exact ⟨0, _, _, Nat.zero_le _, rfl, HI0.out⟩
  case round =>
    clear HI0
    obtain ⟨k, la, wt, hk, rfl, hI⟩ := hrel
    have HI := Lib.hid hI
    clear hI
    by_cases hlt : k < L.length
    · as_aux_lemma =>
      have hlt1 : (k : Int) < (L.length : Int) := by omega
      have hk0 : (0 : Int) ≤ (k : Int) := Int.natCast_nonneg _
      obtain ⟨x, hx⟩ : ∃ x, L[k]? = some x := ⟨_, List.getElem?_eq_getElem hlt⟩
      obtain ⟨b, o, pb, cb, pf, cf, rfl, hwf, hdo, hc⟩ := HL.out.get hx
      have hbl : x.b.length ≤ 1000000 := by have := (great_get HGR.out hx).1; omega
      have hfl2 : x.fs.length ≤ 1000000 := by have := (great_get HGR.out hx).2; omega
      have hdrew : Below w.heap.size w wr.drew := ⟨HI.out.b.os, HI.out.b.tape, HI.out.b.output, HI.out.b.size, HI.out.b.block⟩
      have c0 := (hc wr HI.out.b).c0
      obtain ⟨dv, hdv⟩ : ∃ dv : Int, (x.do_ : Int) = dv := ⟨_, rfl⟩
      have d0 : (0 : Int) ≤ dv := by omega
      have d1 : dv ≤ 255 := by omega
      rw [hdv] at c0
      have HC := Lib.hid hc
      have HS := Lib.hid hdrew
      have HX := Lib.hid hfl2
      clear hdv hdo hc hdrew hx hfl2
      by_cases m0 : dv % 6 = 0
      · have m1 : (dv % 6 == 0) = true := by simp [m0]
        obtain ⟨er, wt', hwr, _⟩ := wr_dm n la wt x.at_ x.b
        have hct := write_gen (HI.out.x.kept (w' := wr.drew) rfl rfl rfl) x.at_ hwf x.b _ (· < w.heap.size) hbl ((HC.out wr.drew HS.out).bs) (fun y hy => ⟨Nat.lt_of_lt_of_le hy HS.out.size, by have := HQ1.out; omega, by have := HQ3.out; omega⟩)
        unfold WrP at hct
        rw [hwr] at hct
        dsimp only at hct
        have HWR := Lib.hid hct
        clear hct hwr
        go_wp2_with fail
        refine wp_region_held (S := Below w.heap.size w) (by kernel_rfl) ?_
        change wpAnyH _ _ _ _ _ _ _ _ (World.drew _)
        refine tkH (i := 0) (oi := ⟨some 72, .move (.tmp 9), _, _, _, none⟩) (pD D) rfl (by kernel_rfl) (fun _ _ _ h => h) (yH rfl (fun w3 h3 => by go_simp)) HS.out ?_
        simp only [Act.put, s1, s2, s3]
        refine tkH (i := 1) (oi := ⟨some 73, .move (.tmp 1), _, _, _, none⟩) (.slice (some ⟨b, o, none⟩) L.length lc) rfl (by kernel_rfl) (fun _ _ _ h => h) (yH rfl (fun w3 h3 => by go_simp)) HS.out ?_
        simp only [Act.put, s1, s2, s3]
        refine tkH (i := 2) (oi := ⟨some 74, .move (.tmp 11), _, _, _, none⟩) (.int .i64 (k : Int)) rfl (by kernel_rfl) (fun _ _ _ h => h) (yH rfl (fun w3 h3 => by go_simp)) HS.out ?_
        simp only [Act.put, s1, s2, s3]
        refine tkH (i := 3) (oi := ⟨some 75, .indexAddr 22 (.tmp 73) (.tmp 74), _, _, _, none⟩) (.pointer (some ⟨b, o + k * 5, none⟩)) rfl (by kernel_rfl) (fun _ _ _ h => h) (yH rfl (fun w3 h3 => by go_simp)) HS.out ?_
        simp only [Act.put, s1, s2, s3]
        refine tkH (i := 4) (oi := ⟨some 76, .fieldAddr 31 (.tmp 75) 1, _, _, _, none⟩) (.pointer (some ⟨b, o + k * 5 + 1, none⟩)) rfl (by kernel_rfl) (fun _ _ _ h => h) (yH rfl (fun w3 h3 => by go_simp)) HS.out ?_
        simp only [Act.put, s1, s2, s3]
        refine tkH (i := 5) (oi := ⟨some 77, .load 3 (.tmp 76), _, _, _, none⟩) (.int .i64 x.at_) rfl (by kernel_rfl) (fun _ _ _ h => h) (yH rfl (fun w3 h3 => by have q := (HC.out w3 h3).c1; go_simp)) HS.out ?_
        simp only [Act.put, s1, s2, s3]
        refine tkH (i := 6) (oi := ⟨some 78, .move (.tmp 1), _, _, _, none⟩) (.slice (some ⟨b, o, none⟩) L.length lc) rfl (by kernel_rfl) (fun _ _ _ h => h) (yH rfl (fun w3 h3 => by go_simp)) HS.out ?_
        simp only [Act.put, s1, s2, s3]
        refine tkH (i := 7) (oi := ⟨some 79, .move (.tmp 11), _, _, _, none⟩) (.int .i64 (k : Int)) rfl (by kernel_rfl) (fun _ _ _ h => h) (yH rfl (fun w3 h3 => by go_simp)) HS.out ?_
        simp only [Act.put, s1, s2, s3]
        refine tkH (i := 8) (oi := ⟨some 80, .indexAddr 22 (.tmp 78) (.tmp 79), _, _, _, none⟩) (.pointer (some ⟨b, o + k * 5, none⟩)) rfl (by kernel_rfl) (fun _ _ _ h => h) (yH rfl (fun w3 h3 => by go_simp)) HS.out ?_
        simp only [Act.put, s1, s2, s3]
        refine tkH (i := 9) (oi := ⟨some 81, .fieldAddr 31 (.tmp 80) 3, _, _, _, none⟩) (.pointer (some ⟨b, o + k * 5 + 3, none⟩)) rfl (by kernel_rfl) (fun _ _ _ h => h) (yH rfl (fun w3 h3 => by go_simp)) HS.out ?_
        simp only [Act.put, s1, s2, s3]
        refine tkH (i := 10) (oi := ⟨some 82, .load 29 (.tmp 81), _, _, _, none⟩) (.slice pb x.b.length cb) rfl (by kernel_rfl) (fun _ _ _ h => h) (yH rfl (fun w3 h3 => by have q := (HC.out w3 h3).c3; go_simp)) HS.out ?_
        simp only [Act.put, s1, s2, s3]
        refine rdH (i := 11) (o := ⟨some 83, .call ⟨.value (.func 9), #[.tmp 72, .tmp 77, .tmp 82], _⟩, _, _, _, none⟩) (by kernel_rfl) rfl (fun K' hK => ?_)
        go_simp
        refine HWR.out.mono ?_
        rintro e w3 ⟨rfl, hd3, hf3⟩
        have HI3 := Lib.hid (HI.out.mk' hd3 HQ1.out HQ2.out HQ3.out (Frq.trans (Frq.drew (Frq.refl _ _)) (hf3.mono (fun k h => h.elim Or.inl (fun h => Or.inr (Or.inr h))))))
        clear hd3 hf3
        refine hK.out _ _ HI3.out.b (fun _ => ?_)
        clear hK K'
        try (simp only [Act.put, s1, s2, s3])
        refine wpAnyH_done (by kernel_rfl) ?_ _
        go_wp2_with fail
        go_roundw
        case rel => exact ⟨k + 1, la, wt', by omega, by go_num, HI3.out⟩
        case measure => simp [intOf]; omega
      · have m1 : (dv % 6 == 0) = false := by simpa using m0
        by_cases m2 : dv % 6 = 2
        · have m3 : (dv % 6 == 2) = true := by simp [m2]
          have hct := sync_gen HI.out.x
          unfold SyP at hct
          rw [sy_dm] at hct
          dsimp only at hct
          have HWR := Lib.hid hct
          clear hct
          go_wp2_with fail
          refine HWR.out.mono ?_
          rintro e w3 ⟨rfl, hd3, hf3⟩
          have HI3 := Lib.hid (HI.out.mk' hd3 HQ1.out HQ2.out HQ3.out hf3)
          clear hd3 hf3
          go_wp2_with fail
          go_roundw
          case rel => exact ⟨k + 1, _, _, by omega, by go_num, HI3.out⟩
          case measure => simp [intOf]; omega
        · have m3 : (dv % 6 == 2) = false := by simpa using m2
          by_cases m4 : dv % 6 = 5
          · have m5 : (dv % 6 == 5) = true := by simp [m4]
            have c4 := (HC.out wr HI.out.b).c4
            have HWR := Lib.hid (restart_any HI.out.x x.fs _ (· < w.heap.size) HX.out ((HC.out wr HI.out.b).fs) (fun y hy => ⟨Nat.lt_of_lt_of_le hy HI.out.b.size, by have := HQ2.out; omega⟩))
            go_wp2_with fail
            refine HWR.out.mono ?_
            rintro e w3 ⟨rfl, hd3, hf3⟩
            rw [rst_dm] at hd3
            have HI3 := Lib.hid (HI.out.mk' hd3 HQ1.out HQ2.out HQ3.out hf3)
            clear hd3 hf3
            go_wp2_with fail
            go_roundw
            case rel => exact ⟨k + 1, _, _, by omega, by go_num, HI3.out⟩
            case measure => simp [intOf]; omega
          · have m5 : (dv % 6 == 5) = false := by simpa using m4
            go_wp2_with fail
            go_roundw
            case rel => exact ⟨k + 1, _, _, by omega, by go_num, HI.out⟩
            case measure => simp [intOf]; omega
    · as_aux_lemma =>
      obtain rfl : k = L.length := by omega
      have hct := sync_gen HI.out.x
      unfold SyP at hct
      rw [sy_dm] at hct
      dsimp only at hct
      have HWR := Lib.hid hct
      clear hct
      go_wp2_with fail
      refine HWR.out.mono ?_
      rintro e w2 ⟨rfl, hd2, hf2⟩
      obtain ⟨la2, hla2⟩ : ∃ la2 : Nat → By, (fun i => (wt i).getD (la i)) = la2 := ⟨_, rfl⟩
      rw [hla2] at hd2
      have HI2 := Lib.hid (HI.out.mk' hd2 HQ1.out HQ2.out HQ3.out hf2)
      clear hd2 hf2 hla2 HWR HI
      go_wp2_with fail
      refine (waiting_none HI2.out.x).mono ?_
      rintro e w3 ⟨rfl, rfl⟩
      go_wp2_with fail
      refine (read_any HI2.out.x rfl 0 n (by show 0 + n ≤ n; omega)).mono ?_
      rintro e w3 ⟨v3, rfl, hr3, hb3⟩
      rw [rds_dm] at hr3
      obtain ⟨p3, cs, rfl⟩ := own_slice hr3
      have hla : ∀ i, (la2 i).length = 64 := HI2.out.x.ok.la
      have hfl := flat_len (la := la2) hla n
      have hr4 := row_own (F := fun b => w2.heap.size ≤ b ∧ b < w3.heap.size) hr3 (fun b hb => own_lt hr3 hb)
      obtain ⟨bs, os, rfl⟩ := row_at (l := flat la2 n) hr4 (by rw [hfl]; omega)
      have hr5 : RowF w3 (fun b => w2.heap.size ≤ b ∧ b < w3.heap.size) (.slice (some ⟨bs, os, none⟩) (64 * n) cs) (64 * n) (Lib.byteCells (flat la2 n)) := by rw [← hfl]; exact hr4
      obtain ⟨hbs, hcs, hr6⟩ := row_pin hr5 (by omega)
      rw [show (flat (fun j => ((fun _ => none : Nat → Option By) j).getD (la2 j)) n).length = 64 * n from hfl]
      have hmk := mk_bools n (by omega) w3
      obtain ⟨G, hG⟩ : ∃ G, w3.heap.size = G := ⟨_, rfl⟩
      have HQ := Lib.hid (show LsB w.heap.size D Lx M bs G from ⟨HQ1.out, HQ2.out, HQ3.out, by have := HI2.out.x.ltD; have := HI2.out.x.ltL; have := HI2.out.x.ltM; omega, by omega⟩)
      have HJ0 := Lib.hid (show LsJ w D Lx M G n bs os cs la2 (fun _ => none) (fun _ => none) (offA n) (w3.alloc (.cells (offA n) 4)) from by
        have hba : Below w3.heap.size w3 (w3.alloc (.cells (offA n) 4)) := (Below.refl _ _).alloc (Nat.le_refl _) _
        have hbw : Below w2.heap.size w2 (w3.alloc (.cells (offA n) 4)) := hb3.trans (hba.mono hb3.size)
        exact ⟨HI2.out.x.below hbw HI2.out.x.ltD HI2.out.x.ltL HI2.out.x.ltM, by rw [← hG]; exact heap_last _ _ _ rfl, boA_new n, hr6.kept (fun y hy => ⟨hy, hba.block y (by omega)⟩), HI2.out.b.trans (hbw.mono HI2.out.b.size)⟩)
      have HLA := Lib.hid hla
      have HCS := Lib.hid hcs
      clear hr3 hb3 hr4 hr5 hr6 hla hfl hbs hcs
      go_wp2_with fail
      try rw [hG]
      generalize w3.alloc (.cells (offA n) 4) = wa at *
      clear hmk hG HI2 HQ1 HQ2 HQ3
      go_loopw [15] (fun i wr => ∃ (k : Nat) (wt : Nat → Option By) (A : Array Value), k ≤ L2.length ∧ i = .int .i64 (k : Int) ∧ LsJ w D Lx M G n bs os cs la2 wt wt A wr) (fun i _ => L2.length - (intOf i).toNat)
      case atStart => exact ⟨0, _, _, Nat.zero_le _, rfl, HJ0.out⟩
      case round =>
        clear HJ0
        obtain ⟨k, wt, A, hk, rfl, hJ⟩ := hrel
        have HJ := Lib.hid hJ
        clear hJ
        by_cases hlt : k < L2.length
        · as_aux_lemma =>
          have hlt1 : (k : Int) < (L2.length : Int) := by omega
          have hk0 : (0 : Int) ≤ (k : Int) := Int.natCast_nonneg _
          obtain ⟨x, hx⟩ : ∃ x, L2[k]? = some x := ⟨_, List.getElem?_eq_getElem hlt⟩
          obtain ⟨b, o, pb, cb, pf, cf, rfl, hwf, hdo, hc⟩ := HL2.out.get hx
          have hbl : x.b.length ≤ 1000 := (great_get HGR2.out hx).1
          have hdrew : Below w.heap.size w wr.drew := ⟨HJ.out.b.os, HJ.out.b.tape, HJ.out.b.output, HJ.out.b.size, HJ.out.b.block⟩
          obtain ⟨dv, hdv⟩ : ∃ dv : Int, (x.do_ : Int) = dv := ⟨_, rfl⟩
          have d0 : (0 : Int) ≤ dv := by omega
          have d1 : dv ≤ 255 := by omega
          have HTM := Lib.hid (show dv.tmod 6 = dv % 6 from Int.tmod_eq_emod_of_nonneg d0)
          have HC0 := Lib.hid (show ∀ w3, Below w.heap.size w w3 → w3.cell? ⟨b, o + k * 5, none⟩ = some (.int .u8 dv) from fun w3 h3 => by rw [← hdv]; exact (hc w3 h3).c0)
          have HC := Lib.hid hc
          have HS := Lib.hid hdrew
          clear hdv hdo hc hdrew hx
          by_cases m0 : dv % 6 = 0
          · have m1 : (dv % 6 == 0) = true := by simp [m0]
            obtain ⟨er, wt', hwr, hor⟩ := wr_dm n la2 wt x.at_ x.b
            have hct := write_gen (HJ.out.x.kept (w' := wr.drew) rfl rfl rfl) x.at_ hwf x.b _ (· < w.heap.size) (by omega) ((HC.out wr.drew HS.out).bs) (fun y hy => ⟨Nat.lt_of_lt_of_le hy HS.out.size, by have := HQ.out.d; omega, by have := HQ.out.m; omega⟩)
            unfold WrP at hct
            rw [hwr] at hct
            dsimp only at hct
            have HWR := Lib.hid hct
            have HOR := Lib.hid hor
            clear hct hwr hor
            go_wp2_with fail
            refine wp_region_held (S := Below w.heap.size w) (by kernel_rfl) ?_
            change wpAnyH _ _ _ _ _ _ _ _ (World.drew _)
            refine tkH (i := 0) (oi := ⟨some 119, .move (.tmp 2), _, _, _, none⟩) (.slice (some ⟨b, o, none⟩) L2.length lc2) rfl (by kernel_rfl) (fun _ _ _ h => h) (yH rfl (fun w3 h3 => by go_simp)) HS.out ?_
            simp only [Act.put, s1, s2, s3]
            refine tkH (i := 1) (oi := ⟨some 120, .move (.tmp 15), _, _, _, none⟩) (.int .i64 (k : Int)) rfl (by kernel_rfl) (fun _ _ _ h => h) (yH rfl (fun w3 h3 => by go_simp)) HS.out ?_
            simp only [Act.put, s1, s2, s3]
            refine tkH (i := 2) (oi := ⟨some 121, .indexAddr 22 (.tmp 119) (.tmp 120), _, _, _, none⟩) (.pointer (some ⟨b, o + k * 5, none⟩)) rfl (by kernel_rfl) (fun _ _ _ h => h) (yH rfl (fun w3 h3 => by go_simp)) HS.out ?_
            simp only [Act.put, s1, s2, s3]
            refine tkH (i := 3) (oi := ⟨some 122, .fieldAddr 31 (.tmp 121) 0, _, _, _, none⟩) (.pointer (some ⟨b, o + k * 5, none⟩)) rfl (by kernel_rfl) (fun _ _ _ h => h) (yH rfl (fun w3 h3 => by go_simp)) HS.out ?_
            simp only [Act.put, s1, s2, s3]
            refine tkH (i := 4) (oi := ⟨some 123, .load 5 (.tmp 122), _, _, _, none⟩) (.int .u8 dv) rfl (by kernel_rfl) (fun _ _ _ h => h) (yH rfl (fun w3 h3 => by have q := HC0.out w3 h3; go_simp)) HS.out ?_
            simp only [Act.put, s1, s2, s3]
            refine tkH (i := 5) (oi := ⟨some 124, .binOp .rem 5 (.tmp 123) (.const (.int .u8 6)) 5, _, _, _, none⟩) (.int .u8 (dv % 6)) rfl (by kernel_rfl) (fun _ _ _ h => h) (yH rfl (fun w3 h3 => by have q := HTM.out; go_simp)) HS.out ?_
            simp only [Act.put, s1, s2, s3]
            refine tkH (i := 6) (oi := ⟨some 125, .binOp .eql 5 (.tmp 124) (.const (.int .u8 0)) 5, _, _, _, none⟩) (.bool true) rfl (by kernel_rfl) (fun _ _ _ h => h) (yH rfl (fun w3 h3 => by go_simp)) HS.out ?_
            simp only [Act.put, s1, s2, s3]
            refine tkH (i := 7) (oi := ⟨some 126, .move (.tmp 125), _, _, _, none⟩) (.bool true) rfl (by kernel_rfl) (fun _ _ _ h => h) (yH rfl (fun w3 h3 => by go_simp)) HS.out ?_
            simp only [Act.put, s1, s2, s3]
            refine tkH (i := 8) (oi := ⟨some 127, .move (.tmp 9), _, _, _, some (7, true)⟩) (pD D) rfl (by kernel_rfl) (fun _ _ _ h => h) (yH rfl (fun w3 h3 => by go_simp)) HS.out ?_
            simp only [Act.put, s1, s2, s3]
            refine tkH (i := 9) (oi := ⟨some 128, .move (.tmp 2), _, _, _, some (7, true)⟩) (.slice (some ⟨b, o, none⟩) L2.length lc2) rfl (by kernel_rfl) (fun _ _ _ h => h) (yH rfl (fun w3 h3 => by go_simp)) HS.out ?_
            simp only [Act.put, s1, s2, s3]
            refine tkH (i := 10) (oi := ⟨some 129, .move (.tmp 15), _, _, _, some (7, true)⟩) (.int .i64 (k : Int)) rfl (by kernel_rfl) (fun _ _ _ h => h) (yH rfl (fun w3 h3 => by go_simp)) HS.out ?_
            simp only [Act.put, s1, s2, s3]
            refine tkH (i := 11) (oi := ⟨some 130, .indexAddr 22 (.tmp 128) (.tmp 129), _, _, _, some (7, true)⟩) (.pointer (some ⟨b, o + k * 5, none⟩)) rfl (by kernel_rfl) (fun _ _ _ h => h) (yH rfl (fun w3 h3 => by go_simp)) HS.out ?_
            simp only [Act.put, s1, s2, s3]
            refine tkH (i := 12) (oi := ⟨some 131, .fieldAddr 31 (.tmp 130) 1, _, _, _, some (7, true)⟩) (.pointer (some ⟨b, o + k * 5 + 1, none⟩)) rfl (by kernel_rfl) (fun _ _ _ h => h) (yH rfl (fun w3 h3 => by go_simp)) HS.out ?_
            simp only [Act.put, s1, s2, s3]
            refine tkH (i := 13) (oi := ⟨some 132, .load 3 (.tmp 131), _, _, _, some (7, true)⟩) (.int .i64 x.at_) rfl (by kernel_rfl) (fun _ _ _ h => h) (yH rfl (fun w3 h3 => by have q := (HC.out w3 h3).c1; go_simp)) HS.out ?_
            simp only [Act.put, s1, s2, s3]
            refine tkH (i := 14) (oi := ⟨some 133, .move (.tmp 2), _, _, _, some (7, true)⟩) (.slice (some ⟨b, o, none⟩) L2.length lc2) rfl (by kernel_rfl) (fun _ _ _ h => h) (yH rfl (fun w3 h3 => by go_simp)) HS.out ?_
            simp only [Act.put, s1, s2, s3]
            refine tkH (i := 15) (oi := ⟨some 134, .move (.tmp 15), _, _, _, some (7, true)⟩) (.int .i64 (k : Int)) rfl (by kernel_rfl) (fun _ _ _ h => h) (yH rfl (fun w3 h3 => by go_simp)) HS.out ?_
            simp only [Act.put, s1, s2, s3]
            refine tkH (i := 16) (oi := ⟨some 135, .indexAddr 22 (.tmp 133) (.tmp 134), _, _, _, some (7, true)⟩) (.pointer (some ⟨b, o + k * 5, none⟩)) rfl (by kernel_rfl) (fun _ _ _ h => h) (yH rfl (fun w3 h3 => by go_simp)) HS.out ?_
            simp only [Act.put, s1, s2, s3]
            refine tkH (i := 17) (oi := ⟨some 136, .fieldAddr 31 (.tmp 135) 3, _, _, _, some (7, true)⟩) (.pointer (some ⟨b, o + k * 5 + 3, none⟩)) rfl (by kernel_rfl) (fun _ _ _ h => h) (yH rfl (fun w3 h3 => by go_simp)) HS.out ?_
            simp only [Act.put, s1, s2, s3]
            refine tkH (i := 18) (oi := ⟨some 137, .load 29 (.tmp 136), _, _, _, some (7, true)⟩) (.slice pb x.b.length cb) rfl (by kernel_rfl) (fun _ _ _ h => h) (yH rfl (fun w3 h3 => by have q := (HC.out w3 h3).c3; go_simp)) HS.out ?_
            simp only [Act.put, s1, s2, s3]
            refine rdH (i := 19) (o := ⟨some 138, .call ⟨.value (.func 9), #[.tmp 127, .tmp 132, .tmp 137], _⟩, _, _, _, some (7, true)⟩) (by kernel_rfl) rfl (fun K' hK => ?_)
            go_simp
            refine HWR.out.mono ?_
            rintro e w3 ⟨rfl, hd3, hf3⟩
            have HJ3 := Lib.hid (HJ.out.mk' hd3 HQ.out (Frq.trans (Frq.drew (Frq.refl _ _)) hf3))
            clear hd3 hf3
            refine hK.out _ _ HJ3.out.b (fun _ => ?_)
            clear hK K'
            try (simp only [Act.put, s1, s2, s3])
            rcases HOR.out with ⟨rfl, rfl⟩ | ⟨rfl, a, m, ea, em, ham, rfl⟩
            · refine tkH (i := 20) (oi := ⟨some 139, .binOp .eql 26 (.tmp 138) (.const (.int .i64 0)) 26, _, _, _, some (7, true)⟩) (.bool false) rfl (by kernel_rfl) (fun _ _ _ h => h) (yH rfl (fun w3 h3 => by go_simp)) HJ3.out.b ?_
              simp only [Act.put, s1, s2, s3]
              refine tkH (i := 21) (oi := ⟨some 140, .pick (.tmp 126) (.tmp 139) (.const (.bool false)), _, _, _, none⟩) (.bool false) rfl (by kernel_rfl) (fun _ _ _ h => h) (yH rfl (fun w3 h3 => by go_simp)) HJ3.out.b ?_
              simp only [Act.put, s1, s2, s3]
              refine wpAnyH_done (by kernel_rfl) ?_ _
              go_wp2_with fail
              go_roundw
              case rel => exact ⟨k + 1, _, A, by omega, by go_num, HJ3.out⟩
              case measure => simp [intOf]; omega
            · refine tkH (i := 20) (oi := ⟨some 139, .binOp .eql 26 (.tmp 138) (.const (.int .i64 0)) 26, _, _, _, some (7, true)⟩) (.bool true) rfl (by kernel_rfl) (fun _ _ _ h => h) (yH rfl (fun w3 h3 => by go_simp)) HJ3.out.b ?_
              simp only [Act.put, s1, s2, s3]
              refine tkH (i := 21) (oi := ⟨some 140, .pick (.tmp 126) (.tmp 139) (.const (.bool false)), _, _, _, none⟩) (.bool true) rfl (by kernel_rfl) (fun _ _ _ h => h) (yH rfl (fun w3 h3 => by go_simp)) HJ3.out.b ?_
              simp only [Act.put, s1, s2, s3]
              refine wpAnyH_done (by kernel_rfl) ?_ _
              go_wp2_with fail
              have HA1 := Lib.hid (show ∀ w3, Below w.heap.size w w3 → w3.cell? ⟨b, o + k * 5 + 1, none⟩ = some (.int .i64 (a : Int)) from fun w3 h3 => by rw [(HC.out w3 h3).c1, ea])
              have HA3 := Lib.hid (show ∀ w3, Below w.heap.size w w3 → w3.cell? ⟨b, o + k * 5 + 3, none⟩ = some (.slice pb (64 * m) cb) from fun w3 h3 => by rw [(HC.out w3 h3).c3, em])
              have hm : m ≤ 16 := by omega
              clear ea em HWR HJ HS HC HC0
              go_loopw [16] (fun i wq => ∃ (q : Nat) (A : Array Value), q ≤ m ∧ i = .int .i64 (q : Int) ∧ LsJ w D Lx M G n bs os cs la2 (wtW wt a x.b m) (wtW wt a x.b q) A wq) (fun i _ => m - (intOf i).toNat)
              case atStart => exact ⟨0, A, Nat.zero_le _, rfl, by rw [wtW_zero]; exact HJ3.out⟩
              case round =>
                clear HJ3
                obtain ⟨q, A, hq, rfl, hJ⟩ := hrel
                have HJ := Lib.hid hJ
                have c1 := HA1.out _ hJ.b
                have c3 := HA3.out _ hJ.b
                have l0 : (0 : Int) ≤ ((64 * m : Nat) : Int) := Int.natCast_nonneg _
                have l1 : ((64 * m : Nat) : Int) ≤ 1024 := by omega
                have l3 : ((64 * m : Nat) : Int) / 64 = (m : Int) := by omega
                have q0 : (0 : Int) ≤ (q : Int) := Int.natCast_nonneg _
                clear hJ
                by_cases hqm : q < m
                · have hqm1 : (q : Int) < (m : Int) := by omega
                  have haq : a + q < n := by omega
                  have cg : ∃ u, wr.cell? ⟨G, a + q, none⟩ = some u := ⟨_, (cell_of_arr HJ.out.g (a + q)).trans (HJ.out.bo.get _ haq)⟩
                  obtain ⟨ug, cg⟩ := cg
                  have fg : wr.frozen? ⟨G, a + q, none⟩ = false := froz_of_arr HJ.out.g (a + q)
                  have HJ4 := Lib.hid (HJ.out.set HQ.out haq (chunk x.b q))
                  rw [wtW_succ] at HJ4
                  have e18 : ((a : Int) + (q : Int)).toNat = a + q := by omega
                  have e19 : (0 : Int) ≤ (a : Int) + (q : Int) := by omega
                  have e20 : (a : Int) + (q : Int) < (n : Int) := by omega
                  go_wp2_with fail
                  clear e18 e19 e20
                  go_roundw
                  case rel => exact ⟨q + 1, _, by omega, by go_num, HJ4.out⟩
                  case measure => simp [intOf]; omega
                · obtain rfl : q = m := by omega
                  go_wp2_with fail
                  go_roundw
                  case rel => exact ⟨k + 1, _, A, by omega, by go_num, HJ.out⟩
                  case measure => simp [intOf]; omega
          · have m1 : (dv % 6 == 0) = false := by simpa using m0
            go_wp2_with fail
            refine wp_region_held (S := Below w.heap.size w) (by kernel_rfl) ?_
            change wpAnyH _ _ _ _ _ _ _ _ (World.drew _)
            refine tkH (i := 0) (oi := ⟨some 119, .move (.tmp 2), _, _, _, none⟩) (.slice (some ⟨b, o, none⟩) L2.length lc2) rfl (by kernel_rfl) (fun _ _ _ h => h) (yH rfl (fun w3 h3 => by go_simp)) HS.out ?_
            simp only [Act.put, s1, s2, s3]
            refine tkH (i := 1) (oi := ⟨some 120, .move (.tmp 15), _, _, _, none⟩) (.int .i64 (k : Int)) rfl (by kernel_rfl) (fun _ _ _ h => h) (yH rfl (fun w3 h3 => by go_simp)) HS.out ?_
            simp only [Act.put, s1, s2, s3]
            refine tkH (i := 2) (oi := ⟨some 121, .indexAddr 22 (.tmp 119) (.tmp 120), _, _, _, none⟩) (.pointer (some ⟨b, o + k * 5, none⟩)) rfl (by kernel_rfl) (fun _ _ _ h => h) (yH rfl (fun w3 h3 => by go_simp)) HS.out ?_
            simp only [Act.put, s1, s2, s3]
            refine tkH (i := 3) (oi := ⟨some 122, .fieldAddr 31 (.tmp 121) 0, _, _, _, none⟩) (.pointer (some ⟨b, o + k * 5, none⟩)) rfl (by kernel_rfl) (fun _ _ _ h => h) (yH rfl (fun w3 h3 => by go_simp)) HS.out ?_
            simp only [Act.put, s1, s2, s3]
            refine tkH (i := 4) (oi := ⟨some 123, .load 5 (.tmp 122), _, _, _, none⟩) (.int .u8 dv) rfl (by kernel_rfl) (fun _ _ _ h => h) (yH rfl (fun w3 h3 => by have q := HC0.out w3 h3; go_simp)) HS.out ?_
            simp only [Act.put, s1, s2, s3]
            refine tkH (i := 5) (oi := ⟨some 124, .binOp .rem 5 (.tmp 123) (.const (.int .u8 6)) 5, _, _, _, none⟩) (.int .u8 (dv % 6)) rfl (by kernel_rfl) (fun _ _ _ h => h) (yH rfl (fun w3 h3 => by have q := HTM.out; go_simp)) HS.out ?_
            simp only [Act.put, s1, s2, s3]
            refine tkH (i := 6) (oi := ⟨some 125, .binOp .eql 5 (.tmp 124) (.const (.int .u8 0)) 5, _, _, _, none⟩) (.bool false) rfl (by kernel_rfl) (fun _ _ _ h => h) (yH rfl (fun w3 h3 => by go_simp)) HS.out ?_
            simp only [Act.put, s1, s2, s3]
            refine tkH (i := 7) (oi := ⟨some 126, .move (.tmp 125), _, _, _, none⟩) (.bool false) rfl (by kernel_rfl) (fun _ _ _ h => h) (yH rfl (fun w3 h3 => by go_simp)) HS.out ?_
            simp only [Act.put, s1, s2, s3]
            refine tkH (i := 8) (oi := ⟨some 127, .move (.tmp 9), _, _, _, some (7, true)⟩) undef rfl (by kernel_rfl) (fun _ _ _ h => h) (skH rfl) HS.out ?_
            simp only [Act.put, s1, s2, s3]
            refine tkH (i := 9) (oi := ⟨some 128, .move (.tmp 2), _, _, _, some (7, true)⟩) undef rfl (by kernel_rfl) (fun _ _ _ h => h) (skH rfl) HS.out ?_
            simp only [Act.put, s1, s2, s3]
            refine tkH (i := 10) (oi := ⟨some 129, .move (.tmp 15), _, _, _, some (7, true)⟩) undef rfl (by kernel_rfl) (fun _ _ _ h => h) (skH rfl) HS.out ?_
            simp only [Act.put, s1, s2, s3]
            refine tkH (i := 11) (oi := ⟨some 130, .indexAddr 22 (.tmp 128) (.tmp 129), _, _, _, some (7, true)⟩) undef rfl (by kernel_rfl) (fun _ _ _ h => h) (skH rfl) HS.out ?_
            simp only [Act.put, s1, s2, s3]
            refine tkH (i := 12) (oi := ⟨some 131, .fieldAddr 31 (.tmp 130) 1, _, _, _, some (7, true)⟩) undef rfl (by kernel_rfl) (fun _ _ _ h => h) (skH rfl) HS.out ?_
            simp only [Act.put, s1, s2, s3]
            refine tkH (i := 13) (oi := ⟨some 132, .load 3 (.tmp 131), _, _, _, some (7, true)⟩) undef rfl (by kernel_rfl) (fun _ _ _ h => h) (skH rfl) HS.out ?_
            simp only [Act.put, s1, s2, s3]
            refine tkH (i := 14) (oi := ⟨some 133, .move (.tmp 2), _, _, _, some (7, true)⟩) undef rfl (by kernel_rfl) (fun _ _ _ h => h) (skH rfl) HS.out ?_
            simp only [Act.put, s1, s2, s3]
            refine tkH (i := 15) (oi := ⟨some 134, .move (.tmp 15), _, _, _, some (7, true)⟩) undef rfl (by kernel_rfl) (fun _ _ _ h => h) (skH rfl) HS.out ?_
            simp only [Act.put, s1, s2, s3]
            refine tkH (i := 16) (oi := ⟨some 135, .indexAddr 22 (.tmp 133) (.tmp 134), _, _, _, some (7, true)⟩) undef rfl (by kernel_rfl) (fun _ _ _ h => h) (skH rfl) HS.out ?_
            simp only [Act.put, s1, s2, s3]
            refine tkH (i := 17) (oi := ⟨some 136, .fieldAddr 31 (.tmp 135) 3, _, _, _, some (7, true)⟩) undef rfl (by kernel_rfl) (fun _ _ _ h => h) (skH rfl) HS.out ?_
            simp only [Act.put, s1, s2, s3]
            refine tkH (i := 18) (oi := ⟨some 137, .load 29 (.tmp 136), _, _, _, some (7, true)⟩) undef rfl (by kernel_rfl) (fun _ _ _ h => h) (skH rfl) HS.out ?_
            simp only [Act.put, s1, s2, s3]
            refine tkH (i := 19) (oi := ⟨some 138, .call ⟨.value (.func 9), #[.tmp 127, .tmp 132, .tmp 137], _⟩, _, _, _, some (7, true)⟩) undef rfl (by kernel_rfl) (fun _ _ _ h => h) (skH rfl) HS.out ?_
            simp only [Act.put, s1, s2, s3]
            refine tkH (i := 20) (oi := ⟨some 139, .binOp .eql 26 (.tmp 138) (.const (.int .i64 0)) 26, _, _, _, some (7, true)⟩) undef rfl (by kernel_rfl) (fun _ _ _ h => h) (skH rfl) HS.out ?_
            simp only [Act.put, s1, s2, s3]
            refine tkH (i := 21) (oi := ⟨some 140, .pick (.tmp 126) (.tmp 139) (.const (.bool false)), _, _, _, none⟩) (.bool false) rfl (by kernel_rfl) (fun _ _ _ h => h) (yH rfl (fun w3 h3 => by go_simp)) HS.out ?_
            simp only [Act.put, s1, s2, s3]
            refine wpAnyH_done (by kernel_rfl) ?_ _
            go_wp2_with fail
            go_roundw
            case rel => exact ⟨k + 1, _, A, by omega, by go_num, ⟨HJ.out.x.kept rfl rfl rfl, HJ.out.g, HJ.out.bo, HJ.out.s, HS.out⟩⟩
            case measure => simp [intOf]; omega
        · as_aux_lemma =>
          obtain rfl : k = L2.length := by omega
          have HBO := Lib.hid HJ.out.bo
          have HWT := Lib.hid (show ∀ i s, wt i = some s → s.length = 64 from fun i s h => (HJ.out.x.ok.wt i s h).2)
          go_wp2_with fail
          refine (read_any HJ.out.x rfl 0 n (by show 0 + n ≤ n; omega)).mono ?_
          rintro e w4 ⟨v4, rfl, hr4, hb4⟩
          rw [rds_dm] at hr4
          obtain ⟨p4, cn, rfl⟩ := own_slice hr4
          have hln : ∀ j, ((wt j).getD (la2 j)).length = 64 := fun j => by
            cases e : wt j with
            | none => exact HLA.out j
            | some s => exact HWT.out j s e
          have hfl := flat_len (la := fun j => (wt j).getD (la2 j)) hln n
          have hr5 := row_own (F := fun b => wr.heap.size ≤ b ∧ b < w4.heap.size) hr4 (fun b hb => own_lt hr4 hb)
          obtain ⟨bn, on_, rfl⟩ := row_at (l := flat (fun j => (wt j).getD (la2 j)) n) hr5 (by rw [hfl]; omega)
          have hr6 : RowF w4 (fun b => wr.heap.size ≤ b ∧ b < w4.heap.size) (.slice (some ⟨bn, on_, none⟩) (64 * n) cn) (64 * n) (Lib.byteCells (flat (fun j => (wt j).getD (la2 j)) n)) := by rw [← hfl]; exact hr5
          obtain ⟨hbn, hcn, hr7⟩ := row_pin hr6 (by omega)
          rw [hfl]
          have HRN := Lib.hid hr7
          have HBN := Lib.hid hbn
          have HX4 := Lib.hid (HJ.out.x.below hb4 HJ.out.x.ltD HJ.out.x.ltL HJ.out.x.ltM)
          have HB4 := Lib.hid hb4
          have HLN := Lib.hid hln
          clear hr4 hb4 hr5 hr6 hr7 hfl hbn hln
          go_wp2_with fail
          refine (kill_any HX4.out).mono ?_
          rintro e w5 ⟨rfl, rfl⟩
          have HX5 := Lib.hid (HX4.out.setDead true)
          have HF5 := Lib.hid (show Frq (fun k => k = D ∨ k = Lx ∨ k = M) w4 (w4.setCell ⟨D, 2, none⟩ (.bool true)) from Frq.setCell (p := ⟨D, 2, none⟩) (Frq.refl _ _) (Or.inl (Or.inl rfl)) _)
          generalize w4.setCell ⟨D, 2, none⟩ (.bool true) = w5 at *
          go_wp2_with fail
          refine (read_dead HX5.out rfl 0 1).mono ?_
          rintro e w6 ⟨rfl, rfl⟩
          go_wp2_with fail
          refine (full_any 120 64 (by omega) w5).mono ?_
          rintro e w6 ⟨rfl, _, hb6⟩
          have HX6 := Lib.hid (HX5.out.below hb6 HX5.out.ltD HX5.out.ltL HX5.out.ltM)
          have HF6 := Lib.hid (HF5.out.trans (Frq.ofBelow hb6))
          clear hb6
          go_wp2_with fail
          refine (write_dead HX6.out rfl 0 _ 64 64).mono ?_
          rintro e w7 ⟨rfl, hb7⟩
          have HX7 := Lib.hid (HX6.out.below hb7 HX6.out.ltD HX6.out.ltL HX6.out.ltM)
          have HF7 := Lib.hid (HF6.out.trans (Frq.ofBelow hb7))
          clear hb7
          go_wp2_with fail
          refine (sync_dead HX7.out rfl).mono ?_
          rintro e w8 ⟨rfl, hb8⟩
          have HX8 := Lib.hid (HX7.out.below hb8 HX7.out.ltD HX7.out.ltL HX7.out.ltM)
          have HF8 := Lib.hid (HF7.out.trans (Frq.ofBelow hb8))
          have HB8 := Lib.hid (show Below w.heap.size w w8 from (HJ.out.b.trans (HB4.out.mono HJ.out.b.size)).trans (HF8.out.below (B := w.heap.size) (Nat.le_trans HJ.out.b.size HB4.out.size) (fun k e => by have := HQ.out.d; have := HQ.out.l; have := HQ.out.m; omega)))
          clear hb8
          go_wp2_with fail
          refine (restart_any HX8.out fs _ (· < w.heap.size) (by have := HFL.out; omega) (HFT.out _ HB8.out) (fun y hy => ⟨Nat.lt_of_lt_of_le hy HB8.out.size, by have := HQ.out.l; omega⟩)).mono ?_
          rintro e w9 ⟨rfl, hd9, hf9⟩
          have HX9 := Lib.hid (show DkAt w9 D Lx M (dm n (rstL fs la2 wt) (fun _ => none)) from hd9)
          have HF9 := Lib.hid (HF8.out.trans hf9)
          clear hd9 hf9
          go_wp2_with fail
          refine (read_any HX9.out rfl 0 n (by show 0 + n ≤ n; omega)).mono ?_
          rintro e wz ⟨vz, rfl, hrz, hbz⟩
          rw [rds_dm] at hrz
          obtain ⟨pz, cx, rfl⟩ := own_slice hrz
          have hlx := rst_len (fs := fs) HLA.out HWT.out
          have hfl := flat_len (la := rstL fs la2 wt) hlx n
          have hrz2 := row_own (F := fun _ => True) hrz (fun _ _ => trivial)
          obtain ⟨bx, ox, rfl⟩ := row_at (l := flat (rstL fs la2 wt) n) hrz2 (by rw [hfl]; omega)
          have hrz3 : RowF wz (fun _ => True) (.slice (some ⟨bx, ox, none⟩) (64 * n) cx) (64 * n) (Lib.byteCells (flat (rstL fs la2 wt) n)) := by rw [← hfl]; exact hrz2
          have hcx := (row_pin hrz3 (by omega)).2.1
          rw [show (flat (fun j => ((fun _ => none : Nat → Option By) j).getD (rstL fs la2 wt j)) n).length = 64 * n from hfl]
          have HXz := Lib.hid (HX9.out.below hbz HX9.out.ltD HX9.out.ltL HX9.out.ltM)
          have hcs := HCS.out
          have HKW := Lib.hid (show LsK w G n bs os cs bn on_ cn bx ox cx la2 (fun j => (wt j).getD (la2 j)) (rstL fs la2 wt) A wz from by
            have q1 := HQ.out.d; have q2 := HQ.out.l; have q3 := HQ.out.m; have q4 := HQ.out.s; have q5 := HQ.out.g
            have g1 := lt_of_heap HJ.out.g
            have g2 := HB4.out.size
            have g3 := HF9.out.size
            have kp : ∀ k, k < wr.heap.size → D < k ∧ Lx < k ∧ M < k → wz.heap[k]? = wr.heap[k]? := fun k h1 h2 => (hbz.block k (by omega)).trans ((HF9.out.block k (by omega) (by omega)).trans (HB4.out.block k h1))
            refine ⟨(kp G g1 (by omega)).trans HJ.out.g, HJ.out.s.kept (fun y hy => ⟨trivial, kp y (by omega) (by omega)⟩), HRN.out.kept (fun y hy => ⟨trivial, (hbz.block y (by have := HBN.out; omega)).trans (HF9.out.block y (by have := HBN.out; omega) (by have := HBN.out; omega))⟩), hrz3, ?_⟩
            exact (HJ.out.b.trans (HB4.out.mono HJ.out.b.size)).trans ((HF9.out.below (B := w.heap.size) (Nat.le_trans HJ.out.b.size g2) (fun k e => by omega)).trans (hbz.mono (Nat.le_trans HJ.out.b.size (Nat.le_trans g2 g3)))))
          obtain ⟨N, hN⟩ : ∃ N : Nat, 64 * n = N := ⟨_, rfl⟩
          have hN2 : (n : Int) * 64 = (N : Int) := by omega
          have hN3 : (N : Int) ≤ 2560 := by omega
          have hN4 : (0 : Int) ≤ (N : Int) := Int.natCast_nonneg _
          have HNN := Lib.hid hN
          clear hrz hbz hrz2 hrz3 hlx hfl HX4 HX5 HX6 HX7 HX8 HX9 HF5 HF6 HF7 HF8 HF9 HRN HBN HB4 HB8 HJ
          rw [hN]
          go_wp2_with fail
          refine (waiting_none HXz.out).mono ?_
          rintro e w10 ⟨rfl, rfl⟩
          have hdd := dead_any HXz.out
          go_wp2_with (go_at_call 16; refine hdd.mono ?_; rintro e w10 ⟨rfl, rfl⟩)
          rw [← HNN.out]
          clear hdd hN hN2 hN3 hN4 HXz
          go_loopw [23] (fun i wr => ∃ (j : Nat), j ≤ n ∧ i = .int .i64 (j : Int) ∧ LsK w G n bs os cs bn on_ cn bx ox cx la2 (fun j => (wt j).getD (la2 j)) (rstL fs la2 wt) A wr) (fun i _ => n - (intOf i).toNat)
          case atStart => exact ⟨0, Nat.zero_le _, rfl, HKW.out⟩
          case round =>
            clear HKW
            obtain ⟨j, hj, rfl, hK⟩ := hrel
            have HKW := Lib.hid hK
            have j0 : (0 : Int) ≤ (j : Int) := Int.natCast_nonneg _
            by_cases hjn : j < n
            · as_aux_lemma =>
              have hjn1 : (j : Int) < (n : Int) := by omega
              have e2 : IntKind.i64.wrap ((j : Int) * 64) = (j : Int) * 64 := IntWalk.i64_in _ (by omega)
              have e4 : IntKind.i64.wrap ((j : Int) + 1) = (j : Int) + 1 := IntWalk.i64_in _ (by omega)
              have e5 : IntKind.i64.wrap (((j : Int) + 1) * 64) = ((j : Int) + 1) * 64 := IntWalk.i64_in _ (by omega)
              have HS := Lib.hid (show LsK w G n bs os cs bn on_ cn bx ox cx la2 (fun j => (wt j).getD (la2 j)) (rstL fs la2 wt) A wr.drew from ⟨hK.g, hK.s, hK.nw, hK.x, ⟨hK.b.os, hK.b.tape, hK.b.output, hK.b.size, hK.b.block⟩⟩)
              clear hK HKW
              go_wp2_with fail
              refine wp_region_held (S := LsK w G n bs os cs bn on_ cn bx ox cx la2 (fun j => (wt j).getD (la2 j)) (rstL fs la2 wt) A) (by kernel_rfl) ?_
              change wpAnyH _ _ _ _ _ _ _ _ (World.drew _)
              refine tkH (i := 0) (oi := ⟨some 223, .move (.tmp 21), _, _, _, none⟩) (.slice (some ⟨bx, ox, none⟩) (64 * n) cx) rfl (by kernel_rfl) (fun _ _ _ h => h) (yH rfl (fun w3 h3 => by go_simp)) HS.out ?_
              simp only [Act.put, s1, s2, s3]
              refine tkH (i := 1) (oi := ⟨some 224, .move (.tmp 23), _, _, _, none⟩) (.int .i64 (j : Int)) rfl (by kernel_rfl) (fun _ _ _ h => h) (yH rfl (fun w3 h3 => by go_simp)) HS.out ?_
              simp only [Act.put, s1, s2, s3]
              refine tkH (i := 2) (oi := ⟨some 225, .binOp .mul 3 (.tmp 224) (.const (.int .i64 64)) 3, _, _, _, none⟩) (.int .i64 ((j : Int) * 64)) rfl (by kernel_rfl) (fun _ _ _ h => h) (yH rfl (fun w3 h3 => by go_simp)) HS.out ?_
              simp only [Act.put, s1, s2, s3]
              refine tkH (i := 3) (oi := ⟨some 226, .move (.tmp 23), _, _, _, none⟩) (.int .i64 (j : Int)) rfl (by kernel_rfl) (fun _ _ _ h => h) (yH rfl (fun w3 h3 => by go_simp)) HS.out ?_
              simp only [Act.put, s1, s2, s3]
              refine tkH (i := 4) (oi := ⟨some 227, .binOp .add 3 (.tmp 226) (.const (.int .i64 1)) 3, _, _, _, none⟩) (.int .i64 ((j : Int) + 1)) rfl (by kernel_rfl) (fun _ _ _ h => h) (yH rfl (fun w3 h3 => by go_simp)) HS.out ?_
              simp only [Act.put, s1, s2, s3]
              refine tkH (i := 5) (oi := ⟨some 228, .binOp .mul 3 (.tmp 227) (.const (.int .i64 64)) 3, _, _, _, none⟩) (.int .i64 (((j : Int) + 1) * 64)) rfl (by kernel_rfl) (fun _ _ _ h => h) (yH rfl (fun w3 h3 => by go_simp)) HS.out ?_
              simp only [Act.put, s1, s2, s3]
              refine tkH (i := 6) (oi := ⟨some 229, .slice 29 (.tmp 223) (some (.tmp 225)) (some (.tmp 228)) none, _, _, _, none⟩) (.slice (some ⟨bx, ox + 64 * j, none⟩) 64 (cx - 64 * j)) rfl (by kernel_rfl) (fun _ _ _ h => h) (yH rfl (fun w3 h3 => cutY bx ox (64 * n) cx j ((j : Int) * 64) (((j : Int) + 1) * 64) rfl rfl rfl (by omega) (by omega) (by omega))) HS.out ?_
              simp only [Act.put, s1, s2, s3]
              refine tkH (i := 7) (oi := ⟨some 230, .move (.tmp 12), _, _, _, none⟩) (.slice (some ⟨bs, os, none⟩) (64 * n) cs) rfl (by kernel_rfl) (fun _ _ _ h => h) (yH rfl (fun w3 h3 => by go_simp)) HS.out ?_
              simp only [Act.put, s1, s2, s3]
              refine tkH (i := 8) (oi := ⟨some 231, .move (.tmp 23), _, _, _, none⟩) (.int .i64 (j : Int)) rfl (by kernel_rfl) (fun _ _ _ h => h) (yH rfl (fun w3 h3 => by go_simp)) HS.out ?_
              simp only [Act.put, s1, s2, s3]
              refine tkH (i := 9) (oi := ⟨some 232, .binOp .mul 3 (.tmp 231) (.const (.int .i64 64)) 3, _, _, _, none⟩) (.int .i64 ((j : Int) * 64)) rfl (by kernel_rfl) (fun _ _ _ h => h) (yH rfl (fun w3 h3 => by go_simp)) HS.out ?_
              simp only [Act.put, s1, s2, s3]
              refine tkH (i := 10) (oi := ⟨some 233, .move (.tmp 23), _, _, _, none⟩) (.int .i64 (j : Int)) rfl (by kernel_rfl) (fun _ _ _ h => h) (yH rfl (fun w3 h3 => by go_simp)) HS.out ?_
              simp only [Act.put, s1, s2, s3]
              refine tkH (i := 11) (oi := ⟨some 234, .binOp .add 3 (.tmp 233) (.const (.int .i64 1)) 3, _, _, _, none⟩) (.int .i64 ((j : Int) + 1)) rfl (by kernel_rfl) (fun _ _ _ h => h) (yH rfl (fun w3 h3 => by go_simp)) HS.out ?_
              simp only [Act.put, s1, s2, s3]
              refine tkH (i := 12) (oi := ⟨some 235, .binOp .mul 3 (.tmp 234) (.const (.int .i64 64)) 3, _, _, _, none⟩) (.int .i64 (((j : Int) + 1) * 64)) rfl (by kernel_rfl) (fun _ _ _ h => h) (yH rfl (fun w3 h3 => by go_simp)) HS.out ?_
              simp only [Act.put, s1, s2, s3]
              refine tkH (i := 13) (oi := ⟨some 236, .slice 29 (.tmp 230) (some (.tmp 232)) (some (.tmp 235)) none, _, _, _, none⟩) (.slice (some ⟨bs, os + 64 * j, none⟩) 64 (cs - 64 * j)) rfl (by kernel_rfl) (fun _ _ _ h => h) (yH rfl (fun w3 h3 => cutY bs os (64 * n) cs j ((j : Int) * 64) (((j : Int) + 1) * 64) rfl rfl rfl (by omega) (by omega) (by omega))) HS.out ?_
              simp only [Act.put, s1, s2, s3]
              refine tkH (i := 14) (oi := ⟨some 237, .move (.tmp 17), _, _, _, none⟩) (.slice (some ⟨bn, on_, none⟩) (64 * n) cn) rfl (by kernel_rfl) (fun _ _ _ h => h) (yH rfl (fun w3 h3 => by go_simp)) HS.out ?_
              simp only [Act.put, s1, s2, s3]
              refine tkH (i := 15) (oi := ⟨some 238, .move (.tmp 23), _, _, _, none⟩) (.int .i64 (j : Int)) rfl (by kernel_rfl) (fun _ _ _ h => h) (yH rfl (fun w3 h3 => by go_simp)) HS.out ?_
              simp only [Act.put, s1, s2, s3]
              refine tkH (i := 16) (oi := ⟨some 239, .binOp .mul 3 (.tmp 238) (.const (.int .i64 64)) 3, _, _, _, none⟩) (.int .i64 ((j : Int) * 64)) rfl (by kernel_rfl) (fun _ _ _ h => h) (yH rfl (fun w3 h3 => by go_simp)) HS.out ?_
              simp only [Act.put, s1, s2, s3]
              refine tkH (i := 17) (oi := ⟨some 240, .move (.tmp 23), _, _, _, none⟩) (.int .i64 (j : Int)) rfl (by kernel_rfl) (fun _ _ _ h => h) (yH rfl (fun w3 h3 => by go_simp)) HS.out ?_
              simp only [Act.put, s1, s2, s3]
              refine tkH (i := 18) (oi := ⟨some 241, .binOp .add 3 (.tmp 240) (.const (.int .i64 1)) 3, _, _, _, none⟩) (.int .i64 ((j : Int) + 1)) rfl (by kernel_rfl) (fun _ _ _ h => h) (yH rfl (fun w3 h3 => by go_simp)) HS.out ?_
              simp only [Act.put, s1, s2, s3]
              refine tkH (i := 19) (oi := ⟨some 242, .binOp .mul 3 (.tmp 241) (.const (.int .i64 64)) 3, _, _, _, none⟩) (.int .i64 (((j : Int) + 1) * 64)) rfl (by kernel_rfl) (fun _ _ _ h => h) (yH rfl (fun w3 h3 => by go_simp)) HS.out ?_
              simp only [Act.put, s1, s2, s3]
              refine tkH (i := 20) (oi := ⟨some 243, .slice 29 (.tmp 237) (some (.tmp 239)) (some (.tmp 242)) none, _, _, _, none⟩) (.slice (some ⟨bn, on_ + 64 * j, none⟩) 64 (cn - 64 * j)) rfl (by kernel_rfl) (fun _ _ _ h => h) (yH rfl (fun w3 h3 => cutY bn on_ (64 * n) cn j ((j : Int) * 64) (((j : Int) + 1) * 64) rfl rfl rfl (by omega) (by omega) (by omega))) HS.out ?_
              simp only [Act.put, s1, s2, s3]
              refine tkH (i := 21) (oi := ⟨some 24, .assign (.tmp 229), _, _, _, none⟩) (.slice (some ⟨bx, ox + 64 * j, none⟩) 64 (cx - 64 * j)) rfl (by kernel_rfl) (fun _ _ _ h => h) (yH rfl (fun w3 h3 => by go_simp)) HS.out ?_
              simp only [Act.put, s1, s2, s3]
              refine tkH (i := 22) (oi := ⟨some 25, .assign (.tmp 236), _, _, _, none⟩) (.slice (some ⟨bs, os + 64 * j, none⟩) 64 (cs - 64 * j)) rfl (by kernel_rfl) (fun _ _ _ h => h) (yH rfl (fun w3 h3 => by go_simp)) HS.out ?_
              simp only [Act.put, s1, s2, s3]
              refine tkH (i := 23) (oi := ⟨some 26, .assign (.tmp 243), _, _, _, none⟩) (.slice (some ⟨bn, on_ + 64 * j, none⟩) 64 (cn - 64 * j)) rfl (by kernel_rfl) (fun _ _ _ h => h) (yH rfl (fun w3 h3 => by go_simp)) HS.out ?_
              simp only [Act.put, s1, s2, s3]
              refine wpAnyH_done (by kernel_rfl) ?_ _
              clear e2 e4 e5
              generalize wr.drew = wd at *
              go_wp2_with fail
              go_loopw [27] (fun i wr => ∃ (k : Nat), k ≤ 64 ∧ i = .int .i64 (k : Int) ∧ LsK w G n bs os cs bn on_ cn bx ox cx la2 (fun j => (wt j).getD (la2 j)) (rstL fs la2 wt) A wr) (fun i _ => 64 - (intOf i).toNat)
              case atStart => exact ⟨0, by omega, rfl, HS.out⟩
              case round =>
                clear HS
                obtain ⟨k, hk, rfl, hK⟩ := hrel
                have k0 : (0 : Int) ≤ (k : Int) := Int.natCast_nonneg _
                have k64 : (k : Int) ≤ 64 := by omega
                have HS := Lib.hid (show LsK w G n bs os cs bn on_ cn bx ox cx la2 (fun j => (wt j).getD (la2 j)) (rstL fs la2 wt) A wr.drew from ⟨hK.g, hK.s, hK.nw, hK.x, ⟨hK.b.os, hK.b.tape, hK.b.output, hK.b.size, hK.b.block⟩⟩)
                have HKW := Lib.hid (show LsK w G n bs os cs bn on_ cn bx ox cx la2 (fun j => (wt j).getD (la2 j)) (rstL fs la2 wt) A wr.drew.drew from ⟨hK.g, hK.s, hK.nw, hK.x, ⟨hK.b.os, hK.b.tape, hK.b.output, hK.b.size, hK.b.block⟩⟩)
                clear hK
                by_cases hk64 : k < 64
                · as_aux_lemma =>
                  have hk1 : (k : Int) < 64 := by omega
                  obtain ⟨ux, hux⟩ : ∃ ux : Int, (((rstL fs la2 wt j).getD k 0).toNat : Int) = ux := ⟨_, rfl⟩
                  obtain ⟨uz, huz⟩ : ∃ uz : Int, ((((wt j).getD (la2 j)).getD k 0).toNat : Int) = uz := ⟨_, rfl⟩
                  have KX := Lib.hid (show ∀ w3, LsK w G n bs os cs bn on_ cn bx ox cx la2 (fun j => (wt j).getD (la2 j)) (rstL fs la2 wt) A w3 → w3.cell? ⟨bx, ox + 64 * j + k, none⟩ = some (.int .u8 ux) from fun w3 h3 => by rw [← hux]; exact bys_cell (row_sec (rst_len HLA.out HWT.out) h3.x hjn).2 (rst_len HLA.out HWT.out j) hk64)
                  have KZ := Lib.hid (show ∀ w3, LsK w G n bs os cs bn on_ cn bx ox cx la2 (fun j => (wt j).getD (la2 j)) (rstL fs la2 wt) A w3 → w3.cell? ⟨bn, on_ + 64 * j + k, none⟩ = some (.int .u8 uz) from fun w3 h3 => by rw [← huz]; exact bys_cell (row_sec HLN.out h3.nw hjn).2 (HLN.out j) hk64)
                  by_cases he : ux = uz
                  · subst he
                    clear hux huz
                    go_wp2_with fail
                    refine wp_region_held (S := LsK w G n bs os cs bn on_ cn bx ox cx la2 (fun j => (wt j).getD (la2 j)) (rstL fs la2 wt) A) (by kernel_rfl) ?_
                    change wpAnyH _ _ _ _ _ _ _ _ (World.drew _)
                    refine tkH (i := 0) (oi := ⟨some 244, .move (.tmp 27), _, _, _, none⟩) (.int .i64 (k : Int)) rfl (by kernel_rfl) (fun _ _ _ h => h) (yH rfl (fun w3 h3 => by go_simp)) HS.out ?_
                    simp only [Act.put, s1, s2, s3]
                    refine tkH (i := 1) (oi := ⟨some 245, .binOp .lss 3 (.tmp 244) (.const (.int .i64 64)) 3, _, _, _, none⟩) (.bool true) rfl (by kernel_rfl) (fun _ _ _ h => h) (yH rfl (fun w3 h3 => by go_simp)) HS.out ?_
                    simp only [Act.put, s1, s2, s3]
                    refine tkH (i := 2) (oi := ⟨some 246, .move (.tmp 245), _, _, _, none⟩) (.bool true) rfl (by kernel_rfl) (fun _ _ _ h => h) (yH rfl (fun w3 h3 => by go_simp)) HS.out ?_
                    simp only [Act.put, s1, s2, s3]
                    refine tkH (i := 3) (oi := ⟨some 247, .move (.tmp 24), _, _, _, some (2, true)⟩) (.slice (some ⟨bx, ox + 64 * j, none⟩) 64 (cx - 64 * j)) rfl (by kernel_rfl) (fun _ _ _ h => h) (yH rfl (fun w3 h3 => by go_simp)) HS.out ?_
                    simp only [Act.put, s1, s2, s3]
                    refine tkH (i := 4) (oi := ⟨some 248, .move (.tmp 27), _, _, _, some (2, true)⟩) (.int .i64 (k : Int)) rfl (by kernel_rfl) (fun _ _ _ h => h) (yH rfl (fun w3 h3 => by go_simp)) HS.out ?_
                    simp only [Act.put, s1, s2, s3]
                    refine tkH (i := 5) (oi := ⟨some 249, .indexAddr 29 (.tmp 247) (.tmp 248), _, _, _, some (2, true)⟩) (.pointer (some ⟨bx, ox + 64 * j + k, none⟩)) rfl (by kernel_rfl) (fun _ _ _ h => h) (yH rfl (fun w3 h3 => by go_simp)) HS.out ?_
                    simp only [Act.put, s1, s2, s3]
                    refine tkH (i := 6) (oi := ⟨some 250, .load 5 (.tmp 249), _, _, _, some (2, true)⟩) (.int .u8 ux) rfl (by kernel_rfl) (fun _ _ _ h => h) (yH rfl (fun w3 h3 => by have q := KX.out w3 h3; go_simp)) HS.out ?_
                    simp only [Act.put, s1, s2, s3]
                    refine tkH (i := 7) (oi := ⟨some 251, .move (.tmp 26), _, _, _, some (2, true)⟩) (.slice (some ⟨bn, on_ + 64 * j, none⟩) 64 (cn - 64 * j)) rfl (by kernel_rfl) (fun _ _ _ h => h) (yH rfl (fun w3 h3 => by go_simp)) HS.out ?_
                    simp only [Act.put, s1, s2, s3]
                    refine tkH (i := 8) (oi := ⟨some 252, .move (.tmp 27), _, _, _, some (2, true)⟩) (.int .i64 (k : Int)) rfl (by kernel_rfl) (fun _ _ _ h => h) (yH rfl (fun w3 h3 => by go_simp)) HS.out ?_
                    simp only [Act.put, s1, s2, s3]
                    refine tkH (i := 9) (oi := ⟨some 253, .indexAddr 29 (.tmp 251) (.tmp 252), _, _, _, some (2, true)⟩) (.pointer (some ⟨bn, on_ + 64 * j + k, none⟩)) rfl (by kernel_rfl) (fun _ _ _ h => h) (yH rfl (fun w3 h3 => by go_simp)) HS.out ?_
                    simp only [Act.put, s1, s2, s3]
                    refine tkH (i := 10) (oi := ⟨some 254, .load 5 (.tmp 253), _, _, _, some (2, true)⟩) (.int .u8 ux) rfl (by kernel_rfl) (fun _ _ _ h => h) (yH rfl (fun w3 h3 => by have q := KZ.out w3 h3; go_simp)) HS.out ?_
                    simp only [Act.put, s1, s2, s3]
                    refine tkH (i := 11) (oi := ⟨some 255, .binOp .eql 5 (.tmp 250) (.tmp 254) 5, _, _, _, some (2, true)⟩) (.bool true) rfl (by kernel_rfl) (fun _ _ _ h => h) (yH rfl (fun w3 h3 => by go_simp)) HS.out ?_
                    simp only [Act.put, s1, s2, s3]
                    refine tkH (i := 12) (oi := ⟨some 256, .pick (.tmp 246) (.tmp 255) (.const (.bool false)), _, _, _, none⟩) (.bool true) rfl (by kernel_rfl) (fun _ _ _ h => h) (yH rfl (fun w3 h3 => by go_simp)) HS.out ?_
                    simp only [Act.put, s1, s2, s3]
                    refine wpAnyH_done (by kernel_rfl) ?_ _
                    go_wp2_with fail
                    go_roundw
                    case rel => exact ⟨k + 1, by omega, by go_num, HS.out⟩
                    case measure => simp [intOf]; omega
                  · have he2 : (rstL fs la2 wt j).getD k 0 ≠ ((wt j).getD (la2 j)).getD k 0 := fun h => he (by rw [← hux, ← huz, h])
                    have he3 : (ux == uz) = false := by simpa using he
                    have he4 : decide (ux = uz) = false := decide_eq_false he
                    clear hux huz
                    go_wp2_with fail
                    refine wp_region_held (S := LsK w G n bs os cs bn on_ cn bx ox cx la2 (fun j => (wt j).getD (la2 j)) (rstL fs la2 wt) A) (by kernel_rfl) ?_
                    change wpAnyH _ _ _ _ _ _ _ _ (World.drew _)
                    refine tkH (i := 0) (oi := ⟨some 244, .move (.tmp 27), _, _, _, none⟩) (.int .i64 (k : Int)) rfl (by kernel_rfl) (fun _ _ _ h => h) (yH rfl (fun w3 h3 => by go_simp)) HS.out ?_
                    simp only [Act.put, s1, s2, s3]
                    refine tkH (i := 1) (oi := ⟨some 245, .binOp .lss 3 (.tmp 244) (.const (.int .i64 64)) 3, _, _, _, none⟩) (.bool true) rfl (by kernel_rfl) (fun _ _ _ h => h) (yH rfl (fun w3 h3 => by go_simp)) HS.out ?_
                    simp only [Act.put, s1, s2, s3]
                    refine tkH (i := 2) (oi := ⟨some 246, .move (.tmp 245), _, _, _, none⟩) (.bool true) rfl (by kernel_rfl) (fun _ _ _ h => h) (yH rfl (fun w3 h3 => by go_simp)) HS.out ?_
                    simp only [Act.put, s1, s2, s3]
                    refine tkH (i := 3) (oi := ⟨some 247, .move (.tmp 24), _, _, _, some (2, true)⟩) (.slice (some ⟨bx, ox + 64 * j, none⟩) 64 (cx - 64 * j)) rfl (by kernel_rfl) (fun _ _ _ h => h) (yH rfl (fun w3 h3 => by go_simp)) HS.out ?_
                    simp only [Act.put, s1, s2, s3]
                    refine tkH (i := 4) (oi := ⟨some 248, .move (.tmp 27), _, _, _, some (2, true)⟩) (.int .i64 (k : Int)) rfl (by kernel_rfl) (fun _ _ _ h => h) (yH rfl (fun w3 h3 => by go_simp)) HS.out ?_
                    simp only [Act.put, s1, s2, s3]
                    refine tkH (i := 5) (oi := ⟨some 249, .indexAddr 29 (.tmp 247) (.tmp 248), _, _, _, some (2, true)⟩) (.pointer (some ⟨bx, ox + 64 * j + k, none⟩)) rfl (by kernel_rfl) (fun _ _ _ h => h) (yH rfl (fun w3 h3 => by go_simp)) HS.out ?_
                    simp only [Act.put, s1, s2, s3]
                    refine tkH (i := 6) (oi := ⟨some 250, .load 5 (.tmp 249), _, _, _, some (2, true)⟩) (.int .u8 ux) rfl (by kernel_rfl) (fun _ _ _ h => h) (yH rfl (fun w3 h3 => by have q := KX.out w3 h3; go_simp)) HS.out ?_
                    simp only [Act.put, s1, s2, s3]
                    refine tkH (i := 7) (oi := ⟨some 251, .move (.tmp 26), _, _, _, some (2, true)⟩) (.slice (some ⟨bn, on_ + 64 * j, none⟩) 64 (cn - 64 * j)) rfl (by kernel_rfl) (fun _ _ _ h => h) (yH rfl (fun w3 h3 => by go_simp)) HS.out ?_
                    simp only [Act.put, s1, s2, s3]
                    refine tkH (i := 8) (oi := ⟨some 252, .move (.tmp 27), _, _, _, some (2, true)⟩) (.int .i64 (k : Int)) rfl (by kernel_rfl) (fun _ _ _ h => h) (yH rfl (fun w3 h3 => by go_simp)) HS.out ?_
                    simp only [Act.put, s1, s2, s3]
                    refine tkH (i := 9) (oi := ⟨some 253, .indexAddr 29 (.tmp 251) (.tmp 252), _, _, _, some (2, true)⟩) (.pointer (some ⟨bn, on_ + 64 * j + k, none⟩)) rfl (by kernel_rfl) (fun _ _ _ h => h) (yH rfl (fun w3 h3 => by go_simp)) HS.out ?_
                    simp only [Act.put, s1, s2, s3]
                    refine tkH (i := 10) (oi := ⟨some 254, .load 5 (.tmp 253), _, _, _, some (2, true)⟩) (.int .u8 uz) rfl (by kernel_rfl) (fun _ _ _ h => h) (yH rfl (fun w3 h3 => by have q := KZ.out w3 h3; go_simp)) HS.out ?_
                    simp only [Act.put, s1, s2, s3]
                    refine tkH (i := 11) (oi := ⟨some 255, .binOp .eql 5 (.tmp 250) (.tmp 254) 5, _, _, _, some (2, true)⟩) (.bool false) rfl (by kernel_rfl) (fun _ _ _ h => h) (yH rfl (fun w3 h3 => by go_simp)) HS.out ?_
                    simp only [Act.put, s1, s2, s3]
                    refine tkH (i := 12) (oi := ⟨some 256, .pick (.tmp 246) (.tmp 255) (.const (.bool false)), _, _, _, none⟩) (.bool false) rfl (by kernel_rfl) (fun _ _ _ h => h) (yH rfl (fun w3 h3 => by go_simp)) HS.out ?_
                    simp only [Act.put, s1, s2, s3]
                    refine wpAnyH_done (by kernel_rfl) ?_ _
                    have hdrop : (rstL fs la2 wt j).drop k = (la2 j).drop k := rst_drop HWT.out j k (by exact Or.inr he2)
                    obtain ⟨dr, hdr⟩ : ∃ dr, (la2 j).drop k = dr := ⟨_, rfl⟩
                    have K1 := Lib.hid (show ∀ w3, LsK w G n bs os cs bn on_ cn bx ox cx la2 (fun j => (wt j).getD (la2 j)) (rstL fs la2 wt) A w3 → (convert 29 9 (.slice (subB bx (ox + 64 * j) (cx - 64 * j) k) (64 - k) (cx - 64 * j - k))).run Try.prog w3 = .ok (str dr) w3 from fun w3 h3 => by
                      have h4 := bys_from (row_sec (rst_len HLA.out HWT.out) h3.x hjn).2 (rst_len HLA.out HWT.out j) hk
                      rw [hdrop, hdr] at h4
                      have h5 : (64 - k) = dr.length := by rw [← hdr, List.length_drop, HLA.out]
                      rw [h5] at h4 ⊢
                      exact bys_str h4)
                    have K2 := Lib.hid (show ∀ w3, LsK w G n bs os cs bn on_ cn bx ox cx la2 (fun j => (wt j).getD (la2 j)) (rstL fs la2 wt) A w3 → (convert 29 9 (.slice (subB bs (os + 64 * j) (cs - 64 * j) k) (64 - k) (cs - 64 * j - k))).run Try.prog w3 = .ok (str dr) w3 from fun w3 h3 => by
                      have h4 := bys_from (row_sec HLA.out h3.s hjn).2 (HLA.out j) hk
                      rw [hdr] at h4
                      have h5 : (64 - k) = dr.length := by rw [← hdr, List.length_drop, HLA.out]
                      rw [h5] at h4 ⊢
                      exact bys_str h4)
                    clear hdrop hdr
                    go_wp2_with fail
                    cases hwj : wt j with
                    | some s =>
                      have K3 := Lib.hid (show ∀ w3, LsK w G n bs os cs bn on_ cn bx ox cx la2 (fun j => (wt j).getD (la2 j)) (rstL fs la2 wt) A w3 → w3.cell? ⟨G, j, none⟩ = some (.bool true) from fun w3 h3 => (cell_of_arr h3.g j).trans (by rw [HBO.out.get j hjn, hwj]; rfl))
                      clear hwj
                      refine wp_region_held (S := LsK w G n bs os cs bn on_ cn bx ox cx la2 (fun j => (wt j).getD (la2 j)) (rstL fs la2 wt) A) (by kernel_rfl) ?_
                      change wpAnyH _ _ _ _ _ _ _ _ (World.drew _)
                      refine tkH (i := 0) (oi := ⟨some 259, .move (.tmp 24), _, _, _, none⟩) (.slice (some ⟨bx, ox + 64 * j, none⟩) 64 (cx - 64 * j)) rfl (by kernel_rfl) (fun _ _ _ h => h) (yH rfl (fun w3 h3 => by go_simp)) HKW.out ?_
                      simp only [Act.put, s1, s2, s3]
                      refine tkH (i := 1) (oi := ⟨some 260, .move (.tmp 27), _, _, _, none⟩) (.int .i64 (k : Int)) rfl (by kernel_rfl) (fun _ _ _ h => h) (yH rfl (fun w3 h3 => by go_simp)) HKW.out ?_
                      simp only [Act.put, s1, s2, s3]
                      refine tkH (i := 2) (oi := ⟨some 261, .slice 29 (.tmp 259) (some (.tmp 260)) none none, _, _, _, none⟩) (.slice (subB bx (ox + 64 * j) (cx - 64 * j) k) (64 - k) (cx - 64 * j - k)) rfl (by kernel_rfl) (fun _ _ _ h => h) (yH rfl (fun w3 h3 => fromY _ _ _ _ rfl rfl (by omega))) HKW.out ?_
                      simp only [Act.put, s1, s2, s3]
                      refine tkH (i := 3) (oi := ⟨some 262, .convert 29 9 (.tmp 261), _, _, _, none⟩) (str dr) rfl (by kernel_rfl) (fun _ _ _ h => h) (yH rfl (fun w3 h3 => by have q := K1.out w3 h3; go_simp)) HKW.out ?_
                      simp only [Act.put, s1, s2, s3]
                      refine tkH (i := 4) (oi := ⟨some 263, .move (.tmp 25), _, _, _, none⟩) (.slice (some ⟨bs, os + 64 * j, none⟩) 64 (cs - 64 * j)) rfl (by kernel_rfl) (fun _ _ _ h => h) (yH rfl (fun w3 h3 => by go_simp)) HKW.out ?_
                      simp only [Act.put, s1, s2, s3]
                      refine tkH (i := 5) (oi := ⟨some 264, .move (.tmp 27), _, _, _, none⟩) (.int .i64 (k : Int)) rfl (by kernel_rfl) (fun _ _ _ h => h) (yH rfl (fun w3 h3 => by go_simp)) HKW.out ?_
                      simp only [Act.put, s1, s2, s3]
                      refine tkH (i := 6) (oi := ⟨some 265, .slice 29 (.tmp 263) (some (.tmp 264)) none none, _, _, _, none⟩) (.slice (subB bs (os + 64 * j) (cs - 64 * j) k) (64 - k) (cs - 64 * j - k)) rfl (by kernel_rfl) (fun _ _ _ h => h) (yH rfl (fun w3 h3 => fromY _ _ _ _ rfl rfl (by omega))) HKW.out ?_
                      simp only [Act.put, s1, s2, s3]
                      refine tkH (i := 7) (oi := ⟨some 266, .convert 29 9 (.tmp 265), _, _, _, none⟩) (str dr) rfl (by kernel_rfl) (fun _ _ _ h => h) (yH rfl (fun w3 h3 => by have q := K2.out w3 h3; go_simp)) HKW.out ?_
                      simp only [Act.put, s1, s2, s3]
                      refine tkH (i := 8) (oi := ⟨some 267, .binOp .neq 9 (.tmp 262) (.tmp 266) 9, _, _, _, none⟩) (.bool false) rfl (by kernel_rfl) (fun _ _ _ h => h) (yH rfl (fun w3 h3 => by go_simp)) HKW.out ?_
                      simp only [Act.put, s1, s2, s3]
                      refine tkH (i := 9) (oi := ⟨some 268, .move (.tmp 267), _, _, _, none⟩) (.bool false) rfl (by kernel_rfl) (fun _ _ _ h => h) (yH rfl (fun w3 h3 => by go_simp)) HKW.out ?_
                      simp only [Act.put, s1, s2, s3]
                      refine tkH (i := 10) (oi := ⟨some 269, .move (.tmp 14), _, _, _, some (9, false)⟩) (.slice (some ⟨G, 0, none⟩) n n) rfl (by kernel_rfl) (fun _ _ _ h => h) (yH rfl (fun w3 h3 => by go_simp)) HKW.out ?_
                      simp only [Act.put, s1, s2, s3]
                      refine tkH (i := 11) (oi := ⟨some 270, .move (.tmp 23), _, _, _, some (9, false)⟩) (.int .i64 (j : Int)) rfl (by kernel_rfl) (fun _ _ _ h => h) (yH rfl (fun w3 h3 => by go_simp)) HKW.out ?_
                      simp only [Act.put, s1, s2, s3]
                      refine tkH (i := 12) (oi := ⟨some 271, .indexAddr 38 (.tmp 269) (.tmp 270), _, _, _, some (9, false)⟩) (.pointer (some ⟨G, j, none⟩)) rfl (by kernel_rfl) (fun _ _ _ h => h) (yH rfl (fun w3 h3 => by go_simp)) HKW.out ?_
                      simp only [Act.put, s1, s2, s3]
                      refine tkH (i := 13) (oi := ⟨some 272, .load 4 (.tmp 271), _, _, _, some (9, false)⟩) (.bool true) rfl (by kernel_rfl) (fun _ _ _ h => h) (yH rfl (fun w3 h3 => by have q := K3.out w3 h3; go_simp)) HKW.out ?_
                      simp only [Act.put, s1, s2, s3]
                      refine tkH (i := 14) (oi := ⟨some 273, .unOp .not 4 (.tmp 272), _, _, _, some (9, false)⟩) (.bool false) rfl (by kernel_rfl) (fun _ _ _ h => h) (yH rfl (fun w3 h3 => by go_simp)) HKW.out ?_
                      simp only [Act.put, s1, s2, s3]
                      refine tkH (i := 15) (oi := ⟨some 274, .move (.tmp 273), _, _, _, some (9, false)⟩) (.bool false) rfl (by kernel_rfl) (fun _ _ _ h => h) (yH rfl (fun w3 h3 => by go_simp)) HKW.out ?_
                      simp only [Act.put, s1, s2, s3]
                      refine tkH (i := 16) (oi := ⟨some 275, .move (.tmp 24), _, _, _, some (15, true)⟩) undef rfl (by kernel_rfl) (fun _ _ _ h => h) (skH rfl) HKW.out ?_
                      simp only [Act.put, s1, s2, s3]
                      refine tkH (i := 17) (oi := ⟨some 276, .convert 29 9 (.tmp 275), _, _, _, some (15, true)⟩) undef rfl (by kernel_rfl) (fun _ _ _ h => h) (skH rfl) HKW.out ?_
                      simp only [Act.put, s1, s2, s3]
                      refine tkH (i := 18) (oi := ⟨some 277, .move (.tmp 25), _, _, _, some (15, true)⟩) undef rfl (by kernel_rfl) (fun _ _ _ h => h) (skH rfl) HKW.out ?_
                      simp only [Act.put, s1, s2, s3]
                      refine tkH (i := 19) (oi := ⟨some 278, .convert 29 9 (.tmp 277), _, _, _, some (15, true)⟩) undef rfl (by kernel_rfl) (fun _ _ _ h => h) (skH rfl) HKW.out ?_
                      simp only [Act.put, s1, s2, s3]
                      refine tkH (i := 20) (oi := ⟨some 279, .binOp .neq 9 (.tmp 276) (.tmp 278) 9, _, _, _, some (15, true)⟩) undef rfl (by kernel_rfl) (fun _ _ _ h => h) (skH rfl) HKW.out ?_
                      simp only [Act.put, s1, s2, s3]
                      refine tkH (i := 21) (oi := ⟨some 280, .pick (.tmp 274) (.tmp 279) (.const (.bool false)), _, _, _, some (9, false)⟩) (.bool false) rfl (by kernel_rfl) (fun _ _ _ h => h) (yH rfl (fun w3 h3 => by go_simp)) HKW.out ?_
                      simp only [Act.put, s1, s2, s3]
                      refine tkH (i := 22) (oi := ⟨some 281, .pick (.tmp 268) (.const (.bool true)) (.tmp 280), _, _, _, none⟩) (.bool false) rfl (by kernel_rfl) (fun _ _ _ h => h) (yH rfl (fun w3 h3 => by go_simp)) HKW.out ?_
                      simp only [Act.put, s1, s2, s3]
                      refine wpAnyH_done (by kernel_rfl) ?_ _
                      go_wp2_with fail
                      go_roundw
                      case rel => exact ⟨j + 1, by omega, by go_num, HKW.out⟩
                      case measure => simp [intOf]; omega
                    | none =>
                      have K3 := Lib.hid (show ∀ w3, LsK w G n bs os cs bn on_ cn bx ox cx la2 (fun j => (wt j).getD (la2 j)) (rstL fs la2 wt) A w3 → w3.cell? ⟨G, j, none⟩ = some (.bool false) from fun w3 h3 => (cell_of_arr h3.g j).trans (by rw [HBO.out.get j hjn, hwj]; rfl))
                      obtain ⟨lj, hlj⟩ : ∃ lj, la2 j = lj := ⟨_, rfl⟩
                      have hxj : rstL fs la2 wt j = lj := by rw [← hlj]; unfold rstL; rw [hwj]
                      have hlj64 : lj.length = 64 := by rw [← hlj]; exact HLA.out j
                      have K4 := Lib.hid (show ∀ w3, LsK w G n bs os cs bn on_ cn bx ox cx la2 (fun j => (wt j).getD (la2 j)) (rstL fs la2 wt) A w3 → (convert 29 9 (.slice (some ⟨bx, ox + 64 * j, none⟩) 64 (cx - 64 * j))).run Try.prog w3 = .ok (str lj) w3 from fun w3 h3 => by
                        have h4 := (row_sec (rst_len HLA.out HWT.out) h3.x hjn).2
                        rw [hxj] at h4
                        have h5 := bys_str h4
                        exact h5)
                      have K5 := Lib.hid (show ∀ w3, LsK w G n bs os cs bn on_ cn bx ox cx la2 (fun j => (wt j).getD (la2 j)) (rstL fs la2 wt) A w3 → (convert 29 9 (.slice (some ⟨bs, os + 64 * j, none⟩) 64 (cs - 64 * j))).run Try.prog w3 = .ok (str lj) w3 from fun w3 h3 => by
                        have h4 := (row_sec HLA.out h3.s hjn).2
                        rw [hlj] at h4
                        have h5 := bys_str h4
                        exact h5)
                      clear hwj hlj hxj hlj64
                      refine wp_region_held (S := LsK w G n bs os cs bn on_ cn bx ox cx la2 (fun j => (wt j).getD (la2 j)) (rstL fs la2 wt) A) (by kernel_rfl) ?_
                      change wpAnyH _ _ _ _ _ _ _ _ (World.drew _)
                      refine tkH (i := 0) (oi := ⟨some 259, .move (.tmp 24), _, _, _, none⟩) (.slice (some ⟨bx, ox + 64 * j, none⟩) 64 (cx - 64 * j)) rfl (by kernel_rfl) (fun _ _ _ h => h) (yH rfl (fun w3 h3 => by go_simp)) HKW.out ?_
                      simp only [Act.put, s1, s2, s3]
                      refine tkH (i := 1) (oi := ⟨some 260, .move (.tmp 27), _, _, _, none⟩) (.int .i64 (k : Int)) rfl (by kernel_rfl) (fun _ _ _ h => h) (yH rfl (fun w3 h3 => by go_simp)) HKW.out ?_
                      simp only [Act.put, s1, s2, s3]
                      refine tkH (i := 2) (oi := ⟨some 261, .slice 29 (.tmp 259) (some (.tmp 260)) none none, _, _, _, none⟩) (.slice (subB bx (ox + 64 * j) (cx - 64 * j) k) (64 - k) (cx - 64 * j - k)) rfl (by kernel_rfl) (fun _ _ _ h => h) (yH rfl (fun w3 h3 => fromY _ _ _ _ rfl rfl (by omega))) HKW.out ?_
                      simp only [Act.put, s1, s2, s3]
                      refine tkH (i := 3) (oi := ⟨some 262, .convert 29 9 (.tmp 261), _, _, _, none⟩) (str dr) rfl (by kernel_rfl) (fun _ _ _ h => h) (yH rfl (fun w3 h3 => by have q := K1.out w3 h3; go_simp)) HKW.out ?_
                      simp only [Act.put, s1, s2, s3]
                      refine tkH (i := 4) (oi := ⟨some 263, .move (.tmp 25), _, _, _, none⟩) (.slice (some ⟨bs, os + 64 * j, none⟩) 64 (cs - 64 * j)) rfl (by kernel_rfl) (fun _ _ _ h => h) (yH rfl (fun w3 h3 => by go_simp)) HKW.out ?_
                      simp only [Act.put, s1, s2, s3]
                      refine tkH (i := 5) (oi := ⟨some 264, .move (.tmp 27), _, _, _, none⟩) (.int .i64 (k : Int)) rfl (by kernel_rfl) (fun _ _ _ h => h) (yH rfl (fun w3 h3 => by go_simp)) HKW.out ?_
                      simp only [Act.put, s1, s2, s3]
                      refine tkH (i := 6) (oi := ⟨some 265, .slice 29 (.tmp 263) (some (.tmp 264)) none none, _, _, _, none⟩) (.slice (subB bs (os + 64 * j) (cs - 64 * j) k) (64 - k) (cs - 64 * j - k)) rfl (by kernel_rfl) (fun _ _ _ h => h) (yH rfl (fun w3 h3 => fromY _ _ _ _ rfl rfl (by omega))) HKW.out ?_
                      simp only [Act.put, s1, s2, s3]
                      refine tkH (i := 7) (oi := ⟨some 266, .convert 29 9 (.tmp 265), _, _, _, none⟩) (str dr) rfl (by kernel_rfl) (fun _ _ _ h => h) (yH rfl (fun w3 h3 => by have q := K2.out w3 h3; go_simp)) HKW.out ?_
                      simp only [Act.put, s1, s2, s3]
                      refine tkH (i := 8) (oi := ⟨some 267, .binOp .neq 9 (.tmp 262) (.tmp 266) 9, _, _, _, none⟩) (.bool false) rfl (by kernel_rfl) (fun _ _ _ h => h) (yH rfl (fun w3 h3 => by go_simp)) HKW.out ?_
                      simp only [Act.put, s1, s2, s3]
                      refine tkH (i := 9) (oi := ⟨some 268, .move (.tmp 267), _, _, _, none⟩) (.bool false) rfl (by kernel_rfl) (fun _ _ _ h => h) (yH rfl (fun w3 h3 => by go_simp)) HKW.out ?_
                      simp only [Act.put, s1, s2, s3]
                      refine tkH (i := 10) (oi := ⟨some 269, .move (.tmp 14), _, _, _, some (9, false)⟩) (.slice (some ⟨G, 0, none⟩) n n) rfl (by kernel_rfl) (fun _ _ _ h => h) (yH rfl (fun w3 h3 => by go_simp)) HKW.out ?_
                      simp only [Act.put, s1, s2, s3]
                      refine tkH (i := 11) (oi := ⟨some 270, .move (.tmp 23), _, _, _, some (9, false)⟩) (.int .i64 (j : Int)) rfl (by kernel_rfl) (fun _ _ _ h => h) (yH rfl (fun w3 h3 => by go_simp)) HKW.out ?_
                      simp only [Act.put, s1, s2, s3]
                      refine tkH (i := 12) (oi := ⟨some 271, .indexAddr 38 (.tmp 269) (.tmp 270), _, _, _, some (9, false)⟩) (.pointer (some ⟨G, j, none⟩)) rfl (by kernel_rfl) (fun _ _ _ h => h) (yH rfl (fun w3 h3 => by go_simp)) HKW.out ?_
                      simp only [Act.put, s1, s2, s3]
                      refine tkH (i := 13) (oi := ⟨some 272, .load 4 (.tmp 271), _, _, _, some (9, false)⟩) (.bool false) rfl (by kernel_rfl) (fun _ _ _ h => h) (yH rfl (fun w3 h3 => by have q := K3.out w3 h3; go_simp)) HKW.out ?_
                      simp only [Act.put, s1, s2, s3]
                      refine tkH (i := 14) (oi := ⟨some 273, .unOp .not 4 (.tmp 272), _, _, _, some (9, false)⟩) (.bool true) rfl (by kernel_rfl) (fun _ _ _ h => h) (yH rfl (fun w3 h3 => by go_simp)) HKW.out ?_
                      simp only [Act.put, s1, s2, s3]
                      refine tkH (i := 15) (oi := ⟨some 274, .move (.tmp 273), _, _, _, some (9, false)⟩) (.bool true) rfl (by kernel_rfl) (fun _ _ _ h => h) (yH rfl (fun w3 h3 => by go_simp)) HKW.out ?_
                      simp only [Act.put, s1, s2, s3]
                      refine tkH (i := 16) (oi := ⟨some 275, .move (.tmp 24), _, _, _, some (15, true)⟩) (.slice (some ⟨bx, ox + 64 * j, none⟩) 64 (cx - 64 * j)) rfl (by kernel_rfl) (fun _ _ _ h => h) (yH rfl (fun w3 h3 => by go_simp)) HKW.out ?_
                      simp only [Act.put, s1, s2, s3]
                      refine tkH (i := 17) (oi := ⟨some 276, .convert 29 9 (.tmp 275), _, _, _, some (15, true)⟩) (str lj) rfl (by kernel_rfl) (fun _ _ _ h => h) (yH rfl (fun w3 h3 => by have q := K4.out w3 h3; go_simp)) HKW.out ?_
                      simp only [Act.put, s1, s2, s3]
                      refine tkH (i := 18) (oi := ⟨some 277, .move (.tmp 25), _, _, _, some (15, true)⟩) (.slice (some ⟨bs, os + 64 * j, none⟩) 64 (cs - 64 * j)) rfl (by kernel_rfl) (fun _ _ _ h => h) (yH rfl (fun w3 h3 => by go_simp)) HKW.out ?_
                      simp only [Act.put, s1, s2, s3]
                      refine tkH (i := 19) (oi := ⟨some 278, .convert 29 9 (.tmp 277), _, _, _, some (15, true)⟩) (str lj) rfl (by kernel_rfl) (fun _ _ _ h => h) (yH rfl (fun w3 h3 => by have q := K5.out w3 h3; go_simp)) HKW.out ?_
                      simp only [Act.put, s1, s2, s3]
                      refine tkH (i := 20) (oi := ⟨some 279, .binOp .neq 9 (.tmp 276) (.tmp 278) 9, _, _, _, some (15, true)⟩) (.bool false) rfl (by kernel_rfl) (fun _ _ _ h => h) (yH rfl (fun w3 h3 => by go_simp)) HKW.out ?_
                      simp only [Act.put, s1, s2, s3]
                      refine tkH (i := 21) (oi := ⟨some 280, .pick (.tmp 274) (.tmp 279) (.const (.bool false)), _, _, _, some (9, false)⟩) (.bool false) rfl (by kernel_rfl) (fun _ _ _ h => h) (yH rfl (fun w3 h3 => by go_simp)) HKW.out ?_
                      simp only [Act.put, s1, s2, s3]
                      refine tkH (i := 22) (oi := ⟨some 281, .pick (.tmp 268) (.const (.bool true)) (.tmp 280), _, _, _, none⟩) (.bool false) rfl (by kernel_rfl) (fun _ _ _ h => h) (yH rfl (fun w3 h3 => by go_simp)) HKW.out ?_
                      simp only [Act.put, s1, s2, s3]
                      refine wpAnyH_done (by kernel_rfl) ?_ _
                      go_wp2_with fail
                      go_roundw
                      case rel => exact ⟨j + 1, by omega, by go_num, HKW.out⟩
                      case measure => simp [intOf]; omega
                · as_aux_lemma =>
                  have HK6 := Lib.hid (show k = 64 by omega)
                  have hk8 : decide ((k : Int) < 64) = false := decide_eq_false (by have := HK6.out; omega)
                  go_wp2_with fail
                  refine wp_region_held (S := LsK w G n bs os cs bn on_ cn bx ox cx la2 (fun j => (wt j).getD (la2 j)) (rstL fs la2 wt) A) (by kernel_rfl) ?_
                  change wpAnyH _ _ _ _ _ _ _ _ (World.drew _)
                  refine tkH (i := 0) (oi := ⟨some 244, .move (.tmp 27), _, _, _, none⟩) (.int .i64 (k : Int)) rfl (by kernel_rfl) (fun _ _ _ h => h) (yH rfl (fun w3 h3 => by go_simp)) HS.out ?_
                  simp only [Act.put, s1, s2, s3]
                  refine tkH (i := 1) (oi := ⟨some 245, .binOp .lss 3 (.tmp 244) (.const (.int .i64 64)) 3, _, _, _, none⟩) (.bool false) rfl (by kernel_rfl) (fun _ _ _ h => h) (yH rfl (fun w3 h3 => by go_simp)) HS.out ?_
                  simp only [Act.put, s1, s2, s3]
                  refine tkH (i := 2) (oi := ⟨some 246, .move (.tmp 245), _, _, _, none⟩) (.bool false) rfl (by kernel_rfl) (fun _ _ _ h => h) (yH rfl (fun w3 h3 => by go_simp)) HS.out ?_
                  simp only [Act.put, s1, s2, s3]
                  refine tkH (i := 3) (oi := ⟨some 247, .move (.tmp 24), _, _, _, some (2, true)⟩) undef rfl (by kernel_rfl) (fun _ _ _ h => h) (skH rfl) HS.out ?_
                  simp only [Act.put, s1, s2, s3]
                  refine tkH (i := 4) (oi := ⟨some 248, .move (.tmp 27), _, _, _, some (2, true)⟩) undef rfl (by kernel_rfl) (fun _ _ _ h => h) (skH rfl) HS.out ?_
                  simp only [Act.put, s1, s2, s3]
                  refine tkH (i := 5) (oi := ⟨some 249, .indexAddr 29 (.tmp 247) (.tmp 248), _, _, _, some (2, true)⟩) undef rfl (by kernel_rfl) (fun _ _ _ h => h) (skH rfl) HS.out ?_
                  simp only [Act.put, s1, s2, s3]
                  refine tkH (i := 6) (oi := ⟨some 250, .load 5 (.tmp 249), _, _, _, some (2, true)⟩) undef rfl (by kernel_rfl) (fun _ _ _ h => h) (skH rfl) HS.out ?_
                  simp only [Act.put, s1, s2, s3]
                  refine tkH (i := 7) (oi := ⟨some 251, .move (.tmp 26), _, _, _, some (2, true)⟩) undef rfl (by kernel_rfl) (fun _ _ _ h => h) (skH rfl) HS.out ?_
                  simp only [Act.put, s1, s2, s3]
                  refine tkH (i := 8) (oi := ⟨some 252, .move (.tmp 27), _, _, _, some (2, true)⟩) undef rfl (by kernel_rfl) (fun _ _ _ h => h) (skH rfl) HS.out ?_
                  simp only [Act.put, s1, s2, s3]
                  refine tkH (i := 9) (oi := ⟨some 253, .indexAddr 29 (.tmp 251) (.tmp 252), _, _, _, some (2, true)⟩) undef rfl (by kernel_rfl) (fun _ _ _ h => h) (skH rfl) HS.out ?_
                  simp only [Act.put, s1, s2, s3]
                  refine tkH (i := 10) (oi := ⟨some 254, .load 5 (.tmp 253), _, _, _, some (2, true)⟩) undef rfl (by kernel_rfl) (fun _ _ _ h => h) (skH rfl) HS.out ?_
                  simp only [Act.put, s1, s2, s3]
                  refine tkH (i := 11) (oi := ⟨some 255, .binOp .eql 5 (.tmp 250) (.tmp 254) 5, _, _, _, some (2, true)⟩) undef rfl (by kernel_rfl) (fun _ _ _ h => h) (skH rfl) HS.out ?_
                  simp only [Act.put, s1, s2, s3]
                  refine tkH (i := 12) (oi := ⟨some 256, .pick (.tmp 246) (.tmp 255) (.const (.bool false)), _, _, _, none⟩) (.bool false) rfl (by kernel_rfl) (fun _ _ _ h => h) (yH rfl (fun w3 h3 => by go_simp)) HS.out ?_
                  simp only [Act.put, s1, s2, s3]
                  refine wpAnyH_done (by kernel_rfl) ?_ _
                  have hdrop : (rstL fs la2 wt j).drop k = (la2 j).drop k := rst_drop HWT.out j k (by exact Or.inl HK6.out)
                  obtain ⟨dr, hdr⟩ : ∃ dr, (la2 j).drop k = dr := ⟨_, rfl⟩
                  have K1 := Lib.hid (show ∀ w3, LsK w G n bs os cs bn on_ cn bx ox cx la2 (fun j => (wt j).getD (la2 j)) (rstL fs la2 wt) A w3 → (convert 29 9 (.slice (subB bx (ox + 64 * j) (cx - 64 * j) k) (64 - k) (cx - 64 * j - k))).run Try.prog w3 = .ok (str dr) w3 from fun w3 h3 => by
                    have h4 := bys_from (row_sec (rst_len HLA.out HWT.out) h3.x hjn).2 (rst_len HLA.out HWT.out j) hk
                    rw [hdrop, hdr] at h4
                    have h5 : (64 - k) = dr.length := by rw [← hdr, List.length_drop, HLA.out]
                    rw [h5] at h4 ⊢
                    exact bys_str h4)
                  have K2 := Lib.hid (show ∀ w3, LsK w G n bs os cs bn on_ cn bx ox cx la2 (fun j => (wt j).getD (la2 j)) (rstL fs la2 wt) A w3 → (convert 29 9 (.slice (subB bs (os + 64 * j) (cs - 64 * j) k) (64 - k) (cs - 64 * j - k))).run Try.prog w3 = .ok (str dr) w3 from fun w3 h3 => by
                    have h4 := bys_from (row_sec HLA.out h3.s hjn).2 (HLA.out j) hk
                    rw [hdr] at h4
                    have h5 : (64 - k) = dr.length := by rw [← hdr, List.length_drop, HLA.out]
                    rw [h5] at h4 ⊢
                    exact bys_str h4)
                  clear hdrop hdr
                  go_wp2_with fail
                  cases hwj : wt j with
                  | some s =>
                    have K3 := Lib.hid (show ∀ w3, LsK w G n bs os cs bn on_ cn bx ox cx la2 (fun j => (wt j).getD (la2 j)) (rstL fs la2 wt) A w3 → w3.cell? ⟨G, j, none⟩ = some (.bool true) from fun w3 h3 => (cell_of_arr h3.g j).trans (by rw [HBO.out.get j hjn, hwj]; rfl))
                    clear hwj
                    refine wp_region_held (S := LsK w G n bs os cs bn on_ cn bx ox cx la2 (fun j => (wt j).getD (la2 j)) (rstL fs la2 wt) A) (by kernel_rfl) ?_
                    change wpAnyH _ _ _ _ _ _ _ _ (World.drew _)
                    refine tkH (i := 0) (oi := ⟨some 259, .move (.tmp 24), _, _, _, none⟩) (.slice (some ⟨bx, ox + 64 * j, none⟩) 64 (cx - 64 * j)) rfl (by kernel_rfl) (fun _ _ _ h => h) (yH rfl (fun w3 h3 => by go_simp)) HKW.out ?_
                    simp only [Act.put, s1, s2, s3]
                    refine tkH (i := 1) (oi := ⟨some 260, .move (.tmp 27), _, _, _, none⟩) (.int .i64 (k : Int)) rfl (by kernel_rfl) (fun _ _ _ h => h) (yH rfl (fun w3 h3 => by go_simp)) HKW.out ?_
                    simp only [Act.put, s1, s2, s3]
                    refine tkH (i := 2) (oi := ⟨some 261, .slice 29 (.tmp 259) (some (.tmp 260)) none none, _, _, _, none⟩) (.slice (subB bx (ox + 64 * j) (cx - 64 * j) k) (64 - k) (cx - 64 * j - k)) rfl (by kernel_rfl) (fun _ _ _ h => h) (yH rfl (fun w3 h3 => fromY _ _ _ _ rfl rfl (by omega))) HKW.out ?_
                    simp only [Act.put, s1, s2, s3]
                    refine tkH (i := 3) (oi := ⟨some 262, .convert 29 9 (.tmp 261), _, _, _, none⟩) (str dr) rfl (by kernel_rfl) (fun _ _ _ h => h) (yH rfl (fun w3 h3 => by have q := K1.out w3 h3; go_simp)) HKW.out ?_
                    simp only [Act.put, s1, s2, s3]
                    refine tkH (i := 4) (oi := ⟨some 263, .move (.tmp 25), _, _, _, none⟩) (.slice (some ⟨bs, os + 64 * j, none⟩) 64 (cs - 64 * j)) rfl (by kernel_rfl) (fun _ _ _ h => h) (yH rfl (fun w3 h3 => by go_simp)) HKW.out ?_
                    simp only [Act.put, s1, s2, s3]
                    refine tkH (i := 5) (oi := ⟨some 264, .move (.tmp 27), _, _, _, none⟩) (.int .i64 (k : Int)) rfl (by kernel_rfl) (fun _ _ _ h => h) (yH rfl (fun w3 h3 => by go_simp)) HKW.out ?_
                    simp only [Act.put, s1, s2, s3]
                    refine tkH (i := 6) (oi := ⟨some 265, .slice 29 (.tmp 263) (some (.tmp 264)) none none, _, _, _, none⟩) (.slice (subB bs (os + 64 * j) (cs - 64 * j) k) (64 - k) (cs - 64 * j - k)) rfl (by kernel_rfl) (fun _ _ _ h => h) (yH rfl (fun w3 h3 => fromY _ _ _ _ rfl rfl (by omega))) HKW.out ?_
                    simp only [Act.put, s1, s2, s3]
                    refine tkH (i := 7) (oi := ⟨some 266, .convert 29 9 (.tmp 265), _, _, _, none⟩) (str dr) rfl (by kernel_rfl) (fun _ _ _ h => h) (yH rfl (fun w3 h3 => by have q := K2.out w3 h3; go_simp)) HKW.out ?_
                    simp only [Act.put, s1, s2, s3]
                    refine tkH (i := 8) (oi := ⟨some 267, .binOp .neq 9 (.tmp 262) (.tmp 266) 9, _, _, _, none⟩) (.bool false) rfl (by kernel_rfl) (fun _ _ _ h => h) (yH rfl (fun w3 h3 => by go_simp)) HKW.out ?_
                    simp only [Act.put, s1, s2, s3]
                    refine tkH (i := 9) (oi := ⟨some 268, .move (.tmp 267), _, _, _, none⟩) (.bool false) rfl (by kernel_rfl) (fun _ _ _ h => h) (yH rfl (fun w3 h3 => by go_simp)) HKW.out ?_
                    simp only [Act.put, s1, s2, s3]
                    refine tkH (i := 10) (oi := ⟨some 269, .move (.tmp 14), _, _, _, some (9, false)⟩) (.slice (some ⟨G, 0, none⟩) n n) rfl (by kernel_rfl) (fun _ _ _ h => h) (yH rfl (fun w3 h3 => by go_simp)) HKW.out ?_
                    simp only [Act.put, s1, s2, s3]
                    refine tkH (i := 11) (oi := ⟨some 270, .move (.tmp 23), _, _, _, some (9, false)⟩) (.int .i64 (j : Int)) rfl (by kernel_rfl) (fun _ _ _ h => h) (yH rfl (fun w3 h3 => by go_simp)) HKW.out ?_
                    simp only [Act.put, s1, s2, s3]
                    refine tkH (i := 12) (oi := ⟨some 271, .indexAddr 38 (.tmp 269) (.tmp 270), _, _, _, some (9, false)⟩) (.pointer (some ⟨G, j, none⟩)) rfl (by kernel_rfl) (fun _ _ _ h => h) (yH rfl (fun w3 h3 => by go_simp)) HKW.out ?_
                    simp only [Act.put, s1, s2, s3]
                    refine tkH (i := 13) (oi := ⟨some 272, .load 4 (.tmp 271), _, _, _, some (9, false)⟩) (.bool true) rfl (by kernel_rfl) (fun _ _ _ h => h) (yH rfl (fun w3 h3 => by have q := K3.out w3 h3; go_simp)) HKW.out ?_
                    simp only [Act.put, s1, s2, s3]
                    refine tkH (i := 14) (oi := ⟨some 273, .unOp .not 4 (.tmp 272), _, _, _, some (9, false)⟩) (.bool false) rfl (by kernel_rfl) (fun _ _ _ h => h) (yH rfl (fun w3 h3 => by go_simp)) HKW.out ?_
                    simp only [Act.put, s1, s2, s3]
                    refine tkH (i := 15) (oi := ⟨some 274, .move (.tmp 273), _, _, _, some (9, false)⟩) (.bool false) rfl (by kernel_rfl) (fun _ _ _ h => h) (yH rfl (fun w3 h3 => by go_simp)) HKW.out ?_
                    simp only [Act.put, s1, s2, s3]
                    refine tkH (i := 16) (oi := ⟨some 275, .move (.tmp 24), _, _, _, some (15, true)⟩) undef rfl (by kernel_rfl) (fun _ _ _ h => h) (skH rfl) HKW.out ?_
                    simp only [Act.put, s1, s2, s3]
                    refine tkH (i := 17) (oi := ⟨some 276, .convert 29 9 (.tmp 275), _, _, _, some (15, true)⟩) undef rfl (by kernel_rfl) (fun _ _ _ h => h) (skH rfl) HKW.out ?_
                    simp only [Act.put, s1, s2, s3]
                    refine tkH (i := 18) (oi := ⟨some 277, .move (.tmp 25), _, _, _, some (15, true)⟩) undef rfl (by kernel_rfl) (fun _ _ _ h => h) (skH rfl) HKW.out ?_
                    simp only [Act.put, s1, s2, s3]
                    refine tkH (i := 19) (oi := ⟨some 278, .convert 29 9 (.tmp 277), _, _, _, some (15, true)⟩) undef rfl (by kernel_rfl) (fun _ _ _ h => h) (skH rfl) HKW.out ?_
                    simp only [Act.put, s1, s2, s3]
                    refine tkH (i := 20) (oi := ⟨some 279, .binOp .neq 9 (.tmp 276) (.tmp 278) 9, _, _, _, some (15, true)⟩) undef rfl (by kernel_rfl) (fun _ _ _ h => h) (skH rfl) HKW.out ?_
                    simp only [Act.put, s1, s2, s3]
                    refine tkH (i := 21) (oi := ⟨some 280, .pick (.tmp 274) (.tmp 279) (.const (.bool false)), _, _, _, some (9, false)⟩) (.bool false) rfl (by kernel_rfl) (fun _ _ _ h => h) (yH rfl (fun w3 h3 => by go_simp)) HKW.out ?_
                    simp only [Act.put, s1, s2, s3]
                    refine tkH (i := 22) (oi := ⟨some 281, .pick (.tmp 268) (.const (.bool true)) (.tmp 280), _, _, _, none⟩) (.bool false) rfl (by kernel_rfl) (fun _ _ _ h => h) (yH rfl (fun w3 h3 => by go_simp)) HKW.out ?_
                    simp only [Act.put, s1, s2, s3]
                    refine wpAnyH_done (by kernel_rfl) ?_ _
                    go_wp2_with fail
                    go_roundw
                    case rel => exact ⟨j + 1, by omega, by go_num, HKW.out⟩
                    case measure => simp [intOf]; omega
                  | none =>
                    have K3 := Lib.hid (show ∀ w3, LsK w G n bs os cs bn on_ cn bx ox cx la2 (fun j => (wt j).getD (la2 j)) (rstL fs la2 wt) A w3 → w3.cell? ⟨G, j, none⟩ = some (.bool false) from fun w3 h3 => (cell_of_arr h3.g j).trans (by rw [HBO.out.get j hjn, hwj]; rfl))
                    obtain ⟨lj, hlj⟩ : ∃ lj, la2 j = lj := ⟨_, rfl⟩
                    have hxj : rstL fs la2 wt j = lj := by rw [← hlj]; unfold rstL; rw [hwj]
                    have hlj64 : lj.length = 64 := by rw [← hlj]; exact HLA.out j
                    have K4 := Lib.hid (show ∀ w3, LsK w G n bs os cs bn on_ cn bx ox cx la2 (fun j => (wt j).getD (la2 j)) (rstL fs la2 wt) A w3 → (convert 29 9 (.slice (some ⟨bx, ox + 64 * j, none⟩) 64 (cx - 64 * j))).run Try.prog w3 = .ok (str lj) w3 from fun w3 h3 => by
                      have h4 := (row_sec (rst_len HLA.out HWT.out) h3.x hjn).2
                      rw [hxj] at h4
                      have h5 := bys_str h4
                      exact h5)
                    have K5 := Lib.hid (show ∀ w3, LsK w G n bs os cs bn on_ cn bx ox cx la2 (fun j => (wt j).getD (la2 j)) (rstL fs la2 wt) A w3 → (convert 29 9 (.slice (some ⟨bs, os + 64 * j, none⟩) 64 (cs - 64 * j))).run Try.prog w3 = .ok (str lj) w3 from fun w3 h3 => by
                      have h4 := (row_sec HLA.out h3.s hjn).2
                      rw [hlj] at h4
                      have h5 := bys_str h4
                      exact h5)
                    clear hwj hlj hxj hlj64
                    refine wp_region_held (S := LsK w G n bs os cs bn on_ cn bx ox cx la2 (fun j => (wt j).getD (la2 j)) (rstL fs la2 wt) A) (by kernel_rfl) ?_
                    change wpAnyH _ _ _ _ _ _ _ _ (World.drew _)
                    refine tkH (i := 0) (oi := ⟨some 259, .move (.tmp 24), _, _, _, none⟩) (.slice (some ⟨bx, ox + 64 * j, none⟩) 64 (cx - 64 * j)) rfl (by kernel_rfl) (fun _ _ _ h => h) (yH rfl (fun w3 h3 => by go_simp)) HKW.out ?_
                    simp only [Act.put, s1, s2, s3]
                    refine tkH (i := 1) (oi := ⟨some 260, .move (.tmp 27), _, _, _, none⟩) (.int .i64 (k : Int)) rfl (by kernel_rfl) (fun _ _ _ h => h) (yH rfl (fun w3 h3 => by go_simp)) HKW.out ?_
                    simp only [Act.put, s1, s2, s3]
                    refine tkH (i := 2) (oi := ⟨some 261, .slice 29 (.tmp 259) (some (.tmp 260)) none none, _, _, _, none⟩) (.slice (subB bx (ox + 64 * j) (cx - 64 * j) k) (64 - k) (cx - 64 * j - k)) rfl (by kernel_rfl) (fun _ _ _ h => h) (yH rfl (fun w3 h3 => fromY _ _ _ _ rfl rfl (by omega))) HKW.out ?_
                    simp only [Act.put, s1, s2, s3]
                    refine tkH (i := 3) (oi := ⟨some 262, .convert 29 9 (.tmp 261), _, _, _, none⟩) (str dr) rfl (by kernel_rfl) (fun _ _ _ h => h) (yH rfl (fun w3 h3 => by have q := K1.out w3 h3; go_simp)) HKW.out ?_
                    simp only [Act.put, s1, s2, s3]
                    refine tkH (i := 4) (oi := ⟨some 263, .move (.tmp 25), _, _, _, none⟩) (.slice (some ⟨bs, os + 64 * j, none⟩) 64 (cs - 64 * j)) rfl (by kernel_rfl) (fun _ _ _ h => h) (yH rfl (fun w3 h3 => by go_simp)) HKW.out ?_
                    simp only [Act.put, s1, s2, s3]
                    refine tkH (i := 5) (oi := ⟨some 264, .move (.tmp 27), _, _, _, none⟩) (.int .i64 (k : Int)) rfl (by kernel_rfl) (fun _ _ _ h => h) (yH rfl (fun w3 h3 => by go_simp)) HKW.out ?_
                    simp only [Act.put, s1, s2, s3]
                    refine tkH (i := 6) (oi := ⟨some 265, .slice 29 (.tmp 263) (some (.tmp 264)) none none, _, _, _, none⟩) (.slice (subB bs (os + 64 * j) (cs - 64 * j) k) (64 - k) (cs - 64 * j - k)) rfl (by kernel_rfl) (fun _ _ _ h => h) (yH rfl (fun w3 h3 => fromY _ _ _ _ rfl rfl (by omega))) HKW.out ?_
                    simp only [Act.put, s1, s2, s3]
                    refine tkH (i := 7) (oi := ⟨some 266, .convert 29 9 (.tmp 265), _, _, _, none⟩) (str dr) rfl (by kernel_rfl) (fun _ _ _ h => h) (yH rfl (fun w3 h3 => by have q := K2.out w3 h3; go_simp)) HKW.out ?_
                    simp only [Act.put, s1, s2, s3]
                    refine tkH (i := 8) (oi := ⟨some 267, .binOp .neq 9 (.tmp 262) (.tmp 266) 9, _, _, _, none⟩) (.bool false) rfl (by kernel_rfl) (fun _ _ _ h => h) (yH rfl (fun w3 h3 => by go_simp)) HKW.out ?_
                    simp only [Act.put, s1, s2, s3]
                    refine tkH (i := 9) (oi := ⟨some 268, .move (.tmp 267), _, _, _, none⟩) (.bool false) rfl (by kernel_rfl) (fun _ _ _ h => h) (yH rfl (fun w3 h3 => by go_simp)) HKW.out ?_
                    simp only [Act.put, s1, s2, s3]
                    refine tkH (i := 10) (oi := ⟨some 269, .move (.tmp 14), _, _, _, some (9, false)⟩) (.slice (some ⟨G, 0, none⟩) n n) rfl (by kernel_rfl) (fun _ _ _ h => h) (yH rfl (fun w3 h3 => by go_simp)) HKW.out ?_
                    simp only [Act.put, s1, s2, s3]
                    refine tkH (i := 11) (oi := ⟨some 270, .move (.tmp 23), _, _, _, some (9, false)⟩) (.int .i64 (j : Int)) rfl (by kernel_rfl) (fun _ _ _ h => h) (yH rfl (fun w3 h3 => by go_simp)) HKW.out ?_
                    simp only [Act.put, s1, s2, s3]
                    refine tkH (i := 12) (oi := ⟨some 271, .indexAddr 38 (.tmp 269) (.tmp 270), _, _, _, some (9, false)⟩) (.pointer (some ⟨G, j, none⟩)) rfl (by kernel_rfl) (fun _ _ _ h => h) (yH rfl (fun w3 h3 => by go_simp)) HKW.out ?_
                    simp only [Act.put, s1, s2, s3]
                    refine tkH (i := 13) (oi := ⟨some 272, .load 4 (.tmp 271), _, _, _, some (9, false)⟩) (.bool false) rfl (by kernel_rfl) (fun _ _ _ h => h) (yH rfl (fun w3 h3 => by have q := K3.out w3 h3; go_simp)) HKW.out ?_
                    simp only [Act.put, s1, s2, s3]
                    refine tkH (i := 14) (oi := ⟨some 273, .unOp .not 4 (.tmp 272), _, _, _, some (9, false)⟩) (.bool true) rfl (by kernel_rfl) (fun _ _ _ h => h) (yH rfl (fun w3 h3 => by go_simp)) HKW.out ?_
                    simp only [Act.put, s1, s2, s3]
                    refine tkH (i := 15) (oi := ⟨some 274, .move (.tmp 273), _, _, _, some (9, false)⟩) (.bool true) rfl (by kernel_rfl) (fun _ _ _ h => h) (yH rfl (fun w3 h3 => by go_simp)) HKW.out ?_
                    simp only [Act.put, s1, s2, s3]
                    refine tkH (i := 16) (oi := ⟨some 275, .move (.tmp 24), _, _, _, some (15, true)⟩) (.slice (some ⟨bx, ox + 64 * j, none⟩) 64 (cx - 64 * j)) rfl (by kernel_rfl) (fun _ _ _ h => h) (yH rfl (fun w3 h3 => by go_simp)) HKW.out ?_
                    simp only [Act.put, s1, s2, s3]
                    refine tkH (i := 17) (oi := ⟨some 276, .convert 29 9 (.tmp 275), _, _, _, some (15, true)⟩) (str lj) rfl (by kernel_rfl) (fun _ _ _ h => h) (yH rfl (fun w3 h3 => by have q := K4.out w3 h3; go_simp)) HKW.out ?_
                    simp only [Act.put, s1, s2, s3]
                    refine tkH (i := 18) (oi := ⟨some 277, .move (.tmp 25), _, _, _, some (15, true)⟩) (.slice (some ⟨bs, os + 64 * j, none⟩) 64 (cs - 64 * j)) rfl (by kernel_rfl) (fun _ _ _ h => h) (yH rfl (fun w3 h3 => by go_simp)) HKW.out ?_
                    simp only [Act.put, s1, s2, s3]
                    refine tkH (i := 19) (oi := ⟨some 278, .convert 29 9 (.tmp 277), _, _, _, some (15, true)⟩) (str lj) rfl (by kernel_rfl) (fun _ _ _ h => h) (yH rfl (fun w3 h3 => by have q := K5.out w3 h3; go_simp)) HKW.out ?_
                    simp only [Act.put, s1, s2, s3]
                    refine tkH (i := 20) (oi := ⟨some 279, .binOp .neq 9 (.tmp 276) (.tmp 278) 9, _, _, _, some (15, true)⟩) (.bool false) rfl (by kernel_rfl) (fun _ _ _ h => h) (yH rfl (fun w3 h3 => by go_simp)) HKW.out ?_
                    simp only [Act.put, s1, s2, s3]
                    refine tkH (i := 21) (oi := ⟨some 280, .pick (.tmp 274) (.tmp 279) (.const (.bool false)), _, _, _, some (9, false)⟩) (.bool false) rfl (by kernel_rfl) (fun _ _ _ h => h) (yH rfl (fun w3 h3 => by go_simp)) HKW.out ?_
                    simp only [Act.put, s1, s2, s3]
                    refine tkH (i := 22) (oi := ⟨some 281, .pick (.tmp 268) (.const (.bool true)) (.tmp 280), _, _, _, none⟩) (.bool false) rfl (by kernel_rfl) (fun _ _ _ h => h) (yH rfl (fun w3 h3 => by go_simp)) HKW.out ?_
                    simp only [Act.put, s1, s2, s3]
                    refine wpAnyH_done (by kernel_rfl) ?_ _
                    go_wp2_with fail
                    go_roundw
                    case rel => exact ⟨j + 1, by omega, by go_num, HKW.out⟩
                    case measure => simp [intOf]; omega
            · obtain rfl : j = n := by omega
              clear hK
              go_wp2_with (go_at_call 17; refine (keeps_any _).mono ?_; rintro e w9 ⟨rfl, hb9⟩)
              go_ret
              exact ⟨rfl, HKW.out.b.trans (hb9.mono HKW.out.b.size)⟩
end Go.Proofs.Ytiegicdfgbpmiaa.Dk
