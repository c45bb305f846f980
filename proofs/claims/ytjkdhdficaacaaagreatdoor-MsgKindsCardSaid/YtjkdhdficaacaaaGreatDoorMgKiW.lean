/- The walk of MsgKinds: how many segments a kind has; another kind's number in a packet's interchange. -/
import Derived.Test.YtjkdhdficaacaaaGreatDoorEdiSm
import Derived.Test.YtjkdhdficaacaaaGreatDoorWrapDec
import Derived.Deep.RegionHeld
import Derived.IntWalk
namespace Go.Proofs.YtjkdhdficaacaaaGreatDoor
open Go.RowKit Go.Edi Go.Wrap Go.Lib

def cnB (b : Bool) : Int := if b then 1 else 0
theorem cnB_le (b : Bool) : 0 ≤ cnB b ∧ cnB b ≤ 1 := by cases b <;> decide
theorem kinds_count {k : Nat} {f : List Fd} (h : fdsL k = some f) : 2 + cnB (hC k) + cnB (hA k) + cnB (hD k) = ((2 + f.length : Nat) : Int) := by
  rcases flags h with ⟨rfl, a, b, c⟩ | ⟨rfl, a, b, c⟩ | ⟨rfl, a, b, c⟩ | ⟨rfl, a, b, c⟩ | ⟨rfl, a, b, c⟩ <;> rw [a, b, c] <;> decide
theorem digs_len20 (u : Nat) (hu : u < 256) : (digs u).length ≤ 20 := digs_len u (by omega)
/-- the row of segments behind another head -/
theorem kd_segs {w W5 : World} {F : Nat → Prop} {l : List Sg} {g cv b1 b2 k : Nat} {xs : List Value} (ho : W5.ownsRow w.heap.size 58 2 (.slice (some ⟨g, 0, none⟩) l.length cv) l.length ((xs.set 0 (str kindT)).set 1 (.slice (some ⟨b2, 0, none⟩) 1 1)))
    (hl : 0 < l.length) (hc : SgC W5 F l xs) (hF : ∀ b, F b → b < W5.heap.size) (h1 : W5.heap[b1]? = some (.cells #[str (digs k)] 9 (0, 0))) (h2 : W5.heap[b2]? = some (.cells #[.slice (some ⟨b1, 0, none⟩) 1 1] 61 (0, 0))) :
    SegsF W5 (· < W5.heap.size) (.slice (some ⟨g, 0, none⟩) l.length cv) (kdL l k) := by
  match l, xs, hc with
  | s :: r, a :: v :: t, hc =>
    have e : (kdL (s :: r) k).length = (s :: r).length := rfl
    refine ⟨str kindT :: .slice (some ⟨b2, 0, none⟩) 1 1 :: t, ?_, rfl, ⟨[.slice (some ⟨b1, 0, none⟩) 1 1], ?_, ?_, True.intro⟩, SgC.kept (fun b hb => ⟨hF b hb, rfl⟩) hc.2.2⟩
    · rw [e]
      exact row_own ho (fun b hb => (ho.lt b hb).2)
    · exact ⟨_, _, rfl, Nat.le_refl _, fun _ => ⟨b2, 0, rfl, lt_of_heap h2, fun j u hu => by rw [Nat.zero_add, cell_of_arr h2 j]; simpa using hu⟩⟩
    · exact ⟨_, _, rfl, Nat.le_refl _, fun _ => ⟨b1, 0, rfl, lt_of_heap h1, fun j u hu => by rw [Nat.zero_add, cell_of_arr h1 j]; simpa using hu⟩⟩
theorem tiny_kd {l : List Sg} {k : Nat} (h : tiny l) (hk : k < 256) : tiny (kdL l k) := by
  have hd := digs_len20 k hk
  refine ⟨by have := h.1; simp only [kdL, List.length_cons, List.length_tail]; omega, fun s hs => ?_⟩
  rcases List.mem_cons.1 hs with rfl | hs
  · exact tiny_sg (by simp) (fun t ht => by rw [List.mem_singleton.1 ht]; omega)
  · exact h.2 s (List.mem_of_mem_tail hs)
theorem pack_kd (f t n : Nat) (l : List Sg) (k : Nat) (hl : tiny l) (hk : k < 256) (hf : f < 256) (ht : t < 256) (v : Value) (B : Nat) (W : World) (hv : SegsF W (· < W.heap.size) v (kdL l k)) (he : Env B W) (hB : B ≤ W.heap.size) :
    Calls Tryz.prog 21 #[.agg (wrV f t n v)] W (fun e w' => e = .returned (.tuple #[.agg (pkV (packL ⟨f, t, n, kdL l k⟩).1), .int .i64 (((packL ⟨f, t, n, kdL l k⟩).2 : Nat) : Int)]) ∧ Below W.heap.size W w') :=
  packet_any ⟨f, t, n, kdL l k⟩ v B W hf ht hv (by have := (tiny_kd hl hk).1; simp only; omega) (tiny_kd hl hk).el (tiny_kd hl hk).sz he hB
set_option maxRecDepth 100000 in
set_option maxHeartbeats 12800000 in
theorem kinds_walk (p : Pk) (k : Nat) (B : Nat) (w : World) (hp : p.Ty) (hk : k < 256) (he : Env B w) (hB : B ≤ w.heap.size) :
    Calls Tryz.prog 8 #[.agg (pkV p), .int .u8 (k : Int)] w fun e w' => e = .returned (.bool true) ∧ Below w.heap.size w w' := by
  obtain ⟨wb, hwb⟩ : ∃ wb, wb = w.alloc (.cells (pkV p) 38) := ⟨_, rfl⟩
  have hbw : Below w.heap.size w wb := by rw [hwb]; exact (Below.refl _ _).alloc (Nat.le_refl _) _
  have hws : wb.heap.size = w.heap.size + 1 := by rw [hwb]; simp only [size_a]
  have hp0 : wb.heap[w.heap.size]? = some (.cells (pkV p) 38 (0, 0)) := by rw [hwb]; exact heap_new _ _ _ rfl
  have HEN := Lib.hid (show ∀ wz : World, Below w.heap.size w wz → Env B wz ∧ B ≤ wz.heap.size from fun wz hz => ⟨he.on (hz.mono hB), Nat.le_trans hB hz.size⟩)
  have HCP := Lib.hid (show ∀ wz : World, Below wb.heap.size wb wz → wz.heap[w.heap.size]? = some (.cells (pkV p) 38 (0, 0)) from fun wz hz => (hz.block _ (by omega)).trans hp0)
  have HTE := Lib.hid (show ∀ W, Below w.heap.size w W → _ from fun W hW => tells_any B W (HEN.out W hW).1 (HEN.out W hW).2)
  have HUP := Lib.hid (show ∀ wz : World, Below wb.heap.size wb wz → Below w.heap.size w wz from fun wz hz => hbw.trans (hz.mono hbw.size))
  have HB0 := Lib.hid (Below.refl wb.heap.size wb)
  have HWS := Lib.hid hws
  have hk0 : (0 : Int) ≤ (k : Int) := Int.natCast_nonneg _
  have hk1 : (k : Int) ≤ 255 := by omega
  by_cases h0 : (mwrapL p).2 = 0
  rotate_left
  · have hwr := once_wrap p B wb hp (HEN.out wb hbw).1 (HEN.out wb hbw).2
    have hEi : ¬ (((mwrapL p).2 : Nat) : Int) = 0 := by omega
    have HWR := Lib.hid hwr
    clear he hB hp hp0 hbw hwr h0 hws
    go_enter Tryz.func8, Tryz.ntmps8
    go_wp2_with (refine wpList_load_row rfl 38 _ rfl w.heap.size rfl 38 (pkV p) (0, 0) _ (by rw [← hwb]; exact HCP.out _ HB0.out) Tryz.underlying38 rfl sizePk ?_)
    rw [← hwb]
    refine (HWR.out).mono ?_
    rintro e w1 ⟨pv, nv, cv, rfl, hb1, hv1⟩
    have HB2 := Lib.hid (HUP.out _ (hb1.alloc hb1.size (.cells (wrV (mwrapL p).1.from_ (mwrapL p).1.to_ (mwrapL p).1.ref (.slice pv nv cv)) 41)))
    clear hb1 hwb hv1
    generalize (((mwrapL p).2 : Nat) : Int) = E at *
    go_wp2_with fail
    refine (HTE.out _ HB2.out).mono ?_
    rintro e w3 ⟨rfl, hb3⟩
    have HB3 := Lib.hid (HB2.out.trans (hb3.mono HB2.out.size))
    clear hb3
    go_wp2
    go_ret
    exact ⟨rfl, HB3.out⟩
  cases ha : p.ack with
  | true =>
    have hwr := once_wrap p B wb hp (HEN.out wb hbw).1 (HEN.out wb hbw).2
    rw [h0] at hwr
    have HWR := Lib.hid hwr
    obtain ⟨f, t, n, a, m⟩ := p
    simp only at ha
    subst ha
    clear he hB hp hp0 hbw hwr h0 hws
    go_enter Tryz.func8, Tryz.ntmps8
    go_wp2_with (refine wpList_load_row rfl 38 _ rfl w.heap.size rfl 38 (pkV ⟨f, t, n, true, m⟩) (0, 0) _ (by rw [← hwb]; exact HCP.out _ HB0.out) Tryz.underlying38 rfl sizePk ?_)
    rw [← hwb]
    refine (HWR.out).mono ?_
    rintro e w1 ⟨pv, nv, cv, rfl, hb1, hv1⟩
    have HB1 := Lib.hid (hb1.alloc hb1.size (.cells (wrV (mwrapL ⟨f, t, n, true, m⟩).1.from_ (mwrapL ⟨f, t, n, true, m⟩).1.to_ (mwrapL ⟨f, t, n, true, m⟩).1.ref (.slice pv nv cv)) 41))
    have HB2 := Lib.hid (HUP.out _ HB1.out)
    have c2 := cell_of_arr (HCP.out _ hb1) 2
    simp only [pkV, msV, preV, List.cons_append, List.nil_append, List.getElem?_toArray, List.getElem?_cons_zero, List.getElem?_cons_succ] at c2
    have hlt : w.heap.size < w1.heap.size := lt_of_heap (HCP.out _ hb1)
    clear hb1 hwb hv1
    go_wp2_with fail
    refine (HTE.out _ HB2.out).mono ?_
    rintro e w3 ⟨rfl, hb3⟩
    have HB3 := Lib.hid (HB2.out.trans (hb3.mono HB2.out.size))
    clear hb3
    go_wp2
    go_ret
    exact ⟨rfl, HB3.out⟩
  | false =>
    have hwo := mwrap_own p ha h0 B wb hp (HEN.out wb hbw).1 (HEN.out wb hbw).2
    have hkp := kinds_pack hp h0 ha k hk
    obtain ⟨fds, hfd, _, _, hf8, ht8, hshape⟩ := told_fds hp h0 ha
    have hll : (mwrapL p).1.segs.length = 2 + fds.length := by rw [hshape]; simp; omega
    have hcount := kinds_count hfd
    rw [← hll] at hcount
    have htl : tiny (mwrapL p).1.segs := by rw [(mwrap_ok h0).2.2.2]; exact tiny_toldL hp.m
    have hxx : (mwrapL p).1.from_ = p.from_ ∧ (mwrapL p).1.to_ = p.to_ ∧ (mwrapL p).1.ref = p.num := by rw [hshape]; exact ⟨rfl, rfl, rfl⟩
    rw [hxx.1, hxx.2.1, hxx.2.2] at hkp hwo
    have hl0 : 0 < (mwrapL p).1.segs.length := by omega
    have hl64 : (mwrapL p).1.segs.length ≤ 64 := htl.1
    generalize (mwrapL p).1.segs = l at hwo hkp hll hcount htl hl0 hl64
    obtain ⟨f, t, n, a, m⟩ := p
    simp only at ha hkp hwo hf8 ht8
    subst ha
    have HWO := Lib.hid hwo
    have HKP := Lib.hid hkp
    have HTL := Lib.hid htl
    have HFT := Lib.hid (And.intro (show f < 256 by omega) (show t < 256 by omega))
    have HL0 := Lib.hid hl0
    have HK := Lib.hid hk
    have HHM := Lib.hid (fun W => has_any m.kind W)
    have HHK := Lib.hid (fun W => has_any k W)
    have HDC := Lib.hid (fun W => decimal_any k W (by omega))
    have heqq : ∀ W, (binOp .eql 38 (.agg (pkV ⟨f, t, n, false, { m with kind := k }⟩)) (.agg (pkV ⟨f, t, n, false, { m with kind := k }⟩))).run Tryz.prog W = .ok (.bool true) W := fun W => by
      have h := eql_pk ⟨f, t, n, false, { m with kind := k }⟩ ⟨f, t, n, false, { m with kind := k }⟩ W
      rw [decide_eq_true rfl] at h
      exact h
    generalize hC m.kind = a at *
    generalize hA m.kind = b at *
    generalize hD m.kind = c at *
    generalize hI m.kind = im at *
    generalize hC k = x at *
    generalize hA k = y at *
    generalize hD k = z at *
    generalize hI k = ik at *
    have HCN := Lib.hid hcount
    have HCA := Lib.hid (cnB_le a)
    have HCB := Lib.hid (cnB_le b)
    have HCC := Lib.hid (cnB_le c)
    clear he hB hp hp0 hbw hwo hkp htl hf8 ht8 hl0 hcount hxx hshape hfd hll h0 hws hk
    go_enter Tryz.func8, Tryz.ntmps8
    go_wp2_with (refine wpList_load_row rfl 38 _ rfl w.heap.size rfl 38 (pkV ⟨f, t, n, false, m⟩) (0, 0) _ (by rw [← hwb]; exact HCP.out _ HB0.out) Tryz.underlying38 rfl sizePk ?_)
    rw [← hwb]
    refine (HWO.out).mono ?_
    rintro e w1 ⟨hb1, pv, cv, F, rfl, htm⟩
    obtain ⟨xs, hxs, hsg⟩ := htm.sg
    obtain ⟨g, rfl⟩ : ∃ g, pv = some ⟨g, 0, none⟩ := by
      rcases hxs.2 with ⟨h1, h2⟩ | ⟨g, cap, cur, h1, _⟩
      · have := HL0.out; omega
      · exact ⟨g, by cases h1; rfl⟩
    have HXS := Lib.hid hxs
    have HSG := Lib.hid hsg
    have HFZ := Lib.hid (show ∀ b, F b → wb.heap.size ≤ b ∧ b < w1.heap.size ∧ b ≠ g from fun b hb => by
      obtain ⟨h1, h2, h3⟩ := htm.fz b hb
      exact ⟨h1, h2, fun e => h3 (by rw [e]; rfl)⟩)
    have HG1 := Lib.hid (hxs.lt g rfl)
    obtain ⟨wa, hwa⟩ : ∃ wa, wa = w1.alloc (.cells (wrV f t n (.slice (some ⟨g, 0, none⟩) l.length cv)) 41) := ⟨_, rfl⟩
    have HBA := Lib.hid (show Below wb.heap.size wb wa by rw [hwa]; exact hb1.alloc hb1.size _)
    have HW1A := Lib.hid (show Below w1.heap.size w1 wa by rw [hwa]; exact (Below.refl _ _).alloc (Nat.le_refl _) _)
    have HWA := Lib.hid (show wa.heap[w1.heap.size]? = some (.cells (wrV f t n (.slice (some ⟨g, 0, none⟩) l.length cv)) 41 (0, 0)) by rw [hwa]; exact at_last _ _)
    have HHW := Lib.hid hwa
    have c2 := cell_of_arr (HCP.out _ hb1) 2
    have c4 := cell_of_arr (HCP.out _ HBA.out) 4
    simp only [pkV, msV, preV, List.cons_append, List.nil_append, List.getElem?_toArray, List.getElem?_cons_zero, List.getElem?_cons_succ] at c2 c4
    have hlt : w.heap.size < w1.heap.size := lt_of_heap (HCP.out _ hb1)
    clear hb1 hwb htm hxs hsg
    clear hwa
    go_upto_region 4 with fail
    rw [← HHW.out]
    clear HHW c2 hlt
    go_wp2_with (go_at_call 27; refine (HHM.out _).mono ?_; rintro e w' ⟨rfl, hw'⟩; have hw2 := hw'.symm; subst hw2)
    go_loopw [11, 12] (fun u i wr => ∃ (j nn : Int), ((j = 0 ∧ nn = 2) ∨ (j = 1 ∧ nn = 2 + cnB a) ∨ (j = 2 ∧ nn = 2 + cnB a + cnB b) ∨ (j = 3 ∧ nn = 2 + cnB a + cnB b + cnB c)) ∧ (2 ≤ nn ∧ nn ≤ 5) ∧ i = .int .i64 j ∧ u = .int .i64 nn ∧ wa = wr) (fun _ i _ => 3 - (intOf i).toNat)
    case atStart => exact ⟨0, 2, Or.inl ⟨rfl, rfl⟩, by omega, rfl, rfl, rfl⟩
    case round =>
      obtain ⟨j, nn, hj, hnn, rfl, rfl, rfl⟩ := hrel
      have HNN := Lib.hid hnn
      have hw1 : IntKind.i64.wrap (nn + 1) = nn + 1 := by rw [IntKind.wrap_i64]; omega
      clear hnn
      rcases hj with ⟨rfl, hn⟩ | ⟨rfl, hn⟩ | ⟨rfl, hn⟩ | ⟨rfl, hn⟩
      · have HNE := Lib.hid hn
        clear hn
        cases a with
        | true =>
          go_wp2
          go_roundw
          case rel => exact ⟨1, nn + 1, Or.inr (Or.inl ⟨rfl, by have t1 : cnB true = 1 := rfl; have t0 : cnB false = 0 := rfl; have h2 := HNE.out; have h3 := HCA.out; have h4 := HCB.out; have h5 := HCC.out; omega⟩), by have t1 : cnB true = 1 := rfl; have t0 : cnB false = 0 := rfl; have h2 := HNE.out; have h3 := HCA.out; have h4 := HCB.out; have h5 := HCC.out; omega, rfl, rfl, by trivial⟩
          case measure => simp [intOf]
        | false =>
          go_wp2
          go_roundw
          case rel => exact ⟨1, nn, Or.inr (Or.inl ⟨rfl, by have t1 : cnB true = 1 := rfl; have t0 : cnB false = 0 := rfl; have h2 := HNE.out; have h3 := HCA.out; have h4 := HCB.out; have h5 := HCC.out; omega⟩), by have t1 : cnB true = 1 := rfl; have t0 : cnB false = 0 := rfl; have h2 := HNE.out; have h3 := HCA.out; have h4 := HCB.out; have h5 := HCC.out; omega, rfl, rfl, by trivial⟩
          case measure => simp [intOf]
      · have HNE := Lib.hid hn
        clear hn
        cases b with
        | true =>
          go_wp2
          go_roundw
          case rel => exact ⟨2, nn + 1, Or.inr (Or.inr (Or.inl ⟨rfl, by have t1 : cnB true = 1 := rfl; have t0 : cnB false = 0 := rfl; have h2 := HNE.out; have h3 := HCA.out; have h4 := HCB.out; have h5 := HCC.out; omega⟩)), by have t1 : cnB true = 1 := rfl; have t0 : cnB false = 0 := rfl; have h2 := HNE.out; have h3 := HCA.out; have h4 := HCB.out; have h5 := HCC.out; omega, rfl, rfl, by trivial⟩
          case measure => simp [intOf]
        | false =>
          go_wp2
          go_roundw
          case rel => exact ⟨2, nn, Or.inr (Or.inr (Or.inl ⟨rfl, by have t1 : cnB true = 1 := rfl; have t0 : cnB false = 0 := rfl; have h2 := HNE.out; have h3 := HCA.out; have h4 := HCB.out; have h5 := HCC.out; omega⟩)), by have t1 : cnB true = 1 := rfl; have t0 : cnB false = 0 := rfl; have h2 := HNE.out; have h3 := HCA.out; have h4 := HCB.out; have h5 := HCC.out; omega, rfl, rfl, by trivial⟩
          case measure => simp [intOf]
      · have HNE := Lib.hid hn
        clear hn
        cases c with
        | true =>
          go_wp2
          go_roundw
          case rel => exact ⟨3, nn + 1, Or.inr (Or.inr (Or.inr ⟨rfl, by have t1 : cnB true = 1 := rfl; have t0 : cnB false = 0 := rfl; have h2 := HNE.out; have h3 := HCA.out; have h4 := HCB.out; have h5 := HCC.out; omega⟩)), by have t1 : cnB true = 1 := rfl; have t0 : cnB false = 0 := rfl; have h2 := HNE.out; have h3 := HCA.out; have h4 := HCB.out; have h5 := HCC.out; omega, rfl, rfl, by trivial⟩
          case measure => simp [intOf]
        | false =>
          go_wp2
          go_roundw
          case rel => exact ⟨3, nn, Or.inr (Or.inr (Or.inr ⟨rfl, by have t1 : cnB true = 1 := rfl; have t0 : cnB false = 0 := rfl; have h2 := HNE.out; have h3 := HCA.out; have h4 := HCB.out; have h5 := HCC.out; omega⟩)), by have t1 : cnB true = 1 := rfl; have t0 : cnB false = 0 := rfl; have h2 := HNE.out; have h3 := HCA.out; have h4 := HCB.out; have h5 := HCC.out; omega, rfl, rfl, by trivial⟩
          case measure => simp [intOf]
      · obtain rfl : nn = (l.length : Int) := by rw [hn, HCN.out]
        clear hn hw1 HNN HCN
        have c3 := cell_of_arr HWA.out 3
        simp only [List.getElem?_toArray, List.getElem?_cons_zero, List.getElem?_cons_succ] at c3
        go_upto_region 14 with (go_at_call 27; refine (HHK.out _).mono ?_; rintro e w' ⟨rfl, hw'⟩; have hw2 := hw'.symm; subst hw2)
        refine wp_region_held (S := fun w' => w'.heap[w1.heap.size]? = some (.cells (wrV f t n (.slice (some ⟨g, 0, none⟩) l.length cv)) 41 (0, 0))) (by kernel_rfl) ?_
        change wpAnyH _ _ _ _ _ _ _ _ (World.drew _)
        obtain ⟨w3, hw3⟩ : ∃ w3, w3 = wa.drew := ⟨_, rfl⟩
        rw [← hw3]
        have HB3 := Lib.hid (show Below wb.heap.size wb w3 by rw [hw3]; exact HBA.out.drew)
        have HW13 := Lib.hid (show Below w1.heap.size w1 w3 by rw [hw3]; exact HW1A.out.drew)
        have HL2 := Lib.hid (show ¬ l = [] from fun h => by have := HL0.out; rw [h] at this; simp at this)
        have HL1 := Lib.hid (show (0 : Int) < (l.length : Int) by have := HL0.out; omega)
        have HS := Lib.hid (show w3.heap[w1.heap.size]? = some (.cells (wrV f t n (.slice (some ⟨g, 0, none⟩) l.length cv)) 41 (0, 0)) by rw [hw3]; exact HWA.out)
        clear hw3 c3 c4
        refine wpAnyH_take (i := 0) (oi := ⟨some 77, .fieldAddr 41 (.tmp 5) 3, _, _, _, none⟩) (v := .pointer (some ⟨w1.heap.size, 3, none⟩)) rfl (by kernel_rfl) (by kernel_rfl) (by kernel_rfl) (fun _ _ _ h => h) (Or.inl ⟨by rfl, fun w' hS => by go_simp⟩) HS.out ?_
        simp only [Act.put, List.setIfInBounds_toArray, List.set_cons_zero, List.set_cons_succ]
        refine wpAnyH_take (i := 1) (oi := ⟨some 78, .load 39 (.tmp 77), _, _, _, none⟩) (v := .slice (some ⟨g, 0, none⟩) l.length cv) rfl (by kernel_rfl) (by kernel_rfl) (by kernel_rfl) (fun _ _ _ h => h) (Or.inl ⟨by rfl, fun w' hS => by have c := cell_of_arr hS 3; go_simp⟩) HS.out ?_
        simp only [Act.put, List.setIfInBounds_toArray, List.set_cons_zero, List.set_cons_succ]
        refine wpAnyH_take (i := 2) (oi := ⟨some 79, .move (.tmp 1), _, _, _, none⟩) (v := .int .u8 (k : Int)) rfl (by kernel_rfl) (by kernel_rfl) (by kernel_rfl) (fun _ _ _ h => h) (Or.inl ⟨by rfl, fun w' hS => by go_simp⟩) HS.out ?_
        simp only [Act.put, List.setIfInBounds_toArray, List.set_cons_zero, List.set_cons_succ]
        refine wpAnyH_take (i := 3) (oi := ⟨some 80, .convert 5 22 (.tmp 79), _, _, _, none⟩) (v := .int .u64 (k : Int)) rfl (by kernel_rfl) (by kernel_rfl) (by kernel_rfl) (fun _ _ _ h => h) (Or.inl ⟨by rfl, fun w' hS => by go_simp; exact IntWalk.u64_in _ (by omega)⟩) HS.out ?_
        simp only [Act.put, List.setIfInBounds_toArray, List.set_cons_zero, List.set_cons_succ]
        refine wpAnyH_ready (rs := [4]) (by kernel_rfl) (by simp) (AllReadyH.cons (o := ⟨some 81, .call ⟨.value (.func 26), #[.tmp 80], _⟩, _, _, _, none⟩) rfl (fun K' hK => ?_) AllReadyH.nil)
        go_simp
        refine (HDC.out _).mono ?_
        rintro e w4 ⟨rfl, hb4⟩
        have HB4 := Lib.hid (HB3.out.trans (hb4.mono HB3.out.size))
        have HW14 := Lib.hid (HW13.out.trans (hb4.mono HW13.out.size))
        have HS4 := Lib.hid (show w4.heap[w1.heap.size]? = some (.cells (wrV f t n (.slice (some ⟨g, 0, none⟩) l.length cv)) 41 (0, 0)) from (hb4.block _ (lt_of_heap HS.out)).trans HS.out)
        clear hb4
        refine hK.out _ _ HS4.out (fun _ => ?_)
        clear hK K'
        try (simp only [Act.put, List.setIfInBounds_toArray, List.set_cons_zero, List.set_cons_succ])
        refine wpAnyH_ready (rs := [5]) (by kernel_rfl) (by simp) (AllReadyH.cons (o := ⟨some 82, .buildSlice 61 1 #[(0, .tmp 81)], _, _, _, none⟩) rfl (fun K' hK => ?_) AllReadyH.nil)
        go_simp
        obtain ⟨w5, hw5⟩ : ∃ w5, w5 = w4.alloc (.cells #[str (digs k)] 9) := ⟨_, rfl⟩
        rw [← hw5]
        have HB5 := Lib.hid (show Below wb.heap.size wb w5 by rw [hw5]; exact HB4.out.alloc HB4.out.size _)
        have HW15 := Lib.hid (show Below w1.heap.size w1 w5 by rw [hw5]; exact HW14.out.alloc HW14.out.size _)
        have HD5 := Lib.hid (show w5.heap[w4.heap.size]? = some (.cells #[str (digs k)] 9 (0, 0)) by rw [hw5]; exact at_last _ _)
        have HZ5 := Lib.hid (show w5.heap.size = w4.heap.size + 1 by rw [hw5, size_a])
        have HS5 := Lib.hid (show w5.heap[w1.heap.size]? = some (.cells (wrV f t n (.slice (some ⟨g, 0, none⟩) l.length cv)) 41 (0, 0)) by rw [hw5]; exact heap_past _ _ _ (lt_of_heap HS4.out) HS4.out)
        clear hw5
        refine hK.out _ _ HS5.out (fun _ => ?_)
        clear hK K'
        try (simp only [Act.put, List.setIfInBounds_toArray, List.set_cons_zero, List.set_cons_succ])
        refine wpAnyH_ready (rs := [6]) (by kernel_rfl) (by simp) (AllReadyH.cons (o := ⟨some 83, .buildSlice 56 1 #[(0, .tmp 82)], _, _, _, none⟩) rfl (fun K' hK => ?_) AllReadyH.nil)
        go_simp
        obtain ⟨w6, hw6⟩ : ∃ w6, w6 = w5.alloc (.cells #[.slice (some ⟨w4.heap.size, 0, none⟩) 1 1] 61) := ⟨_, rfl⟩
        rw [← hw6]
        have HB6 := Lib.hid (show Below wb.heap.size wb w6 by rw [hw6]; exact HB5.out.alloc HB5.out.size _)
        have HW16 := Lib.hid (show Below w1.heap.size w1 w6 by rw [hw6]; exact HW15.out.alloc HW15.out.size _)
        have HD6 := Lib.hid (show w6.heap[w4.heap.size]? = some (.cells #[str (digs k)] 9 (0, 0)) by rw [hw6]; exact heap_past _ _ _ (lt_of_heap HD5.out) HD5.out)
        have HE6 := Lib.hid (show w6.heap[w5.heap.size]? = some (.cells #[.slice (some ⟨w4.heap.size, 0, none⟩) 1 1] 61 (0, 0)) by rw [hw6]; exact at_last _ _)
        have HS6 := Lib.hid (show w6.heap[w1.heap.size]? = some (.cells (wrV f t n (.slice (some ⟨g, 0, none⟩) l.length cv)) 41 (0, 0)) by rw [hw6]; exact heap_past _ _ _ (lt_of_heap HS5.out) HS5.out)
        clear hw6
        refine hK.out _ _ HS6.out (fun _ => ?_)
        clear hK K'
        try (simp only [Act.put, List.setIfInBounds_toArray, List.set_cons_zero, List.set_cons_succ])
        refine wpAnyH_take (i := 7) (oi := ⟨some 84, .build 58 #[(0, .const (.string ⟨#[77, 83, 71]⟩)), (1, .tmp 83)], _, _, _, none⟩) (v := .agg #[.string ⟨#[77, 83, 71]⟩, .slice (some ⟨w5.heap.size, 0, none⟩) 1 1]) rfl (by kernel_rfl) (by kernel_rfl) (by kernel_rfl) (fun _ _ _ h => h) (Or.inl ⟨by rfl, fun w' hS => by go_simp⟩) HS6.out ?_
        simp only [Act.put, List.setIfInBounds_toArray, List.set_cons_zero, List.set_cons_succ]
        refine wpAnyH_take (i := 8) (oi := ⟨some 85, .indexAddr 39 (.tmp 78) (.const (.int .i64 0)), _, _, _, none⟩) (v := .pointer (some ⟨g, 0, none⟩)) rfl (by kernel_rfl) (by kernel_rfl) (by kernel_rfl) (fun _ _ _ h => h) (Or.inl ⟨by rfl, fun w' hS => by have hl := HL1.out; go_simp; all_goals (intro h; exact absurd h HL2.out)⟩) HS6.out ?_
        simp only [Act.put, List.setIfInBounds_toArray, List.set_cons_zero, List.set_cons_succ]
        refine wpAnyH_ready (rs := [9]) (by kernel_rfl) (by simp) (AllReadyH.cons (o := ⟨none, .store 58 (.tmp 85) (.tmp 84), _, _, _, none⟩) rfl (fun K' hK => ?_) AllReadyH.nil)
        have hog : w6.ownsRow wb.heap.size 58 2 (.slice (some ⟨g, 0, none⟩) l.length cv) l.length xs := by
          refine ⟨HXS.out.1, ?_⟩
          rcases HXS.out.2 with h | ⟨g', cap, cur, e1, e2, e3, e4⟩
          · exact .inl h
          · exact .inr ⟨g', cap, cur, e1, e2, (HW16.out.block g' (lt_of_heap e3)).trans e3, e4⟩
        have hxl := HSG.out.len
        have hl0 := HL0.out
        obtain ⟨x0, x1, xr, rfl⟩ : ∃ x0 x1 xr, xs = x0 :: x1 :: xr := by
          match xs, hxl with
          | [], h => simp at h; omega
          | [_], h => simp at h; omega
          | x0 :: x1 :: xr, _ => exact ⟨x0, x1, xr, rfl⟩
        have k0 : w6.cell? ⟨g, 0, none⟩ = some x0 := hog.cellAt 0 (by omega)
        have k1 : w6.cell? ⟨g, 1, none⟩ = some x1 := hog.cellAt 1 (by omega)
        have f0 : w6.frozen? ⟨g, 0, none⟩ = false := hog.frozenAt 0
        have f1 : w6.frozen? ⟨g, 1, none⟩ = false := hog.frozenAt 1
        have hs0 := (hog.stored 0 (str kindT)).1
        have k1' : (w6.setCell ⟨g, 0, none⟩ (.string ⟨#[77, 83, 71]⟩)).cell? ⟨g, 1, none⟩ = some x1 := hs0.cellAt 1 (by omega)
        have f1' : (w6.setCell ⟨g, 0, none⟩ (.string ⟨#[77, 83, 71]⟩)).frozen? ⟨g, 1, none⟩ = false := hs0.frozenAt 1
        have hs1 := (hs0.stored 1 (.slice (some ⟨w5.heap.size, 0, none⟩) 1 1)).1
        have HOW := Lib.hid hs1
        clear hs0 hs1 hxl hl0 hog
        go_simp
        obtain ⟨w7, hw7⟩ : ∃ w7, w7 = (w6.setCell ⟨g, 0, none⟩ (.string ⟨#[77, 83, 71]⟩)).setCell ⟨g, 1, none⟩ (.slice (some ⟨w5.heap.size, 0, none⟩) 1 1) := ⟨_, rfl⟩
        rw [← hw7]
        have hkb : ∀ b, b ≠ g → w7.heap[b]? = w6.heap[b]? := fun b hb => by rw [hw7]; exact (Below.heap_setCell _ _ _ _ hb).trans (Below.heap_setCell _ _ _ _ hb)
        have HOW7 := Lib.hid (show w7.ownsRow wb.heap.size 58 2 (.slice (some ⟨g, 0, none⟩) l.length cv) l.length (((x0 :: x1 :: xr).set 0 (str kindT)).set 1 (.slice (some ⟨w5.heap.size, 0, none⟩) 1 1)) by rw [hw7]; exact HOW.out)
        have HB7 := Lib.hid (show Below wb.heap.size wb w7 by rw [hw7]; exact (HB6.out.setCell (p := ⟨g, 0, none⟩) HG1.out.1 _).setCell (p := ⟨g, 1, none⟩) HG1.out.1 _)
        have HZ7 := Lib.hid (show w7.heap.size = w6.heap.size by rw [hw7]; simp)
        have HS7 := Lib.hid (show w7.heap[w1.heap.size]? = some (.cells (wrV f t n (.slice (some ⟨g, 0, none⟩) l.length cv)) 41 (0, 0)) from (hkb _ (by have := HG1.out.2; omega)).trans HS6.out)
        have HD7 := Lib.hid ((hkb _ (by have h1 := HG1.out.2; have h2 := HW14.out.size; omega)).trans HD6.out)
        have HE7 := Lib.hid ((hkb _ (by have h1 := HG1.out.2; have h2 := HW15.out.size; omega)).trans HE6.out)
        have HSG7 := Lib.hid (HSG.out.kept (w' := w7) (F' := F) (fun b hb => ⟨hb, (hkb b (HFZ.out b hb).2.2).trans (HW16.out.block b (HFZ.out b hb).2.1)⟩))
        have HSF := Lib.hid (kd_segs (k := k) HOW7.out HL0.out HSG7.out (fun b hb => by rw [HZ7.out]; exact Nat.lt_of_lt_of_le (HFZ.out b hb).2.1 HW16.out.size) HD7.out HE7.out)
        clear hw7 hkb k0 k1 f0 f1 k1' f1'
        refine hK.out _ _ HS7.out (fun _ => ?_)
        clear hK K'
        try (simp only [Act.put, List.setIfInBounds_toArray, List.set_cons_zero, List.set_cons_succ])
        refine wpAnyH_done (by kernel_rfl) ?_ _
        have hpc := pack_kd f t n l k HTL.out HK.out HFT.out.1 HFT.out.2 _ B w7 HSF.out (HEN.out _ (HUP.out _ HB7.out)).1 (HEN.out _ (HUP.out _ HB7.out)).2
        rw [HKP.out] at hpc
        have HPC := Lib.hid hpc
        clear hpc HKP HS HS4 HS5 HS6 HOW HOW7 HD5 HD6 HE6 HSG HSG7 HSF
        cases ik with
        | false =>
          rw [if_neg (by simp)] at HPC
          go_wp2_with (refine wpList_load_row rfl 41 _ rfl w1.heap.size rfl 41 (wrV f t n (.slice (some ⟨g, 0, none⟩) l.length cv)) (0, 0) _ HS7.out Tryz.underlying41 rfl sizeWr ?_)
          refine (HPC.out).mono ?_
          rintro e w8 ⟨rfl, hb8⟩
          have hb8' := HB7.out.trans (hb8.mono HB7.out.size)
          have hb9 := hb8'.alloc hb8'.size (.cells pk0 38)
          have HB9 := Lib.hid (show Below wb.heap.size wb ((w8.alloc (.cells pk0 38)).setRow w8.heap.size (pkV Pk.zero)) from below_setR hb9 hb8'.size _)
          have HD := Lib.hid (show (w8.alloc (.cells pk0 38)).heap[w8.heap.size]? = some (.cells pk0 38 (0, 0)) from at_last _ _)
          have HQ := Lib.hid (setRow_heap _ _ pk0 (pkV Pk.zero) _ _ HD.out)
          have HBW := Lib.hid (HUP.out _ HB9.out)
          clear hb8 hb8' hb9
          go_wp2_with (refine wpList_store_row rfl 38 _ _ rfl w8.heap.size (pkV Pk.zero) rfl rfl 38 pk0 HD.out sizePk rfl (pkv_one _) ?_)
          refine (HTE.out _ HBW.out).mono ?_
          rintro e wt ⟨rfl, hbt⟩
          have HBT := Lib.hid (HBW.out.trans (hbt.mono HBW.out.size))
          clear hbt
          go_wp2
          go_ret
          exact ⟨rfl, HBT.out⟩
        | true =>
          rw [if_pos rfl] at HPC
          by_cases hax : a = x
          · subst hax
            have haa : (a != a) = false := by simp
            by_cases hby : b = y
            · subst hby
              have hbb : (b != b) = false := by simp
              by_cases hcz : c = z
              · subst hcz
                have hcc : (c != c) = false := by simp
                rw [if_pos ⟨rfl, rfl, rfl⟩] at HPC
                as_aux_lemma =>
                  go_wp2_with (refine wpList_load_row rfl 41 _ rfl w1.heap.size rfl 41 (wrV f t n (.slice (some ⟨g, 0, none⟩) l.length cv)) (0, 0) _ HS7.out Tryz.underlying41 rfl sizeWr ?_)
                  refine (HPC.out).mono ?_
                  rintro e w8 ⟨rfl, hb8⟩
                  have hb8' := HB7.out.trans (hb8.mono HB7.out.size)
                  have hb9 := hb8'.alloc hb8'.size (.cells pk0 38)
                  have HB9 := Lib.hid (show Below wb.heap.size wb ((w8.alloc (.cells pk0 38)).setRow w8.heap.size (pkV ⟨f, t, n, false, { m with kind := k }⟩)) from below_setR hb9 hb8'.size _)
                  have HD := Lib.hid (show (w8.alloc (.cells pk0 38)).heap[w8.heap.size]? = some (.cells pk0 38 (0, 0)) from at_last _ _)
                  have HQ := Lib.hid (setRow_heap _ _ pk0 (pkV ⟨f, t, n, false, { m with kind := k }⟩) _ _ HD.out)
                  have HBW := Lib.hid (HUP.out _ HB9.out)
                  have HZ8 := Lib.hid hb8.size
                  clear hb8 hb8' hb9
                  go_upto_region 20 with (refine wpList_store_row rfl 38 _ _ rfl w8.heap.size (pkV ⟨f, t, n, false, { m with kind := k }⟩) rfl rfl 38 pk0 HD.out sizePk rfl (pkv_one _) ?_)
                  obtain ⟨w9, hw9⟩ : ∃ w9, w9 = (w8.alloc (.cells pk0 38)).setRow w8.heap.size (pkV ⟨f, t, n, false, { m with kind := k }⟩) := ⟨_, rfl⟩
                  rw [← hw9] at HB9 HQ HBW ⊢
                  clear hw9 HD
                  have hP9 := HCP.out _ HB9.out
                  have c4 := cell_of_arr hP9 4
                  have f4 := frozen_of_arr hP9 4
                  simp only [pkV, msV, preV, List.cons_append, List.nil_append, List.getElem?_toArray, List.getElem?_cons_zero, List.getElem?_cons_succ] at c4
                  have HP10 := Lib.hid (show (w9.setCell ⟨w.heap.size, 4, none⟩ (.int .u8 (k : Int))).heap[w.heap.size]? = some (.cells (pkV ⟨f, t, n, false, { m with kind := k }⟩) 38 (0, 0)) from set_heap hP9 4 _)
                  have HQ10 := Lib.hid (show (w9.setCell ⟨w.heap.size, 4, none⟩ (.int .u8 (k : Int))).heap[w8.heap.size]? = some (.cells (pkV ⟨f, t, n, false, { m with kind := k }⟩) 38 (0, 0)) from (Below.heap_setCell _ _ _ _ (by simp only; have h1 := HWS.out; have h2 := HB7.out.size; have h3 := HZ8.out; omega)).trans HQ.out)
                  have HB10 := Lib.hid (show Below w.heap.size w (w9.setCell ⟨w.heap.size, 4, none⟩ (.int .u8 (k : Int))) from HBW.out.setCell (p := ⟨w.heap.size, 4, none⟩) (Nat.le_refl _) _)
                  clear hP9
                  go_wp2_with (first | (refine wpList_load_rowG (by rfl) 38 _ rfl w8.heap.size rfl 38 (pkV ⟨f, t, n, false, { m with kind := k }⟩) (0, 0) _ HQ10.out Tryz.underlying38 rfl sizePk ?_) | (refine wpList_load_rowG (by rfl) 38 _ rfl w.heap.size rfl 38 (pkV ⟨f, t, n, false, { m with kind := k }⟩) (0, 0) _ HP10.out Tryz.underlying38 rfl sizePk ?_))
                  refine (HTE.out _ HB10.out).mono ?_
                  rintro e wt ⟨rfl, hbt⟩
                  have HBT := Lib.hid (HB10.out.trans (hbt.mono HB10.out.size))
                  clear hbt
                  go_wp2
                  go_ret
                  exact ⟨rfl, HBT.out⟩
              · rw [if_neg (fun h => hcz h.2.2)] at HPC
                have hxx : z = !c := by cases c <;> cases z <;> first | rfl | exact absurd rfl hcz
                clear hcz
                subst hxx
                go_wp2_with (refine wpList_load_row rfl 41 _ rfl w1.heap.size rfl 41 (wrV f t n (.slice (some ⟨g, 0, none⟩) l.length cv)) (0, 0) _ HS7.out Tryz.underlying41 rfl sizeWr ?_)
                refine (HPC.out).mono ?_
                rintro e w8 ⟨rfl, hb8⟩
                have hb8' := HB7.out.trans (hb8.mono HB7.out.size)
                have hb9 := hb8'.alloc hb8'.size (.cells pk0 38)
                have HB9 := Lib.hid (show Below wb.heap.size wb ((w8.alloc (.cells pk0 38)).setRow w8.heap.size (pkV Pk.zero)) from below_setR hb9 hb8'.size _)
                have HD := Lib.hid (show (w8.alloc (.cells pk0 38)).heap[w8.heap.size]? = some (.cells pk0 38 (0, 0)) from at_last _ _)
                have HQ := Lib.hid (setRow_heap _ _ pk0 (pkV Pk.zero) _ _ HD.out)
                have HBW := Lib.hid (HUP.out _ HB9.out)
                clear hb8 hb8' hb9
                go_wp2_with (refine wpList_store_row rfl 38 _ _ rfl w8.heap.size (pkV Pk.zero) rfl rfl 38 pk0 HD.out sizePk rfl (pkv_one _) ?_)
                refine (HTE.out _ HBW.out).mono ?_
                rintro e wt ⟨rfl, hbt⟩
                have HBT := Lib.hid (HBW.out.trans (hbt.mono HBW.out.size))
                clear hbt
                go_wp2
                go_ret
                exact ⟨rfl, HBT.out⟩
            · rw [if_neg (fun h => hby h.2.1)] at HPC
              have hxx : y = !b := by cases b <;> cases y <;> first | rfl | exact absurd rfl hby
              clear hby
              subst hxx
              go_wp2_with (refine wpList_load_row rfl 41 _ rfl w1.heap.size rfl 41 (wrV f t n (.slice (some ⟨g, 0, none⟩) l.length cv)) (0, 0) _ HS7.out Tryz.underlying41 rfl sizeWr ?_)
              refine (HPC.out).mono ?_
              rintro e w8 ⟨rfl, hb8⟩
              have hb8' := HB7.out.trans (hb8.mono HB7.out.size)
              have hb9 := hb8'.alloc hb8'.size (.cells pk0 38)
              have HB9 := Lib.hid (show Below wb.heap.size wb ((w8.alloc (.cells pk0 38)).setRow w8.heap.size (pkV Pk.zero)) from below_setR hb9 hb8'.size _)
              have HD := Lib.hid (show (w8.alloc (.cells pk0 38)).heap[w8.heap.size]? = some (.cells pk0 38 (0, 0)) from at_last _ _)
              have HQ := Lib.hid (setRow_heap _ _ pk0 (pkV Pk.zero) _ _ HD.out)
              have HBW := Lib.hid (HUP.out _ HB9.out)
              clear hb8 hb8' hb9
              go_wp2_with (refine wpList_store_row rfl 38 _ _ rfl w8.heap.size (pkV Pk.zero) rfl rfl 38 pk0 HD.out sizePk rfl (pkv_one _) ?_)
              refine (HTE.out _ HBW.out).mono ?_
              rintro e wt ⟨rfl, hbt⟩
              have HBT := Lib.hid (HBW.out.trans (hbt.mono HBW.out.size))
              clear hbt
              go_wp2
              go_ret
              exact ⟨rfl, HBT.out⟩
          · rw [if_neg (fun h => hax h.1)] at HPC
            have hxx : x = !a := by cases a <;> cases x <;> first | rfl | exact absurd rfl hax
            clear hax
            subst hxx
            go_wp2_with (refine wpList_load_row rfl 41 _ rfl w1.heap.size rfl 41 (wrV f t n (.slice (some ⟨g, 0, none⟩) l.length cv)) (0, 0) _ HS7.out Tryz.underlying41 rfl sizeWr ?_)
            refine (HPC.out).mono ?_
            rintro e w8 ⟨rfl, hb8⟩
            have hb8' := HB7.out.trans (hb8.mono HB7.out.size)
            have hb9 := hb8'.alloc hb8'.size (.cells pk0 38)
            have HB9 := Lib.hid (show Below wb.heap.size wb ((w8.alloc (.cells pk0 38)).setRow w8.heap.size (pkV Pk.zero)) from below_setR hb9 hb8'.size _)
            have HD := Lib.hid (show (w8.alloc (.cells pk0 38)).heap[w8.heap.size]? = some (.cells pk0 38 (0, 0)) from at_last _ _)
            have HQ := Lib.hid (setRow_heap _ _ pk0 (pkV Pk.zero) _ _ HD.out)
            have HBW := Lib.hid (HUP.out _ HB9.out)
            clear hb8 hb8' hb9
            go_wp2_with (refine wpList_store_row rfl 38 _ _ rfl w8.heap.size (pkV Pk.zero) rfl rfl 38 pk0 HD.out sizePk rfl (pkv_one _) ?_)
            refine (HTE.out _ HBW.out).mono ?_
            rintro e wt ⟨rfl, hbt⟩
            have HBT := Lib.hid (HBW.out.trans (hbt.mono HBW.out.size))
            clear hbt
            go_wp2
            go_ret
            exact ⟨rfl, HBT.out⟩
end Go.Proofs.YtjkdhdficaacaaaGreatDoor
