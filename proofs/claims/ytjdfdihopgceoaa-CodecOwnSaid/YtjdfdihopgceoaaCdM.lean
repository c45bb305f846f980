/- Contracts: legs and taxes as elements; lists of them. (Written by tools/cd-m.py.) -/
import Derived.Test.YtjdfdihopgceoaaCdE
namespace Go.Proofs.Ytjdfdihopgceoaa.Cd
open Go.RowKit Go.Shelf Go.Dk Go.Jn Go.Cod

def lgC (l : Lg) : List Value := [.int .u8 (l.c : Int), .int .u16 (l.f : Int), .int .u32 (l.w : Int)]
def txC (x : Tx) : List Value := [str x.code, .int .i64 (wrap64 (x.am : Int))]
theorem zLeg_eq : lgC zLg = zLeg := rfl
theorem zTax_eq : txC zTx = zTax := by
  have h : wrap64 ((0 : Nat) : Int) = 0 := wrap_nat 0 (by decide)
  unfold txC zTx
  simp only [h]
  rfl
theorem ec_leg : EC 56 3 7 lgC lgM (fun _ l => OkLg l) where
  len := fun _ => rfl
  one := fun x v hv => by
    simp only [lgC, List.mem_cons, List.not_mem_nil, or_false] at hv
    rcases hv with rfl | rfl | rfl <;> rfl
  call := fun m B wb rb T ty i n s cs w0 w x h ha hok hn => by
    refine (fc_leg m B wb rb T ty i n s cs w0 w [x.c, x.f, x.w] h ha ⟨rfl, fun j k v hk hv => ?_⟩ hn).mono ?_
    · match j with
      | 0 => simp at hk hv; subst hk hv; exact hok.1
      | 1 => simp at hk hv; subst hk hv; exact hok.2.1
      | 2 => simp at hk hv; subst hk hv; exact hok.2.2
      | j + 3 => simp at hk
    · rintro e w' ⟨rfl, hs⟩
      exact ⟨rfl, hs⟩
set_option maxRecDepth 100000 in
set_option maxHeartbeats 1600000 in
theorem ec_tax : EC 58 2 41 txC txM OkTx where
  len := fun _ => rfl
  one := fun x v hv => by
    simp only [txC, List.mem_cons, List.not_mem_nil, or_false] at hv
    rcases hv with rfl | rfl <;> rfl
  call := fun m B wb rb T ty i n s cs w0 w x h ha hok hn => by
    have HT := Lib.hid (text_sg h x.code (ha 0 _ rfl) hok.1 hok.2.1 (by omega))
    have HA := Lib.hid (ha 1 _ rfl)
    have HV := Lib.hid hok.2.2
    clear h ha hok
    go_enter Try.func58, Try.ntmps58
    go_wp2_with fail
    refine (HT.out).mono ?_
    rintro e w1 ⟨rfl, h1⟩
    have h2 : (cs.setIfInBounds i (str (teM m s x.code).2))[i + 1]? = some (.int .i64 (wrap64 (x.am : Int))) := by
      rw [Array.getElem?_setIfInBounds, if_neg (by omega)]; exact HA.out
    have HN := Lib.hid (fc_i64 m B wb rb T ty (i + 1) (n + 33) _ _ w0 w1 [x.am] h1 (fun j u hu => by
      match j with
      | 0 => simp only [cellsK, List.getElem?_cons_zero, Option.some.injEq] at hu; subst hu; exact h2
      | j + 1 => simp [cellsK] at hu) ⟨rfl, fun j k v hk hv => by
      match j with
      | 0 => simp at hk hv; subst hk hv; exact HV.out
      | j + 1 => simp at hk⟩ (by simp [tot, K.sz]; omega))
    clear h1 h2
    go_wp2_with fail
    refine (HN.out).mono ?_
    rintro e w2 ⟨rfl, h3⟩
    have H3 := Lib.hid h3
    clear h3
    go_wp2_with fail
    go_end0
    exact ⟨rfl, H3.out⟩
theorem elemLeg : Try.prog.elem 25 = 36 := by kernel_rfl
theorem undLeg : Try.prog.underlying 25 = some (.slice (Try.prog.elem 25)) := by rw [elemLeg]; exact Try.underlying25
theorem run_HLeg (w : World) (g L cap hi : Nat) (h : Int) (hh : h = (hi : Int)) (h1 : hi ≤ cap) :
    (Instr.sliceAt 25 (.slice (some ⟨g, 0, none⟩) L cap) none (some (.int .i64 h)) none).run Try.prog w = .ok (.slice (some ⟨g, 0, none⟩) hi cap) w := by
  subst hh
  obtain ⟨i, hi, z0, z1, z2⟩ := info_parts parLeg
  rw [run_sliceAt_slice _ _ _ _ _ _ undLeg, run_slice_h _ _ _ _ _ undLeg _ _ (by omega) (by omega), elemLeg]
  have hs : (sizeOf 36).run Try.prog w = .ok i.size w := by simp [sizeOf, typeInfo, hi]
  rw [hs, Result.andThen_ok]
  unfold sliced
  rw [Int.toNat_natCast, Nat.sub_zero, Nat.sub_zero]
  split <;> simp [Addr.add_mid]
theorem wl_HLeg {ops : Array Oper} {rest : List Oper} {a : Act} {w : World} {Q : Exit → Act → World → Prop} {dst : Tmp} {x z : Operand} {typ : TypeId} {pos : String} {after : Array Edge}
    (g L cap hi : Nat) (h : Int) (hx : a.eval x = .slice (some ⟨g, 0, none⟩) L cap) (hz : a.eval z = .int .i64 h) (hh : h = (hi : Int)) (h1 : hi ≤ cap)
    (hK : wpList Try.prog ops Q rest (a.put (some dst) (.slice (some ⟨g, 0, none⟩) hi cap)) w) : wpList Try.prog ops Q (⟨some dst, .slice 25 x none (some z) none, typ, pos, after, none⟩ :: rest) a w := by
  refine wpList_plain rfl fun K hK' => ?_
  unfold Oper.wp execOp
  simp only [hx, hz, Option.map_some, Option.map_none, Sem.run_bind, run_HLeg w g L cap hi h hh h1, Result.andThen_ok, Sem.run_pure]
  exact hK' _ _ hK
theorem elemTax : Try.prog.elem 26 = 58 := by kernel_rfl
theorem undTax : Try.prog.underlying 26 = some (.slice (Try.prog.elem 26)) := by rw [elemTax]; exact Try.underlying26
theorem run_HTax (w : World) (g L cap hi : Nat) (h : Int) (hh : h = (hi : Int)) (h1 : hi ≤ cap) :
    (Instr.sliceAt 26 (.slice (some ⟨g, 0, none⟩) L cap) none (some (.int .i64 h)) none).run Try.prog w = .ok (.slice (some ⟨g, 0, none⟩) hi cap) w := by
  subst hh
  obtain ⟨i, hi, z0, z1, z2⟩ := info_parts parTax
  rw [run_sliceAt_slice _ _ _ _ _ _ undTax, run_slice_h _ _ _ _ _ undTax _ _ (by omega) (by omega), elemTax]
  have hs : (sizeOf 58).run Try.prog w = .ok i.size w := by simp [sizeOf, typeInfo, hi]
  rw [hs, Result.andThen_ok]
  unfold sliced
  rw [Int.toNat_natCast, Nat.sub_zero, Nat.sub_zero]
  split <;> simp [Addr.add_mid]
theorem wl_HTax {ops : Array Oper} {rest : List Oper} {a : Act} {w : World} {Q : Exit → Act → World → Prop} {dst : Tmp} {x z : Operand} {typ : TypeId} {pos : String} {after : Array Edge}
    (g L cap hi : Nat) (h : Int) (hx : a.eval x = .slice (some ⟨g, 0, none⟩) L cap) (hz : a.eval z = .int .i64 h) (hh : h = (hi : Int)) (h1 : hi ≤ cap)
    (hK : wpList Try.prog ops Q rest (a.put (some dst) (.slice (some ⟨g, 0, none⟩) hi cap)) w) : wpList Try.prog ops Q (⟨some dst, .slice 26 x none (some z) none, typ, pos, after, none⟩ :: rest) a w := by
  refine wpList_plain rfl fun K hK' => ?_
  unfold Oper.wp execOp
  simp only [hx, hz, Option.map_some, Option.map_none, Sem.run_bind, run_HTax w g L cap hi h hh h1, Result.andThen_ok, Sem.run_pure]
  exact hK' _ _ hK
def LLegP (m : Bool) (B wb rb T : Nat) (ty : TypeId) (i n : Nat) (s : St) (cs : Array Value) (l : List Lg) (w0 w : World) (e : Ending) (w' : World) : Prop :=
  e = .returned (.tuple #[]) ∧ ∃ v, Sg m B wb rb T ty (n + 29) (liM m (lgM m) zLg s l).1 (cs.setIfInBounds i v) w0 w' ∧ OwnL 36 3 w.heap.size w' v (liM m (lgM m) zLg s l).2.length (flt lgC (liM m (lgM m) zLg s l).2)
set_option maxRecDepth 100000 in
set_option maxHeartbeats 6400000 in
theorem listLeg {m : Bool} {B wb rb T : Nat} {ty : TypeId} {i n : Nat} {s : St} {cs : Array Value} {w0 w : World} (h : Sg m B wb rb T ty n s cs w0 w) (l : List Lg) (p : Option Addr) (cap : Nat) (hc : cs[i]? = some (.slice p l.length cap)) (hr : RowF w (· < B) (.slice p l.length cap) l.length (flt lgC l))
    (hl : l.length ≤ 1000000) (hm : m = true ∨ l = []) (hok : ∀ x ∈ l, OkLg x) (hz : OkLg zLg) (hn : n + 29 ≤ 1000000) :
    Calls Try.prog 55 #[pt wb, .pointer (some ⟨T, i, none⟩), .int .i64 4, .func (.func 56) #[pt wb] #[]] w (LLegP m B wb rb T ty i n s cs l w0 w) := by
  have hB : B ≤ w.heap.size := Nat.le_trans h.b0 h.fr.size
  have cc := cell_of_arr h.cells i
  rw [hc] at cc
  have l0 : (0 : Int) ≤ (l.length : Int) := Int.natCast_nonneg _
  have l1 : (l.length : Int) ≤ 1000000 := by omega
  have HC := Lib.hid (count_any h.wk l.length 4 (by omega) (by decide) (by omega) hB)
  have H0 := Lib.hid h
  have HR := Lib.hid hr
  have HM := Lib.hid (show (coM m s l.length 4).2 = l.length ∨ (coM m s l.length 4).2 = 0 ∨ l = [] from by
    rcases hm with rfl | h
    · rw [coM_lay _ _ _ (by decide)]
      simp only
      split
      · exact .inl rfl
      · exact .inr (.inl rfl)
    · exact .inr (.inr h))
  have HOK := Lib.hid hok
  have HZ := Lib.hid hz
  clear h hc hr hm hok hz
  go_enter Try.func55, Try.ntmps55
  go_wp2_with fail
  refine (HC.out).mono ?_
  rintro e w1 ⟨rfl, hk1, hf1⟩
  have h0 := H0.out
  have hc1 : w1.heap[T]? = some (.cells cs ty (0, 0)) := hf1.keep T _ _ _ h0.cells h0.ty.1 (h0.wk.neT h0.cells h0.ty.2)
  obtain ⟨c, hcE⟩ : ∃ c, (coM m s l.length 4).2 = c := ⟨_, rfl⟩
  have hle : c ≤ 4 := by rw [← hcE]; exact coM_le _ _ _ _
  have HG := Lib.hid (growLeg c hle w1)
  have HK1 := Lib.hid hk1
  have HF1 := Lib.hid hf1
  have HC1 := Lib.hid hc1
  have HE := Lib.hid hcE
  have HLE := Lib.hid hle
  have c0 : (0 : Int) ≤ (c : Int) := Int.natCast_nonneg _
  have c1 : (c : Int) ≤ 4 := by omega
  rw [hcE]
  clear hk1 hf1 h0 hc1 hcE hle HC
  go_wp2_with fail
  refine (HG.out).mono ?_
  rintro e w2 (⟨rfl, rfl, rfl⟩ | ⟨hc0, gcap, arr, rfl, hcg, hg2, hat2, hsz2, hbl2⟩)
  · have hcp := run_copy_nil' (P := Try.prog) w2 25 25 3 36 p l.length cap Try.underlying25 (by kernel_rfl)
    have cc2 := cell_of_arr HC1.out i
    have ff2 := froz_of_arr HC1.out i
    have hcc := cell_of_arr H0.out.cells i
    rw [cc] at hcc
    rw [← hcc] at cc2
    clear hcc
    rw [show ((0 : Nat) : Int) = 0 from rfl]
    clear c0 c1
    go_wp2_with ((with_reducible refine wl_cpX (.slice none 0 0) (.slice p l.length cap) (goInt 0) ?_ ?_ hcp ?_); (· rfl); (· rfl))
    go_loopw [29] (fun i1 wr => i1 = .int .i64 0 ∧ w2 = wr) (fun _ _ => 0)
    case atStart => exact ⟨rfl, rfl⟩
    case round =>
      obtain ⟨rfl, rfl⟩ := hrel
      go_wp2
      go_end0
      have e : liM m (lgM m) zLg s l = ((coM m s l.length 4).1, []) := by
        unfold liM
        simp only [HE.out, List.take_zero, Nat.zero_sub, List.replicate_zero, List.append_nil, elM]
      have g := H0.out
      refine ⟨rfl, .slice none 0 0, ?_, ?_⟩
      · rw [e]
        exact ⟨(HK1.out.le (by omega) (fun _ e => e)).set (p := ⟨T, i, none⟩) g.bT _ HC1.out g.ty.2 (fun e => absurd e g.ty.1), set_heap HC1.out i _, (g.fr.trans (HF1.out.mono (fun x _ e => e.elim .inl (fun e => .inr (.inl e))))).setK (p := ⟨T, i, none⟩) (.inr (.inr rfl)) g.bT _, g.ty, g.bT, g.b0⟩
      · rw [e]; exact .inl ⟨rfl, rfl⟩
  · have hB1 : B ≤ w1.heap.size := Nat.le_trans hB HF1.out.size
    have hTl := lt_of_heap HC1.out
    have hr2 : RowF w2 (· < B) (.slice p l.length cap) l.length (flt lgC l) := HR.out.kept (fun b hb => ⟨hb, (hbl2.block b (by omega)).trans (HF1.out.low b hb)⟩)
    obtain ⟨r, w3, arr', hcp, hg3, hsz3, hat3, hf3⟩ := copy_rows (k := 3) (n := c) (dcap := gcap) Try.underlying25 (by kernel_rfl) hg2 hat2 hr2 (flt_len ec_leg.len l) (fun v hv => by
      obtain ⟨x, _, hx⟩ := List.mem_flatMap.1 hv
      exact ec_leg.one x v hx) (by
      rcases HM.out with h | h | h
      · rw [HE.out] at h; exact .inl h
      · rw [HE.out] at h; omega
      · right; rw [h]; rfl) (zs := zLeg) rfl (by rw [hsz2]; exact Nat.mul_le_mul_right _ hcg) 3
    have hgT : T ≠ w1.heap.size := Nat.ne_of_lt hTl
    have hc2 := (hbl2.block T hTl).trans HC1.out
    have hc3 := (hf3.block T (Nat.lt_of_lt_of_le hTl hbl2.size) hgT).trans hc2
    have cc2 := cell_of_arr hc2 i
    have hcc := cell_of_arr H0.out.cells i
    rw [cc] at hcc
    rw [← hcc] at cc2
    have hk2 := (HK1.out.later hB1 hbl2).le (Nat.le_refl _) (X' := NoX) (fun x e => e.elim)
    have hk3 : Wk m B wb rb NoX (n + 1) (coM m s l.length 4).1 w3 := hk2.other hB1 (fun k hk hne => by
      rcases hk with hk | hk
      · exact hf3.block k hk hne
      · exact hf3.block k (Nat.lt_of_lt_of_le (Nat.lt_of_lt_of_le hk hB1) hbl2.size) hne) (.inr ⟨_, _, _, hg2, by decide, fun e => absurd e (by decide)⟩)
    have hsg : Sg m B wb rb w1.heap.size 36 (n + 1) (coM m s l.length 4).1 arr' w3 w3 := ⟨hk3, hg3, Fr.refl _ _ _, by decide, hB1, Nat.le_trans hB1 (Nat.le_trans hbl2.size hf3.size)⟩
    have hL0 : flt lgC (l.take c ++ List.replicate (c - l.length) zLg) = flt lgC l ++ reps (c - l.length) zLeg := by
      rw [flt_append, flt_reps, zLeg_eq]
      congr 1
      congr 1
      rcases HM.out with h | h | h
      · rw [HE.out] at h; rw [h, List.take_length]
      · rw [HE.out] at h; omega
      · rw [h]; simp
    have hll : (l.take c ++ List.replicate (c - l.length) zLg).length = c := by
      rw [List.length_append, List.length_take, List.length_replicate]; omega
    have eL : liM m (lgM m) zLg s l = elM (lgM m) (coM m s l.length 4).1 (l.take c ++ List.replicate (c - l.length) zLg) := by
      unfold liM
      simp only [HE.out]
    have hok : ∀ x ∈ l.take c ++ List.replicate (c - l.length) zLg, OkLg x := fun x hx => by
      rcases List.mem_append.1 hx with h | h
      · exact HOK.out x (List.mem_of_mem_take h)
      · rw [List.eq_of_mem_replicate h]; exact HZ.out
    obtain ⟨L, hL⟩ : ∃ L, l.take c ++ List.replicate (c - l.length) zLg = L := ⟨_, rfl⟩
    rw [hL] at hL0 hll eL hok
    rw [← hL0] at hat3
    have hbg : Below w1.heap.size w1 w3 := ⟨hf3.os.trans hbl2.os, hf3.tape.trans hbl2.tape, hf3.output.trans hbl2.output, Nat.le_trans hbl2.size hf3.size, fun k hk => (hf3.block k (Nat.lt_of_lt_of_le hk hbl2.size) (by omega)).trans (hbl2.block k hk)⟩
    have G1 := Lib.hid (show LI m B wb rb w1.heap.size 36 (n + 1) 7 lgC lgM (coM m s l.length 4).1 arr' L w3 0 w3 from ⟨by simpa [elM, flt, putC] using hsg⟩)
    have G2 := Lib.hid hat3
    have G3 := Lib.hid hok
    have G4 := Lib.hid hll
    have G5 := Lib.hid eL
    have G6 := Lib.hid hc3
    have G7 := Lib.hid hbg
    have G8 := Lib.hid (And.intro hsz3 hsz2)
    have G9 := Lib.hid hgT
    have G10 := Lib.hid hTl
    have G11 := Lib.hid hcg
    have hc0i : (0 : Int) < (c : Int) := by omega
    have hcgi : (c : Int) ≤ (gcap : Int) := by omega
    clear hB1 hr2 hg3 hsz3 hat3 hf3 hc2 hc3 hcc hk2 hk3 hsg hL0 hll eL hok hL hbg hsz2 hat2 hg2 hbl2 hgT hTl HR HM HOK HZ HG hcg
    go_wp2_with (first | ((with_reducible refine wl_cpX (.slice (some ⟨w1.heap.size, 0, none⟩) c gcap) (.slice p l.length cap) r ?_ ?_ hcp ?_); (· rfl); (· rfl)) | ((with_reducible refine wl_HLeg w1.heap.size 0 gcap c (c : Int) ?_ ?_ rfl (by omega) ?_); (· rfl); (· rfl)))
    clear hcp cc2
    go_loopw [29] (fun i1 wr => ∃ j : Nat, j ≤ c ∧ i1 = .int .i64 (j : Int) ∧ Hid (LI m B wb rb w1.heap.size 36 (n + 1) 7 lgC lgM (coM m s l.length 4).1 arr' L w3 j wr)) (fun i1 _ => c - (vI i1).toNat)
    case atStart => exact ⟨0, Nat.zero_le _, rfl, G1⟩
    case round =>
      obtain ⟨j, hj, rfl, GI⟩ := hrel
      have j0 : (0 : Int) ≤ (j : Int) := Int.natCast_nonneg _
      by_cases hlt : (j : Int) < (c : Int)
      · have HN := Lib.hid (fun o ho => LI.next ec_leg GI.out (by rw [G4.out]; omega) G2.out G3.out (by omega) o ho)
        go_wp2_with fail
        refine (HN.out _ (by first | rfl | omega)).mono ?_
        rintro e w4 ⟨rfl, hg4⟩
        have HG4 := Lib.hid hg4
        clear hg4
        go_wp2_with fail
        go_roundw
        case rel => exact ⟨j + 1, by omega, rfl, HG4⟩
        case measure => simp [vI]; omega
      · obtain rfl : j = c := by omega
        have hsg := GI.out.sg
        rw [List.take_of_length_le (by rw [G4.out]; exact Nat.le_refl _)] at hsg
        have hTw : wr.heap[T]? = some (.cells cs ty (0, 0)) := hsg.fr.keep T _ _ _ G6.out H0.out.ty.1 (fun e => by
          rcases e with e | e | e
          · exact H0.out.wk.neT H0.out.cells H0.out.ty.2 (.inl e)
          · exact H0.out.wk.neT H0.out.cells H0.out.ty.2 (.inr e)
          · exact G9.out e)
        have ccw := cell_of_arr hTw i
        have ffw := froz_of_arr hTw i
        have hcc := cell_of_arr H0.out.cells i
        rw [cc] at hcc
        rw [← hcc] at ccw
        have HS := Lib.hid hsg
        have HTW := Lib.hid hTw
        clear hsg hTw hcc
        go_wp2_with fail
        go_end0
        have g := H0.out
        have hq := HS.out
        have f1 : Fr B (fun x => x = wb ∨ x = rb ∨ x = T) w0 w1 := g.fr.trans (HF1.out.mono (fun x _ e => e.elim .inl (fun e => .inr (.inl e))))
        have f2 : Fr B (fun x => x = wb ∨ x = rb ∨ x = T) w1 wr := (Fr.ofBelow G7.out (Nat.le_trans hB HF1.out.size)).trans' (hq.fr.mono (K' := fun x => x = wb ∨ x = rb ∨ x = w1.heap.size) (fun _ _ e => e)) (fun x hx e => by
          rcases e with e | e | e
          · exact .inl e
          · exact .inr (.inl e)
          · omega)
        refine ⟨rfl, .slice (some ⟨w1.heap.size, 0, none⟩) j gcap, ?_, ?_⟩
        · rw [G5.out]
          exact ⟨(hq.wk.le (by omega) (fun _ e => e)).set (p := ⟨T, i, none⟩) g.bT _ HTW.out g.ty.2 (fun e => absurd e g.ty.1), set_heap HTW.out i _, (f1.trans f2).setK (p := ⟨T, i, none⟩) (.inr (.inr rfl)) g.bT _, g.ty, g.bT, g.b0⟩
        · rw [G5.out]
          rw [show (elM (lgM m) (coM m s l.length 4).1 L).2.length = j by rw [elM_len, G4.out]]
          refine .inr ⟨w1.heap.size, gcap, _, rfl, HF1.out.size, G11.out, (Below.heap_setCell _ _ _ _ (fun e => G9.out e.symm)).trans hq.cells, ?_, ?_⟩
          · intro q u hu
            have hql := (List.getElem?_eq_some_iff.1 hu).1
            have hfl : (flt lgC (elM (lgM m) (coM m s l.length 4).1 L).2).length = j * 3 := by rw [flt_len ec_leg.len, elM_len, G4.out]
            rw [putC_in _ _ _ _ (by rw [hfl, G8.out.1, G8.out.2]; have := Nat.mul_le_mul_right 3 G11.out; omega) hql]
            exact hu
          · rw [putC_size, G8.out.1, G8.out.2]
def LTaxP (m : Bool) (B wb rb T : Nat) (ty : TypeId) (i n : Nat) (s : St) (cs : Array Value) (l : List Tx) (w0 w : World) (e : Ending) (w' : World) : Prop :=
  e = .returned (.tuple #[]) ∧ ∃ v, Sg m B wb rb T ty (n + 165) (liM m (txM m) zTx s l).1 (cs.setIfInBounds i v) w0 w' ∧ OwnL 58 2 w.heap.size w' v (liM m (txM m) zTx s l).2.length (flt txC (liM m (txM m) zTx s l).2)
set_option maxRecDepth 100000 in
set_option maxHeartbeats 6400000 in
theorem listTax {m : Bool} {B wb rb T : Nat} {ty : TypeId} {i n : Nat} {s : St} {cs : Array Value} {w0 w : World} (h : Sg m B wb rb T ty n s cs w0 w) (l : List Tx) (p : Option Addr) (cap : Nat) (hc : cs[i]? = some (.slice p l.length cap)) (hr : RowF w (· < B) (.slice p l.length cap) l.length (flt txC l))
    (hl : l.length ≤ 1000000) (hm : m = true ∨ l = []) (hok : ∀ x ∈ l, OkTx m x) (hz : OkTx m zTx) (hn : n + 165 ≤ 1000000) :
    Calls Try.prog 57 #[pt wb, .pointer (some ⟨T, i, none⟩), .int .i64 4, .func (.func 58) #[pt wb] #[]] w (LTaxP m B wb rb T ty i n s cs l w0 w) := by
  have hB : B ≤ w.heap.size := Nat.le_trans h.b0 h.fr.size
  have cc := cell_of_arr h.cells i
  rw [hc] at cc
  have l0 : (0 : Int) ≤ (l.length : Int) := Int.natCast_nonneg _
  have l1 : (l.length : Int) ≤ 1000000 := by omega
  have HC := Lib.hid (count_any h.wk l.length 4 (by omega) (by decide) (by omega) hB)
  have H0 := Lib.hid h
  have HR := Lib.hid hr
  have HM := Lib.hid (show (coM m s l.length 4).2 = l.length ∨ (coM m s l.length 4).2 = 0 ∨ l = [] from by
    rcases hm with rfl | h
    · rw [coM_lay _ _ _ (by decide)]
      simp only
      split
      · exact .inl rfl
      · exact .inr (.inl rfl)
    · exact .inr (.inr h))
  have HOK := Lib.hid hok
  have HZ := Lib.hid hz
  clear h hc hr hm hok hz
  go_enter Try.func57, Try.ntmps57
  go_wp2_with fail
  refine (HC.out).mono ?_
  rintro e w1 ⟨rfl, hk1, hf1⟩
  have h0 := H0.out
  have hc1 : w1.heap[T]? = some (.cells cs ty (0, 0)) := hf1.keep T _ _ _ h0.cells h0.ty.1 (h0.wk.neT h0.cells h0.ty.2)
  obtain ⟨c, hcE⟩ : ∃ c, (coM m s l.length 4).2 = c := ⟨_, rfl⟩
  have hle : c ≤ 4 := by rw [← hcE]; exact coM_le _ _ _ _
  have HG := Lib.hid (growTax c hle w1)
  have HK1 := Lib.hid hk1
  have HF1 := Lib.hid hf1
  have HC1 := Lib.hid hc1
  have HE := Lib.hid hcE
  have HLE := Lib.hid hle
  have c0 : (0 : Int) ≤ (c : Int) := Int.natCast_nonneg _
  have c1 : (c : Int) ≤ 4 := by omega
  rw [hcE]
  clear hk1 hf1 h0 hc1 hcE hle HC
  go_wp2_with fail
  refine (HG.out).mono ?_
  rintro e w2 (⟨rfl, rfl, rfl⟩ | ⟨hc0, gcap, arr, rfl, hcg, hg2, hat2, hsz2, hbl2⟩)
  · have hcp := run_copy_nil' (P := Try.prog) w2 26 26 3 58 p l.length cap Try.underlying26 (by kernel_rfl)
    have cc2 := cell_of_arr HC1.out i
    have ff2 := froz_of_arr HC1.out i
    have hcc := cell_of_arr H0.out.cells i
    rw [cc] at hcc
    rw [← hcc] at cc2
    clear hcc
    rw [show ((0 : Nat) : Int) = 0 from rfl]
    clear c0 c1
    go_wp2_with ((with_reducible refine wl_cpX (.slice none 0 0) (.slice p l.length cap) (goInt 0) ?_ ?_ hcp ?_); (· rfl); (· rfl))
    go_loopw [29] (fun i1 wr => i1 = .int .i64 0 ∧ w2 = wr) (fun _ _ => 0)
    case atStart => exact ⟨rfl, rfl⟩
    case round =>
      obtain ⟨rfl, rfl⟩ := hrel
      go_wp2
      go_end0
      have e : liM m (txM m) zTx s l = ((coM m s l.length 4).1, []) := by
        unfold liM
        simp only [HE.out, List.take_zero, Nat.zero_sub, List.replicate_zero, List.append_nil, elM]
      have g := H0.out
      refine ⟨rfl, .slice none 0 0, ?_, ?_⟩
      · rw [e]
        exact ⟨(HK1.out.le (by omega) (fun _ e => e)).set (p := ⟨T, i, none⟩) g.bT _ HC1.out g.ty.2 (fun e => absurd e g.ty.1), set_heap HC1.out i _, (g.fr.trans (HF1.out.mono (fun x _ e => e.elim .inl (fun e => .inr (.inl e))))).setK (p := ⟨T, i, none⟩) (.inr (.inr rfl)) g.bT _, g.ty, g.bT, g.b0⟩
      · rw [e]; exact .inl ⟨rfl, rfl⟩
  · have hB1 : B ≤ w1.heap.size := Nat.le_trans hB HF1.out.size
    have hTl := lt_of_heap HC1.out
    have hr2 : RowF w2 (· < B) (.slice p l.length cap) l.length (flt txC l) := HR.out.kept (fun b hb => ⟨hb, (hbl2.block b (by omega)).trans (HF1.out.low b hb)⟩)
    obtain ⟨r, w3, arr', hcp, hg3, hsz3, hat3, hf3⟩ := copy_rows (k := 2) (n := c) (dcap := gcap) Try.underlying26 (by kernel_rfl) hg2 hat2 hr2 (flt_len ec_tax.len l) (fun v hv => by
      obtain ⟨x, _, hx⟩ := List.mem_flatMap.1 hv
      exact ec_tax.one x v hx) (by
      rcases HM.out with h | h | h
      · rw [HE.out] at h; exact .inl h
      · rw [HE.out] at h; omega
      · right; rw [h]; rfl) (zs := zTax) rfl (by rw [hsz2]; exact Nat.mul_le_mul_right _ hcg) 3
    have hgT : T ≠ w1.heap.size := Nat.ne_of_lt hTl
    have hc2 := (hbl2.block T hTl).trans HC1.out
    have hc3 := (hf3.block T (Nat.lt_of_lt_of_le hTl hbl2.size) hgT).trans hc2
    have cc2 := cell_of_arr hc2 i
    have hcc := cell_of_arr H0.out.cells i
    rw [cc] at hcc
    rw [← hcc] at cc2
    have hk2 := (HK1.out.later hB1 hbl2).le (Nat.le_refl _) (X' := NoX) (fun x e => e.elim)
    have hk3 : Wk m B wb rb NoX (n + 1) (coM m s l.length 4).1 w3 := hk2.other hB1 (fun k hk hne => by
      rcases hk with hk | hk
      · exact hf3.block k hk hne
      · exact hf3.block k (Nat.lt_of_lt_of_le (Nat.lt_of_lt_of_le hk hB1) hbl2.size) hne) (.inr ⟨_, _, _, hg2, by decide, fun e => absurd e (by decide)⟩)
    have hsg : Sg m B wb rb w1.heap.size 58 (n + 1) (coM m s l.length 4).1 arr' w3 w3 := ⟨hk3, hg3, Fr.refl _ _ _, by decide, hB1, Nat.le_trans hB1 (Nat.le_trans hbl2.size hf3.size)⟩
    have hL0 : flt txC (l.take c ++ List.replicate (c - l.length) zTx) = flt txC l ++ reps (c - l.length) zTax := by
      rw [flt_append, flt_reps, zTax_eq]
      congr 1
      congr 1
      rcases HM.out with h | h | h
      · rw [HE.out] at h; rw [h, List.take_length]
      · rw [HE.out] at h; omega
      · rw [h]; simp
    have hll : (l.take c ++ List.replicate (c - l.length) zTx).length = c := by
      rw [List.length_append, List.length_take, List.length_replicate]; omega
    have eL : liM m (txM m) zTx s l = elM (txM m) (coM m s l.length 4).1 (l.take c ++ List.replicate (c - l.length) zTx) := by
      unfold liM
      simp only [HE.out]
    have hok : ∀ x ∈ l.take c ++ List.replicate (c - l.length) zTx, OkTx m x := fun x hx => by
      rcases List.mem_append.1 hx with h | h
      · exact HOK.out x (List.mem_of_mem_take h)
      · rw [List.eq_of_mem_replicate h]; exact HZ.out
    obtain ⟨L, hL⟩ : ∃ L, l.take c ++ List.replicate (c - l.length) zTx = L := ⟨_, rfl⟩
    rw [hL] at hL0 hll eL hok
    rw [← hL0] at hat3
    have hbg : Below w1.heap.size w1 w3 := ⟨hf3.os.trans hbl2.os, hf3.tape.trans hbl2.tape, hf3.output.trans hbl2.output, Nat.le_trans hbl2.size hf3.size, fun k hk => (hf3.block k (Nat.lt_of_lt_of_le hk hbl2.size) (by omega)).trans (hbl2.block k hk)⟩
    have G1 := Lib.hid (show LI m B wb rb w1.heap.size 58 (n + 1) 41 txC txM (coM m s l.length 4).1 arr' L w3 0 w3 from ⟨by simpa [elM, flt, putC] using hsg⟩)
    have G2 := Lib.hid hat3
    have G3 := Lib.hid hok
    have G4 := Lib.hid hll
    have G5 := Lib.hid eL
    have G6 := Lib.hid hc3
    have G7 := Lib.hid hbg
    have G8 := Lib.hid (And.intro hsz3 hsz2)
    have G9 := Lib.hid hgT
    have G10 := Lib.hid hTl
    have G11 := Lib.hid hcg
    have hc0i : (0 : Int) < (c : Int) := by omega
    have hcgi : (c : Int) ≤ (gcap : Int) := by omega
    clear hB1 hr2 hg3 hsz3 hat3 hf3 hc2 hc3 hcc hk2 hk3 hsg hL0 hll eL hok hL hbg hsz2 hat2 hg2 hbl2 hgT hTl HR HM HOK HZ HG hcg
    go_wp2_with (first | ((with_reducible refine wl_cpX (.slice (some ⟨w1.heap.size, 0, none⟩) c gcap) (.slice p l.length cap) r ?_ ?_ hcp ?_); (· rfl); (· rfl)) | ((with_reducible refine wl_HTax w1.heap.size 0 gcap c (c : Int) ?_ ?_ rfl (by omega) ?_); (· rfl); (· rfl)))
    clear hcp cc2
    go_loopw [29] (fun i1 wr => ∃ j : Nat, j ≤ c ∧ i1 = .int .i64 (j : Int) ∧ Hid (LI m B wb rb w1.heap.size 58 (n + 1) 41 txC txM (coM m s l.length 4).1 arr' L w3 j wr)) (fun i1 _ => c - (vI i1).toNat)
    case atStart => exact ⟨0, Nat.zero_le _, rfl, G1⟩
    case round =>
      obtain ⟨j, hj, rfl, GI⟩ := hrel
      have j0 : (0 : Int) ≤ (j : Int) := Int.natCast_nonneg _
      by_cases hlt : (j : Int) < (c : Int)
      · have HN := Lib.hid (fun o ho => LI.next ec_tax GI.out (by rw [G4.out]; omega) G2.out G3.out (by omega) o ho)
        go_wp2_with fail
        refine (HN.out _ (by first | rfl | omega)).mono ?_
        rintro e w4 ⟨rfl, hg4⟩
        have HG4 := Lib.hid hg4
        clear hg4
        go_wp2_with fail
        go_roundw
        case rel => exact ⟨j + 1, by omega, rfl, HG4⟩
        case measure => simp [vI]; omega
      · obtain rfl : j = c := by omega
        have hsg := GI.out.sg
        rw [List.take_of_length_le (by rw [G4.out]; exact Nat.le_refl _)] at hsg
        have hTw : wr.heap[T]? = some (.cells cs ty (0, 0)) := hsg.fr.keep T _ _ _ G6.out H0.out.ty.1 (fun e => by
          rcases e with e | e | e
          · exact H0.out.wk.neT H0.out.cells H0.out.ty.2 (.inl e)
          · exact H0.out.wk.neT H0.out.cells H0.out.ty.2 (.inr e)
          · exact G9.out e)
        have ccw := cell_of_arr hTw i
        have ffw := froz_of_arr hTw i
        have hcc := cell_of_arr H0.out.cells i
        rw [cc] at hcc
        rw [← hcc] at ccw
        have HS := Lib.hid hsg
        have HTW := Lib.hid hTw
        clear hsg hTw hcc
        go_wp2_with fail
        go_end0
        have g := H0.out
        have hq := HS.out
        have f1 : Fr B (fun x => x = wb ∨ x = rb ∨ x = T) w0 w1 := g.fr.trans (HF1.out.mono (fun x _ e => e.elim .inl (fun e => .inr (.inl e))))
        have f2 : Fr B (fun x => x = wb ∨ x = rb ∨ x = T) w1 wr := (Fr.ofBelow G7.out (Nat.le_trans hB HF1.out.size)).trans' (hq.fr.mono (K' := fun x => x = wb ∨ x = rb ∨ x = w1.heap.size) (fun _ _ e => e)) (fun x hx e => by
          rcases e with e | e | e
          · exact .inl e
          · exact .inr (.inl e)
          · omega)
        refine ⟨rfl, .slice (some ⟨w1.heap.size, 0, none⟩) j gcap, ?_, ?_⟩
        · rw [G5.out]
          exact ⟨(hq.wk.le (by omega) (fun _ e => e)).set (p := ⟨T, i, none⟩) g.bT _ HTW.out g.ty.2 (fun e => absurd e g.ty.1), set_heap HTW.out i _, (f1.trans f2).setK (p := ⟨T, i, none⟩) (.inr (.inr rfl)) g.bT _, g.ty, g.bT, g.b0⟩
        · rw [G5.out]
          rw [show (elM (txM m) (coM m s l.length 4).1 L).2.length = j by rw [elM_len, G4.out]]
          refine .inr ⟨w1.heap.size, gcap, _, rfl, HF1.out.size, G11.out, (Below.heap_setCell _ _ _ _ (fun e => G9.out e.symm)).trans hq.cells, ?_, ?_⟩
          · intro q u hu
            have hql := (List.getElem?_eq_some_iff.1 hu).1
            have hfl : (flt txC (elM (txM m) (coM m s l.length 4).1 L).2).length = j * 2 := by rw [flt_len ec_tax.len, elM_len, G4.out]
            rw [putC_in _ _ _ _ (by rw [hfl, G8.out.1, G8.out.2]; have := Nat.mul_le_mul_right 2 G11.out; omega) hql]
            exact hu
          · rw [putC_size, G8.out.1, G8.out.2]
end Go.Proofs.Ytjdfdihopgceoaa.Cd
