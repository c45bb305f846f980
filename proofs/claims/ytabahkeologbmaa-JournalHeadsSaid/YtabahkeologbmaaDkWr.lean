/- Contract of Write. -/
import Derived.Test.YtabahkeologbmaaDkL
import Derived.Test.YtabahkeologbmaaDkQ
namespace Go.Proofs.Ytabahkeologbmaa.Dk
open Go.RowKit Go.Shelf Go.Dk Go.Sha
open Go.Maps (Keyed)
attribute [local go_sem] Oper.semAt_some

/-- pieces laid into the map one by one -/
def wtP (wt : Nat → Option By) (a : Nat) (b : By) (l : List Nat) : Nat → Option By := (l.foldl (fun (q : Nat × (Nat → Option By)) x => (q.1 + 1, upd q.2 (a + q.1) (some (chunk b x)))) (0, wt)).2
theorem wtP_cnt (wt : Nat → Option By) (a : Nat) (b : By) (l : List Nat) : (l.foldl (fun (q : Nat × (Nat → Option By)) x => (q.1 + 1, upd q.2 (a + q.1) (some (chunk b x)))) (0, wt)).1 = l.length := by
  have : ∀ (l : List Nat) (c : Nat) (g : Nat → Option By), (l.foldl (fun (q : Nat × (Nat → Option By)) x => (q.1 + 1, upd q.2 (a + q.1) (some (chunk b x)))) (c, g)).1 = c + l.length := by
    intro l
    induction l with
    | nil => intro c g; rfl
    | cons p l ih => intro c g; rw [List.foldl_cons, ih, List.length_cons]; omega
  rw [this, Nat.zero_add]
theorem wtP_snoc (wt : Nat → Option By) (a : Nat) (b : By) (l : List Nat) (x : Nat) : wtP wt a b (l ++ [x]) = upd (wtP wt a b l) (a + l.length) (some (chunk b x)) := by
  unfold wtP
  rw [List.foldl_append, List.foldl_cons, List.foldl_nil, wtP_cnt]
theorem wtP_pcs (wt : Nat → Option By) (a : Nat) (b : By) (m : Nat) : ∀ k, k ≤ m → wtP wt a b ((pcs m k).map (·.1)) = wtW wt a b k
  | 0, _ => (wtW_zero wt a b).symm
  | k + 1, h => by
    rw [pcs_succ (show k < m by omega), List.map_append, List.map_cons, List.map_nil, wtP_snoc, List.length_map, pcs_len (by omega), wtP_pcs wt a b m k (by omega)]
    exact wtW_succ wt a b k
/-- between two rounds -/
structure WrI' (B D M n a m : Nat) (vs : Array Value) (wt : Nat → Option By) (F : Nat → Prop) (v : Value) (b : By) (pre : List (Pc m)) (W : World) : Prop where
  c0 : W.heap[B]? = some (.cells #[pD D] 24 (0, 0))
  c1 : W.heap[B + 1]? = some (.cells #[.int .i64 ((a + pre.length : Nat) : Int)] 3 (0, 0))
  cd : W.heap[D]? = some (.cells vs 55 (0, 0))
  mp : MpAt W M n (wtP wt a b (pre.map (·.1)))
  bs : BysF W F v b
def WrI (B D M n a m : Nat) (vs : Array Value) (wt : Nat → Option By) (F : Nat → Prop) (v : Value) (b : By) (w1 : World) (pre : List (Pc m)) (W : World) : Prop := WrI' B D M n a m vs wt F v b pre W ∧ Frq (fun k => k = M ∨ k = B + 1) w1 W
theorem wrI_own {B D M n a m : Nat} {vs : Array Value} {wt : Nat → Option By} {F : Nat → Prop} {v : Value} {b : By} {w1 : World} {B0 : Nat} (hM : M < B0) (hF : ∀ x, F x → x < B0) (h1 : w1.heap.size ≤ B0) : OwnFrom B0 (WrI B D M n a m vs wt F v b w1) := by
  refine OwnFrom.and (fun s W W' row hs hg hr => ?_) (frq_own h1)
  refine ⟨cells_kept hs.c0 hg hr, cells_kept hs.c1 hg hr, cells_kept hs.cd hg hr, hs.mp.heap (hg.block _ hs.mp.lt (fun e => by have := (hr _ e.symm).1; omega)), ?_⟩
  obtain ⟨p, cap, e1, e2, e3⟩ := hs.bs
  refine ⟨p, cap, e1, e2, fun h0 => ?_⟩
  obtain ⟨x, o, e4, e5, e6⟩ := e3 h0
  refine ⟨x, o, e4, e5, fun j u hu => ?_⟩
  have hc := e6 j u hu
  have hx : x < W.heap.size := by
    unfold World.cell? at hc
    cases hh : W.heap[x]? with
    | none => simp [hh] at hc
    | some ob => exact lt_of_heap hh
  exact (World.cell?_of_block (a := ⟨x, o + j, none⟩) (hg.block _ hx (fun e => by have h1 := (hr _ e.symm).1; have := hF x e5; dsimp only at h1; omega))).trans hc
def wrX (B1 B2 : Nat) (b : Nat) : Prop := ¬ (b = B1 ∨ b = B2)
def WriteP (D L M a : Nat) (b : By) (d : Dk) (w : World) (e : Ending) (w' : World) : Prop := e = .returned (.int .i64 0) ∧ DkAt w' D L M (d.burn.wrote a b) ∧ Frq (fun k => k = D ∨ k = M) w w'
set_option maxRecDepth 100000 in
set_option maxHeartbeats 2000000 in
theorem write_any {D L M : Nat} {d : Dk} {w : World} (h : DkAt w D L M d) (hd : d.dead = false) (hf : d.fuse ≠ 0) (a m : Nat) (ham : a + m ≤ d.n) (b : By) (v : Value) (F : Nat → Prop) (hb : b.length = 64 * m) (hv : BysF w F v b) (hF : ∀ x, F x → x < w.heap.size ∧ x ≠ D ∧ x ≠ M) :
    Calls Try.prog 23 #[pD D, .int .i64 (a : Int), v] w (WriteP D L M a b d w) := by
  have hn2 := h.ok.n2
  have c2 := h.c2
  rw [hd] at c2
  obtain ⟨wb, hwb⟩ : ∃ wb, (w.alloc (.cells #[pD D] 24)).alloc (.cells #[.int .i64 (a : Int)] 3) = wb := ⟨_, rfl⟩
  have hbb : Below w.heap.size w wb := by rw [← hwb]; exact ((Below.refl _ w).alloc (Nat.le_refl _) _).alloc (by simp) _
  have hdb := h.below hbb h.ltD h.ltL h.ltM
  have HH := Lib.hid (has_any hdb (a : Int) (m : Int) (by
    have e1 : IntKind.i64.min = -9223372036854775808 := rfl
    have e2 : IntKind.i64.max = 9223372036854775807 := rfl
    simp only [Lit.wf, e1, e2, Bool.and_eq_true, decide_eq_true_eq]
    omega))
  rw [has_true (by omega) (by omega) (by omega)] at HH
  have HBu := Lib.hid (burn_any hdb)
  obtain ⟨p, cap, rfl, hcap, hp⟩ := hv
  have HD := Lib.hid h
  have HV := Lib.hid (show BysF w F (.slice p b.length cap) b from ⟨p, cap, rfl, hcap, hp⟩)
  rw [hb] at hcap ⊢
  have l0 : (0 : Int) ≤ ((64 * m : Nat) : Int) := Int.natCast_nonneg _
  have l1 : ((64 * m : Nat) : Int) ≤ 262144 := by omega
  have l2 : ((64 * m : Nat) : Int) % 64 = 0 := by omega
  have l3 : ((64 * m : Nat) : Int) / 64 = (m : Int) := by omega
  have k0 : wb.heap[w.heap.size]? = some (.cells #[pD D] 24 (0, 0)) := by rw [← hwb]; exact (heap_prev _ _ _ (by simp)).trans (heap_last _ _ _ rfl)
  have k1 : wb.heap[w.heap.size + 1]? = some (.cells #[.int .i64 (a : Int)] 3 (0, 0)) := by rw [← hwb]; exact heap_last _ _ _ (by simp)
  have cb0 : wb.cell? ⟨w.heap.size, 0, none⟩ = some (pD D) := cell_of_arr k0 0
  have cb1 : wb.cell? ⟨w.heap.size + 1, 0, none⟩ = some (.int .i64 (a : Int)) := cell_of_arr k1 0
  have c2b : wb.cell? ⟨D, 2, none⟩ = some (.bool false) := by have := hdb.c2; rw [hd] at this; exact this
  have hbo : d.burnOk = true := by unfold Dk.burnOk; simp [hf]
  have hsz : wb.heap.size = w.heap.size + 2 := by rw [← hwb]; simp
  have HK0 := Lib.hid k0
  have HK1 := Lib.hid k1
  have HBB := Lib.hid hbb
  have HF := Lib.hid hF
  have HP := Lib.hid hp
  have HSZ := Lib.hid hsz
  have hBu := HBu.out
  unfold BurnP at hBu
  rw [hbo] at hBu
  have HBu := Lib.hid hBu
  clear h hd hdb hp k0 k1 hbo hbb hF hsz hf hBu c2
  refine (callsIn_wide (n := 5)).1 ?_
  refine callsIn_of_wp_marks Try.func23 rfl trivial ?_ rfl
  simp only [Try.ntmps23, List.size_toArray, List.length_cons, List.length_nil, Nat.reduceAdd, Nat.reduceSub, Array.replicate_succ, Array.replicate_zero, List.push_toArray, List.append_toArray, List.nil_append, List.cons_append]
  gi_wp2_with first
    | (refine ⟨trivial, ?_⟩; gi_at_call 40; refine (callsIn_wide.2 HH.out).mono ?_; rintro e w' ⟨rfl, rfl⟩)
    | (refine ⟨trivial, ?_⟩; gi_at_call 42; refine (callsIn_wide.2 HBu.out).mono ?_; rintro e w1 ⟨rfl, hd1, hf1⟩)
    | (refine ⟨trivial, ?_⟩; gi_at_call 43; refine (chunk_in Fence.wide _ trivial rfl p (64 * m) cap _).mono ?_; rintro e w2 ⟨rfl, rfl⟩)
  obtain ⟨xb, xo, hxp⟩ : ∃ xb xo, 0 < m → p = some ⟨xb, xo, none⟩ := by
    by_cases h0 : 0 < m
    · obtain ⟨xb, xo, e, _⟩ := HP.out (by omega)
      exact ⟨xb, xo, fun _ => e⟩
    · exact ⟨0, 0, fun h => absurd h h0⟩
  have hD1 := HD.out.ltD
  have hM1 := HD.out.ltM
  have hL1 := HD.out.ltL
  have hDM := HD.out.nDM
  have hw1 : w.heap.size + 2 ≤ w1.heap.size := by have := hf1.size; have := HSZ.out; omega
  have hdd := hd1.hd
  have hmm := hd1.hm
  have hll := hd1.hl
  rw [burn_n, burn_wt] at hmm
  rw [burn_n] at hdd
  have hcb := chW_below (.slice p (64 * m) cap) w1
  have hcs := chW_size (.slice p (64 * m) cap) w1
  have hI0 : WrI w.heap.size D M d.n a m #[.slice (some ⟨L, 0, none⟩) d.n d.n, .map (some M), .bool d.burn.dead, .int .i64 d.burn.fuse] d.wt F (.slice p b.length cap) b w1 [] (chW (.slice p (64 * m) cap) w1) :=
    ⟨⟨(hcb.block _ (by omega)).trans ((hf1.block _ (by have := HSZ.out; omega) (by omega)).trans HK0.out), (hcb.block _ (by omega)).trans ((hf1.block _ (by have := HSZ.out; omega) (by omega)).trans HK1.out), (hcb.block _ (by omega)).trans hdd, hmm.heap (hcb.block _ hmm.lt),
      HV.out.kept (fun x hx => ⟨hx, (hcb.block _ (by have := (HF.out x hx).1; omega)).trans ((hf1.block _ (by have := (HF.out x hx).1; have := HSZ.out; omega) (HF.out x hx).2.1).trans (HBB.out.block _ (HF.out x hx).1))⟩)⟩, Frq.ofBelow hcb⟩
  have HDD := Lib.hid hdd
  have HLL := Lib.hid hll
  have HF1 := Lib.hid hf1
  have HO1 := Lib.hid hd1.ok
  clear hdd hmm hll hf1 hd1 hwb cb0 cb1 c2b HH HBu
  refine wpIn_rangeFunc_ownH rfl (by omega) (gf := 61) (lb := #[.pointer (some ⟨w1.heap.size, 0, none⟩), .pointer (some ⟨w1.heap.size + 1, 0, none⟩)]) rfl trivial (enters_of Try.func61 (by kernel_rfl) rfl)
    (chunk_stops Fence.wide _ trivial rfl (by omega) (wrX w1.heap.size (w1.heap.size + 1)) 0 w1.heap.size (w1.heap.size + 1) p xb xo m cap hxp hcap (by omega) (by simp [wrX]) (chW (.slice p (64 * m) cap) w1) (chW_E _ _))
    kpX_t (kpX_b (by omega)) (Below.refl _ _) (fun _ => rfl)
    (WrI w.heap.size D M d.n a m #[.slice (some ⟨L, 0, none⟩) d.n d.n, .map (some M), .bool d.burn.dead, .int .i64 d.burn.fuse] d.wt F (.slice p b.length cap) b w1) (fun _ _ _ => False) (wrI_own (by omega) (fun x hx => by have := (HF.out x hx).1; omega) (by omega)) (fun _ _ _ _ _ hs _ _ => hs) hI0
    (fun x a' _ => a' = { tmps := #[pD D, Value.int IntKind.i64 a, Value.slice p (64 * m) cap,
          Value.pointer (some { block := w.heap.size, off := 0 }),
          Value.pointer (some { block := w.heap.size + 1, off := 0 }), undef, Value.int IntKind.i64 0, .slice (some ⟨xb, xo + 64 * x.1, none⟩) 64 64,
          Value.bool false, pD D, Value.bool false, Value.bool false, pD D,
          Value.pointer (some { block := D, off := 0 }), Value.pointer (some { block := D, off := 2 }),
          Value.bool false, Value.bool false, Value.slice p (64 * m) cap, Value.int IntKind.i64 (64 * m),
          Value.int IntKind.i64 0, Value.bool false, Value.bool false, pD D, Value.int IntKind.i64 a,
          Value.slice p (64 * m) cap, Value.int IntKind.i64 (64 * m), Value.int IntKind.i64 m, Value.bool true,
          Value.bool false, Value.bool false, Value.bool false, pD D, Value.bool true, Value.bool false,
          Value.slice p (64 * m) cap,
          Value.func (Fn.func 61) #[]
            #[Value.pointer (some { block := w1.heap.size, off := 0 }),
              Value.pointer (some { block := w1.heap.size + 1, off := 0 })],
          .slice (some ⟨xb, xo + 64 * x.1, none⟩) 64 64, undef, undef, undef, undef, undef, undef, undef, undef, undef], defers := [] })
    (fun x a' s W W' row hs hg hr => hs) ?assign ?body ?done ?stop
  case assign =>
    intro l pre x W K hI hK
    gi_wp2
    exact hK _ _ (KeepsFrom.refl _ _) (kpX_frq (Frq.refl _ _)) hI rfl
  case body =>
    rintro l pre x a' W hl hr ⟨hI, hFr⟩ rfl hlen
    have hx64 : 64 * (x.1 + 1) ≤ b.length := by have := x.2; omega
    have hcl := chunk_len hx64
    have hWs : w1.heap.size ≤ W.heap.size := hFr.size
    obtain ⟨p2, cap2, e1, e2, e3⟩ := hI.bs
    obtain ⟨xb2, xo2, e4, hFx, e6⟩ := e3 (by have := x.2; omega)
    simp only [Value.slice.injEq] at e1
    obtain ⟨rfl, _, rfl⟩ := e1
    have e7 := hxp (by have := x.2; omega)
    rw [e4] at e7
    simp only [Option.some.injEq, Addr.mk.injEq, and_true] at e7
    obtain ⟨rfl, rfl⟩ := e7
    subst e4
    have HBS := Lib.hid (show ∀ w3, Frq (· = M) W.drew w3 → BysF w3 (fun y => y < w3.heap.size) (.slice (some ⟨xb2, xo2 + 64 * x.1, none⟩) 64 64) (chunk b x.1) from fun w3 h3 => by
      have hx1 := (HF.out xb2 hFx)
      have hkeep : w3.heap[xb2]? = W.heap[xb2]? := h3.block xb2 (by show xb2 < W.heap.size; omega) hx1.2.2
      refine ⟨_, _, by rw [hcl], by rw [hcl]; exact Nat.le_refl _, fun _ => ⟨xb2, xo2 + 64 * x.1, rfl, by have := h3.size; show xb2 < w3.heap.size; have : W.drew.heap.size = W.heap.size := rfl; omega, fun j u hu => ?_⟩⟩
      have hu2 : (Lib.byteCells b)[64 * x.1 + j]? = some u := by
        have hj : j < 64 := by have := (List.getElem?_eq_some_iff.1 hu).1; rw [byl_len, hcl] at this; exact this
        unfold chunk at hu
        rw [← byl_take, ← byl_drop, List.getElem?_take, if_pos hj, List.getElem?_drop] at hu
        exact hu
      rw [Nat.add_assoc]
      exact (World.cell?_of_block (a := ⟨xb2, xo2 + (64 * x.1 + j), none⟩) hkeep).trans (e6 _ _ hu2))
    have hB0 : w.heap.size < W.heap.size := by omega
    have R0 : ∀ w3, Frq (· = M) W.drew w3 → w3.cell? ⟨w.heap.size, 0, none⟩ = some (pD D) := fun w3 h3 => cell_of_arr ((h3.block _ hB0 (by omega)).trans hI.c0) 0
    obtain ⟨i, hii⟩ : ∃ i, a + pre.length = i := ⟨_, rfl⟩
    have R1 : ∀ w3, Frq (· = M) W.drew w3 → w3.heap[w.heap.size + 1]? = some (.cells #[.int .i64 (i : Int)] 3 (0, 0)) := fun w3 h3 => (h3.block _ (show w.heap.size + 1 < W.heap.size by omega) (by omega)).trans (by rw [← hii]; exact hI.c1)
    have R2 : ∀ w3, Frq (· = M) W.drew w3 → w3.cell? ⟨D, 1, none⟩ = some (.map (some M)) := fun w3 h3 => cell_of_arr ((h3.block _ (show D < W.heap.size by omega) hDM).trans hI.cd) 1
    have hin : i < d.n := by omega
    have HII2 := Lib.hid hii
    have HR0 := Lib.hid R0
    have HR1 := Lib.hid R1
    have HR2 := Lib.hid R2
    have HIM := Lib.hid hI.mp
    have HII := Lib.hid hI
    have HFR := Lib.hid hFr
    have HX := Lib.hid hx64
    have HCL := Lib.hid hcl
    have hS0 : Frq (· = M) W.drew W.drew := Frq.refl _ _
    clear hii R0 R1 R2 hI hFr hx64 hcl e2 e3 e6 hFx hI0 hcb HP
    gi_wp2
    refine region_round (S := Frq (· = M) W.drew) (by kernel_rfl) (by kernel_rfl) (fun ⟨_, _, h⟩ => h) ?_
    refine tkH (i := 0) (oi := ⟨some 37, .load 24 (.tmp 3), _, _, _, none⟩) (pD D) rfl (by kernel_rfl) (fun _ _ _ h => h) (yH rfl (fun w3 h3 => by have q := HR0.out w3 h3; go_simp)) hS0 ?_
    simp only [Act.put, s1, s2, s3]
    refine tkH (i := 1) (oi := ⟨some 38, .nilCheck (.tmp 37), _, _, _, none⟩) (pD D) rfl (by kernel_rfl) (fun _ _ _ h => h) (yH rfl (fun w3 h3 => by go_simp)) hS0 ?_
    simp only [Act.put, s1, s2, s3]
    refine tkH (i := 2) (oi := ⟨some 39, .fieldAddr 55 (.tmp 38) 1, _, _, _, none⟩) (.pointer (some ⟨D, 1, none⟩)) rfl (by kernel_rfl) (fun _ _ _ h => h) (yH rfl (fun w3 h3 => by go_simp)) hS0 ?_
    simp only [Act.put, s1, s2, s3]
    refine tkH (i := 3) (oi := ⟨some 40, .load 53 (.tmp 39), _, _, _, none⟩) (.map (some M)) rfl (by kernel_rfl) (fun _ _ _ h => h) (yH rfl (fun w3 h3 => by have q := HR2.out w3 h3; go_simp)) hS0 ?_
    simp only [Act.put, s1, s2, s3]
    refine tkH (i := 4) (oi := ⟨some 41, .load 3 (.tmp 4), _, _, _, none⟩) (.int .i64 (i : Int)) rfl (by kernel_rfl) (fun _ _ _ h => h) (yH rfl (fun w3 h3 => by have q : w3.cell? ⟨w.heap.size + 1, 0, none⟩ = some (.int .i64 (i : Int)) := cell_of_arr (HR1.out w3 h3) 0; go_simp)) hS0 ?_
    simp only [Act.put, s1, s2, s3]
    refine tkH (i := 5) (oi := ⟨some 42, .move (.tmp 7), _, _, _, none⟩) (.slice (some ⟨xb2, xo2 + 64 * x.1, none⟩) 64 64) rfl (by kernel_rfl) (fun _ _ _ h => h) (yH rfl (fun w3 h3 => by go_simp)) hS0 ?_
    simp only [Act.put, s1, s2, s3]
    refine rdH (i := 6) (o := ⟨some 43, .call ⟨.value (.func 44), #[.tmp 42], _⟩, _, _, _, none⟩) (by kernel_rfl) rfl (fun K' hK => ?_)
    go_simp
    refine (sectorOf_any (chunk b x.1) _ (fun y => y < W.drew.heap.size) W.drew HCL.out (fun _ h => h) (HBS.out _ hS0)).mono ?_
    rintro e w3 ⟨rfl, hb3⟩
    have hS3 : Frq (· = M) W.drew w3 := Frq.ofBelow hb3
    refine hK.out _ _ hS3 (fun _ => ?_)
    clear hK K'
    try (simp only [Act.put, s1, s2, s3])
    obtain ⟨w4, hr4, ho4, ht4⟩ := World.ownsMap.store (w := w3) (HIM.out.heap (hb3.block M (by show M < W.heap.size; omega))) KInt Try.underlying53 (by unfold maxLen; omega) (keyI (hin) hn2) (show RV (.agg (bc (chunk b x.1))) = some (.held (.agg (bc (chunk b x.1))), []) from rfl)
    have hmp4 := MpAt.put (hin) ho4
    have hg4 := ht4.grown
    have hS4 : Frq (· = M) W.drew w4 := hS3.grown hg4 (fun k e => by cases e; exact .inl rfl)
    have HMP4 := Lib.hid hmp4
    have HS4 := Lib.hid hS4
    clear ho4 ht4 hg4 hmp4 hS4
    refine rdH (i := 7) (o := ⟨none, .mapUpdate 53 (.tmp 40) (.tmp 41) (.tmp 43), _, _, _, none⟩) (by kernel_rfl) rfl (fun K' hK => ?_)
    go_simp
    refine hK.out _ _ HS4.out (fun _ => ?_)
    clear hK K'
    refine wpAnyH_done (by kernel_rfl) ?_ _
    have c4 : w4.cell? ⟨w.heap.size + 1, 0, none⟩ = some (.int .i64 (i : Int)) := cell_of_arr (HR1.out w4 HS4.out) 0
    have f4 : w4.frozen? ⟨w.heap.size + 1, 0, none⟩ = false := froz_of_arr (HR1.out w4 HS4.out) 0
    have hi0 : (0 : Int) ≤ (i : Int) := Int.natCast_nonneg _
    have hi1 : (i : Int) ≤ 4096 := by omega
    gi_wp2
    have hI := HII.out
    have hii := HII2.out
    have h4 := HS4.out
    have hF5 : Frq (fun k => k = M ∨ k = w.heap.size + 1) W (w4.setCell ⟨w.heap.size + 1, 0, none⟩ (.int .i64 ((i : Int) + 1))) :=
      Frq.setCell (G := fun k => k = M ∨ k = w.heap.size + 1) (p := ⟨w.heap.size + 1, 0, none⟩) (show Frq (fun k => k = M ∨ k = w.heap.size + 1) W w4 from ⟨h4.os, h4.tape, h4.output, h4.size, fun k hk hg => h4.block k hk (fun e => hg (Or.inl e))⟩) (Or.inl (Or.inr rfl)) _
    refine ⟨⟨hF5.size, fun k o hk ho _ => (hF5.block k (lt_of_heap ho) (by rw [hcs] at hk; omega)).trans ho⟩, kpX_of hF5.size (fun y hy hyl => hF5.block y hyl (by unfold wrX at hy; rw [Classical.not_not] at hy; omega)), ⟨?_, ?_, ?_, ?_, ?_⟩, HFR.out.trans hF5⟩
    · exact (hF5.block _ (lt_of_heap hI.c0) (by omega)).trans hI.c0
    · rw [set_heap (HR1.out w4 h4), List.length_append, List.length_singleton, show ((a + (pre.length + 1) : Nat) : Int) = (i : Int) + 1 by omega]; rfl
    · exact (hF5.block _ (lt_of_heap hI.cd) (by omega)).trans hI.cd
    · rw [List.map_append, List.map_cons, List.map_nil, wtP_snoc, List.length_map, hii]
      exact HMP4.out.heap (Below.heap_setCell _ _ _ _ (show M ≠ w.heap.size + 1 by omega))
    · exact hI.bs.kept (fun y hy => ⟨hy, hF5.block y (by have := (HF.out y hy).1; omega) (by have := HF.out y hy; omega)⟩)
  case done =>
    rintro E ys W hD rfl ⟨hI, hFr⟩ hK
    gi_wp2
    refine ⟨by simp, .inl ⟨_, _, rfl, run_takeDeferred hK, ?_⟩⟩
    have hE1 : w1.heap.size + 2 ≤ E := by rw [hcs] at hD; omega
    have hwtm : wtP d.wt a b ((pcs m m).map (·.1)) = wtW d.wt a b (b.length / 64) := by rw [wtP_pcs _ _ _ _ _ (Nat.le_refl _), hb]; congr 1; omega
    have hmp := hI.mp
    rw [hwtm] at hmp
    have f2 : Frq (fun k => k = D ∨ k = M) w w1 := Frq.trans (Frq.ofBelow HBB.out) (HF1.out.mono (fun k h => .inl h))
    have f3 : Frq (fun k => k = D ∨ k = M) w W := f2.trans' (n := w.heap.size) (hFr.mono (fun k h => h.elim (fun e => .inl (.inr e)) (fun e => .inr (by omega)))) (Nat.le_refl _)
    have hL : W.heap[L]? = w1.heap[L]? := hFr.block L (lt_of_heap HLL.out) (by have := HD.out.nLM; omega)
    have ok := HO1.out
    refine ⟨_, results_tmp rfl _ _ _, rfl, ⟨⟨ok.n1, ok.n2, ok.la, ?_, ok.f1, ok.f2⟩, ?_, ?_, ?_, HD.out.ne⟩, f3.grown (grownBy_putObj' W E _) (fun k e => by cases e; right; omega)⟩
    · show ∀ i s, wtW d.burn.wt a b (b.length / 64) i = some s → i < d.burn.n ∧ s.length = 64
      rw [burn_n, burn_wt]
      exact wtW_ok HD.out.ok.wt (by omega) (by omega)
    · refine (World.putObj_heap_other (by omega)).trans (hI.cd.trans ?_)
      show _ = some (Obj.cells #[.slice (some ⟨L, 0, none⟩) d.burn.n d.burn.n, .map (some M), .bool d.burn.dead, .int .i64 d.burn.fuse] 55 (0, 0))
      rw [burn_n]
    · exact (World.putObj_heap_other (by omega)).trans (hL.trans HLL.out)
    · show MpAt _ M d.burn.n (wtW d.burn.wt a b (b.length / 64))
      rw [burn_n, burn_wt]
      exact hmp.heap (World.putObj_heap_other (by omega))
  case stop =>
    rintro E c pre W _ _ h _
    exact h.elim
/-- an error, and nothing is done -/
def WErr (n : Int) (w : World) (e : Ending) (w' : World) : Prop := e = .returned (.int .i64 n) ∧ Below w.heap.size w w'
set_option maxRecDepth 100000 in
theorem write_nil (a : Int) (p : Option Addr) (L cap : Nat) (w : World) : Calls Try.prog 23 #[.pointer none, .int .i64 a, .slice p L cap] w (WErr 8 w) := by
  refine (callsIn_wide (n := 5)).1 ?_
  refine callsIn_of_wp_marks Try.func23 rfl trivial ?_ rfl
  simp only [Try.ntmps23, List.size_toArray, List.length_cons, List.length_nil, Nat.reduceAdd, Nat.reduceSub, Array.replicate_succ, Array.replicate_zero, List.push_toArray, List.append_toArray, List.nil_append, List.cons_append]
  gi_wp2
  exact ⟨_, results_tmp rfl _ _ _, rfl, ((Below.refl _ w).alloc (Nat.le_refl _) _).alloc (by simp) _⟩
set_option maxRecDepth 100000 in
theorem write_dead {D L M : Nat} {d : Dk} {w : World} (h : DkAt w D L M d) (hd : d.dead = true) (a : Int) (p : Option Addr) (n cap : Nat) : Calls Try.prog 23 #[pD D, .int .i64 a, .slice p n cap] w (WErr 120 w) := by
  have hbb : Below w.heap.size w ((w.alloc (.cells #[pD D] 24)).alloc (.cells #[.int .i64 a] 3)) := ((Below.refl _ w).alloc (Nat.le_refl _) _).alloc (by simp) _
  have c2 := (h.below hbb h.ltD h.ltL h.ltM).c2
  rw [hd] at c2
  have HB := Lib.hid hbb
  clear h hd hbb
  refine (callsIn_wide (n := 5)).1 ?_
  refine callsIn_of_wp_marks Try.func23 rfl trivial ?_ rfl
  simp only [Try.ntmps23, List.size_toArray, List.length_cons, List.length_nil, Nat.reduceAdd, Nat.reduceSub, Array.replicate_succ, Array.replicate_zero, List.push_toArray, List.append_toArray, List.nil_append, List.cons_append]
  gi_wp2
  exact ⟨_, results_tmp rfl _ _ _, rfl, HB.out⟩
set_option maxRecDepth 100000 in
theorem write_odd {D L M : Nat} {d : Dk} {w : World} (h : DkAt w D L M d) (hd : d.dead = false) (a : Int) (p : Option Addr) (n cap : Nat) (hn : n ≤ 1000000) (ho : n % 64 ≠ 0) : Calls Try.prog 23 #[pD D, .int .i64 a, .slice p n cap] w (WErr 1 w) := by
  have hbb : Below w.heap.size w ((w.alloc (.cells #[pD D] 24)).alloc (.cells #[.int .i64 a] 3)) := ((Below.refl _ w).alloc (Nat.le_refl _) _).alloc (by simp) _
  have c2 := (h.below hbb h.ltD h.ltL h.ltM).c2
  rw [hd] at c2
  have HB := Lib.hid hbb
  have n0 : (0 : Int) ≤ (n : Int) := Int.natCast_nonneg _
  have n1 : (n : Int) ≤ 1000000 := by omega
  have n2 : (((n : Int) % 64) == 0) = false := by simp; omega
  have n3 : (((n : Int) % 64) != 0) = true := by simp; omega
  clear h hd hbb ho
  refine (callsIn_wide (n := 5)).1 ?_
  refine callsIn_of_wp_marks Try.func23 rfl trivial ?_ rfl
  simp only [Try.ntmps23, List.size_toArray, List.length_cons, List.length_nil, Nat.reduceAdd, Nat.reduceSub, Array.replicate_succ, Array.replicate_zero, List.push_toArray, List.append_toArray, List.nil_append, List.cons_append]
  gi_wp2
  refine ⟨trivial, ?_⟩
  gi_wp2
  exact ⟨_, results_tmp rfl _ _ _, rfl, HB.out⟩
set_option maxRecDepth 100000 in
theorem write_off {D L M : Nat} {d : Dk} {w : World} (h : DkAt w D L M d) (hd : d.dead = false) (a : Int) (ha : (Lit.int .i64 a).wf = true) (p : Option Addr) (m cap : Nat) (hn : m ≤ 1000000) (ho : d.has a (m : Int) = false) : Calls Try.prog 23 #[pD D, .int .i64 a, .slice p (64 * m) cap] w (WErr 1 w) := by
  have hbb : Below w.heap.size w ((w.alloc (.cells #[pD D] 24)).alloc (.cells #[.int .i64 a] 3)) := ((Below.refl _ w).alloc (Nat.le_refl _) _).alloc (by simp) _
  have hdb := h.below hbb h.ltD h.ltL h.ltM
  have c2 := hdb.c2
  rw [hd] at c2
  have HB := Lib.hid hbb
  have HH := Lib.hid (has_any hdb a (m : Int) ha)
  rw [ho] at HH
  have n0 : (0 : Int) ≤ ((64 * m : Nat) : Int) := Int.natCast_nonneg _
  have n1 : ((64 * m : Nat) : Int) ≤ 64000000 := by omega
  have n2 : ((64 * m : Nat) : Int) % 64 = 0 := by omega
  have n3 : ((64 * m : Nat) : Int) / 64 = (m : Int) := by omega
  clear h hd hbb ho hdb ha
  refine (callsIn_wide (n := 5)).1 ?_
  refine callsIn_of_wp_marks Try.func23 rfl trivial ?_ rfl
  simp only [Try.ntmps23, List.size_toArray, List.length_cons, List.length_nil, Nat.reduceAdd, Nat.reduceSub, Array.replicate_succ, Array.replicate_zero, List.push_toArray, List.append_toArray, List.nil_append, List.cons_append]
  gi_wp2_with (refine ⟨trivial, ?_⟩; gi_at_call 40; refine (callsIn_wide.2 HH.out).mono ?_; rintro e w' ⟨rfl, rfl⟩)
  exact ⟨_, results_tmp rfl _ _ _, rfl, HB.out⟩
def WBurnt (D L M : Nat) (d : Dk) (w : World) (e : Ending) (w' : World) : Prop := e = .returned (.int .i64 120) ∧ DkAt w' D L M d.burn ∧ Frq (· = D) w w'
set_option maxRecDepth 100000 in
theorem write_burnt {D L M : Nat} {d : Dk} {w : World} (h : DkAt w D L M d) (hd : d.dead = false) (hf : d.fuse = 0) (a : Int) (ha : (Lit.int .i64 a).wf = true) (p : Option Addr) (m cap : Nat) (hn : m ≤ 1000000) (ho : d.has a (m : Int) = true) : Calls Try.prog 23 #[pD D, .int .i64 a, .slice p (64 * m) cap] w (WBurnt D L M d w) := by
  have hbb : Below w.heap.size w ((w.alloc (.cells #[pD D] 24)).alloc (.cells #[.int .i64 a] 3)) := ((Below.refl _ w).alloc (Nat.le_refl _) _).alloc (by simp) _
  have hdb := h.below hbb h.ltD h.ltL h.ltM
  have c2 := hdb.c2
  rw [hd] at c2
  have HB := Lib.hid hbb
  have HH := Lib.hid (has_any hdb a (m : Int) ha)
  rw [ho] at HH
  have hbu := burn_any hdb
  have hbo : d.burnOk = false := by unfold Dk.burnOk; simp [hf]
  unfold BurnP at hbu
  rw [hbo] at hbu
  have HBu := Lib.hid hbu
  have n0 : (0 : Int) ≤ ((64 * m : Nat) : Int) := Int.natCast_nonneg _
  have n1 : ((64 * m : Nat) : Int) ≤ 64000000 := by omega
  have n2 : ((64 * m : Nat) : Int) % 64 = 0 := by omega
  have n3 : ((64 * m : Nat) : Int) / 64 = (m : Int) := by omega
  clear h hd hbb ho hdb ha hbu hbo hf
  refine (callsIn_wide (n := 5)).1 ?_
  refine callsIn_of_wp_marks Try.func23 rfl trivial ?_ rfl
  simp only [Try.ntmps23, List.size_toArray, List.length_cons, List.length_nil, Nat.reduceAdd, Nat.reduceSub, Array.replicate_succ, Array.replicate_zero, List.push_toArray, List.append_toArray, List.nil_append, List.cons_append]
  gi_wp2_with first
    | (refine ⟨trivial, ?_⟩; gi_at_call 40; refine (callsIn_wide.2 HH.out).mono ?_; rintro e w' ⟨rfl, rfl⟩)
    | (refine ⟨trivial, ?_⟩; gi_at_call 42; refine (callsIn_wide.2 HBu.out).mono ?_; rintro e w1 ⟨rfl, hd1, hf1⟩)
  exact ⟨_, results_tmp rfl _ _ _, rfl, hd1, (Frq.ofBelow HB.out).trans hf1⟩
/-- whatever Write is given -/
def Dk.wr (d : Dk) (a : Int) (b : By) : Int × Dk :=
  if d.dead = true then (120, d) else if b.length % 64 ≠ 0 ∨ d.has a ((b.length / 64 : Nat) : Int) = false then (1, d) else if d.fuse = 0 then (120, d.burn) else (0, d.burn.wrote a.toNat b)
def WrP (D L M : Nat) (d : Dk) (a : Int) (b : By) (w : World) (e : Ending) (w' : World) : Prop := e = .returned (.int .i64 (Dk.wr d a b).1) ∧ DkAt w' D L M (Dk.wr d a b).2 ∧ Frq (fun k => k = D ∨ k = M) w w'
theorem write_gen {D L M : Nat} {d : Dk} {w : World} (h : DkAt w D L M d) (a : Int) (ha : (Lit.int .i64 a).wf = true) (b : By) (v : Value) (F : Nat → Prop) (hb : b.length ≤ 1000000) (hv : BysF w F v b) (hF : ∀ x, F x → x < w.heap.size ∧ x ≠ D ∧ x ≠ M) :
    Calls Try.prog 23 #[pD D, .int .i64 a, v] w (WrP D L M d a b w) := by
  obtain ⟨p, cap, rfl, hcap, hp⟩ := id hv
  have hbel : ∀ n w', WErr n w (.returned (.int .i64 n)) w' → DkAt w' D L M d ∧ Frq (fun k => k = D ∨ k = M) w w' := fun n w' hh => ⟨h.below hh.2 h.ltD h.ltL h.ltM, Frq.ofBelow hh.2⟩
  unfold WrP Dk.wr
  by_cases hd : d.dead = true
  · rw [if_pos hd]
    exact (write_dead h hd a p b.length cap).mono fun e w' hh => ⟨hh.1, h.below hh.2 h.ltD h.ltL h.ltM, Frq.ofBelow hh.2⟩
  · rw [if_neg hd]
    have hd' : d.dead = false := by simpa using hd
    by_cases h1 : b.length % 64 ≠ 0 ∨ d.has a ((b.length / 64 : Nat) : Int) = false
    · rw [if_pos h1]
      by_cases h2 : b.length % 64 ≠ 0
      · exact (write_odd h hd' a p b.length cap hb h2).mono fun e w' hh => ⟨hh.1, h.below hh.2 h.ltD h.ltL h.ltM, Frq.ofBelow hh.2⟩
      · have h3 := h1.resolve_left h2
        have := write_off h hd' a ha p (b.length / 64) cap (by omega) h3
        rw [show 64 * (b.length / 64) = b.length by omega] at this
        exact this.mono fun e w' hh => ⟨hh.1, h.below hh.2 h.ltD h.ltL h.ltM, Frq.ofBelow hh.2⟩
    · rw [if_neg h1]
      have h2 : b.length % 64 = 0 := Classical.byContradiction fun e => h1 (Or.inl e)
      have h3 : d.has a ((b.length / 64 : Nat) : Int) = true := by
        cases e : d.has a ((b.length / 64 : Nat) : Int) with
        | true => rfl
        | false => exact absurd (Or.inr e) h1
      by_cases hf : d.fuse = 0
      · rw [if_pos hf]
        have := write_burnt h hd' hf a ha p (b.length / 64) cap (by omega) h3
        rw [show 64 * (b.length / 64) = b.length by omega] at this
        exact this.mono fun e w' hh => ⟨hh.1, hh.2.1, hh.2.2.mono (fun k e => Or.inl e)⟩
      · rw [if_neg hf]
        have h4 : 0 ≤ a ∧ ((b.length / 64 : Nat) : Int) ≤ (d.n : Int) - a := by
          unfold Dk.has at h3
          simp only [Bool.and_eq_true, decide_eq_true_eq] at h3
          exact ⟨h3.1.1, h3.2⟩
        have := write_any h hd' hf a.toNat (b.length / 64) (by omega) b (.slice p b.length cap) F (by omega) hv hF
        rw [show ((a.toNat : Nat) : Int) = a by omega] at this
        exact this
end Go.Proofs.Ytabahkeologbmaa.Dk
