/- Contract of Restart. -/
import Derived.Test.YtabahkeologbmaaDkSy
import Derived.RegionIn
namespace Go.Proofs.Ytabahkeologbmaa.Dk
open Go.RowKit Go.Shelf Go.Dk Go.Sha
open Go.Maps (Keyed)
attribute [local go_sem] Oper.semAt_some
attribute [local go_sem high, local simp high] zero_sector

structure RsI' (B D L M n : Nat) (vs : Array Value) (la : Nat → By) (wt : Nat → Option By) (v : Value) (fs : List Int) (pre : List (Wt n)) (W : World) : Prop where
  c0 : W.heap[B]? = some (.cells #[pD D] 24 (0, 0))
  c1 : W.heap[B + 1]? = some (.cells #[v] 35 (0, 0))
  c2 : W.heap[B + 1 + 1]? = some (.cells #[.int .i64 (pre.length : Int)] 3 (0, 0))
  cd : W.heap[D]? = some (.cells vs 55 (0, 0))
  hl : W.heap[L]? = some (.cells (bc (flat (rsts fs la (pre.map (·.1))) n)) 74 (0, 0))
  mp : MpAt W M n wt
def RsI (B D L M n : Nat) (vs : Array Value) (la : Nat → By) (wt : Nat → Option By) (v : Value) (fs : List Int) (w1 : World) (pre : List (Wt n)) (W : World) : Prop := RsI' B D L M n vs la wt v fs pre W ∧ Frq (fun k => k = L ∨ k = B + 1 + 1) w1 W
theorem rsI_own {B D L M n : Nat} {vs : Array Value} {la : Nat → By} {wt : Nat → Option By} {v : Value} {fs : List Int} {w1 : World} {B0 : Nat} (hM : M < B0) (h1 : w1.heap.size ≤ B0) : OwnFrom B0 (RsI B D L M n vs la wt v fs w1) := by
  refine OwnFrom.and (fun s W W' row hs hg hr => ?_) (frq_own h1)
  exact ⟨cells_kept hs.c0 hg hr, cells_kept hs.c1 hg hr, cells_kept hs.c2 hg hr, cells_kept hs.cd hg hr, cells_kept hs.hl hg hr, hs.mp.heap (hg.block _ hs.mp.lt (fun e => by have := (hr _ e.symm).1; omega))⟩
theorem rsts_len {fs : List Int} {la : Nat → By} (h : ∀ i, (la i).length = 64) {n : Nat} (l : List (Wt n)) : ∀ i, (rsts fs la (l.map (·.1)) i).length = 64 := by
  have : ∀ (l : List (Wt n)) (c : Nat) (g : Nat → By), (∀ i, (g i).length = 64) → ∀ i, (((l.map (·.1)).foldl (fun (q : Nat × (Nat → By)) p => (q.1 + 1, upd q.2 p.1 (mix (fateN fs q.1) p.2 (q.2 p.1)))) (c, g)).2 i).length = 64 := by
    intro l
    induction l with
    | nil => intro c g hg; exact hg
    | cons x l ih => intro c g hg; exact ih (c + 1) (upd g x.1.1 (mix (fateN fs c) x.1.2 (g x.1.1))) (upd_len hg (mix_len x.2.2 (hg _) (fateN_le _ _)))
  exact this l 0 la h
/-- one step of a region: a copy whose run is known -/
theorem st_copy {P : Program} {a : Act} {w w' : World} {K : Act → World → Prop} {Q : Exit → Act → World → Prop} {E : Prop} {ys : Nat → Option Bool} {dst : Tmp} {s x : Operand} {t t' typ : TypeId} {pos : String} {after : Array Edge} {v u r : Value}
    (hs : a.eval s = v) (hx : a.eval x = u) (hr : (Builtin.copy_ #[t, t'] typ #[v, u]).run P w = .ok r w') (hK : K (a.put (some dst) r) w') :
    if Region.wanted (⟨some dst, .call { callee := .builtin .copy, args := #[s, x], argTypes := #[t, t'] }, typ, pos, after, none⟩ : Oper) ys = true then Oper.wp P ⟨some dst, .call { callee := .builtin .copy, args := #[s, x], argTypes := #[t, t'] }, typ, pos, after, none⟩ a w K Q else E := by
  rw [if_pos (by simp [Region.wanted])]
  unfold Oper.wp execOp
  simp only [resolve, invoke, builtin, Sem.run_bind, Sem.run_pure, Result.andThen_ok, List.map_toArray, List.map_cons, List.map_nil, hs, hx, hr]
  exact hK
def RestP (D L M : Nat) (d : Dk) (fs : List Int) (w : World) (e : Ending) (w' : World) : Prop := e = .returned (.tuple #[]) ∧ DkAt w' D L M (d.rst fs) ∧ Frq (fun k => k = D ∨ k = L ∨ k = M) w w'
set_option maxRecDepth 100000 in
set_option maxHeartbeats 2000000 in
theorem restart_any {D L M : Nat} {d : Dk} {w : World} (h : DkAt w D L M d) (fs : List Int) (v : Value) (F : Nat → Prop) (hl : fs.length ≤ 1000000) (hv : FtsF w F v fs) (hF : ∀ x, F x → x < w.heap.size ∧ x ≠ L) : Calls Try.prog 18 #[pD D, v] w (RestP D L M d fs w) := by
  have hn2 := h.ok.n2
  obtain ⟨p, cap, rfl, hcap, hp⟩ := id hv
  obtain ⟨wb, hwb⟩ : ∃ wb, ((w.alloc (.cells #[pD D] 24)).alloc (.cells #[.slice p fs.length cap] 35)).alloc (.cells #[.int .i64 0] 3) = wb := ⟨_, rfl⟩
  have hbb : Below w.heap.size w wb := by rw [← hwb]; exact (((Below.refl _ w).alloc (Nat.le_refl _) _).alloc (by simp) _).alloc (by simp; omega) _
  have hdb := h.below hbb h.ltD h.ltL h.ltM
  have k0 : wb.heap[w.heap.size]? = some (.cells #[pD D] 24 (0, 0)) := by rw [← hwb]; exact (heap_prev _ _ _ (by simp; omega)).trans ((heap_prev _ _ _ (by simp)).trans (heap_last _ _ _ rfl))
  have k1 : wb.heap[w.heap.size + 1]? = some (.cells #[.slice p fs.length cap] 35 (0, 0)) := by rw [← hwb]; exact (heap_prev _ _ _ (by simp)).trans (heap_last _ _ _ (by simp))
  have k2 : wb.heap[w.heap.size + 1 + 1]? = some (.cells #[.int .i64 0] 3 (0, 0)) := by rw [← hwb]; exact heap_last _ _ _ (by simp)
  have hsz : wb.heap.size = w.heap.size + 3 := by rw [← hwb]; simp
  have HD := Lib.hid h
  have HDB := Lib.hid hdb
  have HK := Lib.hid (And.intro k0 (And.intro k1 k2))
  have HBB := Lib.hid hbb
  have HSZ := Lib.hid hsz
  have HV := Lib.hid hv
  have HF := Lib.hid hF
  have HWB := Lib.hid hwb
  clear h hdb k0 k1 k2 hbb hsz hv hF hp hwb
  refine (callsIn_wide (n := 5)).1 ?_
  refine callsIn_of_wp_marks Try.func18 rfl trivial ?_ rfl
  simp only [Try.ntmps18, List.size_toArray, List.length_cons, List.length_nil, Nat.reduceAdd, Nat.reduceSub, Array.replicate_succ, Array.replicate_zero, List.push_toArray, List.append_toArray, List.nil_append, List.cons_append]
  gi_wp2_with (refine ⟨trivial, ?_⟩; gi_at_call 38; refine (waits_in Fence.wide _ trivial rfl D _).mono ?_; rintro e w2 ⟨rfl, rfl⟩)
  rw [HWB.out]
  have hD1 := HD.out.ltD
  have hM1 := HD.out.ltM
  have hL1 := HD.out.ltL
  have hDM := HD.out.nDM
  have hLM := HD.out.nLM
  have hDL := HD.out.ne
  have hw1 := HSZ.out
  have hdd := HDB.out.hd
  have hmm := HDB.out.hm
  have hll := HDB.out.hl
  obtain ⟨k0, k1, k2⟩ := HK.out
  have hcb : Below wb.heap.size wb (wb.alloc (.cells #[pD D] 24)) := (Below.refl _ _).alloc (Nat.le_refl _) _
  have hcs : (wb.alloc (.cells #[pD D] 24)).heap.size = wb.heap.size + 1 := by simp
  have hI0 : RsI w.heap.size D L M d.n #[.slice (some ⟨L, 0, none⟩) d.n d.n, .map (some M), .bool d.dead, .int .i64 d.fuse] d.la d.wt (.slice p fs.length cap) fs wb [] (wb.alloc (.cells #[pD D] 24)) :=
    ⟨⟨(hcb.block _ (by omega)).trans k0, (hcb.block _ (by omega)).trans k1, (hcb.block _ (by omega)).trans k2, (hcb.block _ (by omega)).trans hdd, (hcb.block _ (by omega)).trans hll, hmm.heap (hcb.block _ hmm.lt)⟩, Frq.ofBelow hcb⟩
  have hWE : WtE (w.heap.size + 1 + 1 + 1) D M d.n d.wt (wb.alloc (.cells #[pD D] 24)) := ⟨heap_last _ _ _ (by omega), ⟨_, _, _, (hcb.block _ (by omega)).trans hdd⟩, hmm.heap (hcb.block _ hmm.lt)⟩
  clear hdd hmm hll k0 k1 k2
  refine wpIn_rangeFunc_ownH rfl (by omega) (gf := 57) (lb := #[.pointer (some ⟨w.heap.size + 1 + 1 + 1, 0, none⟩)]) rfl trivial (enters_of Try.func57 (by kernel_rfl) rfl)
    (waits_stops _ (by omega) (fun k => k = L ∨ k = w.heap.size + 1 + 1) wb.heap.size (w.heap.size + 1 + 1 + 1) D M d.n d.wt HD.out.ok.wt hn2 ⟨by omega, by omega, by omega⟩ (by omega) (wb.alloc (.cells #[pD D] 24)) (fun b hb => by omega) hWE)
    kpX_t (kpX_b (by omega)) (Below.refl _ _) (fun _ => rfl)
    (RsI w.heap.size D L M d.n #[.slice (some ⟨L, 0, none⟩) d.n d.n, .map (some M), .bool d.dead, .int .i64 d.fuse] d.la d.wt (.slice p fs.length cap) fs wb) (fun _ _ _ => False) (rsI_own (by omega) (by omega)) (fun _ _ _ _ _ hs _ _ => hs) hI0
    (fun x a' W => ∃ Bx, W.heap[Bx]? = some (.cells (bc x.1.2) 74 (0, 0)) ∧ Bx ≠ L ∧ a' = { tmps := #[pD D, .slice p fs.length cap, .pointer (some ⟨w.heap.size, 0, none⟩), .pointer (some ⟨w.heap.size + 1, 0, none⟩), .pointer (some ⟨w.heap.size + 1 + 1, 0, none⟩), .int .i64 (x.1.1 : Int), .pointer (some ⟨Bx, 0, none⟩), pD D, .bool false, pD D, .func (.func 57) #[] #[.pointer (some ⟨w.heap.size + 1 + 1 + 1, 0, none⟩)], .int .i64 (x.1.1 : Int), .agg (bc x.1.2), undef, undef, undef, undef, undef, undef, undef, undef, undef, undef, undef, undef, undef, undef, undef, undef, undef, undef, undef, undef, undef, undef, undef, undef], defers := [] })
    (fun x a' s W W' row hs hg hr => by obtain ⟨Bx, h1, h2, h3⟩ := hs; exact ⟨Bx, cells_kept h1 hg hr, h2, h3⟩) ?assign ?body ?done ?stop
  case assign =>
    intro l pre x W K hI hK
    gi_wp2_with ((with_reducible refine wlI_sc zero64 W.heap.size x.1.2 zero64_len x.2.2 ?_ ?_ rfl ?_); (· rfl); (· rfl))
    have hWs := hI.2.size
    refine hK _ _ ((KeepsOthers.alloc _ _).from _) (kpX_frq ((Frq.refl _ W).alloc _)) ?_ ⟨W.heap.size, heap_last _ _ _ rfl, by omega, rfl⟩
    exact (rsI_own (B0 := W.heap.size) (by omega) hWs).alloc _ hI
  case body =>
    rintro l pre x a' W hl2 hr ⟨hI, hFr⟩ ⟨Bx, hbx, hBL, rfl⟩ hlen
    have hWs : wb.heap.size ≤ W.heap.size := hFr.size
    have hxl := x.2.2
    have hxn := x.2.1
    obtain ⟨j, hj⟩ : ∃ j, pre.length = j := ⟨_, rfl⟩
    have hjn : j < 4096 := by have := keysW_len d.wt d.n; omega
    have HR0 := Lib.hid (show ∀ w3, Frq (· = L) W.drew w3 → w3.cell? ⟨w.heap.size, 0, none⟩ = some (pD D) from fun w3 h3 => cell_of_arr ((h3.block _ (show w.heap.size < W.heap.size by omega) (by omega)).trans hI.c0) 0)
    have HR1 := Lib.hid (show ∀ w3, Frq (· = L) W.drew w3 → w3.cell? ⟨w.heap.size + 1, 0, none⟩ = some (.slice p fs.length cap) from fun w3 h3 => cell_of_arr ((h3.block _ (show w.heap.size + 1 < W.heap.size by omega) (by omega)).trans hI.c1) 0)
    have HR2 := Lib.hid (show ∀ w3, Frq (· = L) W.drew w3 → w3.cell? ⟨D, 0, none⟩ = some (.slice (some ⟨L, 0, none⟩) d.n d.n) from fun w3 h3 => cell_of_arr ((h3.block _ (show D < W.heap.size by omega) hDL).trans hI.cd) 0)
    have HR5 := Lib.hid (show ∀ w3, Frq (· = L) W.drew w3 → w3.heap[w.heap.size + 1 + 1]? = some (.cells #[.int .i64 (j : Int)] 3 (0, 0)) from fun w3 h3 => (h3.block _ (show w.heap.size + 1 + 1 < W.heap.size by omega) (by omega)).trans (by rw [← hj]; exact hI.c2))
    have HR4 := Lib.hid (show ∀ w3, Frq (· = L) W.drew w3 → w3.cell? ⟨w.heap.size + 1 + 1, 0, none⟩ = some (.int .i64 (j : Int)) from fun w3 h3 => cell_of_arr (HR5.out w3 h3) 0)
    have HFT := Lib.hid (show FtsF W.drew F (.slice p fs.length cap) fs from HV.out.kept (fun y hy => ⟨hy, (hFr.block y (by have := (HF.out y hy).1; omega) (by have := HF.out y hy; omega)).trans (HBB.out.block y (HF.out y hy).1)⟩))
    have HII := Lib.hid hI
    have HFR := Lib.hid hFr
    have HJ := Lib.hid hj
    have hS0 : Frq (· = L) W.drew W.drew := Frq.refl _ _
    have hx0 : (0 : Int) ≤ (x.1.1 : Int) := Int.natCast_nonneg _
    have hx1 : (x.1.1 : Int) < (d.n : Int) := by omega
    have hx2 : decide (x.1.1 < d.n) = true := decide_eq_true hxn
    have hn3 : (d.n : Int) ≤ 4096 := by omega
    have hlen2 := rsts_len (fs := fs) HD.out.ok.la pre
    obtain ⟨kz, hkz⟩ : ∃ kz, fateN fs j = kz := ⟨_, rfl⟩
    have hk64 : kz ≤ 64 := by rw [← hkz]; exact fateN_le _ _
    have hk1 : (kz : Int) ≤ 64 := by omega
    have hk0 : (0 : Int) ≤ (kz : Int) := Int.natCast_nonneg _
    have hcs2 : (x.1.2.take kz).length = kz := by rw [List.length_take]; omega
    have hbm := bc_mix hlen2 hxn hxl hk64
    have hrun := run_copy_row (P := Try.prog) W.drew 40 40 3 5 L (x.1.1 * 64) 64 64 ⟨Bx, 0, none⟩ kz 64 (bc (flat (rsts fs d.la (pre.map fun y : Wt d.n => y.1)) d.n)) 74 (Lib.byteCells (x.1.2.take kz)) Try.underlying40 info_u8 hI.hl (by rw [byl_len, hcs2]; exact (Nat.min_eq_left hk64).symm)
      (fun j v hv => by
        rw [Addr.add_mid, Nat.zero_add]
        refine (cell_of_arr (W := W.drew) hbx j).trans ?_
        rw [bc_get]
        rw [← byl_take, List.getElem?_take] at hv
        split at hv
        · exact hv
        · cases hv) (by rw [byl_len, hcs2, bc_size, flat_len hlen2]; omega) (byl_one _)
    rw [List.append_assoc, hbm] at hrun
    have HRUN := Lib.hid hrun
    have HKZ := Lib.hid hkz
    clear hI hFr hI0 hWE hcb hbx hj hrun hbm hkz
    gi_wp2
    refine region_round (S := Frq (· = L) W.drew) (by kernel_rfl) (by kernel_rfl) (fun ⟨_, _, h⟩ => h) ?_
    refine tkH (i := 0) (oi := ⟨some 13, .load 24 (.tmp 2), _, _, _, none⟩) (pD D) rfl (by kernel_rfl) (fun _ _ _ h => h) (yH rfl (fun w3 h3 => by have q := HR0.out w3 h3; go_simp)) hS0 ?_
    simp only [Act.put, s1, s2, s3]
    refine tkH (i := 1) (oi := ⟨some 14, .nilCheck (.tmp 13), _, _, _, none⟩) (pD D) rfl (by kernel_rfl) (fun _ _ _ h => h) (yH rfl (fun w3 h3 => by go_simp)) hS0 ?_
    simp only [Act.put, s1, s2, s3]
    refine tkH (i := 2) (oi := ⟨some 15, .fieldAddr 55 (.tmp 14) 0, _, _, _, none⟩) (.pointer (some ⟨D, 0, none⟩)) rfl (by kernel_rfl) (fun _ _ _ h => h) (yH rfl (fun w3 h3 => by go_simp)) hS0 ?_
    simp only [Act.put, s1, s2, s3]
    refine tkH (i := 3) (oi := ⟨some 16, .load 52 (.tmp 15), _, _, _, none⟩) (.slice (some ⟨L, 0, none⟩) d.n d.n) rfl (by kernel_rfl) (fun _ _ _ h => h) (yH rfl (fun w3 h3 => by have q := HR2.out w3 h3; go_simp)) hS0 ?_
    simp only [Act.put, s1, s2, s3]
    refine tkH (i := 4) (oi := ⟨some 17, .move (.tmp 5), _, _, _, none⟩) (.int .i64 (x.1.1 : Int)) rfl (by kernel_rfl) (fun _ _ _ h => h) (yH rfl (fun w3 h3 => by go_simp)) hS0 ?_
    simp only [Act.put, s1, s2, s3]
    refine tkH (i := 5) (oi := ⟨some 18, .indexAddr 52 (.tmp 16) (.tmp 17), _, _, _, none⟩) (.pointer (some ⟨L, x.1.1 * 64, none⟩)) rfl (by kernel_rfl) (fun _ _ _ h => h) (yH rfl (fun w3 h3 => by go_simp)) hS0 ?_
    simp only [Act.put, s1, s2, s3]
    refine tkH (i := 6) (oi := ⟨some 19, .slice 74 (.tmp 18) none none none, _, _, _, none⟩) (.slice (some ⟨L, x.1.1 * 64, none⟩) 64 64) rfl (by kernel_rfl) (fun _ _ _ h => h) (yH rfl (fun w3 h3 => by go_simp)) hS0 ?_
    simp only [Act.put, s1, s2, s3]
    refine tkH (i := 7) (oi := ⟨some 20, .load 35 (.tmp 3), _, _, _, none⟩) (.slice p fs.length cap) rfl (by kernel_rfl) (fun _ _ _ h => h) (yH rfl (fun w3 h3 => by have q := HR1.out w3 h3; go_simp)) hS0 ?_
    simp only [Act.put, s1, s2, s3]
    refine tkH (i := 8) (oi := ⟨some 21, .load 3 (.tmp 4), _, _, _, none⟩) (.int .i64 (j : Int)) rfl (by kernel_rfl) (fun _ _ _ h => h) (yH rfl (fun w3 h3 => by have q := HR4.out w3 h3; go_simp)) hS0 ?_
    simp only [Act.put, s1, s2, s3]
    refine rdH (i := 9) (o := ⟨some 22, .call ⟨.value (.func 39), #[.tmp 20, .tmp 21], _⟩, _, _, _, none⟩) (by kernel_rfl) rfl (fun K' hK => ?_)
    go_simp
    refine (written_any fs (.slice p fs.length cap) F j (by omega) hl W.drew HFT.out).mono ?_
    rintro e w3 ⟨rfl, rfl⟩
    rw [HKZ.out]
    refine hK.out _ _ hS0 (fun _ => ?_)
    clear hK K'
    try (simp only [Act.put, s1, s2, s3])
    refine tkH (i := 10) (oi := ⟨some 23, .slice 74 (.tmp 6) none (some (.tmp 22)) none, _, _, _, none⟩) (.slice (some ⟨Bx, 0, none⟩) kz 64) rfl (by kernel_rfl) (fun _ _ _ h => h) (yH rfl (fun w3 h3 => by go_simp)) hS0 ?_
    simp only [Act.put, s1, s2, s3]
    have hS4 : Frq (· = L) W.drew (W.drew.setRow L (bc (flat (upd (rsts fs d.la (pre.map fun y : Wt d.n => y.1)) x.1.1 (mix kz x.1.2 (rsts fs d.la (pre.map fun y : Wt d.n => y.1) x.1.1))) d.n))) := hS0.setRow (Or.inl rfl) _
    refine rdH (i := 11) (o := ⟨some 24, .call ⟨.builtin .copy, #[.tmp 19, .tmp 23], _⟩, _, _, _, none⟩) (by kernel_rfl) rfl (fun K' hK => ?_)
    refine st_copy rfl rfl HRUN.out ?_
    refine hK.out _ _ hS4 (fun _ => ?_)
    clear hK K'
    refine wpAnyH_done (by kernel_rfl) ?_ _
    have c4 := HR4.out _ hS4
    have f4 := froz_of_arr (HR5.out _ hS4) 0
    have hj0 : (0 : Int) ≤ (j : Int) := Int.natCast_nonneg _
    have hj1 : (j : Int) < 4096 := by omega
    have HS4 := Lib.hid hS4
    clear hS4
    gi_wp2
    have hI := HII.out
    have hj := HJ.out
    have h4 := HS4.out
    have hF5 : Frq (fun k => k = L ∨ k = w.heap.size + 1 + 1) W ((W.drew.setRow L (bc (flat (upd (rsts fs d.la (pre.map fun y : Wt d.n => y.1)) x.1.1 (mix kz x.1.2 (rsts fs d.la (pre.map fun y : Wt d.n => y.1) x.1.1))) d.n))).setCell ⟨w.heap.size + 1 + 1, 0, none⟩ (.int .i64 ((j : Int) + 1))) :=
      Frq.setCell (G := fun k => k = L ∨ k = w.heap.size + 1 + 1) (p := ⟨w.heap.size + 1 + 1, 0, none⟩) (show Frq (fun k => k = L ∨ k = w.heap.size + 1 + 1) W (W.drew.setRow L (bc (flat (upd (rsts fs d.la (pre.map fun y : Wt d.n => y.1)) x.1.1 (mix kz x.1.2 (rsts fs d.la (pre.map fun y : Wt d.n => y.1) x.1.1))) d.n))) from ⟨h4.os, h4.tape, h4.output, h4.size, fun k hk hg => h4.block k hk (fun e => hg (Or.inl e))⟩) (Or.inl (Or.inr rfl)) _
    refine ⟨⟨hF5.size, fun k o hk ho _ => (hF5.block k (lt_of_heap ho) (by rw [hcs] at hk; omega)).trans ho⟩, kpX_frq hF5, ⟨?_, ?_, ?_, ?_, ?_, ?_⟩, HFR.out.trans hF5⟩
    · exact (hF5.block _ (lt_of_heap hI.c0) (by omega)).trans hI.c0
    · exact (hF5.block _ (lt_of_heap hI.c1) (by omega)).trans hI.c1
    · rw [set_heap (HR5.out _ h4), List.length_append, List.length_singleton, show ((pre.length + 1 : Nat) : Int) = (j : Int) + 1 by omega]; rfl
    · exact (hF5.block _ (lt_of_heap hI.cd) (by omega)).trans hI.cd
    · refine (Below.heap_setCell _ _ _ _ (show L ≠ w.heap.size + 1 + 1 by omega)).trans ?_
      rw [List.map_append, List.map_cons, List.map_nil, rsts_snoc, List.length_map, hj, HKZ.out]
      exact setRow_heap _ _ _ _ _ _ hI.hl
    · exact hI.mp.heap (hF5.block _ hI.mp.lt (by omega))
  case done =>
    rintro E ys W hE rfl ⟨hI, hFr⟩ hK
    have hWs : wb.heap.size ≤ W.heap.size := hFr.size
    obtain ⟨w5, hr5, hm5, hf5⟩ := run_clear hI.mp
    have c0 : W.cell? ⟨w.heap.size, 0, none⟩ = some (pD D) := cell_of_arr hI.c0 0
    have c1 : W.cell? ⟨D, 1, none⟩ = some (.map (some M)) := cell_of_arr hI.cd 1
    have hM5 := lt_of_heap hK
    have hEM : E ≠ M := by omega
    have hK5 := (hf5.block E hM5 hEM).trans hK
    have k05 := (hf5.block _ (lt_of_heap hI.c0) (by omega)).trans hI.c0
    have k15 := (hf5.block _ (lt_of_heap hI.cd) (by omega)).trans hI.cd
    have HM5 := Lib.hid hm5
    have HF5 := Lib.hid hf5
    have HII := Lib.hid hI
    have HFR := Lib.hid hFr
    have HK05 := Lib.hid k05
    have HK15 := Lib.hid k15
    clear hm5 hf5 hI hFr hI0 hWE k05 k15
    gi_wp2
    have c05 : w5.cell? ⟨w.heap.size, 0, none⟩ = some (pD D) := cell_of_arr HK05.out 0
    have d2 : w5.cell? ⟨D, 2, none⟩ = some (.bool d.dead) := cell_of_arr HK15.out 2
    have d3 : w5.cell? ⟨D, 3, none⟩ = some (.int .i64 d.fuse) := cell_of_arr HK15.out 3
    have e2 : w5.frozen? ⟨D, 2, none⟩ = false := froz_of_arr HK15.out 2
    have e3 : w5.frozen? ⟨D, 3, none⟩ = false := froz_of_arr HK15.out 3
    gi_region
    have hI := HII.out
    have f5 := HF5.out
    have ok := HD.out.ok
    obtain ⟨w7, hw7⟩ : ∃ w7, ((w5.setCell ⟨D, 2, none⟩ (.bool false)).setCell ⟨D, 3, none⟩ (.int .i64 (-1))).drew = w7 := ⟨_, rfl⟩
    rw [hw7]
    have q2 : (w5.setCell ⟨D, 2, none⟩ (.bool false)).heap[D]? = some (.cells #[.slice (some ⟨L, 0, none⟩) d.n d.n, .map (some M), .bool false, .int .i64 d.fuse] 55 (0, 0)) := set_heap (w := w5) HK15.out 2 _
    have q3 : w7.heap[D]? = some (.cells #[.slice (some ⟨L, 0, none⟩) d.n d.n, .map (some M), .bool false, .int .i64 (-1)] 55 (0, 0)) := by rw [← hw7]; exact set_heap q2 3 _
    have q4 : ∀ k, k ≠ D → w7.heap[k]? = w5.heap[k]? := fun k hk => by rw [← hw7]; exact (Below.heap_setCell _ _ _ _ hk).trans (Below.heap_setCell _ _ _ _ hk)
    have hED : E ≠ D := by omega
    have hK7 := (q4 E hED).trans hK5
    have f2 : Frq (fun k => k = D ∨ k = L ∨ k = M) w W := Frq.trans' (n := w.heap.size) (Frq.ofBelow HBB.out) (HFR.out.mono (fun k h => h.elim (fun e => Or.inl (Or.inr (Or.inl e))) (fun e => Or.inr (by omega)))) (Nat.le_refl _)
    have f3 : Frq (fun k => k = D ∨ k = L ∨ k = M) w w5 := f2.trans (f5.mono (fun k h => Or.inr (Or.inr h)))
    have f7 : Frq (fun k => k = D ∨ k = L ∨ k = M) w w7 := by
      rw [← hw7]
      exact ((Frq.setCell (p := ⟨D, 2, none⟩) f3 (Or.inl (Or.inl rfl)) _).setCell (p := ⟨D, 3, none⟩) (Or.inl (Or.inl rfl)) _).drew
    refine ⟨by simp, .inl ⟨_, _, rfl, run_takeDeferred hK7, ?_⟩⟩
    refine ⟨_, results_none rfl _ _ _, rfl, ⟨⟨ok.n1, ok.n2, ?_, ?_, by show (-1 : Int) ≤ -1; omega, by show (-1 : Int) ≤ 9223372036854775807; omega⟩, ?_, ?_, ?_, hDL⟩, f7.grown (grownBy_putObj' w7 E _) (fun k e => by cases e; right; omega)⟩
    · intro i
      show (rstL fs d.la d.wt i).length = 64
      unfold rstL
      cases e : d.wt i with
      | none => exact ok.la i
      | some s => exact mix_len (ok.wt i s e).2 (ok.la i) (fateN_le _ _)
    · intro i s hs; cases hs
    · exact (World.putObj_heap_other (by omega)).trans q3
    · refine (World.putObj_heap_other (by omega)).trans ((q4 L hDL.symm).trans ((f5.block _ (lt_of_heap hI.hl) hLM).trans (hI.hl.trans ?_)))
      show _ = some (Obj.cells (bc (flat (rstL fs d.la d.wt) d.n)) 74 (0, 0))
      rw [wts_val, flat_congr (fun i hi => by rw [rsts_waitL, if_pos hi])]
    · exact HM5.out.heap ((World.putObj_heap_other (by omega)).trans (q4 M hDM.symm))
  case stop =>
    rintro E c pre W _ _ h _
    exact h.elim
set_option maxRecDepth 100000 in
theorem restart_nil (p : Option Addr) (n cap : Nat) (w : World) : Calls Try.prog 18 #[.pointer none, .slice p n cap] w fun e w' => e = .returned (.tuple #[]) ∧ Below w.heap.size w w' := by
  refine (callsIn_wide (n := 5)).1 ?_
  refine callsIn_of_wp_marks Try.func18 rfl trivial ?_ rfl
  simp only [Try.ntmps18, List.size_toArray, List.length_cons, List.length_nil, Nat.reduceAdd, Nat.reduceSub, Array.replicate_succ, Array.replicate_zero, List.push_toArray, List.append_toArray, List.nil_append, List.cons_append]
  gi_wp2
  exact ⟨_, results_none rfl _ _ _, rfl, ((Below.refl _ w).alloc (Nat.le_refl _) _).alloc (by simp) _⟩
end Go.Proofs.Ytabahkeologbmaa.Dk
