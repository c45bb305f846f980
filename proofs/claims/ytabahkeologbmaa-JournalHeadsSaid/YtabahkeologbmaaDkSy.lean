/- Contract of Sync. -/
import Derived.Test.YtabahkeologbmaaDkN
import Derived.Test.YtabahkeologbmaaDkQ
namespace Go.Proofs.Ytabahkeologbmaa.Dk
open Go.RowKit Go.Shelf Go.Dk Go.Sha
open Go.Maps (Keyed)
open Go.ChangeMaps Go.MapKept
attribute [local go_sem] Oper.semAt_some
attribute [local go_sem high, local simp high] zero_sector

/-- the map is emptied -/
theorem run_clear {w : World} {M n : Nat} {wt : Nat → Option By} (h : MpAt w M n wt) : ∃ w', (∀ ty, (Builtin.clear_ #[53] ty #[.map (some M)]).run Try.prog w = .ok (.tuple #[]) w') ∧ MpAt w' M n (fun _ => none) ∧ Frq (· = M) w w' := by
  obtain ⟨es, clock, hb, _⟩ := h
  refine ⟨setBlock w M (.map #[] clock), fun ty => ?_, made_empty n (heap_setBlock_same hb _), ?_⟩
  · simp [Builtin.clear_, run_underlying Try.underlying53, MapKept.run_getObj_map hb, run_setObj_map _ hb, Result.andThen, setBlock]
  · exact ⟨rfl, rfl, rfl, by simp [setBlock], fun k _ hk => heap_setBlock_other hb _ hk⟩
/-- between two rounds -/
structure SyI' (B D L M n : Nat) (vs : Array Value) (la : Nat → By) (wt : Nat → Option By) (pre : List (Wt n)) (W : World) : Prop where
  c0 : W.heap[B]? = some (.cells #[pD D] 24 (0, 0))
  cd : W.heap[D]? = some (.cells vs 55 (0, 0))
  hl : W.heap[L]? = some (.cells (bc (flat (lays la (pre.map (·.1))) n)) 74 (0, 0))
  mp : MpAt W M n wt
def SyI (B D L M n : Nat) (vs : Array Value) (la : Nat → By) (wt : Nat → Option By) (w1 : World) (pre : List (Wt n)) (W : World) : Prop := SyI' B D L M n vs la wt pre W ∧ Frq (· = L) w1 W
theorem syI_own {B D L M n : Nat} {vs : Array Value} {la : Nat → By} {wt : Nat → Option By} {w1 : World} {B0 : Nat} (hM : M < B0) (h1 : w1.heap.size ≤ B0) : OwnFrom B0 (SyI B D L M n vs la wt w1) := by
  refine OwnFrom.and (fun s W W' row hs hg hr => ?_) (frq_own h1)
  exact ⟨cells_kept hs.c0 hg hr, cells_kept hs.cd hg hr, cells_kept hs.hl hg hr, hs.mp.heap (hg.block _ hs.mp.lt (fun e => by have := (hr _ e.symm).1; omega))⟩
theorem lays_len {la : Nat → By} (h : ∀ i, (la i).length = 64) {n : Nat} : ∀ (l : List (Wt n)) (i : Nat), (lays la (l.map (·.1)) i).length = 64 := by
  intro l
  induction l generalizing la with
  | nil => exact h
  | cons x l ih => exact ih (la := upd la x.1.1 x.1.2) (upd_len h x.2.2)
def SyncP (D L M : Nat) (d : Dk) (w : World) (e : Ending) (w' : World) : Prop := e = .returned (.int .i64 0) ∧ DkAt w' D L M d.burn.sync ∧ Frq (fun k => k = D ∨ k = L ∨ k = M) w w'
set_option maxRecDepth 100000 in
set_option maxHeartbeats 2000000 in
theorem sync_any {D L M : Nat} {d : Dk} {w : World} (h : DkAt w D L M d) (hd : d.dead = false) (hf : d.fuse ≠ 0) : Calls Try.prog 55 #[pD D] w (SyncP D L M d w) := by
  have hn2 := h.ok.n2
  obtain ⟨wb, hwb⟩ : ∃ wb, w.alloc (.cells #[pD D] 24) = wb := ⟨_, rfl⟩
  have hbb : Below w.heap.size w wb := by rw [← hwb]; exact (Below.refl _ w).alloc (Nat.le_refl _) _
  have hdb := h.below hbb h.ltD h.ltL h.ltM
  have hbu := burn_any hdb
  have HD := Lib.hid h
  have k0 : wb.heap[w.heap.size]? = some (.cells #[pD D] 24 (0, 0)) := by rw [← hwb]; exact heap_last _ _ _ rfl
  have cb0 : wb.cell? ⟨w.heap.size, 0, none⟩ = some (pD D) := cell_of_arr k0 0
  have c2b : wb.cell? ⟨D, 2, none⟩ = some (.bool false) := by have := hdb.c2; rw [hd] at this; exact this
  have hbo : d.burnOk = true := by unfold Dk.burnOk; simp [hf]
  have hsz : wb.heap.size = w.heap.size + 1 := by rw [← hwb]; simp
  unfold BurnP at hbu
  rw [hbo] at hbu
  have HBu := Lib.hid hbu
  have HK0 := Lib.hid k0
  have HBB := Lib.hid hbb
  have HSZ := Lib.hid hsz
  clear h hd hdb k0 hbo hbb hsz hf hbu
  refine (callsIn_wide (n := 5)).1 ?_
  refine callsIn_of_wp_marks Try.func55 rfl trivial ?_ rfl
  simp only [Try.ntmps55, List.size_toArray, List.length_cons, List.length_nil, Nat.reduceAdd, Nat.reduceSub, Array.replicate_succ, Array.replicate_zero, List.push_toArray, List.append_toArray, List.nil_append, List.cons_append]
  gi_wp2_with first
    | (refine ⟨trivial, ?_⟩; gi_at_call 42; refine (callsIn_wide.2 HBu.out).mono ?_; rintro e w1 ⟨rfl, hd1, hf1⟩; have kk1 := (hf1.block _ (by rw [HSZ.out]; omega) (by have := HD.out.ltD; omega)).trans HK0.out; have kk2 : w1.cell? ⟨w.heap.size, 0, none⟩ = some (pD D) := cell_of_arr kk1 0)
    | (refine ⟨trivial, ?_⟩; gi_at_call 38; refine (waits_in Fence.wide _ trivial rfl D _).mono ?_; rintro e w2 ⟨rfl, rfl⟩)
  have hD1 := HD.out.ltD
  have hM1 := HD.out.ltM
  have hL1 := HD.out.ltL
  have hDM := HD.out.nDM
  have hLM := HD.out.nLM
  have hDL := HD.out.ne
  have hw1 : w.heap.size + 1 ≤ w1.heap.size := by have := hf1.size; have := HSZ.out; omega
  have hdd := hd1.hd
  have hmm := hd1.hm
  have hll := hd1.hl
  have hok := hd1.ok
  rw [burn_n, burn_wt] at hmm
  rw [burn_n] at hdd
  rw [burn_n, burn_la] at hll
  have hcb : Below w1.heap.size w1 (w1.alloc (.cells #[pD D] 24)) := (Below.refl _ _).alloc (Nat.le_refl _) _
  have hcs : (w1.alloc (.cells #[pD D] 24)).heap.size = w1.heap.size + 1 := by simp
  have hI0 : SyI w.heap.size D L M d.n #[.slice (some ⟨L, 0, none⟩) d.n d.n, .map (some M), .bool d.burn.dead, .int .i64 d.burn.fuse] d.la d.wt w1 [] (w1.alloc (.cells #[pD D] 24)) :=
    ⟨⟨(hcb.block _ (by omega)).trans kk1, (hcb.block _ (by omega)).trans hdd, (hcb.block _ (by omega)).trans hll, hmm.heap (hcb.block _ hmm.lt)⟩, Frq.ofBelow hcb⟩
  have hWE : WtE w1.heap.size D M d.n d.wt (w1.alloc (.cells #[pD D] 24)) := ⟨heap_last _ _ _ rfl, ⟨_, _, _, (hcb.block _ (by omega)).trans hdd⟩, hmm.heap (hcb.block _ hmm.lt)⟩
  have HF1 := Lib.hid hf1
  have HO1 := Lib.hid hok
  clear hdd hmm hll hf1 hd1 hwb cb0 c2b HBu kk1 kk2 hok
  refine wpIn_rangeFunc_ownH rfl (by omega) (gf := 57) (lb := #[.pointer (some ⟨w1.heap.size, 0, none⟩)]) rfl trivial (enters_of Try.func57 (by kernel_rfl) rfl)
    (waits_stops _ (by omega) (· = L) w1.heap.size w1.heap.size D M d.n d.wt HD.out.ok.wt hn2 ⟨by omega, by omega, by omega⟩ (by omega) (w1.alloc (.cells #[pD D] 24)) (fun b hb => by subst hb; omega) hWE)
    kpX_t (kpX_b (by omega)) (Below.refl _ _) (fun _ => rfl)
    (SyI w.heap.size D L M d.n #[.slice (some ⟨L, 0, none⟩) d.n d.n, .map (some M), .bool d.burn.dead, .int .i64 d.burn.fuse] d.la d.wt w1) (fun _ _ _ => False) (syI_own (by omega) (by omega)) (fun _ _ _ _ _ hs _ _ => hs) hI0
    (fun x a' W => ∃ Bx, W.heap[Bx]? = some (.cells (bc x.1.2) 74 (0, 0)) ∧ Bx ≠ L ∧ a' = { tmps := #[pD D, .pointer (some ⟨w.heap.size, 0, none⟩), .int .i64 0, .int .i64 (x.1.1 : Int), .pointer (some ⟨Bx, 0, none⟩), .bool false, pD D, .bool false, .bool false, pD D, .pointer (some ⟨D, 0, none⟩), .pointer (some ⟨D, 2, none⟩), .bool false, .bool false, pD D, .bool true, .bool false, pD D, .func (.func 57) #[] #[.pointer (some ⟨w1.heap.size, 0, none⟩)], .int .i64 (x.1.1 : Int), .agg (bc x.1.2), undef, undef, undef, undef, undef, undef, undef, undef, undef, undef, undef], defers := [] })
    (fun x a' s W W' row hs hg hr => by obtain ⟨Bx, h1, h2, h3⟩ := hs; exact ⟨Bx, cells_kept h1 hg hr, h2, h3⟩) ?assign ?body ?done ?stop
  case assign =>
    intro l pre x W K hI hK
    gi_wp2_with ((with_reducible refine wlI_sc zero64 W.heap.size x.1.2 zero64_len x.2.2 ?_ ?_ rfl ?_); (· rfl); (· rfl))
    have hWs := hI.2.size
    refine hK _ _ ((KeepsOthers.alloc _ _).from _) (kpX_frq ((Frq.refl _ W).alloc _)) ?_ ⟨W.heap.size, heap_last _ _ _ rfl, by omega, rfl⟩
    exact (syI_own (B0 := W.heap.size) (by omega) hWs).alloc _ hI
  case body =>
    rintro l pre x a' W hl hr ⟨hI, hFr⟩ ⟨Bx, hbx, hBL, rfl⟩ hlen
    have hWs : w1.heap.size ≤ W.heap.size := hFr.size
    have hxl := x.2.2
    have hxn := x.2.1
    have HR0 := Lib.hid (show ∀ w3, Frq (· = L) W.drew w3 → w3.cell? ⟨w.heap.size, 0, none⟩ = some (pD D) from fun w3 h3 => cell_of_arr ((h3.block _ (show w.heap.size < W.heap.size by omega) (by omega)).trans hI.c0) 0)
    have HR2 := Lib.hid (show ∀ w3, Frq (· = L) W.drew w3 → w3.cell? ⟨D, 0, none⟩ = some (.slice (some ⟨L, 0, none⟩) d.n d.n) from fun w3 h3 => cell_of_arr ((h3.block _ (show D < W.heap.size by omega) hDL).trans hI.cd) 0)
    have HR3 := Lib.hid (show ∀ w3, Frq (· = L) W.drew w3 → w3.rangeAt Bx 0 (bc x.1.2).toList from fun w3 h3 => rangeAt_arr ((h3.block _ (lt_of_heap hbx) hBL).trans hbx) (fun j v hv => by rw [Nat.zero_add]; simpa using hv))
    have HII := Lib.hid hI
    have HFR := Lib.hid hFr
    have hS0 : Frq (· = L) W.drew W.drew := Frq.refl _ _
    have hx0 : (0 : Int) ≤ (x.1.1 : Int) := Int.natCast_nonneg _
    have hx1 : (x.1.1 : Int) < (d.n : Int) := by omega
    have hx2 : decide (x.1.1 < d.n) = true := decide_eq_true hxn
    have hn3 : (d.n : Int) ≤ 4096 := by omega
    clear hI hFr hI0 hWE hcb hbx
    gi_wp2
    refine region_round (S := Frq (· = L) W.drew) (by kernel_rfl) (by kernel_rfl) (fun ⟨_, _, h⟩ => h) ?_
    refine tkH (i := 0) (oi := ⟨some 21, .load 24 (.tmp 1), _, _, _, none⟩) (pD D) rfl (by kernel_rfl) (fun _ _ _ h => h) (yH rfl (fun w3 h3 => by have q := HR0.out w3 h3; go_simp)) hS0 ?_
    simp only [Act.put, s1, s2, s3]
    refine tkH (i := 1) (oi := ⟨some 22, .nilCheck (.tmp 21), _, _, _, none⟩) (pD D) rfl (by kernel_rfl) (fun _ _ _ h => h) (yH rfl (fun w3 h3 => by go_simp)) hS0 ?_
    simp only [Act.put, s1, s2, s3]
    refine tkH (i := 2) (oi := ⟨some 23, .fieldAddr 55 (.tmp 22) 0, _, _, _, none⟩) (.pointer (some ⟨D, 0, none⟩)) rfl (by kernel_rfl) (fun _ _ _ h => h) (yH rfl (fun w3 h3 => by go_simp)) hS0 ?_
    simp only [Act.put, s1, s2, s3]
    refine tkH (i := 3) (oi := ⟨some 24, .load 52 (.tmp 23), _, _, _, none⟩) (.slice (some ⟨L, 0, none⟩) d.n d.n) rfl (by kernel_rfl) (fun _ _ _ h => h) (yH rfl (fun w3 h3 => by have q := HR2.out w3 h3; go_simp)) hS0 ?_
    simp only [Act.put, s1, s2, s3]
    refine tkH (i := 4) (oi := ⟨some 25, .move (.tmp 3), _, _, _, none⟩) (.int .i64 (x.1.1 : Int)) rfl (by kernel_rfl) (fun _ _ _ h => h) (yH rfl (fun w3 h3 => by go_simp)) hS0 ?_
    simp only [Act.put, s1, s2, s3]
    refine tkH (i := 5) (oi := ⟨some 26, .load 74 (.tmp 4), _, _, _, none⟩) (.agg (bc x.1.2)) rfl (by kernel_rfl) (fun _ _ _ h => h) (yieldsIf_load_mid rfl 74 (.tmp 4) rfl Bx 0 rfl (bc x.1.2).toList _ HR3.out Try.underlying74 rfl (by rw [Array.length_toList, bc_size, hxl]; exact info_sector)) hS0 ?_
    simp only [Act.put, s1, s2, s3]
    refine tkH (i := 6) (oi := ⟨some 27, .indexAddr 52 (.tmp 24) (.tmp 25), _, _, _, none⟩) (.pointer (some ⟨L, x.1.1 * 64, none⟩)) rfl (by kernel_rfl) (fun _ _ _ h => h) (yH rfl (fun w3 h3 => by go_simp)) hS0 ?_
    simp only [Act.put, s1, s2, s3]
    have hlen2 := lays_len HD.out.ok.la pre
    refine rdH (i := 7) (o := ⟨none, .store 74 (.tmp 27) (.tmp 26), _, _, _, none⟩) (by kernel_rfl) rfl (fun K' hK => ?_)
    refine step_store rfl 74 (.tmp 27) (.tmp 26) rfl L (x.1.1 * 64) (bc x.1.2) (bc (flat (lays d.la (pre.map fun y : Wt d.n => y.1)) d.n)) (bc (flat (upd (lays d.la (pre.map fun y : Wt d.n => y.1)) x.1.1 x.1.2) d.n)) 74 (by rw [bc_size, hxl]; exact info_sector) rfl rfl HII.out.hl (by rw [bc_size, bc_size, hxl, flat_len hlen2]; omega) (bc_one _) (bc_upd hlen2 hxn hxl) ?_
    have hS4 : Frq (· = L) W.drew (W.drew.setRow L (bc (flat (upd (lays d.la (pre.map fun y : Wt d.n => y.1)) x.1.1 x.1.2) d.n))) := hS0.setRow (Or.inl rfl) _
    refine hK.out _ _ hS4 (fun _ => ?_)
    clear hK K'
    refine wpAnyH_done (by kernel_rfl) ?_ _
    have hI := HII.out
    have hF5 : Frq (· = L) W (W.drew.setRow L (bc (flat (upd (lays d.la (pre.map fun y : Wt d.n => y.1)) x.1.1 x.1.2) d.n))) := ⟨hS4.os, hS4.tape, hS4.output, hS4.size, hS4.block⟩
    refine ⟨⟨hF5.size, fun k o hk ho _ => (hF5.block k (lt_of_heap ho) (by rw [hcs] at hk; omega)).trans ho⟩, kpX_frq hF5, ⟨?_, ?_, ?_, ?_⟩, HFR.out.trans hF5⟩
    · exact (hF5.block _ (lt_of_heap hI.c0) (by omega)).trans hI.c0
    · exact (hF5.block _ (lt_of_heap hI.cd) hDL).trans hI.cd
    · rw [List.map_append, List.map_cons, List.map_nil, lays_snoc]
      exact setRow_heap _ _ _ _ _ _ hI.hl
    · exact hI.mp.heap (hF5.block _ hI.mp.lt hLM.symm)
  case done =>
    rintro E ys W hE rfl ⟨hI, hFr⟩ hK
    have hWs : w1.heap.size ≤ W.heap.size := hFr.size
    obtain ⟨w5, hr5, hm5, hf5⟩ := run_clear hI.mp
    have c0 : W.cell? ⟨w.heap.size, 0, none⟩ = some (pD D) := cell_of_arr hI.c0 0
    have c1 : W.cell? ⟨D, 1, none⟩ = some (.map (some M)) := cell_of_arr hI.cd 1
    have hM5 := lt_of_heap hK
    have hEM : E ≠ M := by omega
    have hK5 := (hf5.block E hM5 hEM).trans hK
    have HM5 := Lib.hid hm5
    have HF5 := Lib.hid hf5
    have HII := Lib.hid hI
    have HFR := Lib.hid hFr
    clear hm5 hf5 hI hFr hI0 hWE
    gi_wp2
    refine ⟨by simp, .inl ⟨_, _, rfl, run_takeDeferred hK5, ?_⟩⟩
    have hI := HII.out
    have f5 := HF5.out
    have ok := HO1.out
    have f2 : Frq (fun k => k = D ∨ k = L ∨ k = M) w w1 := Frq.trans (Frq.ofBelow HBB.out) (HF1.out.mono (fun k h => Or.inl h))
    have f3 : Frq (fun k => k = D ∨ k = L ∨ k = M) w w5 := (f2.trans (HFR.out.mono (fun k h => Or.inr (Or.inl h)))).trans (f5.mono (fun k h => Or.inr (Or.inr h)))
    have hwt : d.burn.sync.la = fun i => (d.wt i).getD (d.la i) := by show (fun i => (d.burn.wt i).getD (d.burn.la i)) = _; rw [burn_wt, burn_la]
    refine ⟨_, results_tmp rfl _ _ _, rfl, ⟨⟨ok.n1, ok.n2, ?_, ?_, ok.f1, ok.f2⟩, ?_, ?_, ?_, hDL⟩, f3.grown (grownBy_putObj' w5 E _) (fun k e => by cases e; right; omega)⟩
    · intro i
      rw [hwt]
      exact HD.out.ok.rd i
    · intro i s hs; cases hs
    · refine (World.putObj_heap_other (by omega)).trans ((f5.block _ (lt_of_heap hI.cd) hDM).trans (hI.cd.trans ?_))
      show _ = some (Obj.cells #[.slice (some ⟨L, 0, none⟩) d.burn.n d.burn.n, .map (some M), .bool d.burn.dead, .int .i64 d.burn.fuse] 55 (0, 0))
      rw [burn_n]
    · refine (World.putObj_heap_other (by omega)).trans ((f5.block _ (lt_of_heap hI.hl) hLM).trans (hI.hl.trans ?_))
      rw [hwt]
      show _ = some (Obj.cells (bc (flat (fun i => (d.wt i).getD (d.la i)) d.burn.n)) 74 (0, 0))
      rw [burn_n, wts_val, flat_congr (fun i hi => by rw [lays_waitL, if_pos hi])]
    · show MpAt _ M d.burn.n (fun _ => none)
      rw [burn_n]
      exact HM5.out.heap (World.putObj_heap_other (by omega))
  case stop =>
    rintro E c pre W _ _ h _
    exact h.elim
def SErr (n : Int) (w : World) (e : Ending) (w' : World) : Prop := e = .returned (.int .i64 n) ∧ Below w.heap.size w w'
set_option maxRecDepth 100000 in
theorem sync_nil (w : World) : Calls Try.prog 55 #[.pointer none] w (SErr 8 w) := by
  refine (callsIn_wide (n := 5)).1 ?_
  refine callsIn_of_wp_marks Try.func55 rfl trivial ?_ rfl
  simp only [Try.ntmps55, List.size_toArray, List.length_cons, List.length_nil, Nat.reduceAdd, Nat.reduceSub, Array.replicate_succ, Array.replicate_zero, List.push_toArray, List.append_toArray, List.nil_append, List.cons_append]
  gi_wp2
  exact ⟨_, results_tmp rfl _ _ _, rfl, (Below.refl _ w).alloc (Nat.le_refl _) _⟩
set_option maxRecDepth 100000 in
theorem sync_dead {D L M : Nat} {d : Dk} {w : World} (h : DkAt w D L M d) (hd : d.dead = true) : Calls Try.prog 55 #[pD D] w (SErr 120 w) := by
  have hbb : Below w.heap.size w (w.alloc (.cells #[pD D] 24)) := (Below.refl _ w).alloc (Nat.le_refl _) _
  have c2 := (h.below hbb h.ltD h.ltL h.ltM).c2
  rw [hd] at c2
  have HB := Lib.hid hbb
  clear h hd hbb
  refine (callsIn_wide (n := 5)).1 ?_
  refine callsIn_of_wp_marks Try.func55 rfl trivial ?_ rfl
  simp only [Try.ntmps55, List.size_toArray, List.length_cons, List.length_nil, Nat.reduceAdd, Nat.reduceSub, Array.replicate_succ, Array.replicate_zero, List.push_toArray, List.append_toArray, List.nil_append, List.cons_append]
  gi_wp2
  exact ⟨_, results_tmp rfl _ _ _, rfl, HB.out⟩
def SBurnt (D L M : Nat) (d : Dk) (w : World) (e : Ending) (w' : World) : Prop := e = .returned (.int .i64 120) ∧ DkAt w' D L M d.burn ∧ Frq (· = D) w w'
set_option maxRecDepth 100000 in
theorem sync_burnt {D L M : Nat} {d : Dk} {w : World} (h : DkAt w D L M d) (hd : d.dead = false) (hf : d.fuse = 0) : Calls Try.prog 55 #[pD D] w (SBurnt D L M d w) := by
  have hbb : Below w.heap.size w (w.alloc (.cells #[pD D] 24)) := (Below.refl _ w).alloc (Nat.le_refl _) _
  have hdb := h.below hbb h.ltD h.ltL h.ltM
  have c2 := hdb.c2
  rw [hd] at c2
  have HB := Lib.hid hbb
  have hbu := burn_any hdb
  have hbo : d.burnOk = false := by unfold Dk.burnOk; simp [hf]
  unfold BurnP at hbu
  rw [hbo] at hbu
  have HBu := Lib.hid hbu
  clear h hd hbb hdb hbu hbo hf
  refine (callsIn_wide (n := 5)).1 ?_
  refine callsIn_of_wp_marks Try.func55 rfl trivial ?_ rfl
  simp only [Try.ntmps55, List.size_toArray, List.length_cons, List.length_nil, Nat.reduceAdd, Nat.reduceSub, Array.replicate_succ, Array.replicate_zero, List.push_toArray, List.append_toArray, List.nil_append, List.cons_append]
  gi_wp2_with (refine ⟨trivial, ?_⟩; gi_at_call 42; refine (callsIn_wide.2 HBu.out).mono ?_; rintro e w1 ⟨rfl, hd1, hf1⟩)
  exact ⟨_, results_tmp rfl _ _ _, rfl, hd1, (Frq.ofBelow HB.out).trans hf1⟩
/-- whatever Sync meets -/
def Dk.sy (d : Dk) : Int × Dk := if d.dead = true then (120, d) else if d.fuse = 0 then (120, d.burn) else (0, d.burn.sync)
def SyP (D L M : Nat) (d : Dk) (w : World) (e : Ending) (w' : World) : Prop := e = .returned (.int .i64 (Dk.sy d).1) ∧ DkAt w' D L M (Dk.sy d).2 ∧ Frq (fun k => k = D ∨ k = L ∨ k = M) w w'
theorem sync_gen {D L M : Nat} {d : Dk} {w : World} (h : DkAt w D L M d) : Calls Try.prog 55 #[pD D] w (SyP D L M d w) := by
  unfold SyP Dk.sy
  by_cases hd : d.dead = true
  · rw [if_pos hd]
    exact (sync_dead h hd).mono fun e w' hh => ⟨hh.1, h.below hh.2 h.ltD h.ltL h.ltM, Frq.ofBelow hh.2⟩
  · rw [if_neg hd]
    have hd' : d.dead = false := by simpa using hd
    by_cases hf : d.fuse = 0
    · rw [if_pos hf]
      exact (sync_burnt h hd' hf).mono fun e w' hh => ⟨hh.1, hh.2.1, hh.2.2.mono (fun k e => Or.inl e)⟩
    · rw [if_neg hf]
      exact sync_any h hd' hf
end Go.Proofs.Ytabahkeologbmaa.Dk
