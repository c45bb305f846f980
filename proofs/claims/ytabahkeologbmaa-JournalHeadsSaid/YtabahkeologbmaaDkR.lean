/- Contract of Read. -/
import Derived.Test.YtabahkeologbmaaDkJ
import Derived.RegionIn
namespace Go.Proofs.Ytabahkeologbmaa.Dk
open Go.RowKit Go.Shelf Go.Dk Go.Sha
open Go.Maps (Keyed)
attribute [local go_sem] Oper.semAt_some
attribute [local go_sem high, local simp high] zero_sector

/-- what is read of sectors -/
def rdsL (d : Dk) (a m : Nat) : By := flat (fun j => d.rd (a + j)) m
theorem rds_len {d : Dk} (h : d.Ok) (a m : Nat) : (rdsL d a m).length = 64 * m := flat_len (fun j => h.rd (a + j)) m
def catS (l : List Sc) : By := (l.map (·.1)).flatten
theorem catS_snoc (l : List Sc) (x : Sc) : catS (l ++ [x]) = catS l ++ x.1 := by simp [catS]
theorem catS_len : ∀ l : List Sc, (catS l).length = 64 * l.length
  | [] => rfl
  | x :: l => by
    have := catS_len l
    simp only [catS, List.map_cons, List.flatten_cons, List.length_append, List.length_cons, x.2] at this ⊢
    omega
theorem catS_scs {d : Dk} (h : d.Ok) (a : Nat) : ∀ m, catS (scs d.rd h.rd a m) = rdsL d a m
  | 0 => rfl
  | m + 1 => by rw [scs_succ, catS_snoc, catS_scs h a m]; rfl
/-- bytes of one's own -/
abbrev OwnB (w : World) (base : Nat) (v : Value) (l : By) : Prop := w.ownsRow base 5 1 v l.length (Lib.byteCells l)
def ReadP (d : Dk) (a m : Nat) (w : World) (e : Ending) (w' : World) : Prop := ∃ v, e = .returned (.tuple #[v, .int .i64 0]) ∧ OwnB w' w.heap.size v (rdsL d a m) ∧ Below w.heap.size w w'
/-- an empty row with room -/
theorem mk_room (n : Nat) (hn : n ≤ 1000000) (w : World) : (Instr.makeSlice 40 (.int .i64 0) (.int .i64 (n : Int))).run Try.prog w = .ok (.slice (some ⟨w.heap.size, 0, none⟩) 0 n) (w.alloc (.cells (madeCells #[.int .u8 0] n) 5)) := by
  obtain ⟨i, hi, h0, h1, h2⟩ := info_parts par_u8
  have := run_make (P := Try.prog) w 40 5 i (.int .u8 0) Try.underlying40 hi h0 .i64 .i64 0 (n : Int) (by omega) (by omega) (by rw [h2]; omega) (by omega)
  rw [h1, show ((n : Nat) : Int).toNat = n from rfl, Nat.mul_one] at this
  exact this
theorem own_room (n : Nat) (hn : n ≤ 1000000) (w : World) (B : Nat) (hB : B ≤ w.heap.size) : OwnB (w.alloc (.cells (madeCells #[.int .u8 0] n) 5)) B (.slice (some ⟨w.heap.size, 0, none⟩) 0 n) [] :=
  ⟨rfl, .inr ⟨w.heap.size, n, madeCells #[.int .u8 0] n, rfl, hB, heap_last _ _ _ rfl, Nat.zero_le _, by unfold maxLen; omega, by rw [size_madeCells]; omega, rfl⟩⟩
theorem scE_own {β : Type} {Ba Bn Bd D L M a m : Nat} {d : Dk} {B : Nat} (hM : M < B) : OwnFrom B (fun (_ : β) W => ScE Ba Bn Bd D L M a m d W) := fun s W W' row hs hg hr =>
  ⟨cells_kept hs.ca hg hr, cells_kept hs.cn hg hr, cells_kept hs.cd hg hr, hs.dk.ok, cells_kept hs.dk.hd hg hr, cells_kept hs.dk.hl hg hr, hs.dk.hm.heap (hg.block _ hs.dk.hm.lt (fun e => by have := (hr _ e.symm).1; omega)), hs.dk.ne⟩
/-- between two rounds -/
def RdI (Ba Bn Bd D L M a m : Nat) (d : Dk) (w : World) (pre : List Sc) (W : World) : Prop :=
  ((∃ v, W.heap[w.heap.size + 1]? = some (.cells #[v] 40 (0, 0)) ∧ OwnB W w.heap.size v (catS pre)) ∧ ScE Ba Bn Bd D L M a m d W) ∧ Below w.heap.size w W
theorem rdI_own {Ba Bn Bd D L M a m : Nat} {d : Dk} {w : World} {B : Nat} (hM : M < B) (hB : w.heap.size ≤ B) : OwnFrom B (RdI Ba Bn Bd D L M a m d w) := by
  refine OwnFrom.and (OwnFrom.and (fun s W W' row hs hg hr => ?_) (scE_own hM)) (ownFrom_below (Nat.le_refl _) hB)
  obtain ⟨v, h1, h2⟩ := hs
  exact ⟨v, cells_kept h1 hg hr, own_keep h2 (fun g cs _ h => cells_kept h hg hr)⟩
def rdX (Ba Bn Bd D L M : Nat) (b : Nat) : Prop := ¬ (b = Ba ∨ b = Bn ∨ b = Bd ∨ b = D ∨ b = L ∨ b = M)
set_option maxRecDepth 100000 in
set_option maxHeartbeats 2000000 in
theorem read_any {D L M : Nat} {d : Dk} {w : World} (h : DkAt w D L M d) (hd : d.dead = false) (a m : Nat) (ham : a + m ≤ d.n) : Calls Try.prog 21 #[pD D, .int .i64 (a : Int), .int .i64 (m : Int)] w (ReadP d a m w) := by
  have hn2 := h.ok.n2
  have c2 := h.c2
  rw [hd] at c2
  have HH := Lib.hid (has_any h (a : Int) (m : Int) (by
    have e1 : IntKind.i64.min = -9223372036854775808 := rfl
    have e2 : IntKind.i64.max = 9223372036854775807 := rfl
    simp only [Lit.wf, e1, e2, Bool.and_eq_true, decide_eq_true_eq]
    omega))
  rw [has_true (by omega) (by omega) (by omega)] at HH
  have hmk : ∀ w : World, (Instr.makeSlice 40 (.int .i64 0) (.int .i64 ((m : Int) * 64))).run Try.prog w = .ok (.slice (some ⟨w.heap.size, 0, none⟩) 0 (m * 64)) (w.alloc (.cells (madeCells #[.int .u8 0] (m * 64)) 5)) := fun w => by
    rw [← mk_room (m * 64) (by omega) w, show ((m * 64 : Nat) : Int) = (m : Int) * 64 by omega]
  have hm0 : (0 : Int) ≤ (m : Int) := Int.natCast_nonneg _
  have hm1 : (m : Int) ≤ 4096 := by omega
  have HD := Lib.hid h
  clear h hd
  refine (callsIn_wide (n := 5)).1 ?_
  refine callsIn_of_wp_marks Try.func21 rfl trivial ?_ rfl
  simp only [Try.ntmps21, List.size_toArray, List.length_cons, List.length_nil, Nat.reduceAdd, Nat.reduceSub, Array.replicate_succ, Array.replicate_zero, List.push_toArray, List.append_toArray, List.nil_append, List.cons_append]
  gi_wp2_with first
    | (refine ⟨trivial, ?_⟩; gi_at_call 40; refine (callsIn_wide.2 HH.out).mono ?_; rintro e w' ⟨rfl, rfl⟩)
    | (refine ⟨trivial, ?_⟩; gi_at_call 41; refine (sectors_in Fence.wide _ trivial rfl D a m _).mono ?_; rintro e w' ⟨rfl, rfl⟩)
  obtain ⟨W1, hW1⟩ : ∃ W1, (w.alloc (.cells (madeCells #[.int .u8 0] (m * 64)) 5)).alloc (.cells #[.slice (some ⟨w.heap.size, 0, none⟩) 0 (m * 64)] 40) = W1 := ⟨_, rfl⟩
  rw [hW1]
  have hsz : W1.heap.size = w.heap.size + 2 := by rw [← hW1]; simp
  have hb1 : Below w.heap.size w W1 := by rw [← hW1]; exact ((Below.refl _ w).alloc (Nat.le_refl _) _).alloc (by simp) _
  have hdk : DkAt W1 D L M d := HD.out.below hb1 HD.out.ltD HD.out.ltL HD.out.ltM
  have hbx : W1.heap[w.heap.size + 1]? = some (.cells #[.slice (some ⟨w.heap.size, 0, none⟩) 0 (m * 64)] 40 (0, 0)) := by rw [← hW1]; exact heap_last _ _ _ (by simp)
  have hrow : OwnB W1 w.heap.size (.slice (some ⟨w.heap.size, 0, none⟩) 0 (m * 64)) [] := by
    rw [← hW1]
    exact own_keep (own_room (m * 64) (by omega) w w.heap.size (Nat.le_refl _)) (fun g cs _ hg => (heap_prev _ _ _ (lt_of_heap hg)).trans hg)
  have hscb := scW_below D a m W1
  have hI0 : RdI (W1.heap.size + 1) (W1.heap.size + 1 + 1) W1.heap.size D L M a m d w [] (scW D a m W1) :=
    ⟨⟨⟨_, (hscb.block _ (by omega)).trans hbx, own_keep hrow (fun g cs _ hg => (hscb.block _ (lt_of_heap hg)).trans hg)⟩, scW_E hdk⟩, hb1.trans (hscb.mono (by omega))⟩
  have hltD := HD.out.ltD
  have hltL := HD.out.ltL
  have hltM := HD.out.ltM
  clear hW1 hbx hrow hdk hb1 hscb hmk HH c2
  refine wpIn_rangeFunc_ownH rfl (by omega) (gf := 60) (lb := scF W1) rfl trivial (enters_of Try.func60 (by kernel_rfl) rfl)
    (sectors_stops Fence.wide _ trivial rfl (by omega) (rdX (W1.heap.size + 1) (W1.heap.size + 1 + 1) W1.heap.size D L M) w.heap.size (W1.heap.size + 1) (W1.heap.size + 1 + 1) W1.heap.size D L M a m d (by simp [rdX]) hltM HD.out.ok ham (scW D a m W1) hI0.1.2)
    kpX_t (kpX_b (by rw [scW_size]; omega)) (Below.refl _ _) (fun _ => rfl)
    (RdI (W1.heap.size + 1) (W1.heap.size + 1 + 1) W1.heap.size D L M a m d w) (fun _ _ _ => False) (rdI_own (by rw [scW_size]; omega) (by rw [scW_size]; omega)) (fun _ _ _ _ _ hs _ _ => hs) hI0
    (fun x a' W => ∃ Bx, W.heap[Bx]? = some (.cells (bc x.1) 74 (0, 0)) ∧ a' = { tmps := #[pD D, Value.int IntKind.i64 a, Value.int IntKind.i64 m, undef, undef, undef, Value.slice none 0 0, Value.int IntKind.i64 0, Value.pointer (some { block := w.heap.size + 1, off := 0 }), .pointer (some ⟨Bx, 0, none⟩), Value.bool false, pD D, Value.bool false, Value.bool false, pD D, Value.pointer (some { block := D, off := 0 }), Value.pointer (some { block := D, off := 2 }), Value.bool false, Value.bool false, pD D, Value.int IntKind.i64 a, Value.int IntKind.i64 m, Value.bool true, Value.bool false, Value.int IntKind.i64 m, Value.int IntKind.i64 (m * 64), Value.slice (some { block := w.heap.size, off := 0 }) 0 (m * 64), pD D, Value.int IntKind.i64 a, Value.int IntKind.i64 m, Value.func (Fn.func 60) #[] (scF W1), .agg (bc x.1), undef, undef, undef, undef], defers := [] })
    (fun x a' s W W' row hs hg hr => by obtain ⟨Bx, h1, h2⟩ := hs; exact ⟨Bx, cells_kept h1 hg hr, h2⟩) ?assign ?body ?done ?stop
  case assign =>
    intro l pre x W K hI hK
    gi_wp2_with ((with_reducible refine wlI_sc zero64 W.heap.size x.1 zero64_len x.2 ?_ ?_ rfl ?_); (· rfl); (· rfl))
    refine hK _ _ ((KeepsOthers.alloc _ _).from _) (kpX_frq ((Frq.refl _ W).alloc _)) ?_ ⟨W.heap.size, heap_last _ _ _ rfl, rfl⟩
    exact (rdI_own (B := W.heap.size) (Nat.lt_of_lt_of_le hltM hI.2.size) hI.2.size).alloc _ hI
  case body =>
    rintro l pre x a' W hl hr ⟨⟨⟨v, hv, hrow⟩, hE⟩, hB⟩ ⟨Bx, hx, rfl⟩ hlen
    have cv : W.cell? ⟨w.heap.size + 1, 0, none⟩ = some v := cell_of_arr hv 0
    have fv : W.frozen? ⟨w.heap.size + 1, 0, none⟩ = false := froz_of_arr hv 0
    have hcl : (catS pre).length + 64 ≤ 1000000000 := by rw [catS_len]; omega
    have hBg : w.heap.size ≤ W.heap.size := hB.size
    have hx2 := x.2
    obtain ⟨v', w', hr, ho2, hg2, ho3⟩ := run_appF W.drew 40 40 5 (.int .u8 0) 1 1 par_u8 Try.underlying40 rfl (by decide) (by decide) w.heap.size v (catS pre).length (Lib.byteCells (catS pre)) hrow (.slice (some ⟨Bx, 0, none⟩) 64 64) (fun _ => True) 64 (Lib.byteCells x.1)
      ⟨_, _, rfl, Nat.le_refl _, fun _ => ⟨Bx, 0, rfl, trivial, fun j u hu => by
        rw [Nat.zero_add]
        exact (cell_of_arr (W := W.drew) hx j).trans (by rw [bc_get]; exact hu)⟩⟩ (by rw [byl_len, hx2]) (byl_one _) hcl hBg
    obtain ⟨p', cap', rfl⟩ := own_slice ho2
    have hnb : some (w.heap.size + 1) ≠ v.ownBlock := own_not hrow hv (by decide)
    have hv2 : w'.heap[w.heap.size + 1]? = some (.cells #[v] 40 (0, 0)) := (hg2.block _ (lt_of_heap hv) hnb).trans hv
    have cv2 : w'.cell? ⟨w.heap.size + 1, 0, none⟩ = some v := cell_of_arr hv2 0
    have fv2 : w'.frozen? ⟨w.heap.size + 1, 0, none⟩ = false := froz_of_arr hv2 0
    have HR1 := Lib.hid hrow
    have HG2 := Lib.hid hg2
    have HO2 := Lib.hid ho2
    have HE := Lib.hid hE
    have HB := Lib.hid hB
    have HV2 := Lib.hid hv2
    have HO3 := Lib.hid ho3
    clear hrow hg2 ho2 hE hB hv2 hv ho3 hnb hcl
    gi_wp2
    refine wpIn_region_any (by kernel_rfl) ?_
    change wpAnyIn _ _ _ _ _ _ _ _ _ (World.drew _)
    have fin : ∀ a3, ownPostG (scW D a m W1).heap.size (KpX (rdX (W1.heap.size + 1) (W1.heap.size + 1 + 1) W1.heap.size D L M) w.heap.size) (RdI (W1.heap.size + 1) (W1.heap.size + 1 + 1) W1.heap.size D L M a m d w) (fun _ _ _ => False) (pre ++ [x]) W .normal a3 (w'.setCell ⟨w.heap.size + 1, 0, none⟩ (.slice p' ((catS pre).length + 64) cap')) := fun a3 => by
      have hg2 : W.grownBy w' v.ownBlock := ⟨HG2.out.os, HG2.out.tape, HG2.out.output, HG2.out.size, HG2.out.block⟩
      have hrow := HR1.out
      have same : ∀ b, b < W.heap.size → b ≠ w.heap.size + 1 → some b ≠ v.ownBlock → (w'.setCell ⟨w.heap.size + 1, 0, none⟩ (.slice p' ((catS pre).length + 64) cap')).heap[b]? = W.heap[b]? := fun b h1 h2 h3 => (Below.heap_setCell _ _ _ _ h2).trans (hg2.block b h1 h3)
      have hsize : W.heap.size ≤ (w'.setCell ⟨w.heap.size + 1, 0, none⟩ (.slice p' ((catS pre).length + 64) cap')).heap.size := by have := hg2.size; simpa using this
      have hlo : ∀ b, b < w.heap.size → some b ≠ v.ownBlock := fun b hb e => by have := (own_lt hrow e.symm).1; omega
      have hk : KpX (rdX (W1.heap.size + 1) (W1.heap.size + 1 + 1) W1.heap.size D L M) w.heap.size W (w'.setCell ⟨w.heap.size + 1, 0, none⟩ (.slice p' ((catS pre).length + 64) cap')) := by
        refine kpX_of hsize (fun b hb hbl => ?_)
        unfold rdX at hb
        rw [Classical.not_not] at hb
        rcases hb with rfl | rfl | rfl | rfl | rfl | rfl
        · exact same _ hbl (by omega) (own_not hrow HE.out.ca (by decide))
        · exact same _ hbl (by omega) (own_not hrow HE.out.cn (by decide))
        · exact same _ hbl (by omega) (own_not hrow HE.out.cd (by decide))
        · exact same _ hbl (by omega) (hlo _ hltD)
        · exact same _ hbl (by omega) (hlo _ hltL)
        · exact same _ hbl (by omega) (hlo _ hltM)
      refine ⟨⟨hsize, fun k o hkB ho hc => ?_⟩, hk, ⟨⟨_, set_heap HV2.out 0 _, ?_⟩, HE.out.kept hk (by simp [rdX]) hltM⟩, ?_⟩
      · rw [scW_size, hsz] at hkB
        refine (same k (lt_of_heap ho) (by omega) (fun e => ?_)).trans ho
        obtain ⟨cs, hcs⟩ := own_cells hrow e.symm
        rw [hcs] at ho; cases ho; cases hc
      · rw [catS_snoc]
        show World.ownsRow _ _ _ _ _ (catS pre ++ x.1).length (Lib.byteCells (catS pre ++ x.1))
        rw [List.length_append, hx2, byl_app]
        exact own_keep HO2.out (fun g cs hg hgc => (Below.heap_setCell _ _ _ _ (fun e => own_not HO2.out HV2.out (by decide) (by rw [hg]; exact congrArg some e.symm))).trans hgc)
      · exact (HB.out.grown hg2 HB.out.size (fun k e => (own_lt hrow e).1)).setCell (p := ⟨w.heap.size + 1, 0, none⟩) (by show w.heap.size ≤ w.heap.size + 1; omega) _
    refine wpAnyIn_ready (rs := [0, 1]) (by kernel_rfl) (by simp) ?_
    refine AllReadyIn.cons rfl (fun K hK => ?_) (AllReadyIn.cons rfl (fun K hK => ?_) AllReadyIn.nil)
    · go_simp
      refine hK _ _ ?_; clear hK K
      refine wpAnyIn_ready (rs := [1]) (by kernel_rfl) (by simp) (AllReadyIn.cons rfl (fun K hK => ?_) AllReadyIn.nil)
      go_simp
      refine hK _ _ ?_; clear hK K
      refine wpAnyIn_ready (rs := [2]) (by kernel_rfl) (by simp) (AllReadyIn.cons rfl (fun K hK => ?_) AllReadyIn.nil)
      refine stI_app rfl rfl hr ?_
      refine hK _ _ ?_; clear hK K
      refine wpAnyIn_ready (rs := [3]) (by kernel_rfl) (by simp) (AllReadyIn.cons rfl (fun K hK => ?_) AllReadyIn.nil)
      go_simp
      refine hK _ _ ?_; clear hK K
      refine wpAnyIn_done (by kernel_rfl) ?_ _
      exact fin ⟨#[], []⟩
    · go_simp
      refine hK _ _ ?_; clear hK K
      refine wpAnyIn_ready (rs := [0]) (by kernel_rfl) (by simp) (AllReadyIn.cons rfl (fun K hK => ?_) AllReadyIn.nil)
      go_simp
      refine hK _ _ ?_; clear hK K
      refine wpAnyIn_ready (rs := [2]) (by kernel_rfl) (by simp) (AllReadyIn.cons rfl (fun K hK => ?_) AllReadyIn.nil)
      refine stI_app rfl rfl hr ?_
      refine hK _ _ ?_; clear hK K
      refine wpAnyIn_ready (rs := [3]) (by kernel_rfl) (by simp) (AllReadyIn.cons rfl (fun K hK => ?_) AllReadyIn.nil)
      go_simp
      refine hK _ _ ?_; clear hK K
      refine wpAnyIn_done (by kernel_rfl) ?_ _
      exact fin ⟨#[], []⟩
  case done =>
    rintro E ys W hD rfl ⟨⟨⟨v, hv, hrow⟩, hE⟩, hB⟩ hK
    have cv : W.cell? ⟨w.heap.size + 1, 0, none⟩ = some v := cell_of_arr hv 0
    gi_wp2
    refine ⟨by simp, .inl ⟨_, _, rfl, run_takeDeferred hK, ?_⟩⟩
    rw [catS_scs HD.out.ok] at hrow
    refine ⟨_, results_tmp2 rfl _ _ _, v, rfl, own_keep hrow (fun g cs hg hgc => (World.putObj_heap_other (fun e => by subst e; rw [hK] at hgc; cases hgc)).trans hgc), hB.trans (belowK_b (w := w) (Nat.le_refl _) W E _ _ (by rw [scW_size] at hD; omega) hK rfl rfl)⟩
  case stop =>
    rintro E c pre W _ _ h _
    exact h.elim
/-- an error, and no bytes -/
def RErr (n : Int) (w : World) (e : Ending) (w' : World) : Prop := e = .returned (.tuple #[.slice none 0 0, .int .i64 n]) ∧ w = w'
set_option maxRecDepth 100000 in
theorem read_nil (a m : Int) (w : World) : Calls Try.prog 21 #[.pointer none, .int .i64 a, .int .i64 m] w (RErr 8 w) := by
  refine (callsIn_wide (n := 5)).1 ?_
  refine callsIn_of_wp_marks Try.func21 rfl trivial ?_ rfl
  simp only [Try.ntmps21, List.size_toArray, List.length_cons, List.length_nil, Nat.reduceAdd, Nat.reduceSub, Array.replicate_succ, Array.replicate_zero, List.push_toArray, List.append_toArray, List.nil_append, List.cons_append]
  gi_wp2
  exact ⟨_, results_tmp2 rfl _ _ _, rfl, rfl⟩
set_option maxRecDepth 100000 in
theorem read_dead {D L M : Nat} {d : Dk} {w : World} (h : DkAt w D L M d) (hd : d.dead = true) (a m : Int) : Calls Try.prog 21 #[pD D, .int .i64 a, .int .i64 m] w (RErr 120 w) := by
  have c2 := h.c2
  rw [hd] at c2
  clear h hd
  refine (callsIn_wide (n := 5)).1 ?_
  refine callsIn_of_wp_marks Try.func21 rfl trivial ?_ rfl
  simp only [Try.ntmps21, List.size_toArray, List.length_cons, List.length_nil, Nat.reduceAdd, Nat.reduceSub, Array.replicate_succ, Array.replicate_zero, List.push_toArray, List.append_toArray, List.nil_append, List.cons_append]
  gi_wp2
  exact ⟨_, results_tmp2 rfl _ _ _, rfl, rfl⟩
set_option maxRecDepth 100000 in
theorem read_not {D L M : Nat} {d : Dk} {w : World} (h : DkAt w D L M d) (hd : d.dead = false) (a m : Int) (ha : (Lit.int .i64 a).wf = true) (hn : d.has a m = false) : Calls Try.prog 21 #[pD D, .int .i64 a, .int .i64 m] w (RErr 1 w) := by
  have c2 := h.c2
  rw [hd] at c2
  have HH := Lib.hid (has_any h a m ha)
  rw [hn] at HH
  clear h hd ha hn
  refine (callsIn_wide (n := 5)).1 ?_
  refine callsIn_of_wp_marks Try.func21 rfl trivial ?_ rfl
  simp only [Try.ntmps21, List.size_toArray, List.length_cons, List.length_nil, Nat.reduceAdd, Nat.reduceSub, Array.replicate_succ, Array.replicate_zero, List.push_toArray, List.append_toArray, List.nil_append, List.cons_append]
  gi_wp2_with (refine ⟨trivial, ?_⟩; gi_at_call 40; refine (callsIn_wide.2 HH.out).mono ?_; rintro e w' ⟨rfl, rfl⟩)
  exact ⟨_, results_tmp2 rfl _ _ _, rfl, rfl⟩
end Go.Proofs.Ytabahkeologbmaa.Dk
