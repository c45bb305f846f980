/- The walk of TicketWhole. -/
import Derived.Test.YtkdfhmlamjhedaaTkWhP
import Derived.Test.YtkdfhmlamjhedaaTkOpen
import Derived.Test.YtkdfhmlamjhedaaPrF
import Derived.Laws.StructEq
namespace Go.Proofs.Ytkdfhmlamjhedaa
open Go.Shelf Go.RowKit Go.Lib Go.Money Go.Pror Go.Tick

def zSt (n : Nat) : Array Value := madeCells #[.int .u8 0] n
theorem zSt_eq (n : Nat) : zSt n = ((List.replicate n (0 : Int)).map (Value.int .u8)).toArray := by
  unfold zSt
  apply Array.toList_inj.1
  rw [toList_madeCells_one, List.map_replicate]
theorem par_st : (Try.prog.info? 45).map (fun i => (i.zero, i.size, i.bytes)) = some (some (.int .u8 0), 1, 1) := by kernel_rfl
theorem mk_st (n : Nat) (hn : n ≤ 1000000) (w : World) : (Instr.makeSlice 32 (.int .i64 (n : Int)) (.int .i64 (n : Int))).run Try.prog w = .ok (.slice (some ⟨w.heap.size, 0, none⟩) n n) (w.alloc (.cells (zSt n) 45)) :=
  run_make_row' 32 45 (.int .u8 0) 1 Try.underlying32 par_st rfl .i64 .i64 n (by omega) (by omega) w
attribute [irreducible] zSt
def zBo (n : Nat) : Array Value := madeCells #[.bool false] n
theorem zBo_eq (n : Nat) : zBo n = (List.replicate n (Value.bool false)).toArray := by
  unfold zBo
  apply Array.toList_inj.1
  rw [toList_madeCells_one]
theorem par_bo : (Try.prog.info? 4).map (fun i => (i.zero, i.size, i.bytes)) = some (some (.bool false), 1, 1) := by kernel_rfl
theorem mk_bo (n : Nat) (hn : n ≤ 1000000) (w : World) : (Instr.makeSlice 33 (.int .i64 (n : Int)) (.int .i64 (n : Int))).run Try.prog w = .ok (.slice (some ⟨w.heap.size, 0, none⟩) n n) (w.alloc (.cells (zBo n) 4)) :=
  run_make_row' 33 4 (.bool false) 1 Try.underlying33 par_bo rfl .i64 .i64 n (by omega) (by omega) w
attribute [irreducible] zBo
theorem neq_tk (c sr : Nat) (w : World) : (binOp .neq 24 (.agg (tkV c sr)) (.agg (tkV c sr))).run Try.prog w = .ok (.bool false) w := by
  have u5 := Try.underlying5
  have a5 := Try.isAgg5
  have z5 := Try.sizeOf5
  have u6 := Try.underlying22
  have a6 := Try.isAgg22
  have z6 := Try.sizeOf22
  have hS : Try.prog.underlying 24 = some (.struct (Try.prog.fieldsOf 24)) := by kernel_rfl
  have hp : Try.prog.stoodInHeld 24 = false := by kernel_rfl
  rw [run_neq_struct, show (10000 : Nat) = 9999 + 1 from rfl, run_equalIn_agg w 9999 24 _ _ hS hp]
  simp only [Program.fieldsOf, Try.underlying24]
  go_simp
theorem vals_nn (s : Sl) : nonneg (vals s) := by
  intro a ha
  unfold vals ints at ha
  obtain ⟨n, _, rfl⟩ := List.mem_map.1 ha
  exact Int.natCast_nonneg _
theorem vals_sum {s : Sl} (h : OkS s) : (vals s).sum = s.fare := by
  have h1 := share_sum s.fare.toNat (s.legs.map Lg.wt) h.w0
  have h2 : ∀ l : List Nat, (ints l).sum = ((l.sum : Nat) : Int) := by
    intro l
    induction l with
    | nil => rfl
    | cons a l ih => unfold ints at ih ⊢; simp only [List.map_cons, List.sum_cons, ih]; omega
  unfold vals
  rw [h2, h1]
  have := h.f0
  omega
theorem vals_sumO {s : Sl} (h : OkS s) : sumO 0 (vals s) = some s.fare := by
  have := h.f1
  rw [sumO_nn (vals s) 0 (Int.le_refl _) (by decide) (vals_nn s), vals_sum h, if_pos (by omega)]
  congr 1; omega
set_option maxRecDepth 100000 in
set_option maxHeartbeats 3200000 in
theorem tkwhole_gate (c sr : Nat) (s : Sl) (lp : Option Addr) (lc : Nat) (tp : Option Addr) (tc : Nat) (n : Int) (wp : Option Addr) (nw wc : Nat) (w : World) (hg : grB s = true ∨ 60 < nw) :
    Calls Try.prog 4 #[.agg (tkV c sr), .agg (saV s lp lc tp tc), iv n, .slice wp nw wc] w fun e w' => e = .returned (.bool true) ∧ Below w.heap.size w w' := by
  have HW := Lib.hid (fun W => tkwakes_any W)
  have HGR := Lib.hid (fun W => great_any s lp lc tp tc W)
  have hb0 : Below w.heap.size w ((w.alloc (.cells (tkV c sr) 24)).alloc (.cells (saV s lp lc tp tc) 28)) := ((Below.refl _ _).alloc (Nat.le_refl _) _).alloc (by simp) _
  have HB0 := Lib.hid hb0
  have HS0 := Lib.hid (show ((w.alloc (.cells (tkV c sr) 24)).alloc (.cells (saV s lp lc tp tc) 28)).heap[w.heap.size + 1]? = some (.cells (saV s lp lc tp tc) 28 (0, 0)) from heap_last _ _ _ (by simp))
  obtain ⟨bg, hbg⟩ : ∃ b, grB s = b := ⟨_, rfl⟩
  rw [hbg] at HGR hg
  clear hb0 hbg
  cases bg
  · have h60 : (60 : Int) < (nw : Int) := by
      rcases hg with h | h
      · cases h
      · omega
    clear hg
    go_enter Try.func4, Try.ntmps4
    go_wp2_with (first
      | (refine wpList_load_row rfl 28 _ rfl (w.heap.size + 1) rfl 28 (saV s lp lc tp tc) (0, 0) _ HS0.out Try.underlying28 rfl sizeSale ?_)
      | (go_at_call 8; refine (HGR.out _).mono ?_; rintro e w2 ⟨rfl, hb2⟩
         have HB2 := Lib.hid (HB0.out.trans (hb2.mono HB0.out.size))
         clear hb2)
      | (go_at_call 9; refine (HW.out _).mono ?_; rintro e w3 ⟨rfl, hb3⟩))
    go_ret
    exact ⟨rfl, HB2.out.trans (hb3.mono HB2.out.size)⟩
  · clear hg
    go_enter Try.func4, Try.ntmps4
    go_wp2_with (first
      | (refine wpList_load_row rfl 28 _ rfl (w.heap.size + 1) rfl 28 (saV s lp lc tp tc) (0, 0) _ HS0.out Try.underlying28 rfl sizeSale ?_)
      | (go_at_call 8; refine (HGR.out _).mono ?_; rintro e w2 ⟨rfl, hb2⟩
         have HB2 := Lib.hid (HB0.out.trans (hb2.mono HB0.out.size))
         clear hb2)
      | (go_at_call 9; refine (HW.out _).mono ?_; rintro e w3 ⟨rfl, hb3⟩))
    go_ret
    exact ⟨rfl, HB2.out.trans (hb3.mono HB2.out.size)⟩
/-- Make, where the sale may not be, or the ticket -/
theorem make_not (c sr : Nat) (s : Sl) (n : Int) (lp : Option Addr) (lc : Nat) (tp : Option Addr) (tc : Nat) (w : World) (hc : c < 256) (hP : SaP w s lp lc tp tc) (hl : s.legs.length ≤ 1000) (ht : s.taxes.length ≤ 1000) (hno : tkB c sr n = false ∨ chkL s n ≠ 0) :
    Calls Try.prog 14 #[.agg (tkV c sr), .agg (saV s lp lc tp tc), iv n] w fun e w' => ∃ ec, ec ≠ 0 ∧ e = .returned (.tuple #[.agg zDoc, iv ec]) ∧ Below w.heap.size w w' := by
  cases hk : tkB c sr n with
  | false => exact (make_bad1 c sr s n lp lc tp tc w hc hk).mono fun e w' ⟨h1, h2⟩ => ⟨1, by decide, h1, h2⟩
  | true =>
    have h0 : chkL s n ≠ 0 := by
      rcases hno with h | h
      · rw [hk] at h; cases h
      · exact h
    exact (make_bad2 c sr s n lp lc tp tc w hc hk hP.lr hP.tr hl ht _ rfl h0).mono fun e w' ⟨h1, h2⟩ => ⟨_, h0, h1, h2⟩
set_option maxRecDepth 100000 in
set_option maxHeartbeats 3200000 in
theorem tkwhole_bad (c sr : Nat) (s : Sl) (lp : Option Addr) (lc : Nat) (tp : Option Addr) (tc : Nat) (n : Int) (wp : Option Addr) (nw wc : Nat) (w : World) (hc : c < 256) (hP : SaP w s lp lc tp tc) (hg : grB s = false) (hnw : nw ≤ 60) (hl : s.legs.length ≤ 1000) (ht : s.taxes.length ≤ 1000) (hno : tkB c sr n = false ∨ chkL s n ≠ 0) :
    Calls Try.prog 4 #[.agg (tkV c sr), .agg (saV s lp lc tp tc), iv n, .slice wp nw wc] w fun e w' => e = .returned (.bool true) ∧ Below w.heap.size w w' := by
  have HW := Lib.hid (fun W => tkwakes_any W)
  have HGR := Lib.hid (fun W => great_any s lp lc tp tc W)
  rw [hg] at HGR
  obtain ⟨wb, hwb⟩ : ∃ wb, wb = (w.alloc (.cells (tkV c sr) 24)).alloc (.cells (saV s lp lc tp tc) 28) := ⟨_, rfl⟩
  have hb0 : Below w.heap.size w wb := by rw [hwb]; exact ((Below.refl _ _).alloc (Nat.le_refl _) _).alloc (by simp) _
  have hbT : wb.heap[w.heap.size]? = some (.cells (tkV c sr) 24 (0, 0)) := by rw [hwb, Below.heap_alloc _ _ _ (by simp)]; exact heap_last _ _ _ rfl
  have hbS : wb.heap[w.heap.size + 1]? = some (.cells (saV s lp lc tp tc) 28 (0, 0)) := by rw [hwb]; exact heap_last _ _ _ (by simp)
  have HXT := Lib.hid (fun wz (hz : Below wb.heap.size wb wz) => (hz.block _ (lt_heap hbT)).trans hbT)
  have HXS := Lib.hid (fun wz (hz : Below wb.heap.size wb wz) => (hz.block _ (lt_heap hbS)).trans hbS)
  have HMK := Lib.hid (fun W (h : Below wb.heap.size wb W) => make_not c sr s n lp lc tp tc W hc ⟨(hP.lr.keep hb0).keep h, (hP.tr.keep hb0).keep h, hP.lc_, hP.tc_, hP.wt, hP.fb⟩ hl ht hno)
  have HB0 := Lib.hid hb0
  have HR0 := Lib.hid (Below.refl wb.heap.size wb)
  have nI : (nw : Int) ≤ 60 := by omega
  clear hg hnw hl ht hno hc hP hb0 hbT hbS
  go_enter Try.func4, Try.ntmps4
  go_wp2_with fail
  rw [← hwb]
  clear hwb
  refine (HGR.out _).mono ?_
  rintro e w2 ⟨rfl, hb2⟩
  have HB2 := Lib.hid (HR0.out.trans (hb2.mono HR0.out.size))
  clear hb2
  go_wp2_with (first
    | (refine wpList_load_row rfl 28 _ rfl (w.heap.size + 1) rfl 28 (saV s lp lc tp tc) (0, 0) _ (HXS.out _ HB2.out) Try.underlying28 rfl sizeSale ?_)
    | (refine wpList_load_row rfl 24 _ rfl w.heap.size rfl 24 (tkV c sr) (0, 0) _ (HXT.out _ HB2.out) Try.underlying24 rfl (by kernel_rfl) ?_)
    | (go_at_call 14; refine (HMK.out _ HB2.out).mono ?_; rintro e w3 ⟨ec, hec, rfl, hb3⟩
       have HB3 := Lib.hid (HB2.out.trans (hb3.mono HB2.out.size))
       have hec1 : (ec != 0) = true := by rw [bne_iff_ne]; exact hec
       have HEC := Lib.hid hec
       clear hb3 hec)
    | (go_at_call 9; refine (HW.out _).mono ?_; rintro e w4 ⟨rfl, hb4⟩))
  go_ret
  have h3 := HB0.out.trans (HB3.out.mono HB0.out.size)
  exact ⟨rfl, (h3.alloc h3.size _).trans (hb4.mono (h3.alloc h3.size _).size)⟩
/-- the statuses of the first loop -/
def onL (n k : Nat) : List Nat := (List.range n).map fun i => if i < k then 1 else 0
theorem onL_len (n k : Nat) : (onL n k).length = n := by simp [onL]
theorem onL_zero (n : Nat) : ints (onL n 0) = List.replicate n 0 := by
  apply List.ext_getElem
  · simp [onL, ints]
  · intro i h1 h2; simp [onL, ints]
theorem onL_all (wh : Nat → Bool) (n : Nat) : onL n n = stL wh n 0 := by
  unfold onL stL
  apply List.map_congr_left
  intro i hi
  rw [if_pos (List.mem_range.1 hi), if_neg (by omega)]
theorem onL_set (n k : Nat) : (ints (onL n k)).set k 1 = ints (onL n (k + 1)) := by
  apply List.ext_getElem
  · simp [onL, ints]
  · intro i h1 h2
    rw [List.getElem_set]
    simp only [onL, ints, List.getElem_map, List.getElem_range]
    by_cases c : k = i
    · subst c; simp
    · by_cases c2 : i < k
      · have c3 : i < k + 1 := by omega
        simp [c, c2, c3]
      · have c3 : ¬ i < k + 1 := by omega
        simp [c, c2, c3]
theorem stL_seti (wh : Nat → Bool) (n k : Nat) (x : Int) (hx : x = if wh k then 6 else 4) : (ints (stL wh n k)).set k x = ints (stL wh n (k + 1)) := by
  rw [← stL_set]
  unfold ints
  rw [List.map_set, hx]
  congr 1
  split <;> rfl
/-- the document in the loop -/
abbrev dW (c sr : Nat) (s : Sl) (lp : Option Addr) (lc : Nat) (tp : Option Addr) (tc : Nat) (vp : Option Addr) (n vc : Nat) (bk kp : Int) : Array Value :=
  dcV (u8v c) (u64v sr) (str s.name) (.slice lp s.legs.length lc) (iv s.fare) (.slice tp s.taxes.length tc) (iv s.pen) vp n vc (.int .u8 0) (.int .u64 0) (.int .u8 0) (.int .u64 0) 0 s.fare bk kp 0
def brC (b : Bool) : List Value := [.bool b]
/-- which coupons are paid back -/
def whF (wh : List Bool) (i : Nat) : Bool := wh.getD i false
end Go.Proofs.Ytkdfhmlamjhedaa
