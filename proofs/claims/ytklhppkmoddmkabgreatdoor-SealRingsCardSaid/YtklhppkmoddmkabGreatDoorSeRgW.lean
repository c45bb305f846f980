/- SealRings' walk. -/
import Derived.Test.YtklhppkmoddmkabGreatDoorSeBkC
/- Rows that Keys made, by number; one key of each written over (no walk). -/
namespace Go.Proofs.YtklhppkmoddmkabGreatDoor
open Go.RowKit Go.Edi Go.Wrap Go.Lib

/-- what Keys made: the slice's block, the rows' blocks and cells -/
structure RowsAt (w : World) (A n g1 c1 : Nat) (g c : Nat → Nat) (cur : Nat → Array Value) (more : Tx) : Prop where
  a1 : A ≤ g1 ∧ g1 < w.heap.size ∧ n ≤ c1
  cell : ∀ i, i < n → w.cell? ⟨g1, i, none⟩ = some (.slice (some ⟨g i, 0, none⟩) n (c i))
  row : ∀ i, i < n → A ≤ g i ∧ n ≤ c i ∧ g i ≠ g1 ∧ n ≤ (cur i).size ∧ w.heap[g i]? = some (.cells (cur i) 22 (0, 0))
  inj : ∀ i j, i < n → j < n → i ≠ j → g i ≠ g j
  key : ∀ i t, i < n → t < n → ∃ v, (cur i)[t]? = some v ∧ BysF w (fun b => b < w.heap.size ∧ ∀ j, j < n → b ≠ g j) v (keyW i t more)
def gOf (v : Value) : Nat := match v with | .slice (some a) _ _ => a.block | _ => 0
def cOf (v : Value) : Nat := match v with | .slice _ _ c => c | _ => 0
def cellsAt (w : World) (b : Nat) : Array Value := match w.heap[b]? with | some (.cells cs _ _) => cs | _ => #[]
theorem rows_at {w : World} {A n : Nat} {u : Value} {xs : List Value} {more : Tx} (hn : 0 < n) (ho : w.ownsRow A 52 1 u n xs) (hk : KyO w A n u.ownBlock (KKp n n more) xs) :
    ∃ g1 c1 g c cur, u = .slice (some ⟨g1, 0, none⟩) n c1 ∧ RowsAt w A n g1 c1 g c cur more := by
  obtain ⟨hxl, ⟨_, h0⟩ | ⟨g1, c1, curu, rfl, hb, hg, hnc, _, hsz, htk⟩⟩ := ho
  · omega
  obtain ⟨lo, hi, h1, h2⟩ := hk
  have hxl' : xs.length = n := by omega
  have hrow : ∀ i, i < n → ∃ b cap cur, xs[i]? = some (.slice (some ⟨b, 0, none⟩) n cap) ∧ lo i ≤ b ∧ b < hi i ∧ n ≤ cap ∧ n ≤ cur.size ∧ w.heap[b]? = some (.cells cur 22 (0, 0)) ∧
      ∀ t, t < n → ∃ v, cur[t]? = some v ∧ BysF w (fun x => lo i ≤ x ∧ x < hi i ∧ x ≠ b) v (keyW i t more) := fun i hin => by
    obtain ⟨_, _, _, v, e1, hr⟩ := h1 i hin
    obtain ⟨ys, hy1, hy2⟩ := hr.own
    have htop := hr.top
    rw [kkp_getD more hin, rowW_len] at hy1
    rw [kkp_getD more hin] at hy2
    obtain ⟨hyl, ⟨_, h0⟩ | ⟨b, cap, cur, rfl, hb2, hg2, hnc2, _, hsz2, htk2⟩⟩ := hy1
    · omega
    refine ⟨b, cap, cur, e1, hb2, htop b rfl, hnc2, by omega, hg2, fun t ht => ?_⟩
    obtain ⟨v, f1, f2⟩ := hy2.get t (by rw [rowW_len]; exact ht)
    have hkk := kyAt_kkp more hin ht
    unfold kyAt at hkk
    rw [kkp_getD more hin] at hkk
    rw [hkk] at f2
    refine ⟨v, ?_, f2.kept (fun x hx => ⟨⟨hx.1, hx.2.1, fun e => hx.2.2 (by rw [e]; rfl)⟩, rfl⟩)⟩
    rw [← htk2, List.getElem?_take, if_pos (by omega), Array.getElem?_toList] at f1
    exact f1
  have hbnd : ∀ i, i < n → A ≤ lo i ∧ hi i ≤ w.heap.size ∧ ¬ (lo i ≤ g1 ∧ g1 < hi i) := fun i hin => ⟨(h1 i hin).1, (h1 i hin).2.1, (h1 i hin).2.2.1 g1 rfl⟩
  have hx : ∀ i, i < n → xs[i]? = some (.slice (some ⟨gOf (xs.getD i (.slice none 0 0)), 0, none⟩) n (cOf (xs.getD i (.slice none 0 0)))) := fun i hin => by
    obtain ⟨b, cap, cur, e1, _⟩ := hrow i hin
    rw [List.getD_eq_getElem?_getD, e1]
    rfl
  have hall : ∀ i, i < n → lo i ≤ gOf (xs.getD i (.slice none 0 0)) ∧ gOf (xs.getD i (.slice none 0 0)) < hi i ∧ n ≤ cOf (xs.getD i (.slice none 0 0)) ∧ n ≤ (cellsAt w (gOf (xs.getD i (.slice none 0 0)))).size ∧ w.heap[gOf (xs.getD i (.slice none 0 0))]? = some (.cells (cellsAt w (gOf (xs.getD i (.slice none 0 0)))) 22 (0, 0)) ∧
      ∀ t, t < n → ∃ v, (cellsAt w (gOf (xs.getD i (.slice none 0 0))))[t]? = some v ∧ BysF w (fun x => lo i ≤ x ∧ x < hi i ∧ x ≠ gOf (xs.getD i (.slice none 0 0))) v (keyW i t more) := fun i hin => by
    obtain ⟨b, cap, cur, e1, q1, q2, q3, q4, q5, q6⟩ := hrow i hin
    have e2 : xs.getD i (.slice none 0 0) = .slice (some ⟨b, 0, none⟩) n cap := by rw [List.getD_eq_getElem?_getD, e1]; rfl
    rw [e2]
    have e3 : cellsAt w b = cur := by unfold cellsAt; rw [q5]
    show lo i ≤ b ∧ b < hi i ∧ n ≤ cap ∧ n ≤ (cellsAt w b).size ∧ w.heap[b]? = some (.cells (cellsAt w b) 22 (0, 0)) ∧ ∀ t, t < n → ∃ v, (cellsAt w b)[t]? = some v ∧ BysF w (fun x => lo i ≤ x ∧ x < hi i ∧ x ≠ b) v (keyW i t more)
    rw [e3]
    exact ⟨q1, q2, q3, q4, q5, q6⟩
  refine ⟨g1, c1, fun i => gOf (xs.getD i (.slice none 0 0)), fun i => cOf (xs.getD i (.slice none 0 0)), fun i => cellsAt w (gOf (xs.getD i (.slice none 0 0))), rfl, ⟨⟨hb, lt_of_heap hg, hnc⟩, fun i hin => ?_, fun i hin => ?_, fun i j hi' hj hij => ?_, fun i t hin ht => ?_⟩⟩
  · rw [cell_of_arr hg i, ← Array.getElem?_toList]
    have := hx i hin
    rw [← htk, List.getElem?_take, if_pos (by omega)] at this
    rw [htk] at this
    exact this
  · obtain ⟨q1, q2, q3, q4, q5, _⟩ := hall i hin
    have := hbnd i hin
    exact ⟨by omega, q3, fun e => this.2.2 ⟨by omega, by omega⟩, q4, q5⟩
  · obtain ⟨q1, q2, _⟩ := hall i hi'
    obtain ⟨r1, r2, _⟩ := hall j hj
    rcases Nat.lt_or_gt_of_ne hij with h | h
    · have := h2 i j h hj
      omega
    · have := h2 j i h hi'
      omega
  · obtain ⟨_, _, _, _, _, q6⟩ := hall i hin
    obtain ⟨v, f1, f2⟩ := q6 t ht
    refine ⟨v, f1, f2.kept (fun x hx => ⟨⟨by have := (hbnd i hin).2.1; have := hx.2.1; omega, fun j hj e => ?_⟩, rfl⟩)⟩
    by_cases hij : j = i
    · subst hij; exact hx.2.2 e
    · obtain ⟨r1, r2, _⟩ := hall j hj
      have e : x = gOf (xs.getD j (.slice none 0 0)) := e
      rcases Nat.lt_or_gt_of_ne hij with h | h
      · have := h2 j i h hin
        have := hx.1
        omega
      · have := h2 i j h hj
        have := hx.2.1
        omega
/-- rows, the keys to oneself of the first i written over -/
structure RwInv (w6 wr : World) (A n i : Nat) (g : Nat → Nat) (cur : Nat → Array Value) (sf : Tx) (sv : Nat → Value) : Prop where
  bl : Below A w6 wr
  oth : ∀ b, b < w6.heap.size → (∀ j, j < n → b ≠ g j) → wr.heap[b]? = w6.heap[b]?
  row : ∀ j, j < n → wr.heap[g j]? = some (.cells (if j < i then (cur j).setIfInBounds j (sv j) else cur j) 22 (0, 0))
  new : ∀ j, j < i → BysF wr (fun b => w6.heap.size ≤ b ∧ b < wr.heap.size) (sv j) sf
theorem rw_ky {w6 wr : World} {A n g1 c1 : Nat} {g c : Nat → Nat} {cur : Nat → Array Value} {more self : Tx} {sv : Nat → Value} (hr : RowsAt w6 A n g1 c1 g c cur more) (h : RwInv w6 wr A n n g cur self sv) :
    KyF wr (· < wr.heap.size) (.slice (some ⟨g1, 0, none⟩) n c1) (diagW n more self) := by
  have hz := h.bl.size
  refine ⟨(List.range n).map fun i => .slice (some ⟨g i, 0, none⟩) n (c i), ?_, KyC.of_get (by simp [diagW_len]) (fun i hi => ?_)⟩
  · rw [diagW_len]
    refine ⟨_, _, rfl, hr.a1.2.2, fun _ => ⟨g1, 0, rfl, by show g1 < _; have := hr.a1.2.1; omega, fun j u hu => ?_⟩⟩
    have hj : j < n := by have := (List.getElem?_eq_some_iff.1 hu).1; simpa using this
    rw [List.getElem?_map, List.getElem?_range hj] at hu
    rw [Nat.zero_add, World.cell?_of_block (a := ⟨g1, j, none⟩) (h.oth g1 hr.a1.2.1 (fun k hk e => (hr.row k hk).2.2.1 e.symm)), hr.cell j hj]
    exact hu
  · rw [diagW_len] at hi
    refine ⟨.slice (some ⟨g i, 0, none⟩) n (c i), by rw [List.getElem?_map, List.getElem?_range hi]; rfl, ?_⟩
    have hrow := h.row i hi
    rw [if_pos hi] at hrow
    obtain ⟨_, hnc, _, hsz, _⟩ := hr.row i hi
    rw [diagW_row more self hi]
    refine ⟨(((cur i).setIfInBounds i (sv i)).toList.take n), ?_, RwC.of_get (by simp; omega) (fun t ht => ?_)⟩
    · rw [List.length_map, List.length_range]
      refine ⟨_, _, rfl, hnc, fun _ => ⟨g i, 0, rfl, lt_of_heap hrow, fun j u hu => ?_⟩⟩
      rw [List.getElem?_take] at hu
      split at hu
      · rw [Nat.zero_add, cell_of_arr hrow j, ← Array.getElem?_toList]; exact hu
      · cases hu
    · rw [List.length_map, List.length_range] at ht
      have e : ((List.range n).map fun j => if i = j then self else keyW i j more).getD t [] = if i = t then self else keyW i t more := by
        rw [List.getD_eq_getElem?_getD, List.getElem?_map, List.getElem?_range ht]; rfl
      rw [e, List.getElem?_take, if_pos ht, Array.getElem?_toList]
      by_cases hit : i = t
      · subst hit
        rw [if_pos rfl]
        exact ⟨sv i, Array.getElem?_setIfInBounds_self_of_lt (by omega), (h.new i hi).kept (fun b hb => ⟨hb.2, rfl⟩)⟩
      · rw [if_neg hit]
        obtain ⟨v, f1, f2⟩ := hr.key i t hi ht
        exact ⟨v, by rw [Array.getElem?_setIfInBounds_ne hit]; exact f1, f2.kept (fun b hb => ⟨by show b < _; have := hb.1; omega, h.oth b hb.1 hb.2⟩)⟩
end Go.Proofs.YtklhppkmoddmkabGreatDoor
namespace Go.Proofs.YtklhppkmoddmkabGreatDoor
open Go.RowKit Go.Edi Go.Wrap Go.Lib
open Go.Sha (bv zl)

theorem rw_step {w6 wr wa w5 : World} {A n i g1 c1 : Nat} {g c : Nat → Nat} {cur : Nat → Array Value} {more sf : Tx} {sv : Nat → Value} {v : Value} (h : RwInv w6 wr A n i g cur sf sv) (hr : RowsAt w6 A n g1 c1 g c cur more) (hi : i < n)
    (hb : Below wr.heap.size wr wa) (ho : w5.ownsRow wa.heap.size 5 1 v sf.length (Lib.byteCells sf)) (hg : wa.grownBy w5 none) : RwInv w6 (w5.setCell ⟨g i, i, none⟩ v) A n (i + 1) g cur sf (fun j => if j = i then v else sv j) := by
  have hz1 := h.bl.size
  have hz2 := hb.size
  have hz3 := hg.size
  have hgl : ∀ j, j < n → g j < w6.heap.size := fun j hj => lt_of_heap (hr.row j hj).2.2.2.2
  have hk : ∀ b, b < wr.heap.size → w5.heap[b]? = wr.heap[b]? := fun b hb' => (hg.block b (by omega) (fun e => by cases e)).trans (hb.block b hb')
  have hrow : ∀ j, j < n → w5.heap[g j]? = wr.heap[g j]? := fun j hj => hk _ (by have := hgl j hj; omega)
  refine ⟨?_, fun b hb1 hb2 => ?_, fun j hj => ?_, fun j hj => ?_⟩
  · have hA := (hr.row i hi).1
    have := hgl i hi
    exact ((h.bl.trans (hb.mono (by omega))).grown hg (by omega) (fun k e => by cases e)).setCell (p := ⟨g i, i, none⟩) hA _
  · exact (Below.heap_setCell _ _ _ _ (hb2 i hi)).trans ((hk b (by omega)).trans (h.oth b hb1 hb2))
  · by_cases e : j = i
    · subst e
      have h0 := h.row j hj
      rw [if_neg (by omega)] at h0
      rw [if_pos (by omega), if_pos rfl]
      exact heap_setCell_same w5 (g j) j _ _ v ((hrow j hj).trans h0)
    · have hne := hr.inj j i hj hi e
      rw [Below.heap_setCell _ _ _ _ hne, hrow j hj, h.row j hj]
      by_cases h3 : j < i
      · rw [if_pos h3, if_pos (by omega), if_neg e]
      · rw [if_neg h3, if_neg (by omega)]
  · by_cases e : j = i
    · rw [if_pos e]
      have h1 : BysF w5 (fun b => wa.heap.size ≤ b ∧ b < w5.heap.size) v sf := row_own ho (fun b e => ho.lt b e)
      exact h1.kept (fun b hb => ⟨⟨by omega, by simp; exact hb.2⟩, Below.heap_setCell _ _ _ _ (by show b ≠ g i; have := hgl i hi; omega)⟩)
    · rw [if_neg e]
      exact (h.new j (by omega)).kept (fun b hb => ⟨⟨hb.1, by simp; omega⟩, (Below.heap_setCell _ _ _ _ (by show b ≠ g i; have := hgl i hi; omega)).trans (hk b hb.2)⟩)
theorem eql_pk' (a : Pk) (W : World) : (binOp .eql 45 (.agg (pkV a)) (.agg (pkV a))).run Tryz.prog W = .ok (.bool true) W := by
  have h := eql_pk a a W
  rw [decide_eq_true rfl] at h
  exact h
set_option maxRecDepth 100000 in
theorem serings_bad (n0 : Int) (p : Pk) (M N : Nat) (mp lp : Option Addr) (mc lc B : Nat) (w : World) (he : Ev B w) (hB : B ≤ w.heap.size) (h : n0 < 2 ∨ 8 < n0 ∨ 60 < M ∨ 2000 < N) :
    Calls Tryz.prog 4 #[.int .i64 n0, .slice mp M mc, .slice lp N lc, .agg (pkV p)] w fun e w' => e = .returned (.bool true) ∧ Below w.heap.size w w' := by
  have HB0 := hid (show Below w.heap.size w (w.alloc (.cells (pkV p) 45)) from (Below.refl _ _).alloc (Nat.le_refl _) _)
  have HWK := hid (wk_any he hB)
  clear he hB
  have hc : n0 < 2 ∨ (¬ n0 < 2 ∧ 8 < n0) ∨ (¬ n0 < 2 ∧ ¬ 8 < n0 ∧ 60 < (M : Int)) ∨ (¬ n0 < 2 ∧ ¬ 8 < n0 ∧ ¬ 60 < (M : Int) ∧ 2000 < (N : Int)) := by omega
  clear h
  rcases hc with h | ⟨h1, h2⟩ | ⟨h1, h2, h3⟩ | ⟨h1, h2, h3, h4⟩
  all_goals
    go_enter Tryz.func4, Tryz.ntmps4
    go_wp2_with (go_at_call 5; refine (HWK.out _ HB0.out).mono ?_; rintro e wk ⟨rfl, hbk⟩; have HBK := hid (HB0.out.trans (hbk.mono HB0.out.size)); clear hbk)
    go_ret
    exact ⟨rfl, HBK.out⟩
set_option maxRecDepth 100000 in
set_option maxHeartbeats 6400000 in
theorem serings_good (n : Nat) (p : Pk) (more self : Tx) (mp lp : Option Addr) (mc lc B : Nat) (w : World) (hp : p.Ty) (he : Ev B w) (hB : B ≤ w.heap.size) (h2 : 2 ≤ n) (h8 : n ≤ 8) (hm : more.length ≤ 60) (hs : self.length ≤ 2000)
    (hv : BysF w (· < w.heap.size) (.slice mp more.length mc) more) (hb : BysF w (· < w.heap.size) (.slice lp self.length lc) self) :
    Calls Tryz.prog 4 #[.int .i64 (n : Int), .slice mp more.length mc, .slice lp self.length lc, .agg (pkV p)] w fun e w' => e = .returned (.bool true) ∧ Below w.heap.size w w' := by
  have hb0 : Below w.heap.size w (w.alloc (.cells (pkV p) 45)) := (Below.refl _ _).alloc (Nat.le_refl _) _
  have HB0 := hid hb0
  have HP0 := hid (show (w.alloc (.cells (pkV p) 45)).heap[w.heap.size]? = some (.cells (pkV p) 45 (0, 0)) from at_last _ _)
  have HEV := hid (show ∀ wz, Below w.heap.size w wz → Ev B wz ∧ B ≤ wz.heap.size from fun wz hz => ⟨he.on (hz.mono hB), Nat.le_trans hB hz.size⟩)
  have HWK := hid (wk_any he hB)
  have HV := hid (vk_kkp (n := n) (more := more) h2 h8 (by omega))
  have HV2 := hid (vk_diag (n := n) (more := more) (self := self) h2 h8 (by omega))
  obtain ⟨M, hM⟩ : ∃ M, M = more.length := ⟨_, rfl⟩
  obtain ⟨N, hN⟩ : ∃ N, N = self.length := ⟨_, rfl⟩
  rw [← hM] at hv ⊢
  rw [← hN] at hb ⊢
  have HMV := hid (show ∀ wz, Below w.heap.size w wz → BysF wz (· < w.heap.size) (.slice mp M mc) more from fun wz hz => hv.kept (fun b hb => ⟨hb, hz.block b hb⟩))
  have HSV := hid (show ∀ wz, Below w.heap.size w wz → RowF wz (· < w.heap.size) (.slice lp N lc) N (Lib.byteCells self) from fun wz hz => by
    have h := hb.kept (w' := wz) (F' := (· < w.heap.size)) (fun b hb => ⟨hb, hz.block b hb⟩)
    unfold BysF at h
    rw [← hN] at h
    exact h)
  have HN := hid (And.intro h2 (And.intro h8 (And.intro hM (And.intro hm (And.intro hN hs)))))
  have HPT := hid hp
  have hM60 : (M : Int) ≤ 60 := by omega
  have hN2k : (N : Int) ≤ 2000 := by omega
  have h2i : 2 ≤ (n : Int) := by omega
  have h8i : (n : Int) ≤ 8 := by omega
  clear hb0 he hB hv hb hm hM hs hN hp h2 h8
  go_enter Tryz.func4, Tryz.ntmps4
  go_wp2_with fail
  go_at_call 7
  refine (keys_any n more (.slice mp M mc) (· < w.heap.size) (w.alloc (.cells (pkV p) 45)) HN.out.2.1 (HMV.out _ HB0.out) (fun b hb => by rw [size_a]; omega) (by have := HN.out; omega)).mono ?_
  rintro e w1 ⟨u, rfl, hk1, hb1⟩
  have HB1 := hid (HB0.out.trans (hb1.mono HB0.out.size))
  have HP1 := hid ((hb1.block _ (lt_of_heap HP0.out)).trans HP0.out)
  have hnew := new_any (KKp n n more) u _ w1 HV.out hk1 (fun b hb => hb.2)
  rw [KKp_len] at hnew
  have HNW := hid hnew
  clear hk1 hb1 hnew
  go_wp2_with fail
  go_at_call 6
  refine (HNW.out).mono ?_
  rintro e w2 ⟨rfl, hr2, hb2⟩
  have HB2 := hid (HB1.out.trans (hb2.mono HB1.out.size))
  have HP2 := hid ((hb2.block _ (lt_of_heap HP1.out)).trans HP1.out)
  obtain ⟨rb, hrb⟩ : ∃ rb, rb = w1.heap.size + 1 := ⟨_, rfl⟩
  rw [← hrb] at hr2 ⊢
  obtain ⟨mb, hmb⟩ : ∃ mb, mb = w1.heap.size := ⟨_, rfl⟩
  rw [← hmb] at hr2
  have HRG := hid hr2
  clear hr2 hb2 hrb hmb
  go_wp2_with fail
  go_at_call 7
  refine (keys_own n more (.slice mp M mc) (· < w.heap.size) w2 HN.out.2.1 (HMV.out _ HB2.out) (fun b hb => by have := HB2.out.size; omega) (by have := HN.out; omega)).mono ?_
  rintro e w3 ⟨u3, rfl, xs, ho3, hk3, hb3⟩
  obtain ⟨g1, c1, g, c, cur, rfl, hra⟩ := rows_at (by have := HN.out; omega) ho3 hk3
  have HRA := hid hra
  have HB23 := hid hb3
  have HB3 := hid (HB2.out.trans (hb3.mono HB2.out.size))
  clear ho3 hk3 hb3 hra
  go_wp2
  go_loopw [12] (fun x wr => ∃ (i : Nat) (sv : Nat → Value), x = .int .i64 (i : Int) ∧ i ≤ n ∧ RwInv w3 wr w2.heap.size n i g cur self sv) (fun x _ => n - (intOf x).toNat)
  case atStart => exact ⟨0, fun _ => .slice none 0 0, rfl, Nat.zero_le _, ⟨Below.refl _ _, fun _ _ _ => rfl, fun j hj => by rw [if_neg (by omega)]; exact (HRA.out.row j hj).2.2.2.2, fun j hj => by omega⟩⟩
  case round =>
    obtain ⟨i, sv, rfl, hi, hinv⟩ := hrel
    have HI := hid hinv
    have HBr := hid (HB3.out.trans (hinv.bl.mono HB2.out.size))
    by_cases hlt : (i : Int) < (n : Int)
    · have hi0 : (0 : Int) ≤ (i : Int) := Int.natCast_nonneg _
      have hin : i < n := by omega
      clear hinv
      go_upto_region 8 with fail
      obtain ⟨wa, hwa⟩ : ∃ wa, wa = wr.drew := ⟨_, rfl⟩
      have hba : Below wr.heap.size wr wa := by rw [hwa]; exact (Below.refl _ _).drew
      have HBA := hid hba
      have hg1 : g1 < wr.heap.size := by have := HRA.out.a1.2.1; have := HI.out.bl.size; omega
      have HC := hid (show wa.cell? ⟨g1, i, none⟩ = some (.slice (some ⟨g i, 0, none⟩) n (c i)) by
        rw [World.cell?_of_block (a := ⟨g1, i, none⟩) (hba.block g1 hg1), World.cell?_of_block (a := ⟨g1, i, none⟩) (HI.out.oth g1 HRA.out.a1.2.1 (fun k hk e => (HRA.out.row k hk).2.2.1 e.symm))]
        exact HRA.out.cell i hin)
      have HSR := hid (HSV.out wa (HBr.out.trans (hba.mono HBr.out.size)))
      have HWA := hid hwa
      have HG1 := hid (show g1 < wa.heap.size from Nat.lt_of_lt_of_le hg1 hba.size)
      clear hwa hba hg1
      refine wp_region_held (S := fun w' => w'.cell? ⟨g1, i, none⟩ = some (.slice (some ⟨g i, 0, none⟩) n (c i))) (by kernel_rfl) ?_
      change wpAnyH _ _ _ _ _ _ _ _ (World.drew _)
      rw [← HWA.out]
      have HS := hid HC.out
      refine tkH (i := 0) (oi := ⟨some 53, .move (.tmp 11), _, _, _, none⟩) (v := .slice (some ⟨g1, 0, none⟩) n c1) rfl qs HS.out ?_
      simp only [Act.put, zs1, zs2, zs3]
      refine tkH (i := 1) (oi := ⟨some 54, .move (.tmp 12), _, _, _, none⟩) (v := .int .i64 (i : Int)) rfl qs HS.out ?_
      simp only [Act.put, zs1, zs2, zs3]
      refine tkH (i := 2) (oi := ⟨some 55, .indexAddr 28 (.tmp 53) (.tmp 54), _, _, _, none⟩) (v := .pointer (some ⟨g1, i, none⟩)) rfl qs HS.out ?_
      simp only [Act.put, zs1, zs2, zs3]
      refine tkH (i := 3) (oi := ⟨some 56, .load 52 (.tmp 55), _, _, _, none⟩) (v := .slice (some ⟨g i, 0, none⟩) n (c i)) rfl (Or.inl ⟨by rfl, fun w' hS => by have q := hS; go_simp⟩) HS.out ?_
      simp only [Act.put, zs1, zs2, zs3]
      refine tkH (i := 4) (oi := ⟨some 57, .move (.tmp 12), _, _, _, none⟩) (v := .int .i64 (i : Int)) rfl qs HS.out ?_
      simp only [Act.put, zs1, zs2, zs3]
      refine tkH (i := 5) (oi := ⟨some 58, .move (.tmp 2), _, _, _, none⟩) (v := .slice lp N lc) rfl qs HS.out ?_
      simp only [Act.put, zs1, zs2, zs3]
      refine wpAnyH_ready (rs := [6]) (by kernel_rfl) (by simp) (AllReadyH.cons (o := ⟨some 59, .call ⟨.builtin .append, #[.const (.slice none 0 0), .tmp 58], _⟩, _, _, _, none⟩) rfl (fun K' hK => ?_) AllReadyH.nil)
      rw [if_pos (by rfl)]
      refine st_appF 22 5 (.int .u8 0) 1 1 par_u8 Tryz.underlying22 rfl (by decide) (by decide) wa.heap.size (.slice none 0 0) 0 [] rfl (World.ownsRow_nil _ _ _ _) (.slice lp N lc) (· < w.heap.size) N (Lib.byteCells self) rfl HSR.out (by rw [Lib.byteCells_length, HN.out.2.2.2.2.1, Nat.mul_one]) (one_bys _) (by omega) (Nat.le_refl _) ?_
      intro v5 w5 ho5 hg5 _
      rw [Nat.zero_add, List.nil_append] at ho5
      obtain ⟨p5, c5, rfl⟩ := own_slice ho5
      have HS5 := hid (show w5.cell? ⟨g1, i, none⟩ = some (.slice (some ⟨g i, 0, none⟩) n (c i)) from (World.cell?_of_block (a := ⟨g1, i, none⟩) (hg5.block g1 HG1.out (fun e => by cases e))).trans HC.out)
      have hgi := lt_of_heap (HRA.out.row i hin).2.2.2.2
      have hrow5 : w5.heap[g i]? = some (.cells (cur i) 22 (0, 0)) := by
        have h0 := HI.out.row i hin
        rw [if_neg (by omega)] at h0
        have hz := HI.out.bl.size
        have hz2 := HBA.out.size
        exact (hg5.block _ (by omega) (fun e => by cases e)).trans ((HBA.out.block _ (by omega)).trans h0)
      have HROW5 := hid hrow5
      have HINV := hid (rw_step HI.out HRA.out hin HBA.out (v := .slice p5 N c5) (by rw [← HN.out.2.2.2.2.1]; exact ho5) hg5)
      clear ho5 hg5 hrow5 hgi
      refine hK.out _ _ HS5.out (fun _ => ?_)
      clear hK K'
      try simp only [Act.put, zs1, zs2, zs3]
      refine tkH (i := 7) (oi := ⟨some 60, .indexAddr 52 (.tmp 56) (.tmp 57), _, _, _, none⟩) (v := .pointer (some ⟨g i, i, none⟩)) rfl qs HS5.out ?_
      simp only [Act.put, zs1, zs2, zs3]
      refine wpAnyH_ready (rs := [8]) (by kernel_rfl) (by simp) (AllReadyH.cons (o := ⟨none, .store 22 (.tmp 60) (.tmp 59), _, _, _, none⟩) rfl (fun K' hK => ?_) AllReadyH.nil)
      obtain ⟨v0, hv0, _⟩ := HRA.out.key i i hin hin
      have cc := (cell_of_arr HROW5.out i).trans hv0
      have cf := frozen_of_arr HROW5.out i
      go_simp
      have HS6 := hid (show (w5.setCell ⟨g i, i, none⟩ (.slice p5 N c5)).cell? ⟨g1, i, none⟩ = some (.slice (some ⟨g i, 0, none⟩) n (c i)) from (World.cell?_of_block (a := ⟨g1, i, none⟩) (Below.heap_setCell _ _ _ _ (fun e => (HRA.out.row i hin).2.2.1 e.symm))).trans HS5.out)
      clear cc cf hv0
      refine hK.out _ _ HS6.out (fun _ => ?_)
      clear hK K'
      try simp only [Act.put, zs1, zs2, zs3]
      refine wpAnyH_done (by kernel_rfl) ?_ _
      go_wp2
      go_roundw
      case rel => exact ⟨i + 1, _, by go_num, by omega, HINV.out⟩
      case measure => simp [intOf]; omega
    · obtain rfl : i = n := by omega
      have hky := rw_ky HRA.out hinv
      have HBr2 := hid (HB23.out.trans hinv.bl)
      have hnew := new_any (diagW i more self) _ _ wr HV2.out hky (fun b hb => hb)
      rw [diagW_len, kpt_diag] at hnew
      have HNW2 := hid hnew
      have HR1 := hid (HRG.out.later HBr2.out)
      have HP4 := hid ((HBr2.out.block _ (lt_of_heap HP2.out)).trans HP2.out)
      clear hinv hky hnew
      go_wp2_with fail
      go_at_call 6
      refine (HNW2.out).mono ?_
      rintro e w4 ⟨rfl, hr4, hb4⟩
      have HB4 := hid (HBr.out.trans (hb4.mono HBr.out.size))
      have HP5 := hid ((hb4.block _ (lt_of_heap HP4.out)).trans HP4.out)
      have HR1b := hid (HR1.out.later hb4)
      obtain ⟨rb2, hrb2⟩ : ∃ rb2, rb2 = wr.heap.size + 1 := ⟨_, rfl⟩
      rw [← hrb2] at hr4 ⊢
      obtain ⟨mb2, hmb2⟩ : ∃ mb2, mb2 = wr.heap.size := ⟨_, rfl⟩
      rw [← hmb2] at hr4
      have HLN := hid (show ∀ f t key, Kpt (KKp i i more) i 0 f t = some key → key.length ≤ 64 from fun f t key h => kpt_le HV.out (by rw [KKp_len]; exact h))
      have HKN := hid (show ∀ f t key, Kpt (KKp i i more) i 0 f t = some key → f < i ∧ t < i from fun f t key h => by have := kpt_some (KKp_len i i more).symm h; exact ⟨this.1, this.2.1⟩)
      have HRB := hid hr4
      clear hr4 hrb2 hmb2 hb4
      generalize Kpt (KKp i i more) i 0 = K at *
      obtain ⟨q, hq⟩ : ∃ q, q = sealL K p := ⟨_, rfl⟩
      have hse := seal_any rb mb i _ K p B w4 HPT.out HR1b.out HLN.out (HEV.out _ HB4.out).1 (HEV.out _ HB4.out).2
      rw [← hq] at hse
      have HSE := hid hse
      have HO := hid hq
      clear hse hq
      go_wp2_with (refine wpList_load_row rfl 45 _ rfl w.heap.size rfl 45 (pkV p) (0, 0) _ HP5.out Tryz.underlying45 rfl sizePk ?_)
      go_at_call 11
      refine (HSE.out).mono ?_
      rintro e w5 ⟨pv, cv, rfl, hbs5, hb5⟩
      have HB5 := hid (HB4.out.trans (hb5.mono HB4.out.size))
      have HP6 := hid ((hb5.block _ (lt_of_heap HP5.out)).trans HP5.out)
      have HR5 := hid (HRB.out.later hb5)
      have HA5 := hid (HR1b.out.later hb5)
      have hse2 := seal_any rb2 mb2 i _ K p B w5 HPT.out HR5.out HLN.out (HEV.out _ HB5.out).1 (HEV.out _ HB5.out).2
      rw [← HO.out] at hse2
      have HSE2 := hid hse2
      have HBS5 := hid hbs5
      clear hbs5 hb5 hse2
      go_wp2_with (refine wpList_load_row rfl 45 _ rfl w.heap.size rfl 45 (pkV p) (0, 0) _ HP6.out Tryz.underlying45 rfl sizePk ?_)
      go_at_call 11
      refine (HSE2.out).mono ?_
      rintro e w6 ⟨pv2, cv2, rfl, hbs6, hb6⟩
      have HB6 := hid (HB5.out.trans (hb6.mono HB5.out.size))
      have HP7 := hid ((hb6.block _ (lt_of_heap HP6.out)).trans HP6.out)
      have HR6 := hid (HR5.out.later hb6)
      have HA6 := hid (HA5.out.later hb6)
      have hc2 := bys_str hbs6
      have HBS6 := hid (HBS5.out.kept (w' := w6) (F' := (· < w6.heap.size)) (fun b hb => ⟨by have := hb6.size; show b < _; omega, hb6.block b hb.2⟩))
      have hc1 := bys_str HBS6.out
      obtain ⟨l, E⟩ := q
      simp only at hc1 hc2 HBS6
      clear hbs6 hb6
      by_cases hE : E = 0
      · subst hE
        obtain ⟨key, hk, h0, hl, hod⟩ := seal_back (n := i) (K := K) HPT.out HKN.out (by rw [← HO.out])
        have hl2 : l = (mtextL p).1 ++ macT key (mtextL p).1 := by rw [← hl, ← HO.out]
        have hml := mtext_len h0
        have hmc := macT_len key (mtextL p).1
        have hto := (HKN.out _ _ _ hk).2
        obtain ⟨text, ht⟩ : ∃ t, t = (mtextL p).1 := ⟨_, rfl⟩
        rw [← ht] at hl2 hml hmc hod
        obtain ⟨mcc, hmcc⟩ : ∃ t, t = macT key text := ⟨_, rfl⟩
        rw [← hmcc] at hl2 hmc hod
        subst hl2
        have hop := open_full rb2 mb2 i _ p.to_ K text mcc (.slice pv (text ++ mcc).length cv) (· < w6.heap.size) B w6 hmc HR6.out HN.out.2.1 hto HLN.out HBS6.out (fun b hb => hb) (by omega) (HEV.out _ HB6.out).1 (HEV.out _ HB6.out).2
        rw [hod] at hop
        unfold PackP at hop
        dsimp only at hop
        obtain ⟨L, hL⟩ : ∃ L, L = (text ++ mcc).length := ⟨_, rfl⟩
        rw [← hL] at hc1 hc2 hop ⊢
        have HOP := hid hop
        have hq1 : w6.cell? ⟨w.heap.size, 1, none⟩ = some (.int .u8 (p.to_ : Int)) := cell_of_arr HP7.out 1
        have hlq := lt_of_heap HP7.out
        clear hk h0 hl hml hmc hod ht hmcc hL hop hto
        go_wp2_with fail
        go_at_call 8
        refine (HOP.out).mono ?_
        rintro e w7 ⟨rfl, hb7⟩
        have HB7 := hid (HB6.out.trans (hb7.mono HB6.out.size))
        have HP8 := hid ((hb7.block _ (lt_of_heap HP7.out)).trans HP7.out)
        have hd7 : (w7.alloc (.cells pk0 45)).heap[w7.heap.size]? = some (.cells pk0 45 (0, 0)) := at_last _ _
        have HD7 := hid hd7
        obtain ⟨w8, hw8⟩ : ∃ w8, w8 = (w7.alloc (.cells pk0 45)).setRow w7.heap.size (pkV p) := ⟨_, rfl⟩
        have hb8 : Below w7.heap.size w7 w8 := by rw [hw8]; exact below_setR ((Below.refl _ _).alloc (Nat.le_refl _) _) (Nat.le_refl _) _
        have HW8 := hid hw8
        have HQ8 := hid (show w8.heap[w7.heap.size]? = some (.cells (pkV p) 45 (0, 0)) by rw [hw8]; exact setRow_heap _ _ _ _ _ _ hd7)
        have HB8 := hid (HB7.out.trans (hb8.mono HB7.out.size))
        have HP9 := hid ((hb8.block _ (lt_of_heap HP8.out)).trans HP8.out)
        have HA8 := hid ((HA6.out.later hb7).later hb8)
        have heq := eql_pk' p
        clear hd7 hw8 hb8 hb7 hq1
        go_wp2_with (first
          | (refine wpList_store_row rfl 45 _ _ rfl w7.heap.size (pkV p) rfl rfl 45 pk0 HD7.out sizePk rfl (pkv_one _) ?_; rw [← HW8.out])
          | (refine wpList_load_rowG (by rfl) 45 _ rfl w7.heap.size rfl 45 (pkV p) (0, 0) _ (HQ8).out Tryz.underlying45 rfl sizePk ?_)
          | (refine wpList_load_rowG (by rfl) 45 _ rfl w.heap.size rfl 45 (pkV p) (0, 0) _ (HP9).out Tryz.underlying45 rfl sizePk ?_)
          | (go_at_call 12; refine (carriers_any i mb rb w8 HA8.out.row).mono ?_; rintro e w' ⟨rfl, hqq⟩; have hqq2 := hqq.symm; subst hqq2)
          | (go_at_call 5; refine (HWK.out _ HB8.out).mono ?_; rintro e wk ⟨rfl, hbk⟩; have HBK := hid (HB8.out.trans (hbk.mono HB8.out.size)); clear hbk))
        go_ret
        exact ⟨rfl, HBK.out⟩
      · have hEi : ¬ ((E : Nat) : Int) = 0 := by omega
        have hl0 : l = [] := by have := sealL_err (K := K) (p := p) (by rw [← HO.out]; exact hE); rw [← HO.out] at this; exact this
        subst hl0
        simp only [List.length_nil] at hc1 hc2
        clear hE
        go_wp2_with (go_at_call 5; refine (HWK.out _ HB6.out).mono ?_; rintro e wk ⟨rfl, hbk⟩; have HBK := hid (HB6.out.trans (hbk.mono HB6.out.size)); clear hbk)
        go_ret
        exact ⟨rfl, HBK.out⟩
theorem serings_walk (n0 : Int) (p : Pk) (more self : Tx) (mp lp : Option Addr) (mc lc B : Nat) (w : World) (hp : p.Ty) (he : Ev B w) (hB : B ≤ w.heap.size) (hv : BysF w (· < w.heap.size) (.slice mp more.length mc) more) (hb : BysF w (· < w.heap.size) (.slice lp self.length lc) self) :
    Calls Tryz.prog 4 #[.int .i64 n0, .slice mp more.length mc, .slice lp self.length lc, .agg (pkV p)] w fun e w' => e = .returned (.bool true) ∧ Below w.heap.size w w' := by
  by_cases h : n0 < 2 ∨ 8 < n0 ∨ 60 < more.length ∨ 2000 < self.length
  · exact serings_bad n0 p more.length self.length mp lp mc lc B w he hB h
  · obtain ⟨n, rfl⟩ : ∃ n : Nat, n0 = (n : Int) := ⟨n0.toNat, by omega⟩
    exact serings_good n p more self mp lp mc lc B w hp he hB (by omega) (by omega) (by omega) (by omega) hv hb
end Go.Proofs.YtklhppkmoddmkabGreatDoor
