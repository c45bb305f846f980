/- What SealBack and SealRings share -/
import Derived.Test.YtklhppkmoddmkabGreatDoorSeT
/- Contract: keys, all unlike, each row in a block of its own. -/
namespace Go.Proofs.YtklhppkmoddmkabGreatDoor
open Go.RowKit Go.Edi Go.Wrap Go.Lib

/-- a row in a block of its own, between two bounds, its keys in others between them -/
structure RwO (w : World) (lo hi : Nat) (v : Value) (row : List Tx) : Prop where
  own : ∃ ys, w.ownsRow lo 22 1 v row.length ys ∧ RwC w (fun b => lo ≤ b ∧ b < hi ∧ v.ownBlock ≠ some b) row ys
  top : ∀ b, v.ownBlock = some b → b < hi
theorem ownsRow_at {w w' : World} {base : Nat} {e : TypeId} {size n : Nat} {v : Value} {xs : List Value} (h : w.ownsRow base e size v n xs) (hk : ∀ b, v.ownBlock = some b → w'.heap[b]? = w.heap[b]?) : w'.ownsRow base e size v n xs := by
  refine ⟨h.1, ?_⟩
  rcases h.2 with h0 | ⟨g, cap, cur, rfl, hb, hg, hr⟩
  · exact .inl h0
  · exact .inr ⟨g, cap, cur, rfl, hb, (hk g rfl).trans hg, hr⟩
theorem RwO.kept {w w' : World} {lo hi : Nat} {v : Value} {row : List Tx} (h : RwO w lo hi v row) (hk : ∀ b, lo ≤ b → b < hi → w'.heap[b]? = w.heap[b]?) : RwO w' lo hi v row := by
  obtain ⟨ys, h1, h2⟩ := h.own
  exact ⟨⟨ys, ownsRow_at h1 (fun b e => hk b (h1.lt b e).1 (h.top b e)), h2.kept (fun b hb => ⟨hb, hk b hb.1 hb.2.1⟩)⟩, h.top⟩
/-- rows in blocks of their own -/
def KyO (w : World) (A m : Nat) (ub : Option Nat) (kk : List (List Tx)) (xs : List Value) : Prop :=
  ∃ lo hi : Nat → Nat, (∀ i, i < m → A ≤ lo i ∧ hi i ≤ w.heap.size ∧ (∀ b, ub = some b → ¬ (lo i ≤ b ∧ b < hi i)) ∧ ∃ v, xs[i]? = some v ∧ RwO w (lo i) (hi i) v (kk.getD i [])) ∧ ∀ i j, i < j → j < m → hi i ≤ lo j
theorem KyO.snoc {wo wb w2 : World} {A m : Nat} {ub ub2 : Option Nat} {kk : List (List Tx)} {xs : List Value} {v : Value} {row : List Tx} (h : KyO wo A m ub kk xs) (hkl : kk.length = m) (hxl : xs.length = m) (hA : A ≤ wo.heap.size)
    (hub : ∀ b, ub = some b → b < wo.heap.size) (hr : RwO wb wo.heap.size wb.heap.size v row) (hb : Below wo.heap.size wo wb) (hg : wb.grownBy w2 ub) (hor : ub2 = ub ∨ ub2 = some wb.heap.size) : KyO w2 A (m + 1) ub2 (kk ++ [row]) (xs ++ [v]) := by
  obtain ⟨lo, hi, h1, h2⟩ := h
  have hz1 := hb.size
  have hz2 := hg.size
  refine ⟨fun i => if i = m then wo.heap.size else lo i, fun i => if i = m then wb.heap.size else hi i, fun i hi' => ?_, fun i j hij hj => ?_⟩
  · by_cases e : i = m
    · subst e
      simp only [if_true]
      refine ⟨hA, hz2, fun b e hb' => ?_, v, by rw [List.getElem?_append_right (by omega)]; simp [hxl], ?_⟩
      · rcases hor with h | h
        · rw [h] at e; have := hub b e; omega
        · rw [h] at e; have := Option.some.inj e; omega
      · have e2 : (kk ++ [row]).getD i [] = row := by rw [List.getD_eq_getElem?_getD, List.getElem?_append_right (by omega)]; simp [hkl]
        rw [e2]
        exact hr.kept (fun b hb1 hb2 => hg.block b hb2 (fun e => by have := hub b e.symm; omega))
    · simp only [e, if_false]
      obtain ⟨a1, a2, a3, u, a4, a5⟩ := h1 i (by omega)
      refine ⟨a1, by omega, fun b e hb' => ?_, u, by rw [List.getElem?_append_left (by omega)]; exact a4, ?_⟩
      · rcases hor with h | h
        · rw [h] at e; exact a3 b e hb'
        · rw [h] at e; have := Option.some.inj e; omega
      · have e2 : (kk ++ [row]).getD i [] = kk.getD i [] := by rw [List.getD_eq_getElem?_getD, List.getElem?_append_left (by omega), ← List.getD_eq_getElem?_getD]
        rw [e2]
        exact a5.kept (fun b hb1 hb2 => (hg.block b (by omega) (fun e => a3 b e.symm ⟨hb1, hb2⟩)).trans (hb.block b (by omega)))
  · simp only
    by_cases e : j = m
    · rw [if_neg (by omega), if_pos e]; exact (h1 i (by omega)).2.1
    · rw [if_neg (by omega), if_neg e]; exact h2 i j hij (by omega)
set_option maxRecDepth 100000 in
set_option maxHeartbeats 3200000 in
theorem keys_own (n : Nat) (more : Tx) (v : Value) (F : Nat → Prop) (w : World) (hn : n ≤ 8) (hv : BysF w F v more) (hF : ∀ b, F b → b < w.heap.size) (hm : more.length ≤ 1000) :
    Calls Tryz.prog 7 #[.int .i64 (n : Int), v] w fun e w' => ∃ u, e = .returned u ∧ ∃ xs, w'.ownsRow w.heap.size 52 1 u n xs ∧ KyO w' w.heap.size n u.ownBlock (KKp n n more) xs ∧ Below w.heap.size w w' := by
  have HV := Lib.hid (show ∀ wz, Below w.heap.size w wz → BysF wz F v more from fun wz hz => hv.kept (fun b hb => ⟨hb, hz.block b (hF b hb)⟩))
  obtain ⟨mp, mc, rfl⟩ : ∃ mp mc, v = .slice mp more.length mc := by obtain ⟨a, b, e, _⟩ := hv; exact ⟨a, b, e⟩
  obtain ⟨M, hM⟩ : ∃ M, M = more.length := ⟨_, rfl⟩
  rw [← hM] at HV ⊢
  have HN := Lib.hid hn
  have HM := Lib.hid (And.intro hM hm)
  clear hn hv hF hm hM
  go_enter Tryz.func7, Tryz.ntmps7
  go_wp2
  go_loopw [5, 6, 7, 8] (fun o x _ _ wr => ∃ (i : Nat) (xs : List Value), x = .int .i64 (i : Int) ∧ i ≤ n ∧ wr.ownsRow w.heap.size 52 1 o i xs ∧ KyO wr w.heap.size i o.ownBlock (KKp n i more) xs ∧ Below w.heap.size w wr) (fun _ x _ _ _ => n - (intOf x).toNat)
  case atStart => exact ⟨0, [], rfl, Nat.zero_le _, World.ownsRow_nil _ _ _ _, ⟨fun _ => 0, fun _ => 0, fun i hi => by omega, fun i j _ hj => by omega⟩, Below.refl _ _⟩
  case round =>
    obtain ⟨i, xs, rfl, hi, ho, hc, hbl⟩ := hrel
    obtain ⟨op, oc, rfl⟩ := own_slice ho
    have HO := Lib.hid ho
    have HC := Lib.hid hc
    have HBL := Lib.hid hbl
    have HI := Lib.hid hi
    clear ho hc hbl
    by_cases hlt : (i : Int) < (n : Int)
    · have hi0 : (0 : Int) ≤ (i : Int) := Int.natCast_nonneg _
      obtain ⟨wo, rfl⟩ : ∃ wo : World, wo = wr := ⟨_, rfl⟩
      go_wp2
      go_loopw [7, 8] (fun v x wr => ∃ (k : Nat) (ys : List Value), x = .int .i64 (k : Int) ∧ k ≤ n ∧ wr.ownsRow wo.heap.size 22 1 v k ys ∧ RwC wr (fun b => wo.heap.size ≤ b ∧ b < wr.heap.size ∧ v.ownBlock ≠ some b) (rowW i k more) ys ∧ Below wo.heap.size wo wr) (fun _ x _ => n - (intOf x).toNat)
      case atStart => exact ⟨0, [], rfl, Nat.zero_le _, World.ownsRow_nil _ _ _ _, True.intro, Below.refl _ _⟩
      case round =>
        obtain ⟨k, ys, rfl, hk, ho, hc, hbl⟩ := hrel
        obtain ⟨rp, rc, rfl⟩ := own_slice ho
        have HO2 := Lib.hid ho
        have HC2 := Lib.hid hc
        have HB2 := Lib.hid hbl
        have HK := Lib.hid hk
        clear ho hc hbl
        by_cases hlt2 : (k : Int) < (n : Int)
        · have hk0 : (0 : Int) ≤ (k : Int) := Int.natCast_nonneg _
          have hn8 := HN.out
          have hw1 : IntKind.i64.wrap (16 * (i : Int)) = 16 * (i : Int) := by rw [IntKind.wrap_i64]; omega
          have hw2 : IntKind.i64.wrap (16 * (i : Int) + (k : Int)) = 16 * (i : Int) + (k : Int) := by rw [IntKind.wrap_i64]; omega
          have hw3 : IntKind.u8.wrap (16 * (i : Int) + (k : Int)) = 16 * (i : Int) + (k : Int) := IntWalk.u8_in _ (by omega)
          have HOL := Lib.hid (own_lit1 wr wr.heap.size (Nat.le_refl _) (.int .u8 (16 * (i : Int) + (k : Int))) 5)
          have hbA : Below wr.heap.size wr (wr.alloc (.cells #[.int .u8 (16 * (i : Int) + (k : Int))] 5)) := (Below.refl _ _).alloc (Nat.le_refl _) _
          have HBA := Lib.hid hbA
          have HMV := Lib.hid (HV.out _ (HBL.out.trans ((HB2.out.trans (hbA.mono HB2.out.size)).mono HBL.out.size)))
          have HKC := Lib.hid (key_cells i k more (by omega))
          clear hn8 hbA
          go_wp2_with (at_builtin; refine wl_appF 22 5 (.int .u8 0) 1 1 par_u8 Tryz.underlying22 rfl (by decide) (by decide) wr.heap.size (.slice (some ⟨wr.heap.size, 0, none⟩) 1 1) 1 [.int .u8 (16 * (i : Int) + (k : Int))] rfl HOL.out (.slice mp M mc) F M (Lib.byteCells more) rfl (by rw [HM.out.1]; have := HMV.out; rw [HM.out.1] at this; exact this) (by rw [Lib.byteCells_length, HM.out.1, Nat.mul_one]) (one_bys _) (by have := HM.out; omega) (by simp only [size_a]; omega) ?_)
          intro v1 w1 ho1 hg1 _
          obtain ⟨p1, c1, rfl⟩ := own_slice ho1
          have hb1 : Below wr.heap.size wr w1 := HBA.out.grown hg1 (by simp only [size_a]; omega) (fun b e => by cases e; exact Nat.le_refl _)
          rw [← HKC.out] at ho1
          have HO1 := Lib.hid ho1
          have HB1 := Lib.hid hb1
          clear ho1 hg1 hb1
          have hbB : Below wr.heap.size wr (w1.alloc (.cells #[.slice p1 (1 + M) c1] 22)) := HB1.out.alloc (by have := HB1.out.size; omega) _
          have HBB := Lib.hid hbB
          have HO3 := Lib.hid (show (w1.alloc (.cells #[.slice p1 (1 + M) c1] 22)).ownsRow wo.heap.size 22 1 (.slice rp k rc) k ys from HO2.out.kept (row := none) ⟨hbB.os, hbB.tape, hbB.output, hbB.size, fun b hb _ => hbB.block b hb⟩ (by
            cases hq : (Value.slice rp k rc).ownBlock with
            | none => exact .inl rfl
            | some b => exact .inr (fun e => by cases e)))
          have HZ := Lib.hid HB2.out.size
          clear hbB
          go_wp2_with (at_builtin; refine wl_app1 52 22 (.slice none 0 0) 1 24 par_bytes Tryz.underlying52 rfl (by decide) (by decide) wo.heap.size (.slice rp k rc) k ys rfl HO3.out w1.heap.size 1 [.slice p1 (1 + M) c1] 22 (0, 0) rfl rfl (at_last _ _) (by intro u hu; simp at hu; subst hu; rfl) (by have := HN.out; omega) (by have := HBB.out.size; have := HZ.out; omega) ?_)
          intro v2 w2 ho2 hg2 hor2
          obtain ⟨p2, c2, rfl⟩ := own_slice ho2
          have hkey : BysF (w1.alloc (.cells #[.slice p1 (1 + M) c1] 22)) (fun b => wr.heap.size ≤ b ∧ b < (w1.alloc (.cells #[.slice p1 (1 + M) c1] 22)).heap.size) (.slice p1 (1 + M) c1) (keyW i k more) := by
            unfold BysF
            have e : (keyW i k more).length = 1 + M := by unfold keyW; rw [List.length_cons, HM.out.1]; omega
            rw [e]
            exact row_own (HO1.out.alloc _) (fun b e => by have := HO1.out.lt b e; rw [size_a]; omega)
          have HR2 := Lib.hid (show RwC w2 (fun b => wo.heap.size ≤ b ∧ b < w2.heap.size ∧ (Value.slice p2 (k + 1) c2).ownBlock ≠ some b) (rowW i (k + 1) more) (ys ++ [.slice p1 (1 + M) c1]) by
            rw [rowW_succ]
            exact RwC.snoc (hkey.kept (kp_new HZ.out HO2.out HBB.out.size hg2 (by simp only [size_a] at hor2 ⊢; exact hor2))) (HC2.out.kept (kp_step HO2.out HBB.out hg2 (by simp only [size_a] at hor2 ⊢; exact hor2))))
          have HB3 := Lib.hid (show Below wo.heap.size wo w2 from (HB2.out.trans (HBB.out.mono HZ.out)).grown hg2 (by have := HBB.out.size; have := HZ.out; omega) (fun b e => (HO2.out.lt b e).1))
          have HO4 := Lib.hid ho2
          clear ho2 hg2 hor2 hkey
          have hn8 : (n : Int) ≤ 8 := by have := HN.out; omega
          clear hw1 hw2 hw3
          go_wp2
          go_roundw
          case rel => exact ⟨k + 1, _, by go_num, by omega, HO4.out, HR2.out, HB3.out⟩
          case measure => simp [intOf]; omega
        · obtain rfl : k = n := by omega
          have HZ := Lib.hid HB2.out.size
          have hbB : Below wo.heap.size wo (wr.alloc (.cells #[.slice rp k rc] 52)) := HB2.out.alloc HZ.out _
          have HBB := Lib.hid hbB
          have HO3 := Lib.hid (show (wr.alloc (.cells #[.slice rp k rc] 52)).ownsRow w.heap.size 52 1 (.slice op i oc) i xs from HO.out.kept (row := none) ⟨hbB.os, hbB.tape, hbB.output, hbB.size, fun b hb _ => hbB.block b hb⟩ (by
            cases hq : (Value.slice op i oc).ownBlock with
            | none => exact .inl rfl
            | some b => exact .inr (fun e => by cases e)))
          have HZ2 := Lib.hid HBL.out.size
          have hn8 := HN.out
          clear hbB
          go_wp2_with (at_builtin; refine wl_app1 28 52 (.slice none 0 0) 1 24 par_kk Tryz.underlying28 rfl (by decide) (by decide) w.heap.size (.slice op i oc) i xs rfl HO3.out wr.heap.size 1 [.slice rp k rc] 52 (0, 0) rfl rfl (at_last _ _) (by intro u hu; simp at hu; subst hu; rfl) (by omega) (by have := HBB.out.size; have := HZ2.out; omega) ?_)
          intro v2 w2 ho2 hg2 hor2
          obtain ⟨p2, c2, rfl⟩ := own_slice ho2
          have hrow : RwO (wr.alloc (.cells #[.slice rp k rc] 52)) wo.heap.size (wr.alloc (.cells #[.slice rp k rc] 52)).heap.size (.slice rp k rc) (rowW i k more) := by
            refine ⟨⟨ys, by rw [rowW_len]; exact HO2.out.alloc _, HC2.out.kept (fun b hb => ⟨⟨hb.1, by rw [size_a]; omega, hb.2.2⟩, Below.heap_alloc _ _ _ hb.2.1⟩)⟩, fun b e => by have := HO2.out.lt b e; rw [size_a]; omega⟩
          have HR2 := Lib.hid (show KyO w2 w.heap.size (i + 1) (Value.slice p2 (i + 1) c2).ownBlock (KKp k (i + 1) more) (xs ++ [.slice rp k rc]) by
            rw [KKp_succ]
            exact KyO.snoc HC.out (KKp_len _ _ _) (by have := HO.out.1; omega) HZ2.out (fun b e => (HO.out.lt b e).2) hrow HBB.out hg2 (by simp only [size_a] at hor2 ⊢; exact hor2))
          have HB3 := Lib.hid (show Below w.heap.size w w2 from (HBL.out.trans (HBB.out.mono HZ2.out)).grown hg2 (by have := HBB.out.size; have := HZ2.out; omega) (fun b e => (HO.out.lt b e).1))
          have HO4 := Lib.hid ho2
          clear ho2 hg2 hor2 hrow
          have hn8 : (k : Int) ≤ 8 := by have := HN.out; omega
          go_wp2
          go_roundw
          case rel => exact ⟨i + 1, _, by go_num, by omega, HO4.out, HR2.out, HB3.out⟩
          case measure => simp [intOf]; omega
    · obtain rfl : i = n := by omega
      go_wp2
      go_ret
      exact ⟨_, rfl, xs, HO.out, HC.out, HBL.out⟩
end Go.Proofs.YtklhppkmoddmkabGreatDoor
/- Keys whose keys to oneself are another one: the same ring (no walk). -/
namespace Go.Proofs.YtklhppkmoddmkabGreatDoor
open Go.RowKit Go.Edi Go.Wrap Go.Lib

theorem RwC.of_get {w : World} {F : Nat → Prop} : ∀ {row : List Tx} {ys : List Value}, ys.length = row.length → (∀ j, j < row.length → ∃ v, ys[j]? = some v ∧ BysF w F v (row.getD j [])) → RwC w F row ys
  | [], [], _, _ => True.intro
  | k :: r, v :: t, hl, h => by
    refine ⟨?_, RwC.of_get (by simpa using hl) (fun j hj => ?_)⟩
    · obtain ⟨u, e1, e2⟩ := h 0 (by simp)
      cases e1
      exact e2
    · obtain ⟨u, e1, e2⟩ := h (j + 1) (by simpa using hj)
      exact ⟨u, by simpa using e1, by simpa using e2⟩
  | [], _ :: _, hl, _ => by simp at hl
  | _ :: _, [], hl, _ => by simp at hl
theorem KyC.of_get {w : World} {F : Nat → Prop} : ∀ {kk : List (List Tx)} {xs : List Value}, xs.length = kk.length → (∀ j, j < kk.length → ∃ v, xs[j]? = some v ∧ RwF w F v (kk.getD j [])) → KyC w F kk xs
  | [], [], _, _ => True.intro
  | k :: r, v :: t, hl, h => by
    refine ⟨?_, KyC.of_get (by simpa using hl) (fun j hj => ?_)⟩
    · obtain ⟨u, e1, e2⟩ := h 0 (by simp)
      cases e1
      exact e2
    · obtain ⟨u, e1, e2⟩ := h (j + 1) (by simpa using hj)
      exact ⟨u, by simpa using e1, by simpa using e2⟩
  | [], _ :: _, hl, _ => by simp at hl
  | _ :: _, [], hl, _ => by simp at hl
/-- what Keys makes, the keys to oneself written over -/
def diagW (n : Nat) (more self : Tx) : List (List Tx) := (List.range n).map fun i => (List.range n).map fun j => if i = j then self else keyW i j more
theorem diagW_len (n : Nat) (more self : Tx) : (diagW n more self).length = n := by simp [diagW]
theorem diagW_row {n f : Nat} (more self : Tx) (hf : f < n) : (diagW n more self).getD f [] = (List.range n).map fun j => if f = j then self else keyW f j more := by
  unfold diagW
  rw [List.getD_eq_getElem?_getD, List.getElem?_map, List.getElem?_range hf]
  rfl
theorem diagW_at {n f t : Nat} (more self : Tx) (hf : f < n) (ht : t < n) : kyAt (diagW n more self) f t = if f = t then self else keyW f t more := by
  unfold kyAt
  rw [diagW_row more self hf, List.getD_eq_getElem?_getD, List.getElem?_map, List.getElem?_range ht]
  rfl
theorem vk_diag {n : Nat} {more self : Tx} (h2 : 2 ≤ n) (h8 : n ≤ 8) (hm : more.length ≤ 63) : Vk (diagW n more self) := by
  have hV := vk_kkp (n := n) (more := more) h2 h8 hm
  refine ⟨by rw [diagW_len]; exact h2, by rw [diagW_len]; exact h8, fun f hf => ?_, fun f t hf ht hft => ?_, fun f t a b hf ht ha hb hft hab h => ?_⟩
  · rw [diagW_len] at hf ⊢
    rw [diagW_row more self hf]
    simp
  · rw [diagW_len] at hf ht
    have h := hV.len f t (by rw [KKp_len]; exact hf) (by rw [KKp_len]; exact ht) hft
    rw [kyAt_kkp more hf ht] at h
    rw [diagW_at more self hf ht, if_neg hft]
    exact h
  · rw [diagW_len] at hf ht ha hb
    rw [diagW_at more self hf ht, diagW_at more self ha hb, if_neg hft, if_neg hab] at h
    exact hV.dis f t a b (by rw [KKp_len]; exact hf) (by rw [KKp_len]; exact ht) (by rw [KKp_len]; exact ha) (by rw [KKp_len]; exact hb) hft hab (by rw [kyAt_kkp more hf ht, kyAt_kkp more ha hb]; exact h)
theorem kpt_diag (n : Nat) (more self : Tx) : Kpt (diagW n more self) n 0 = Kpt (KKp n n more) n 0 := by
  funext f t
  unfold Kpt
  rw [diagW_len, KKp_len]
  by_cases hc : (f < n ∨ (f = n ∧ t < 0)) ∧ t < n ∧ f ≠ t
  · have hf : f < n := by omega
    rw [if_pos hc, if_pos hc, diagW_at more self hf hc.2.1, if_neg hc.2.2, kyAt_kkp more hf hc.2.1]
  · rw [if_neg hc, if_neg hc]
end Go.Proofs.YtklhppkmoddmkabGreatDoor
namespace Go.Proofs.YtklhppkmoddmkabGreatDoor
open Go.RowKit Go.Edi Go.Wrap Go.Lib
open Go.Sha (bv zl)

theorem sealL_err {K : Nat → Nat → Option Tx} {p : Pk} (h : (sealL K p).2 ≠ 0) : (sealL K p).1 = [] := by
  unfold sealL at h ⊢
  split
  · rfl
  · rename_i key hk
    rw [hk] at h
    simp only at h
    split
    · rename_i h0
      rw [if_pos h0] at h
      exact absurd rfl h
    · rfl
theorem seal_other {n : Nat} {K : Nat → Nat → Option Tx} {p : Pk} {i : Nat} {mac : Tx} (hp : p.Ty) (h0 : (mtextL p).2 = 0) (hi : p.to_ ≠ i) :
    ∃ e, openD n K i (mtextL p).1 mac = (.zero, e) ∧ e ≠ 0 := by
  cases ha : anyB n K i (mtextL p).1 (bn mac) with
  | false => exact ⟨_, openD_no ha, by decide⟩
  | true =>
    have hm := mtext_parse hp h0
    exact ⟨_, openD_not ha (by rw [hm]) (fun h => hi (by rw [hm] at h; exact h.1)), by decide⟩
theorem wk_any {B : Nat} {w : World} (he : Ev B w) (hB : B ≤ w.heap.size) : ∀ wz, Below w.heap.size w wz → Calls Tryz.prog 5 #[] wz fun e w' => e = .returned (.bool true) ∧ Below wz.heap.size wz w' := fun wz hz => sewakes_any B wz (he.on (hz.mono hB)) (Nat.le_trans hB hz.size)
theorem neq_pk' (a : Pk) (W : World) : (binOp .neq 45 (.agg (pkV a)) (.agg (pkV a))).run Tryz.prog W = .ok (.bool false) W := by
  have h := neq_pk a a W
  rw [decide_eq_true rfl] at h
  exact h
end Go.Proofs.YtklhppkmoddmkabGreatDoor
