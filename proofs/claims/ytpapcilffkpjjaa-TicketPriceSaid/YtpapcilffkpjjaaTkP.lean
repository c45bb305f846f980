/- Contracts of together and Price: of amounts that are not below 0 the sum hangs on no order. -/
import Derived.Test.YtpapcilffkpjjaaTkE
import Derived.Test.YtpapcilffkpjjaaPrAp
namespace Go.Proofs.Ytpapcilffkpjjaa
open Go.Shelf Go.RowKit Go.Lib Go.Sort Go.Money Go.Tick

theorem sort_any (base : Nat) (l : List Int) (g cap : Nat) (w : World) (h : w.ownsRow base 2 1 (.slice (some ⟨g, 0, none⟩) l.length cap) l.length (l.map fun x => .int .i64 x)) (hl : l.length ≤ 1000000) (hg : g < w.heap.size) (hb : base ≤ g) :
    Calls Try.prog 58 #[.slice (some ⟨g, 0, none⟩) l.length cap] w fun e w' => e = .returned (.tuple #[]) ∧ ∃ m : List Int, m.Perm l ∧ Nums w' .i64 (some ⟨g, 0, none⟩) m ∧ Below base w w' := by
  have hH : Holds (Value.int .i64) w g 0 l.toArray := fun j hj => by
    have hj' : j < l.length := by simpa using hj
    rw [Nat.zero_add]
    refine ⟨?_, h.frozenAt j⟩
    rw [h.cellAt j (by omega), List.getElem?_map, List.getElem?_eq_getElem hj']
    simp [hj']
  have := AnyM.slices_Sort_int Try.tkSort g 0 cap l w hH hg (by omega)
  refine Calls.mono (show Calls Try.prog 58 _ w _ from this) ?_
  rintro e w' ⟨rfl, n, os, rfl⟩
  have hp : (l.mergeSort fun x y => decide (x ≤ y)).Perm l := List.mergeSort_perm l _
  have hgl : g < (putRow (Value.int .i64) (Sort.ahead w n) g 0 (l.mergeSort fun x y => decide (x ≤ y)).toArray).heap.size := by rw [size_putRow]; exact hg
  refine ⟨rfl, _, hp, ⟨fun h0 => ⟨g, 0, rfl, ?_, fun j hj => ?_⟩⟩, ?_⟩
  · unfold grow; simp only [Array.size_append]; omega
  · have hH2 : Holds (Value.int .i64) (Sort.ahead w n) g 0 l.toArray := hH
    have := (holds_putRow (Value.int .i64) (Sort.ahead w n) g 0 l.toArray (l.mergeSort fun x y => decide (x ≤ y)).toArray hH2 (by simp [hp.length_eq]) j (by simpa using hj)).1
    rw [cell?_grow _ _ _ hgl, this]
    simp
  · refine ⟨rfl, rfl, rfl, ?_, fun j hj => ?_⟩
    · unfold grow
      simp only [Array.size_append, size_putRow]
      show w.heap.size ≤ w.heap.size + _
      omega
    · have hjw : j < w.heap.size := by omega
      unfold grow
      show ((putRow _ _ _ _ _).heap ++ os)[j]? = _
      rw [Array.getElem?_append_left (by rw [size_putRow]; exact hjw)]
      unfold putRow mapBlock
      show (w.heap.modify g _)[j]? = _
      rw [Array.getElem?_modify, if_neg (by omega)]
theorem own_pos {base n : Nat} {w : World} {v : Value} {e : TypeId} {k : Nat} {xs : List Value} (h : w.ownsRow base e k v n xs) (hn : 0 < n) : ∃ g cap, v = .slice (some ⟨g, 0, none⟩) n cap ∧ base ≤ g ∧ g < w.heap.size ∧ n ≤ cap := by
  rcases h.2 with ⟨_, h0⟩ | ⟨g, cap, cur, rfl, h1, h2, h3, _⟩
  · omega
  · exact ⟨g, cap, rfl, h1, (Array.getElem?_eq_some_iff.1 h2).1, h3⟩
theorem rem_first (M : List Int) (i m : Nat) (h : i + (m + 1) ≤ M.length) : ((M.drop i).take (m + 1)).sum = M.getD i 0 + ((M.drop (i + 1)).take m).sum := by
  have hi : i < M.length := by omega
  rw [List.drop_eq_getElem_cons hi, List.take_succ_cons, List.sum_cons, List.getD_eq_getElem?_getD, List.getElem?_eq_getElem hi]
  rfl
theorem rem_last (M : List Int) (i m : Nat) (h : i + (m + 1) ≤ M.length) : ((M.drop i).take (m + 1)).sum = M.getD (i + m) 0 + ((M.drop i).take m).sum := by
  have hm : m < (M.drop i).length := by rw [List.length_drop]; omega
  rw [List.take_succ_eq_append_getElem hm, List.sum_append, List.getElem_drop, List.getD_eq_getElem?_getD, List.getElem?_eq_getElem (show i + m < M.length by omega)]
  simp only [List.sum_cons, List.sum_nil, Option.getD_some]
  omega
theorem nn_sum {l : List Int} (h : nonneg l) : 0 ≤ l.sum := by
  induction l with
  | nil => simp
  | cons b l ih => simp only [List.sum_cons]; have := h b (by simp); have := ih (fun x hx => h x (by simp [hx])); omega
theorem nn_rem {M : List Int} (h : nonneg M) (i m : Nat) : 0 ≤ ((M.drop i).take m).sum := nn_sum fun a ha => h a (List.mem_of_mem_drop (List.mem_of_mem_take ha))
/-- what is left to be taken, and what is taken -/
def Tg (l M : List Int) (N : Nat) (x : Int) (i m : Nat) : Prop := i + m ≤ N ∧ may x = true ∧ (nonneg l → 0 ≤ x ∧ x + ((M.drop i).take m).sum = l.sum)
theorem perm_sum {l M : List Int} (hp : M.Perm l) : M.sum = l.sum := by
  induction hp with
  | nil => rfl
  | cons x _ ih => simp only [List.sum_cons, ih]
  | swap x y l => simp only [List.sum_cons]; omega
  | trans _ _ h1 h2 => exact h1.trans h2
theorem perm_nn {l M : List Int} (hp : M.Perm l) (h : nonneg l) : nonneg M := fun a ha => h a (hp.mem_iff.1 ha)
theorem tg_start {l M : List Int} (hp : M.Perm l) : Tg l M l.length 0 0 l.length := by
  refine ⟨by omega, rfl, fun _ => ⟨Int.le_refl _, ?_⟩⟩
  rw [List.drop_zero, ← hp.length_eq, List.take_length, perm_sum hp]; simp
theorem tg_next {l M : List Int} (hp : M.Perm l) {x y a : Int} {i m i' : Nat} (h : Tg l M l.length x i (m + 1)) (ha : (i' = i + 1 ∧ a = M.getD i 0) ∨ (i' = i ∧ a = M.getD (i + m) 0)) (hy : addO x a = some y) : Tg l M l.length y i' m := by
  obtain ⟨h1, h2, h3⟩ := h
  obtain ⟨_, _, h4, rfl⟩ := addO_may hy
  have hl := hp.length_eq
  rcases ha with ⟨rfl, rfl⟩ | ⟨rfl, rfl⟩
  · refine ⟨by omega, h4, fun hn => ?_⟩
    obtain ⟨h5, h6⟩ := h3 hn
    have hr := rem_first M i m (by omega)
    have h7 : 0 ≤ M.getD i 0 := by
      rw [List.getD_eq_getElem?_getD, List.getElem?_eq_getElem (show i < M.length by omega)]
      exact perm_nn hp hn _ (List.getElem_mem _)
    exact ⟨by omega, by omega⟩
  · refine ⟨by omega, h4, fun hn => ?_⟩
    obtain ⟨h5, h6⟩ := h3 hn
    have hr := rem_last M i' m (by omega)
    have h7 : 0 ≤ M.getD (i' + m) 0 := by
      rw [List.getD_eq_getElem?_getD, List.getElem?_eq_getElem (show i' + m < M.length by omega)]
      exact perm_nn hp hn _ (List.getElem_mem _)
    exact ⟨by omega, by omega⟩
theorem tg_none {l M : List Int} (hp : M.Perm l) {x a : Int} {i m : Nat} (h : Tg l M l.length x i (m + 1)) (ha : a = M.getD i 0 ∨ a = M.getD (i + m) 0) (hy : addO x a = none) (hn : nonneg l) : none = sumO 0 l := by
  obtain ⟨h1, h2, h3⟩ := h
  obtain ⟨h5, h6⟩ := h3 hn
  have hl := hp.length_eq
  rw [sumO_nn l 0 (Int.le_refl _) (by decide) hn, if_neg]
  intro hle
  have hq : 0 ≤ a ∧ x + a ≤ l.sum := by
    rcases ha with rfl | rfl
    · have hr := rem_first M i m (by omega)
      have := nn_rem (perm_nn hp hn) (i + 1) m
      have h7 : 0 ≤ M.getD i 0 := by
        rw [List.getD_eq_getElem?_getD, List.getElem?_eq_getElem (show i < M.length by omega)]
        exact perm_nn hp hn _ (List.getElem_mem _)
      exact ⟨h7, by omega⟩
    · have hr := rem_last M i m (by omega)
      have := nn_rem (perm_nn hp hn) i m
      have h7 : 0 ≤ M.getD (i + m) 0 := by
        rw [List.getD_eq_getElem?_getD, List.getElem?_eq_getElem (show i + m < M.length by omega)]
        exact perm_nn hp hn _ (List.getElem_mem _)
      exact ⟨h7, by omega⟩
  have := addO_some (a := x) (b := a) (by simp only [Bool.and_eq_true, may_iff]; omega)
  rw [this] at hy; cases hy
theorem tg_end {l M : List Int} {x : Int} {i : Nat} (h : Tg l M l.length x i 0) (hn : nonneg l) : some x = sumO 0 l := by
  obtain ⟨h1, h2, h3⟩ := h
  obtain ⟨h5, h6⟩ := h3 hn
  rw [List.take_zero, List.sum_nil] at h6
  rw [may_iff] at h2
  rw [sumO_nn l 0 (Int.le_refl _) (by decide) hn, if_pos (by omega)]
  congr 1; omega
def PriceP (l : List Int) (w : World) (e : Ending) (w' : World) : Prop := ∃ r : Option Int, e = .returned (pv r) ∧ (nonneg l → r = sumO 0 l) ∧ Below w.heap.size w w'
theorem amts_snoc (fa : Int) (T : List Tax) (k : Nat) (h : k < T.length) : (fa :: (T.take (k + 1)).map Tax.am).map (fun x => Value.int .i64 x) = (fa :: (T.take k).map Tax.am).map (fun x => Value.int .i64 x) ++ [.int .i64 (T[k]!).am] := by
  rw [List.take_succ_eq_append_getElem h, List.map_append, ← List.cons_append, List.map_append]
  congr 2
  rw [getElem!_pos T k h]
  rfl
set_option maxRecDepth 100000 in
set_option maxHeartbeats 1600000 in
theorem tog_any (fa : Int) (T : List Tax) (tp : Option Addr) (tc : Nat) (w : World) (hT : Row w 2 txC tp T) (hl : T.length ≤ 1000) : Calls Try.prog 33 #[iv fa, .slice tp T.length tc] w (PriceP (fa :: T.map Tax.am) w) := by
  have HT := Lib.hid hT
  have lT : (T.length : Int) ≤ 1000 := by omega
  clear hT hl
  go_enter Try.func33, Try.ntmps33
  go_wp2
  go_loopw [6, 8, 18] (fun vl _ i wr => ∃ k : Nat, i = .int .i64 k ∧ k ≤ T.length ∧ Hid (wr.ownsRow w.heap.size 2 1 vl (k + 1) ((fa :: (T.take k).map Tax.am).map fun x => .int .i64 x)) ∧ Hid (Below w.heap.size w wr)) (fun _ _ i _ => T.length - (intOf i).toNat)
  case atStart =>
    refine ⟨0, rfl, Nat.zero_le _, ?_, (Below.refl _ _).alloc (Nat.le_refl _) _⟩
    exact World.ownsRow_lit (base := w.heap.size) (e := 2) (size := 1) w #[.int .i64 fa] 1 (Nat.le_refl _) (by unfold maxLen; omega) rfl
  case round =>
    obtain ⟨k, rfl, hk, ho, hb⟩ := hrel
    have HO := Lib.hid ho.out
    have HB := Lib.hid hb.out
    clear ho hb
    obtain ⟨g, cap, rfl, hg1, hg2, hg3⟩ := own_pos HO.out (by omega)
    by_cases hlt : (k : Int) < (T.length : Int)
    · have hkl : k < T.length := by omega
      have hk0 : (0 : Int) ≤ (k : Int) := Int.natCast_nonneg _
      obtain ⟨b, o, rfl, hbl, hcell⟩ := HT.out.at_ (by omega)
      have c0 := (HB.out.cell (p := ⟨b, o + k * 2, none⟩) hbl).trans (hcell k hkl 0 (str (T[k]!).code) rfl)
      have c1 := (HB.out.cell (p := ⟨b, o + k * 2 + 1, none⟩) hbl).trans (hcell k hkl 1 (iv (T[k]!).am) rfl)
      have HSN := Lib.hid (amts_snoc fa T k hkl)
      clear hcell
      generalize T[k]! = x at *
      have HR1 := Lib.hid (show RowF ((wr.alloc (.cells #[str x.code, iv x.am] 48)).alloc (.cells #[iv x.am] 2)) (fun _ => True) (.slice (some ⟨wr.heap.size + 1, 0, none⟩) 1 1) 1 [iv x.am] by
        have := row1 (wr.alloc (.cells #[str x.code, iv x.am] 48)) (iv x.am) 2
        simpa using this)
      go_wp2_with (at_builtin; refine wl_appF 29 2 (.int .i64 0) 1 8 par_i64 Try.underlying29 rfl (by decide) (by decide) w.heap.size (.slice (some ⟨g, 0, none⟩) (k + 1) cap) (k + 1) ((fa :: (T.take k).map Tax.am).map fun x => .int .i64 x) (by rfl) ((HO.out.alloc _).alloc _) (.slice (some ⟨wr.heap.size + 1, 0, none⟩) 1 1) (fun _ => True) 1 [.int .i64 x.am] rfl HR1.out rfl (one_int _ _) (by omega) (by have := HB.out.size; simp; omega) ?_)
      intro v2 w3 ho hgr hbk
      have HO3 := Lib.hid ho
      have HB3 := Lib.hid (((HB.out.alloc HB.out.size _).alloc (by have := HB.out.size; simp; omega) _).grown hgr (by have := HB.out.size; simp; omega) (fun k hk => (HO.out.lt k hk).1))
      clear ho hgr hbk
      go_wp2
      go_roundw
      case rel => exact ⟨k + 1, by go_num, by omega, (by rw [HSN.out]; exact HO3.out), HB3.out⟩
      case measure => simp [intOf]; omega
    · obtain rfl : k = T.length := by omega
      have HO2 := Lib.hid HO.out
      rw [List.take_length] at HO2
      have e : (fa :: T.map Tax.am).length = T.length + 1 := by simp
      have hs := sort_any w.heap.size (fa :: T.map Tax.am) g cap wr (by rw [e]; exact HO2.out) (by rw [e]; omega) hg2 hg1
      have HE := Lib.hid e
      rw [e] at hs
      have HS := Lib.hid hs
      clear HO HO2 hs hlt hg1 hg2 hg3 hk HT e
      go_wp2_with (go_at_call 58; refine (HS.out).mono ?_; rintro e w2 ⟨rfl, M, hp, hn, hb2⟩)
      have HP := Lib.hid hp
      have HB2 := Lib.hid (HB.out.trans hb2)
      have HC := Lib.hid (show ∀ j, j < T.length + 1 → w2.cell? ⟨g, j, none⟩ = some (iv (M.getD j 0)) from fun j hj => by
        obtain ⟨b, o, e1, _, e3⟩ := hn.cell (j := j) (by rw [HP.out.length_eq, HE.out]; exact hj)
        simp only [Option.some.injEq, Addr.mk.injEq] at e1
        obtain ⟨rfl, rfl, _⟩ := e1
        rw [Nat.zero_add] at e3; exact e3)
      clear hp hb2 hn HS HB
      go_loopw [9, 10, 11, 12, 13] (fun va lo hi _ _ wx => ∃ (x j : Int) (i m : Nat), va = .int .i64 x ∧ lo = .int .i64 i ∧ hi = .int .i64 j ∧ Hid (j = (i : Int) + m - 1) ∧ Hid (Tg (fa :: T.map Tax.am) M (fa :: T.map Tax.am).length x i m) ∧ w2 = wx) (fun _ lo hi _ _ _ => (intOf hi - intOf lo + 1).toNat)
      case atStart => exact ⟨0, _, 0, T.length + 1, rfl, rfl, rfl, (show _ = _ by simp), (by have := tg_start HP.out; rw [HE.out] at this ⊢; exact this), rfl⟩
      case round =>
        obtain ⟨x, j, i, m, rfl, rfl, rfl, hj, ht, rfl⟩ := hrel
        have HJ := Lib.hid hj.out
        have HT := Lib.hid ht.out
        have hbd : i + m ≤ T.length + 1 := by have := HT.out.1; rw [HE.out] at this; exact this
        clear hj ht
        by_cases hle : (i : Int) ≤ j
        · obtain ⟨m', rfl⟩ : ∃ m', m = m' + 1 := ⟨m - 1, by have := HJ.out; omega⟩
          obtain ⟨jn, hjn⟩ : ∃ jn, jn = i + m' := ⟨_, rfl⟩
          obtain rfl : j = (jn : Int) := by have := HJ.out; omega
          have HJN := Lib.hid hjn
          have i0 : (0 : Int) ≤ (i : Int) := Int.natCast_nonneg _
          have j0 : (0 : Int) ≤ (jn : Int) := Int.natCast_nonneg _
          have iT : (i : Int) ≤ (T.length : Int) := by omega
          have jT : (jn : Int) ≤ (T.length : Int) := by omega
          have ci := HC.out i (by omega)
          have cj := HC.out jn (by omega)
          clear hjn hbd HJ
          by_cases hx : 0 < x
          · obtain ⟨a, ha⟩ : ∃ a, a = M.getD i 0 := ⟨_, rfl⟩
            rw [← ha] at ci
            have HA := Lib.hid ha
            clear ha
            have HQ := Lib.hid (add_any x a)
            cases hy : addO x a with
            | none =>
              rw [hy] at HQ
              have HY := Lib.hid hy
              clear hy
              go_wp2_with (go_at_call 31; refine (HQ.out _).mono ?_; rintro e w' ⟨rfl, rfl⟩; simp only [pv, pairV])
              go_ret2
              exact ⟨none, rfl, fun hn => tg_none HP.out HT.out (.inl HA.out) HY.out hn, HB2.out⟩
            | some y =>
              rw [hy] at HQ
              have HY := Lib.hid hy
              clear hy
              go_wp2_with (go_at_call 31; refine (HQ.out _).mono ?_; rintro e w' ⟨rfl, rfl⟩; simp only [pv, pairV])
              go_roundw
              case rel => exact ⟨y, jn, i + 1, m', rfl, by go_num, rfl, (show _ = _ by have := HJN.out; omega), tg_next HP.out HT.out (.inl ⟨rfl, HA.out⟩) HY.out, trivial⟩
              case measure => simp [intOf]; omega
          · obtain ⟨a, ha⟩ : ∃ a, a = M.getD jn 0 := ⟨_, rfl⟩
            rw [← ha] at cj
            rw [HJN.out] at ha
            have HA := Lib.hid ha
            clear ha
            have HQ := Lib.hid (add_any x a)
            cases hy : addO x a with
            | none =>
              rw [hy] at HQ
              have HY := Lib.hid hy
              clear hy
              go_wp2_with (go_at_call 31; refine (HQ.out _).mono ?_; rintro e w' ⟨rfl, rfl⟩; simp only [pv, pairV])
              go_ret2
              exact ⟨none, rfl, fun hn => tg_none HP.out HT.out (.inr HA.out) HY.out hn, HB2.out⟩
            | some y =>
              rw [hy] at HQ
              have HY := Lib.hid hy
              clear hy
              go_wp2_with (go_at_call 31; refine (HQ.out _).mono ?_; rintro e w' ⟨rfl, rfl⟩; simp only [pv, pairV])
              go_roundw
              case rel => exact ⟨y, (jn : Int) - 1, i, m', rfl, rfl, rfl, (show _ = _ by have := HJN.out; omega), tg_next HP.out HT.out (.inr ⟨rfl, HA.out⟩) HY.out, trivial⟩
              case measure => simp [intOf]; omega
        · obtain rfl : m = 0 := by have := HJ.out; omega
          go_wp2
          go_ret2
          exact ⟨some x, rfl, fun hn => tg_end HT.out hn, HB2.out⟩
set_option maxRecDepth 100000 in
theorem price_any (s : Sl) (lp tp : Option Addr) (lc tc : Nat) (w : World) (hT : Row w 2 txC tp s.taxes) (hl : s.taxes.length ≤ 1000) :
    Calls Try.prog 17 #[.agg #[str s.name, .slice lp s.legs.length lc, iv s.fare, .slice tp s.taxes.length tc, iv s.pen]] w (PriceP (amts s) w) := by
  have hb : Below w.heap.size w (w.alloc (.cells #[str s.name, .slice lp s.legs.length lc, iv s.fare, .slice tp s.taxes.length tc, iv s.pen] 28)) := (Below.refl _ _).alloc (Nat.le_refl _) _
  have H := Lib.hid (tog_any s.fare s.taxes tp tc _ (hT.keep hb) hl)
  have HB := Lib.hid hb
  clear hT hl hb
  go_enter Try.func17, Try.ntmps17
  go_wp2_with (go_at_call 33; refine (H.out).mono ?_; rintro e w2 ⟨r, rfl, hr, hb2⟩; simp only [pv])
  go_ret2
  exact ⟨r, rfl, hr, HB.out.trans (hb2.mono HB.out.size)⟩
end Go.Proofs.Ytpapcilffkpjjaa
