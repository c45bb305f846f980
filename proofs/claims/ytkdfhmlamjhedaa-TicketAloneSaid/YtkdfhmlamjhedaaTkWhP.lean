/- The plain side of TicketWhole: what is given back and kept, and the balance then. -/
import Derived.Test.YtkdfhmlamjhedaaTkBa
namespace Go.Proofs.Ytkdfhmlamjhedaa
open Go.Money Go.Pror Go.Tick

/-- what is given back of the first k coupons, kept of them, and both -/
def bkL (V : List Int) (wh : Nat → Bool) (pen : Int) : Nat → Int
  | 0 => 0
  | k + 1 => bkL V wh pen k + if wh k then (giveL (V.getD k 0) pen).1 else 0
def kpL (V : List Int) (wh : Nat → Bool) (pen : Int) : Nat → Int
  | 0 => 0
  | k + 1 => kpL V wh pen k + if wh k then (giveL (V.getD k 0) pen).2 else 0
/-- the statuses when the first k coupons have been seen -/
def stL (wh : Nat → Bool) (n k : Nat) : List Nat := (List.range n).map fun i => if i < k then (if wh i then 6 else 4) else 1
theorem stL_len (wh : Nat → Bool) (n k : Nat) : (stL wh n k).length = n := by simp [stL]
theorem stL_getD (wh : Nat → Bool) {n k i : Nat} (h : i < n) : (stL wh n k).getD i 0 = if i < k then (if wh i then 6 else 4) else 1 := by
  simp only [stL, List.getD_eq_getElem?_getD, List.getElem?_map, List.getElem?_range h]; rfl
theorem stL_set (wh : Nat → Bool) (n k : Nat) : (stL wh n k).set k (if wh k then 6 else 4) = stL wh n (k + 1) := by
  apply List.ext_getElem
  · simp [stL]
  · intro i h1 h2
    rw [List.getElem_set]
    simp only [stL, List.getElem_map, List.getElem_range]
    by_cases c : k = i
    · subst c; simp
    · by_cases c2 : i < k
      · have c3 : i < k + 1 := by omega
        simp [c, c2, c3]
      · have c3 : ¬ i < k + 1 := by omega
        simp [c, c2, c3]
theorem stL_lt (wh : Nat → Bool) (n k : Nat) : ∀ x ∈ stL wh n k, x < 256 := by
  intro x hx
  obtain ⟨i, _, rfl⟩ := List.mem_map.1 hx
  split
  · split <;> decide
  · decide
theorem stL_is (wh : Nat → Bool) (n k : Nat) : (stL wh n k).all isS = true := by
  rw [List.all_eq_true]
  intro x hx
  obtain ⟨i, _, rfl⟩ := List.mem_map.1 hx
  split
  · split <;> decide
  · decide
theorem give_sum {v p : Int} (hv : 0 ≤ v) (hp : 0 ≤ p) : (giveL v p).1 + (giveL v p).2 = v ∧ 0 ≤ (giveL v p).1 ∧ 0 ≤ (giveL v p).2 ∧ (giveL v p).2 ≤ p := by
  unfold giveL
  rw [if_neg (by omega)]
  split <;> simp only <;> omega
theorem take_sum (V : List Int) (k : Nat) (h : k < V.length) : (V.take (k + 1)).sum = (V.take k).sum + V.getD k 0 := by
  rw [List.take_succ_eq_append_getElem h, List.sum_append, List.getD_eq_getElem?_getD, List.getElem?_eq_getElem h]
  simp
theorem getD_nn {V : List Int} (h : nonneg V) {k : Nat} (hk : k < V.length) : 0 ≤ V.getD k 0 := by
  rw [List.getD_eq_getElem?_getD, List.getElem?_eq_getElem hk]; exact h _ (List.getElem_mem hk)
theorem take_le {V : List Int} (h : nonneg V) (k : Nat) : (V.take k).sum ≤ V.sum := by
  have h2 := nn_sum (l := V.drop k) (fun a ha => h a (List.mem_of_mem_drop ha))
  have : V.sum = (V.take k).sum + (V.drop k).sum := by rw [← List.sum_append, List.take_append_drop]
  omega
theorem bk_kp {V : List Int} {wh : Nat → Bool} {pen : Int} (h : nonneg V) (hp : 0 ≤ pen) : ∀ k, k ≤ V.length → 0 ≤ bkL V wh pen k ∧ 0 ≤ kpL V wh pen k ∧ bkL V wh pen k + kpL V wh pen k ≤ (V.take k).sum
  | 0, _ => by simp [bkL, kpL]
  | k + 1, hk => by
    obtain ⟨h1, h2, h3⟩ := bk_kp (wh := wh) h hp k (by omega)
    have hg := give_sum (getD_nn h (show k < V.length by omega)) hp
    have ht := take_sum V k (by omega)
    have hv := getD_nn h (show k < V.length by omega)
    unfold bkL kpL
    split <;> omega
theorem ng_small {x : Int} (h0 : -1125899906842624 ≤ x) (h1 : x ≤ 1125899906842624) : ng x = -x := by unfold ng Go.RowKit.wrap64; omega
/-- what is taken away, when all have been seen -/
theorem wl_all {V : List Int} {wh : Nat → Bool} {pen : Int} (h : nonneg V) (hm : V.sum ≤ 1125899906842624) (hp : 0 ≤ pen) : ∀ k, k ≤ V.length →
    (∀ a ∈ wl V (stL wh V.length V.length) k, a ≤ 0 ∧ -1125899906842624 ≤ a) ∧ (wl V (stL wh V.length V.length) k).sum = bkL V wh pen k + kpL V wh pen k - (V.take k).sum
  | 0, _ => by simp [wl, bkL, kpL]
  | k + 1, hk => by
    obtain ⟨h1, h2⟩ := wl_all (wh := wh) h hm hp k (by omega)
    have hg := give_sum (getD_nn h (show k < V.length by omega)) hp
    have ht := take_sum V k (by omega)
    have hv := getD_nn h (show k < V.length by omega)
    have htl := take_le h (k + 1)
    have hb := nn_sum (l := V.take k) (fun a ha => h a (List.mem_of_mem_take ha))
    have hn := ng_small (x := V.getD k 0) (by omega) (by omega)
    have hs : (stL wh V.length V.length).getD k 0 = if wh k then 6 else 4 := by rw [stL_getD wh (by omega), if_pos (by omega)]
    unfold wl bkL kpL
    rw [hs]
    cases hw : wh k
    · have e : wthB (if false = true then 6 else 4) = true := rfl
      rw [e, if_pos rfl]
      refine ⟨fun a ha => ?_, ?_⟩
      · rcases List.mem_append.1 ha with ha | ha
        · exact h1 a ha
        · rw [List.mem_singleton.1 ha, hn]; omega
      · rw [List.sum_append, h2, hn, ht]; simp only [List.sum_cons, List.sum_nil, Bool.false_eq_true, if_false]; omega
    · have e : wthB (if true = true then 6 else 4) = false := rfl
      rw [e]
      rw [if_neg (by decide), List.append_nil]
      refine ⟨h1, ?_⟩
      rw [h2, ht, if_pos rfl, if_pos rfl]; omega
/-- sums that go down -/
theorem sumO_down : ∀ (l : List Int) (s : Int), (∀ a ∈ l, a ≤ 0 ∧ -1125899906842624 ≤ a) → s ≤ 1125899906842624 → 0 ≤ s + l.sum → sumO s l = some (s + l.sum)
  | [], s, _, _, _ => by simp [sumO]
  | a :: l, s, h, h1, h2 => by
    have ha := h a (by simp)
    have hl : ∀ b ∈ l, b ≤ 0 ∧ -1125899906842624 ≤ b := fun b hb => h b (by simp [hb])
    have hls : l.sum ≤ 0 := by
      clear h h2
      induction l with
      | nil => simp
      | cons b l ih => simp only [List.sum_cons]; have := hl b (by simp); have := ih (fun x hx => hl x (by simp [hx])); omega
    simp only [List.sum_cons] at h2 ⊢
    have e : addO s a = some (s + a) := addO_some (by simp only [Bool.and_eq_true, may_iff]; omega)
    simp only [sumO, e]
    rw [sumO_down l (s + a) hl (by omega) (by omega)]
    congr 1; omega
/-- the balance when all have been seen is 0 -/
theorem bal_zero {V : List Int} {wh : Nat → Bool} {pen fare : Int} (h : nonneg V) (hf : V.sum = fare) (hm : fare ≤ 1125899906842624) (hp : 0 ≤ pen) :
    balL V (stL wh V.length V.length) V.length 0 fare (bkL V wh pen V.length) (kpL V wh pen V.length) 0 = (0, 0) := by
  rw [bal_sum (stL_len _ _ _) rfl (stL_is _ _ _)]
  obtain ⟨h1, h2, h3⟩ := bk_kp (wh := wh) h hp V.length (Nat.le_refl _)
  obtain ⟨h4, h5⟩ := wl_all (wh := wh) h (by omega) hp V.length (Nat.le_refl _)
  rw [List.take_length] at h3 h5
  have n1 := ng_small (x := bkL V wh pen V.length) (by omega) (by omega)
  have n2 := ng_small (x := kpL V wh pen V.length) (by omega) (by omega)
  have n3 : ng 0 = 0 := ng_small (by omega) (by omega)
  have e : b5 0 fare (bkL V wh pen V.length) (kpL V wh pen V.length) 0 ++ wl V (stL wh V.length V.length) V.length = fare :: 0 :: (-bkL V wh pen V.length) :: (-kpL V wh pen V.length) :: 0 :: wl V (stL wh V.length V.length) V.length := by
    unfold b5; rw [n1, n2, n3]; rfl
  have hf0 : 0 ≤ fare := by rw [← hf]; exact nn_sum h
  have e2 : addO 0 fare = some fare := by
    have := addO_some (a := 0) (b := fare) (by simp only [Bool.and_eq_true, may_iff]; omega)
    rw [this]; congr 1; omega
  rw [e]
  have hs := sumO_down (0 :: (-bkL V wh pen V.length) :: (-kpL V wh pen V.length) :: 0 :: wl V (stL wh V.length V.length) V.length) fare (fun a ha => by
    simp only [List.mem_cons] at ha
    rcases ha with rfl | rfl | rfl | rfl | ha
    · omega
    · omega
    · omega
    · omega
    · exact h4 a ha) hm (by simp only [List.sum_cons]; omega)
  have hstep : sumO 0 (fare :: 0 :: (-bkL V wh pen V.length) :: (-kpL V wh pen V.length) :: 0 :: wl V (stL wh V.length V.length) V.length) = sumO fare (0 :: (-bkL V wh pen V.length) :: (-kpL V wh pen V.length) :: 0 :: wl V (stL wh V.length V.length) V.length) := by
    show (match addO 0 fare with | some x => _ | none => none) = _
    rw [e2]
  rw [hstep, hs]
  simp only [List.sum_cons, pairV, Prod.mk.injEq, and_true]
  omega
/-- the balance when all are open is 0 -/
theorem wl_one {V : List Int} (h : nonneg V) (hm : V.sum ≤ 1125899906842624) : ∀ k, k ≤ V.length →
    (∀ a ∈ wl V (stL (fun _ => false) V.length 0) k, a ≤ 0 ∧ -1125899906842624 ≤ a) ∧ (wl V (stL (fun _ => false) V.length 0) k).sum = - (V.take k).sum
  | 0, _ => by simp [wl]
  | k + 1, hk => by
    obtain ⟨h1, h2⟩ := wl_one h hm k (by omega)
    have ht := take_sum V k (by omega)
    have hv := getD_nn h (show k < V.length by omega)
    have htl := take_le h (k + 1)
    have hb := nn_sum (l := V.take k) (fun a ha => h a (List.mem_of_mem_take ha))
    have hn := ng_small (x := V.getD k 0) (by omega) (by omega)
    have hs : (stL (fun _ => false) V.length 0).getD k 0 = 1 := by rw [stL_getD _ (by omega), if_neg (by omega)]
    unfold wl
    rw [hs]
    have e : wthB 1 = true := rfl
    rw [e, if_pos rfl]
    refine ⟨fun a ha => ?_, ?_⟩
    · rcases List.mem_append.1 ha with ha | ha
      · exact h1 a ha
      · rw [List.mem_singleton.1 ha, hn]; omega
    · rw [List.sum_append, h2, hn, ht]; simp only [List.sum_cons, List.sum_nil]; omega
theorem bal_open {V : List Int} {fare : Int} (h : nonneg V) (hf : V.sum = fare) (hm : fare ≤ 1125899906842624) :
    balL V (stL (fun _ => false) V.length 0) V.length 0 fare 0 0 0 = (0, 0) := by
  rw [bal_sum (stL_len _ _ _) rfl (stL_is _ _ _)]
  obtain ⟨h4, h5⟩ := wl_one h (by omega) V.length (Nat.le_refl _)
  rw [List.take_length] at h5
  have n3 : ng 0 = 0 := ng_small (by omega) (by omega)
  have e : b5 0 fare 0 0 0 ++ wl V (stL (fun _ => false) V.length 0) V.length = fare :: 0 :: 0 :: 0 :: 0 :: wl V (stL (fun _ => false) V.length 0) V.length := by
    unfold b5; rw [n3]; rfl
  have hf0 : 0 ≤ fare := by rw [← hf]; exact nn_sum h
  have e2 : addO 0 fare = some fare := by
    have := addO_some (a := 0) (b := fare) (by simp only [Bool.and_eq_true, may_iff]; omega)
    rw [this]; congr 1; omega
  rw [e]
  have hs := sumO_down (0 :: 0 :: 0 :: 0 :: wl V (stL (fun _ => false) V.length 0) V.length) fare (fun a ha => by
    simp only [List.mem_cons] at ha
    rcases ha with rfl | rfl | rfl | rfl | ha
    · omega
    · omega
    · omega
    · omega
    · exact h4 a ha) hm (by simp only [List.sum_cons]; omega)
  have hstep : sumO 0 (fare :: 0 :: 0 :: 0 :: 0 :: wl V (stL (fun _ => false) V.length 0) V.length) = sumO fare (0 :: 0 :: 0 :: 0 :: wl V (stL (fun _ => false) V.length 0) V.length) := by
    show (match addO 0 fare with | some x => _ | none => none) = _
    rw [e2]
  rw [hstep, hs]
  simp only [List.sum_cons, pairV, Prod.mk.injEq, and_true]
  omega
end Go.Proofs.Ytkdfhmlamjhedaa
