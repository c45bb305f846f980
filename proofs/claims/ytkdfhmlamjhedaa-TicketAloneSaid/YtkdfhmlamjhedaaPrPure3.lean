/- The plain model of prorate: what the statements say of it. -/
import Derived.Test.YtkdfhmlamjhedaaPrPure2
namespace Go.Pror
/-- the total is k times the weights: each has k times its own -/
theorem exact_share (k : Nat) (ws : List Nat) (h : 0 < ws.sum) : shareL (ws.sum * k) ws = ws.map (· * k) := by
  have e : wholes (ws.sum * k) ws.sum ws = ws.map (· * k) := by
    unfold wholes
    apply List.map_congr_left
    intro w _
    rw [Nat.mul_assoc, Nat.mul_div_cancel_left _ h, Nat.mul_comm]
  have hs : (ws.map (· * k)).sum = ws.sum * k := by
    clear e h
    induction ws with
    | nil => simp
    | cons a l ih => simp only [List.map_cons, List.sum_cons, ih, Nat.add_mul]
  unfold shareL
  have hl : left (ws.sum * k) ws = 0 := by unfold left; rw [e, hs, Nat.sub_self]
  rw [hl, given_zero, e]
/-- a rest of all the like ones: the first ones have the more -/
theorem countP_before_eq (l : List Int) (c : Int) (hl : ∀ i, i < l.length → l.getD i 0 = c) (i : Nat) (hi : i < l.length) : rank l i = i := by
  unfold rank
  have e : (List.range l.length).countP (fun j => before l j i) = (List.range l.length).countP (fun j => decide (j < i)) := by
    apply List.countP_congr
    intro j hj
    have hj' := List.mem_range.1 hj
    rw [before_iff, hl i hi, hl j hj', decide_eq_true_eq]
    omega
  rw [e, countP_lt i _ (by omega)]
theorem rep_sum (n v : Nat) : (List.replicate n v).sum = n * v := by simp [List.sum_replicate_nat]
theorem equal_share (A n v : Nat) (hn : 0 < n) (hv : 0 < v) (i : Nat) (hi : i < n) : (shareL A (List.replicate n v)).getD i 0 = A / n + if i < A % n then 1 else 0 := by
  have hs : (List.replicate n v).sum = n * v := rep_sum n v
  have hD : 0 < n * v := Nat.mul_pos hn hv
  have hw : A * v / (n * v) = A / n := Nat.mul_div_mul_right A n hv
  have hr : A * v % (n * v) = A % n * v := Nat.mul_mod_mul_right v A n
  have hwl : wholes A (n * v) (List.replicate n v) = List.replicate n (A / n) := by simp [wholes, hw]
  have hrl : rests A (n * v) (List.replicate n v) = List.replicate n (A % n * v) := by simp [rests, hr]
  have hlf : left A (List.replicate n v) = A % n := by
    unfold left
    rw [hs, hwl, rep_sum]
    have := Nat.div_add_mod A n
    omega
  unfold shareL
  rw [given_getD _ _ _ _ (by simpa using hi), hs, hwl, hlf]
  have hrk : rank (restI A (List.replicate n v)) i = i := by
    refine countP_before_eq _ ((A % n * v : Nat) : Int) (fun j hj => ?_) i (by rw [restI_len]; simpa using hi)
    unfold restI at hj ⊢
    rw [ints_len, hs, hrl] at hj
    rw [ints_getD, hs, hrl, List.getD_eq_getElem?_getD, List.getElem?_eq_getElem hj]
    simp
  rw [hrk, List.getD_eq_getElem?_getD, List.getElem?_eq_getElem (by simpa using hi)]
  simp
/-- weights taken k times -/
theorem times_share (A k : Nat) (hk : 0 < k) (ws : List Nat) : shareL A (ws.map (· * k)) = shareL A ws := by
  have hs : (ws.map (· * k)).sum = ws.sum * k := by
    induction ws with
    | nil => simp
    | cons a l ih => simp only [List.map_cons, List.sum_cons, ih, Nat.add_mul]
  have hw : wholes A (ws.map (· * k)).sum (ws.map (· * k)) = wholes A ws.sum ws := by
    rw [hs]
    simp only [wholes, List.map_map]
    apply List.map_congr_left
    intro w _
    show A * (w * k) / (ws.sum * k) = A * w / ws.sum
    rw [← Nat.mul_assoc]; exact Nat.mul_div_mul_right _ _ hk
  have hr : rests A (ws.map (· * k)).sum (ws.map (· * k)) = (rests A ws.sum ws).map (· * k) := by
    rw [hs]
    simp only [rests, List.map_map]
    apply List.map_congr_left
    intro w _
    show A * (w * k) % (ws.sum * k) = A * w % ws.sum * k
    rw [← Nat.mul_assoc]; exact Nat.mul_mod_mul_right _ _ _
  have hlf : left A (ws.map (· * k)) = left A ws := by unfold left; rw [hw]
  have hg : ∀ i, (restI A (ws.map (· * k))).getD i 0 = (restI A ws).getD i 0 * (k : Int) := fun i => by
    unfold restI
    rw [ints_getD, ints_getD, hr, List.getD_eq_getElem?_getD, List.getElem?_map, List.getD_eq_getElem?_getD]
    cases (rests A ws.sum ws)[i]? with
    | none => simp
    | some x => simp
  have hb : ∀ i j, before (restI A (ws.map (· * k))) i j = before (restI A ws) i j := fun i j => by
    unfold before
    rw [hg, hg]
    have hk' : (0 : Int) < (k : Int) := by omega
    rw [decide_eq_decide, Int.mul_lt_mul_right hk', Int.mul_eq_mul_right_iff (by omega)]
  have hrk : ∀ i, rank (restI A (ws.map (· * k))) i = rank (restI A ws) i := fun i => by
    unfold rank
    rw [restI_len, restI_len, List.length_map]
    exact List.countP_congr fun j _ => by rw [hb]
  unfold shareL given
  rw [hlf, hw, List.length_map]
  apply List.map_congr_left
  intro i _
  rw [hrk]
theorem times_shareR (t : Int) (k : Nat) (hk : 0 < k) (ws : List Nat) : shareR t (ws.map (· * k)) = shareR t ws := by
  have hs : (ws.map (· * k)).sum = ws.sum * k := by
    induction ws with
    | nil => simp
    | cons a l ih => simp only [List.map_cons, List.sum_cons, ih, Nat.add_mul]
  unfold shareR
  rw [List.length_map, hs, times_share _ k hk]
  have : ws.sum * k = 0 ↔ ws.sum = 0 := by rw [Nat.mul_eq_zero]; omega
  simp only [this]
end Go.Pror
