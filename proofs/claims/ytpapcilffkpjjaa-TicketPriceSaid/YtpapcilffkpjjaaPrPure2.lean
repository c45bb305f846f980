/- The plain model of prorate: whole shares, rests, what is left, the shares. -/
import Derived.Test.YtpapcilffkpjjaaPrPure
namespace Go.Pror

def wholes (A D : Nat) (ws : List Nat) : List Nat := ws.map fun w => A * w / D
def rests (A D : Nat) (ws : List Nat) : List Nat := ws.map fun w => A * w % D
/-- a list of naturals as ints -/
def ints (l : List Nat) : List Int := l.map fun (i : Nat) => (i : Int)
theorem ints_len (l : List Nat) : (ints l).length = l.length := by simp [ints]
theorem ints_getD (l : List Nat) (i : Nat) : (ints l).getD i 0 = ((l.getD i 0 : Nat) : Int) := by
  simp only [ints, List.getD_eq_getElem?_getD, List.getElem?_map]
  cases l[i]? <;> rfl
theorem wholes_len (A D : Nat) (ws : List Nat) : (wholes A D ws).length = ws.length := by simp [wholes]
theorem rests_len (A D : Nat) (ws : List Nat) : (rests A D ws).length = ws.length := by simp [rests]
theorem wholes_getD (A D : Nat) (ws : List Nat) (i : Nat) (h : i < ws.length) : (wholes A D ws).getD i 0 = A * ws.getD i 0 / D := by
  simp only [wholes, List.getD_eq_getElem?_getD, List.getElem?_map, List.getElem?_eq_getElem h]
  rfl
theorem rests_getD (A D : Nat) (ws : List Nat) (i : Nat) (h : i < ws.length) : (rests A D ws).getD i 0 = A * ws.getD i 0 % D := by
  simp only [rests, List.getD_eq_getElem?_getD, List.getElem?_map, List.getElem?_eq_getElem h]
  rfl
theorem whole_rest (A D : Nat) : ∀ ws : List Nat, (wholes A D ws).sum * D + (rests A D ws).sum = A * ws.sum
  | [] => by simp [wholes, rests]
  | w :: ws => by
    have ih := whole_rest A D ws
    simp only [wholes, rests, List.map_cons, List.sum_cons] at *
    have h := Nat.div_add_mod (A * w) D
    rw [Nat.add_mul, Nat.mul_add, ← ih, Nat.mul_comm (A * w / D) D]
    omega
theorem sum_take_le : ∀ (l : List Nat) (k : Nat), (l.take k).sum ≤ l.sum
  | [], k => by simp
  | a :: l, 0 => by simp
  | a :: l, k + 1 => by have := sum_take_le l k; simp only [List.take_succ_cons, List.sum_cons]; omega
theorem sum_take_succ (l : List Nat) (k : Nat) (h : k < l.length) : (l.take (k + 1)).sum = (l.take k).sum + l.getD k 0 := by
  rw [List.take_succ_eq_append_getElem h, List.sum_append, List.getD_eq_getElem?_getD, List.getElem?_eq_getElem h]
  simp
theorem rests_lt (A D : Nat) (hD : 0 < D) : ∀ ws : List Nat, ws ≠ [] → (rests A D ws).sum < ws.length * D
  | [], h => absurd rfl h
  | [w], _ => by simp [rests]; exact Nat.mod_lt _ hD
  | w :: v :: ws, _ => by
    have ih := rests_lt A D hD (v :: ws) (by simp)
    have h := Nat.mod_lt (A * w) hD
    simp only [rests, List.map_cons, List.sum_cons, List.length_cons] at *
    rw [Nat.add_mul] ; omega
/-- what is left when all have their whole shares -/
def left (A : Nat) (ws : List Nat) : Nat := A - (wholes A ws.sum ws).sum
theorem wholes_le (A : Nat) (ws : List Nat) (h : 0 < ws.sum) : (wholes A ws.sum ws).sum ≤ A := by
  have := whole_rest A ws.sum ws
  have h2 : (wholes A ws.sum ws).sum * ws.sum ≤ A * ws.sum := by omega
  exact Nat.le_of_mul_le_mul_right h2 h
theorem left_rests (A : Nat) (ws : List Nat) (h : 0 < ws.sum) : left A ws * ws.sum = (rests A ws.sum ws).sum := by
  have h1 := whole_rest A ws.sum ws
  have h2 := wholes_le A ws h
  unfold left
  rw [Nat.sub_mul]
  omega
theorem left_lt (A : Nat) (ws : List Nat) (h : 0 < ws.sum) : left A ws < ws.length := by
  have h1 := left_rests A ws h
  have hne : ws ≠ [] := by intro e; subst e; simp at h
  have h2 := rests_lt A ws.sum h ws hne
  rw [← h1] at h2
  exact Nat.lt_of_mul_lt_mul_right h2
def restI (A : Nat) (ws : List Nat) : List Int := ints (rests A ws.sum ws)
theorem restI_len (A : Nat) (ws : List Nat) : (restI A ws).length = ws.length := by unfold restI; rw [ints_len, rests_len]
/-- the whole shares, and one unit more for the first j -/
def given (A : Nat) (ws : List Nat) (j : Nat) : List Nat := (List.range ws.length).map fun i => (wholes A ws.sum ws).getD i 0 + if rank (restI A ws) i < j then 1 else 0
theorem given_len (A : Nat) (ws : List Nat) (j : Nat) : (given A ws j).length = ws.length := by simp [given]
theorem given_getD (A : Nat) (ws : List Nat) (j i : Nat) (h : i < ws.length) : (given A ws j).getD i 0 = (wholes A ws.sum ws).getD i 0 + if rank (restI A ws) i < j then 1 else 0 := by
  simp only [given, List.getD_eq_getElem?_getD, List.getElem?_map, List.getElem?_range h]
  rfl
theorem given_zero (A : Nat) (ws : List Nat) : given A ws 0 = wholes A ws.sum ws := by
  apply List.ext_getElem
  · rw [given_len, wholes_len]
  · intro i h1 h2
    have := given_getD A ws 0 i (by rw [given_len] at h1; exact h1)
    rw [if_neg (Nat.not_lt_zero _), Nat.add_zero] at this
    rw [List.getD_eq_getElem?_getD, List.getElem?_eq_getElem h1, List.getD_eq_getElem?_getD, List.getElem?_eq_getElem h2] at this
    exact this
theorem given_next (A : Nat) (ws : List Nat) (L : List Nat) (hs : Srt (restI A ws) L) (j : Nat) (hj : j < ws.length) : (given A ws j).set (L.getD j 0) ((given A ws j).getD (L.getD j 0) 0 + 1) = given A ws (j + 1) := by
  have hl : L.length = ws.length := hs.len.trans (restI_len A ws)
  have hlt := hs.lt (k := j) (by omega)
  rw [restI_len] at hlt
  have hr := hs.rank (k := j) (by omega)
  apply List.ext_getElem
  · simp [given]
  · intro i h1 h2
    have hi : i < ws.length := by rw [given_len] at h2; exact h2
    rw [List.getElem_set]
    have e : (given A ws (j + 1))[i] = (given A ws (j + 1)).getD i 0 := by rw [List.getD_eq_getElem?_getD, List.getElem?_eq_getElem h2]; rfl
    have e' : (given A ws j)[i]'(by rw [given_len]; exact hi) = (given A ws j).getD i 0 := by rw [List.getD_eq_getElem?_getD, List.getElem?_eq_getElem (by rw [given_len]; exact hi)]; rfl
    rw [e, e', given_getD _ _ _ _ hi, given_getD _ _ _ _ hi]
    by_cases c : L.getD j 0 = i
    · rw [if_pos c, given_getD _ _ _ _ hlt, c]
      rw [c] at hr
      rw [hr, if_neg (by omega), if_pos (by omega)]
    · rw [if_neg c]
      have h3 := hs.at_rank (i := i) (by rw [restI_len]; exact hi)
      have : rank (restI A ws) i ≠ j := fun h => c (by rw [← h]; exact h3.2)
      by_cases c2 : rank (restI A ws) i < j
      · rw [if_pos c2, if_pos (by omega)]
      · rw [if_neg c2, if_neg (by omega)]
/-- the shares -/
def shareL (A : Nat) (ws : List Nat) : List Nat := given A ws (left A ws)
def shareR (t : Int) (ws : List Nat) : List Int × Int :=
  if 64 < ws.length then ([], 2) else if ws.sum = 0 then ([], 60) else if t < 0 ∨ 1125899906842624 < t then ([], 7) else (ints (shareL t.toNat ws), 0)
/-- the first k of a list, noughts behind -/
def prt (l : List Nat) (k : Nat) : List Int := (List.range l.length).map fun i => if i < k then ((l.getD i 0 : Nat) : Int) else 0
theorem prt_len (l : List Nat) (k : Nat) : (prt l k).length = l.length := by simp [prt]
theorem prt_zero (l : List Nat) : prt l 0 = List.replicate l.length 0 := by
  apply List.ext_getElem
  · simp [prt]
  · intro i h1 h2; simp [prt]
theorem prt_set (l : List Nat) (k : Nat) : (prt l k).set k ((l.getD k 0 : Nat) : Int) = prt l (k + 1) := by
  apply List.ext_getElem
  · simp [prt]
  · intro i h1 h2
    rw [List.getElem_set]
    simp only [prt, List.getElem_map, List.getElem_range]
    by_cases c : k = i
    · subst c; rw [if_pos rfl, if_pos (by omega)]
    · rw [if_neg c]
      by_cases c2 : i < k
      · rw [if_pos c2, if_pos (by omega)]
      · rw [if_neg c2, if_neg (by omega)]
theorem prt_all (l : List Nat) : prt l l.length = ints l := by
  apply List.ext_getElem
  · simp [prt, ints]
  · intro i h1 h2
    have hi : i < l.length := by simpa [prt] using h1
    simp only [prt, ints, List.getElem_map, List.getElem_range]
    rw [if_pos hi, List.getD_eq_getElem?_getD, List.getElem?_eq_getElem hi]
    rfl
end Go.Pror
