/- The plain model of the document's way of giving out units: one by one, to the greatest rest that is still there. -/
import Derived.Test.YthjaiianbcfiaaaPrF
namespace Go.Proofs.Ythjaiianbcfiaaa
open Go.Sort Go.Stb Go.Pror

/-- the rests, those that were given a unit struck out -/
def rl (A : Nat) (ws : List Nat) (j : Nat) : List Int := (List.range ws.length).map fun i => if rank (restI A ws) i < j then -1 else (restI A ws).getD i 0
theorem rl_len (A : Nat) (ws : List Nat) (j : Nat) : (rl A ws j).length = ws.length := by simp [rl]
theorem rl_getD (A : Nat) (ws : List Nat) (j i : Nat) (h : i < ws.length) : (rl A ws j).getD i 0 = if rank (restI A ws) i < j then -1 else (restI A ws).getD i 0 := by
  simp only [rl, List.getD_eq_getElem?_getD, List.getElem?_map, List.getElem?_range h]
  rfl
theorem ext_getD {l m : List Int} (h : l.length = m.length) (hg : ∀ i, i < l.length → l.getD i 0 = m.getD i 0) : l = m := by
  apply List.ext_getElem h
  intro i h1 h2
  have := hg i h1
  rw [List.getD_eq_getElem?_getD, List.getElem?_eq_getElem h1, List.getD_eq_getElem?_getD, List.getElem?_eq_getElem h2] at this
  exact this
theorem rl_zero (A : Nat) (ws : List Nat) : rl A ws 0 = restI A ws := by
  apply ext_getD
  · rw [rl_len, restI_len]
  · intro i hi
    rw [rl_len] at hi
    rw [rl_getD A ws 0 i hi, if_neg (Nat.not_lt_zero _)]
theorem set_getD (l : List Int) (b i : Nat) (x : Int) (hi : i < l.length) : (l.set b x).getD i 0 = if b = i then x else l.getD i 0 := by
  rw [List.getD_eq_getElem?_getD, List.getElem?_set]
  by_cases c : b = i
  · subst c
    rw [if_pos rfl, if_pos rfl, if_pos hi]; rfl
  · rw [if_neg c, if_neg c, List.getD_eq_getElem?_getD]
/-- just one is at each rank -/
theorem rank_inj (A : Nat) (ws : List Nat) {i k : Nat} (hi : i < ws.length) (hk : k < ws.length) (h : rank (restI A ws) i = rank (restI A ws) k) : i = k := by
  obtain ⟨L, hL⟩ := srt_ex (restI A ws) (by rw [restI_len]; omega)
  have h1 := (hL.at_rank (i := i) (by rw [restI_len]; exact hi)).2
  have h2 := (hL.at_rank (i := k) (by rw [restI_len]; exact hk)).2
  rw [← h1, ← h2, h]
theorem rl_next (A : Nat) (ws : List Nat) (j b : Nat) (hb : b < ws.length) (hr : rank (restI A ws) b = j) : (rl A ws j).set b (-1) = rl A ws (j + 1) := by
  apply ext_getD
  · rw [List.length_set, rl_len, rl_len]
  · intro i hi
    rw [List.length_set, rl_len] at hi
    rw [set_getD _ _ _ _ (by rw [rl_len]; exact hi), rl_getD A ws j i hi, rl_getD A ws (j + 1) i hi]
    by_cases c : b = i
    · subst c; rw [if_pos rfl, if_pos (by omega)]
    · rw [if_neg c]
      have : rank (restI A ws) i ≠ j := fun h => c (rank_inj A ws hb hi (hr.trans h.symm))
      by_cases c2 : rank (restI A ws) i < j
      · rw [if_pos c2, if_pos (by omega)]
      · rw [if_neg c2, if_neg (by omega)]
theorem given_step (A : Nat) (ws : List Nat) (b : Nat) (hb : b < ws.length) : (given A ws (rank (restI A ws) b)).set b ((given A ws (rank (restI A ws) b)).getD b 0 + 1) = given A ws (rank (restI A ws) b + 1) := by
  obtain ⟨L, hL⟩ := srt_ex (restI A ws) (by rw [restI_len]; omega)
  have h := hL.at_rank (i := b) (by rw [restI_len]; exact hb)
  have h1 := given_next A ws L hL (rank (restI A ws) b) (by have := h.1; rw [hL.len, restI_len] at this; exact this)
  rw [h.2] at h1; exact h1
/-- what the search for the greatest rest has found among the first k -/
def Best (A : Nat) (ws : List Nat) (j k : Nat) (b : Int) : Prop :=
  (b = -1 ∧ ∀ i, i < k → rank (restI A ws) i < j) ∨ ∃ m : Nat, b = (m : Int) ∧ m < k ∧ j ≤ rank (restI A ws) m ∧ ∀ i, i < k → j ≤ rank (restI A ws) i → rank (restI A ws) m ≤ rank (restI A ws) i
theorem restI_nonneg (A : Nat) (ws : List Nat) (i : Nat) (h : i < ws.length) : 0 ≤ (restI A ws).getD i 0 := by rw [restI_at A ws i h]; exact Int.natCast_nonneg _
theorem best_zero (A : Nat) (ws : List Nat) (j : Nat) : Best A ws j 0 (-1) := Or.inl ⟨rfl, fun _ h => absurd h (Nat.not_lt_zero _)⟩
/-- this one was struck out -/
theorem best_skip {A : Nat} {ws : List Nat} {j k : Nat} {b : Int} (h : Best A ws j k b) (hk : k < ws.length) (hx : (rl A ws j).getD k 0 < 0) : Best A ws j (k + 1) b := by
  have hr : rank (restI A ws) k < j := by
    rw [rl_getD A ws j k hk] at hx
    by_cases c : rank (restI A ws) k < j
    · exact c
    · rw [if_neg c] at hx
      have := restI_nonneg A ws k hk; omega
  rcases h with ⟨rfl, h⟩ | ⟨m, rfl, h1, h2, h3⟩
  · refine Or.inl ⟨rfl, fun i hi => ?_⟩
    by_cases c : i = k
    · subst c; exact hr
    · exact h i (by omega)
  · refine Or.inr ⟨m, rfl, by omega, h2, fun i hi hj => ?_⟩
    by_cases c : i = k
    · subst c; omega
    · exact h3 i (by omega) hj
/-- the first one that is there -/
theorem best_new {A : Nat} {ws : List Nat} {j k : Nat} (h : Best A ws j k (-1)) (hk : k < ws.length) (hx : 0 ≤ (rl A ws j).getD k 0) : Best A ws j (k + 1) (k : Int) := by
  have hr : j ≤ rank (restI A ws) k := by
    rw [rl_getD A ws j k hk] at hx
    by_cases c : rank (restI A ws) k < j
    · rw [if_pos c] at hx; omega
    · omega
  rcases h with ⟨_, h⟩ | ⟨m, e, _⟩
  · refine Or.inr ⟨k, rfl, by omega, hr, fun i hi hj => ?_⟩
    by_cases c : i = k
    · subst c; omega
    · have := h i (by omega); omega
  · omega
theorem best_some {A : Nat} {ws : List Nat} {j k m : Nat} (h : Best A ws j k (m : Int)) : m < k := by
  rcases h with ⟨e, _⟩ | ⟨m', e, h1, _⟩
  · omega
  · omega
/-- of two the greater one, the first one of like ones -/
theorem best_cmp {A : Nat} {ws : List Nat} {j k m : Nat} (h : Best A ws j k (m : Int)) (hk : k < ws.length) (hx : 0 ≤ (rl A ws j).getD k 0) :
    Best A ws j (k + 1) (if (rl A ws j).getD m 0 < (rl A ws j).getD k 0 then (k : Int) else (m : Int)) := by
  have hr : ¬ rank (restI A ws) k < j := by
    intro c
    rw [rl_getD A ws j k hk, if_pos c] at hx; omega
  rcases h with ⟨e, _⟩ | ⟨m', e, h1, h2, h3⟩
  · omega
  · obtain rfl : m = m' := by omega
    rw [show (rl A ws j).getD k 0 = (restI A ws).getD k 0 from by rw [rl_getD A ws j k hk, if_neg hr], show (rl A ws j).getD m 0 = (restI A ws).getD m 0 from by rw [rl_getD A ws j m (by omega), if_neg (show ¬ rank (restI A ws) m < j by omega)]]
    by_cases c : (restI A ws).getD m 0 < (restI A ws).getD k 0
    · rw [if_pos c]
      have hlt := rank_lt A ws (i := k) (k := m) hk (by omega) ((before_iff _ _ _).2 (Or.inl c))
      refine Or.inr ⟨k, rfl, by omega, by omega, fun i hi hj => ?_⟩
      by_cases c2 : i = k
      · subst c2; omega
      · have := h3 i (by omega) hj; omega
    · rw [if_neg c]
      have hlt := rank_lt A ws (i := m) (k := k) (by omega) hk ((before_iff _ _ _).2 (by omega))
      refine Or.inr ⟨m, rfl, by omega, h2, fun i hi hj => ?_⟩
      by_cases c2 : i = k
      · subst c2; omega
      · exact h3 i (by omega) hj
/-- all are looked at: it is the one of that rank -/
theorem best_all {A : Nat} {ws : List Nat} {j : Nat} {b : Int} (h : Best A ws j ws.length b) (hj : j < ws.length) : ∃ m : Nat, b = (m : Int) ∧ m < ws.length ∧ rank (restI A ws) m = j := by
  obtain ⟨L, hL⟩ := srt_ex (restI A ws) (by rw [restI_len]; omega)
  have hl : L.length = ws.length := hL.len.trans (restI_len A ws)
  have h1 := hL.lt (k := j) (by omega)
  rw [restI_len] at h1
  have h2 := hL.rank (k := j) (by omega)
  rcases h with ⟨_, h⟩ | ⟨m, e, h3, h4, h5⟩
  · have := h _ h1; omega
  · exact ⟨m, e, h3, by have := h5 _ h1 (by omega); omega⟩
attribute [irreducible] rl Best
end Go.Proofs.Ythjaiianbcfiaaa
