/- The plain model of prorate: who stands before whom, the sorted places, ranks. -/
import Derived.WalkKit
import Derived.Sort.Lot0
namespace Go.Pror
open Go.Sort

/-- i is given a unit before j -/
def before (l : List Int) (i j : Nat) : Bool := decide (l.getD j 0 < l.getD i 0 ∨ (l.getD i 0 = l.getD j 0 ∧ i < j))
theorem before_iff (l : List Int) (i j : Nat) : before l i j = true ↔ (l.getD j 0 < l.getD i 0 ∨ (l.getD i 0 = l.getD j 0 ∧ i < j)) := by unfold before; exact decide_eq_true_iff
theorem before_no (l : List Int) (i j : Nat) : before l i j = false ↔ ¬ (l.getD j 0 < l.getD i 0 ∨ (l.getD i 0 = l.getD j 0 ∧ i < j)) := by unfold before; exact decide_eq_false_iff_not
/-- the places sorted: each once, each before all that follow -/
structure Srt (l : List Int) (L : List Nat) : Prop where
  perm : L.Perm (List.range l.length)
  srt : ∀ p q, p < q → q < L.length → before l (L.getD p 0) (L.getD q 0) = true
theorem Srt.len {l : List Int} {L : List Nat} (h : Srt l L) : L.length = l.length := by have := h.perm.length_eq; simpa using this
/-- how many are given a unit before i -/
def rank (l : List Int) (i : Nat) : Nat := (List.range l.length).countP fun j => before l j i
theorem countP_lt (k : Nat) : ∀ n, k ≤ n → (List.range n).countP (fun t => decide (t < k)) = k
  | 0, h => by simp; omega
  | n + 1, h => by
    rw [List.range_succ, List.countP_append]
    by_cases c : k ≤ n
    · rw [countP_lt k n c]; simp; omega
    · have : k = n + 1 := by omega
      subst this
      have e : (List.range n).countP (fun t => decide (t < n + 1)) = n := by
        have := List.countP_eq_length (p := fun t => decide (t < n + 1)) (l := List.range n)
        rw [this.2 (fun a ha => by have := List.mem_range.1 ha; simp; omega)]; simp
      rw [e]; simp
theorem Srt.iff {l : List Int} {L : List Nat} (h : Srt l L) {p q : Nat} (hp : p < L.length) (hq : q < L.length) : before l (L.getD p 0) (L.getD q 0) = true ↔ p < q := by
  constructor
  · intro hb
    by_cases c : p < q
    · exact c
    · by_cases e : p = q
      · subst e; rw [before_iff] at hb; omega
      · have h1 := h.srt q p (by omega) hp
        rw [before_iff] at h1 hb; omega
  · intro c; exact h.srt p q c hq
/-- the one at place k of the sorted ones has k before it -/
theorem Srt.rank {l : List Int} {L : List Nat} (h : Srt l L) {k : Nat} (hk : k < L.length) : rank l (L.getD k 0) = k := by
  unfold Pror.rank
  rw [← h.perm.countP_eq]
  have e : L = (List.range L.length).map fun t => L.getD t 0 := by
    apply List.ext_getElem
    · simp
    · intro i h1 h2; simp [List.getD_eq_getElem?_getD, h1]
  have e2 : L.countP (fun j => before l j (L.getD k 0)) = (List.range L.length).countP (fun t => decide (t < k)) := by
    conv => lhs; rw [show L.countP (fun j => before l j (L.getD k 0)) = ((List.range L.length).map fun t => L.getD t 0).countP (fun j => before l j (L.getD k 0)) from by rw [← e]]
    rw [List.countP_map]
    apply List.countP_congr
    intro t ht
    have ht' := List.mem_range.1 ht
    simp only [Function.comp_apply, decide_eq_true_eq]
    exact h.iff ht' hk
  rw [e2, countP_lt k _ (by omega)]
theorem Srt.lt {l : List Int} {L : List Nat} (h : Srt l L) {k : Nat} (hk : k < L.length) : L.getD k 0 < l.length := by
  have : L.getD k 0 ∈ L := by rw [List.getD_eq_getElem?_getD, List.getElem?_eq_getElem hk]; exact List.getElem_mem hk
  exact List.mem_range.1 (h.perm.mem_iff.1 this)
/-- every place is one of the sorted ones: the one of its rank -/
theorem Srt.at_rank {l : List Int} {L : List Nat} (h : Srt l L) {i : Nat} (hi : i < l.length) : Pror.rank l i < L.length ∧ L.getD (Pror.rank l i) 0 = i := by
  have hm : i ∈ L := h.perm.mem_iff.2 (List.mem_range.2 hi)
  obtain ⟨k, hk, e⟩ := List.getElem_of_mem hm
  have e' : L.getD k 0 = i := by rw [List.getD_eq_getElem?_getD, List.getElem?_eq_getElem hk]; exact e
  have := h.rank hk
  rw [e'] at this
  rw [this]; exact ⟨hk, e'⟩
theorem Srt.inj {l : List Int} {L : List Nat} (h : Srt l L) {p q : Nat} (hp : p < L.length) (hq : q < L.length) (e : L.getD p 0 = L.getD q 0) : p = q := by
  have h1 := h.rank hp
  rw [e, h.rank hq] at h1; exact h1.symm
def cmpI (x y : Int) : Int := if x < y then -1 else if y < x then 1 else 0
end Go.Pror
