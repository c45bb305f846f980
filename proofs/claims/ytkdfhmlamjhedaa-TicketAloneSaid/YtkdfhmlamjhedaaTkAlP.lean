/- Plain laws of TicketAlone: legs that take over the weights of others. -/
import Derived.Test.YtkdfhmlamjhedaaTkWhX
namespace Go.Proofs.Ytkdfhmlamjhedaa
open Go.Shelf Go.RowKit Go.Lib Go.Money Go.Pror Go.Tick

def mixL (L M : List Lg) (k : Nat) : List Lg := (List.range L.length).map fun j => if j < k then { L[j]! with wt := M[j]!.wt } else L[j]!
theorem mix_len (L M : List Lg) (k : Nat) : (mixL L M k).length = L.length := by simp [mixL]
theorem mix_at (L M : List Lg) (k : Nat) {j : Nat} (hj : j < L.length) : (mixL L M k)[j]! = if j < k then { L[j]! with wt := M[j]!.wt } else L[j]! := by
  rw [getElem!_pos _ j (by rw [mix_len]; exact hj)]; simp [mixL]
theorem mix_zero (L M : List Lg) : mixL L M 0 = L := by
  apply List.ext_getElem
  · rw [mix_len]
  · intro i h1 h2
    simp [mixL, List.getElem?_eq_getElem h2]
theorem mix_wt (L M : List Lg) (h : L.length = M.length) : (mixL L M L.length).map Lg.wt = M.map Lg.wt := by
  apply List.ext_getElem
  · simp [mix_len, h]
  · intro i h1 h2
    have hi : i < L.length := by simpa [mix_len] using h1
    have hm : i < M.length := by simpa using h2
    simp [mixL, hi, List.getElem?_eq_getElem hm]
/-- legs from a block's beginning on -/
structure OL (w : World) (base g : Nat) (l : List Lg) : Prop where
  ge : base ≤ g
  at_ : ∃ cur, w.heap[g]? = some (.cells cur 58 (0, 0)) ∧ ∀ j, j < l.length → cur[j * 3]? = some (.int .u8 ((l[j]!).c.toNat : Int)) ∧ cur[j * 3 + 1]? = some (.int .u16 ((l[j]!).f : Int)) ∧ cur[j * 3 + 2]? = some (.int .u32 ((l[j]!).wt : Int))
def NewL (w : World) (base : Nat) (p : Option Addr) (l : List Lg) : Prop := 0 < l.length → ∃ g, p = some ⟨g, 0, none⟩ ∧ OL w base g l
theorem newL_of {w : World} {base n cap : Nat} {p : Option Addr} {L : List Lg} (hn : L.length = n) (h : w.ownsRow base 58 3 (.slice p n cap) n (L.flatMap lgC)) : NewL w base p L := by
  subst hn
  intro h0
  have h' := h
  rcases h.2 with ⟨_, h1⟩ | ⟨g, c, cur, he, hb, hg, hnc, _⟩
  · omega
  · simp only [Value.slice.injEq] at he
    obtain ⟨rfl, _, rfl⟩ := he
    refine ⟨g, rfl, hb, cur, hg, fun j hj => ?_⟩
    have hc : ∀ r u, (lgC L[j]!)[r]? = some u → cur[j * 3 + r]? = some u := fun r u hu => by
      have hf := flat_get (enc := lgC) (k := 3) (fun _ => rfl) L j r u hj hu
      have hlt := (List.getElem?_eq_some_iff.1 hf).1
      rw [flat_len (enc := lgC) (k := 3) (fun _ => rfl)] at hlt
      have := h'.cellAt _ hlt
      rw [hf, cell_arr hg] at this
      exact this
    exact ⟨hc 0 _ rfl, hc 1 _ rfl, hc 2 _ rfl⟩
theorem OL.lt {w : World} {base g : Nat} {l : List Lg} (h : OL w base g l) : g < w.heap.size := by
  obtain ⟨cur, h1, _⟩ := h.at_
  exact lt_heap h1
theorem OL.keepA {w w' : World} {base g : Nat} {l : List Lg} (h : OL w base g l) (hk : w'.heap[g]? = w.heap[g]?) : OL w' base g l := by
  obtain ⟨cur, h1, h2⟩ := h.at_
  exact ⟨h.ge, cur, hk.trans h1, h2⟩
theorem OL.c2 {w : World} {base g : Nat} {l : List Lg} (h : OL w base g l) {j : Nat} (hj : j < l.length) : w.cell? ⟨g, j * 3 + 2, none⟩ = some (.int .u32 ((l[j]!).wt : Int)) := by
  obtain ⟨cur, h1, h2⟩ := h.at_
  exact (cell_arr h1 _).trans (h2 j hj).2.2
theorem OL.fr {w : World} {base g : Nat} {l : List Lg} (h : OL w base g l) (j : Nat) : w.frozen? ⟨g, j, none⟩ = false := by
  obtain ⟨cur, h1, h2⟩ := h.at_
  exact frozen_of_row _ _ _ _ _ h1
theorem OL.next {w : World} {base g : Nat} {L M : List Lg} {k : Nat} (h : OL w base g (mixL L M k)) (hk : k < L.length) (v : Value) (hv : v = .int .u32 ((M[k]!).wt : Int)) : OL (w.setCell ⟨g, k * 3 + 2, none⟩ v) base g (mixL L M (k + 1)) := by
  subst hv
  obtain ⟨cur, h1, h2⟩ := h.at_
  refine ⟨h.ge, _, heap_setCell_same w g (k * 3 + 2) _ 58 _ h1, fun j hj => ?_⟩
  rw [mix_len] at hj
  have h3 := h2 j (by rw [mix_len]; exact hj)
  have s2 := (Array.getElem?_eq_some_iff.1 h3.2.2).1
  rw [mix_at _ _ _ hj] at h3 ⊢
  simp only [Array.getElem?_setIfInBounds]
  rw [if_neg (show ¬ k * 3 + 2 = j * 3 by omega), if_neg (show ¬ k * 3 + 2 = j * 3 + 1 by omega)]
  by_cases e : k = j
  · subst e
    rw [if_neg (Nat.lt_irrefl _)] at h3
    rw [if_pos rfl, if_pos s2, if_pos (Nat.lt_succ_self _)]
    exact ⟨h3.1, h3.2.1, rfl⟩
  · rw [if_neg (show ¬ k * 3 + 2 = j * 3 + 2 by omega)]
    by_cases e2 : j < k
    · rw [if_pos e2] at h3
      rw [if_pos (show j < k + 1 by omega)]
      exact h3
    · rw [if_neg e2] at h3
      rw [if_neg (show ¬ j < k + 1 by omega)]
      exact h3
theorem OL.row {w : World} {base g : Nat} {l : List Lg} (h : OL w base g l) : Row w 3 lgC (some ⟨g, 0, none⟩) l := by
  refine ⟨fun h0 => ⟨g, 0, rfl, h.lt, fun j hj i v hv => ?_⟩⟩
  obtain ⟨cur, h1, h2⟩ := h.at_
  rw [Nat.zero_add, cell_arr h1]
  match i, hv with
  | 0, hv =>
    simp only [lgC, List.getElem?_cons_zero, Option.some.injEq] at hv
    rw [← hv]; exact (h2 j hj).1
  | 1, hv =>
    simp only [lgC, List.getElem?_cons_succ, List.getElem?_cons_zero, Option.some.injEq] at hv
    rw [← hv]; exact (h2 j hj).2.1
  | 2, hv =>
    simp only [lgC, List.getElem?_cons_succ, List.getElem?_cons_zero, Option.some.injEq] at hv
    rw [← hv]; exact (h2 j hj).2.2
  | i + 3, hv => simp [lgC] at hv
theorem NewL.row {w : World} {base : Nat} {p : Option Addr} {l : List Lg} (h : NewL w base p l) : Row w 3 lgC p l :=
  ⟨fun h0 => by
    obtain ⟨g, rfl, ho⟩ := h h0
    exact ho.row.at_ h0⟩
/-- the sale that takes over fare and weights -/
def alo (s o : Sl) (k : Nat) : Sl := { o with fare := s.fare, legs := mixL o.legs s.legs k }
theorem alo_vals (s o : Sl) (h : o.legs.length = s.legs.length) : vals (alo s o o.legs.length) = vals s := by
  show ints (shareL s.fare.toNat ((mixL o.legs s.legs o.legs.length).map Lg.wt)) = _
  rw [mix_wt _ _ h]; rfl
theorem SaP.keep {W W' : World} {s : Sl} {lp : Option Addr} {lc : Nat} {tp : Option Addr} {tc : Nat} (h : SaP W s lp lc tp tc) (hb : Below W.heap.size W W') : SaP W' s lp lc tp tc := ⟨h.lr.keep hb, h.tr.keep hb, h.lc_, h.tc_, h.wt, h.fb⟩
theorem saV_alo (s o : Sl) (k : Nat) (p : Option Addr) (q : Nat) (tp : Option Addr) (tc : Nat) : saV (alo s o k) p q tp tc = #[str o.name, .slice p o.legs.length q, iv s.fare, .slice tp o.taxes.length tc, iv o.pen] := by
  unfold saV; rw [show (alo s o k).legs.length = o.legs.length from mix_len _ _ _]; rfl
theorem alo_wt {s o : Sl} (hs : ∀ x ∈ s.legs, x.wt ≤ 4294967295) (ho : ∀ x ∈ o.legs, x.wt ≤ 4294967295) (h : o.legs.length = s.legs.length) (k : Nat) : ∀ x ∈ (alo s o k).legs, x.wt ≤ 4294967295 := by
  intro x hx
  obtain ⟨j, hj, rfl⟩ := List.mem_map.1 (show x ∈ mixL o.legs s.legs k from hx)
  have hj1 : j < o.legs.length := by simpa using hj
  have hj2 : j < s.legs.length := by omega
  split
  · show (s.legs[j]!).wt ≤ _
    rw [getElem!_pos s.legs j hj2]; exact hs _ (List.getElem_mem hj2)
  · rw [getElem!_pos o.legs j hj1]; exact ho _ (List.getElem_mem hj1)
end Go.Proofs.Ytkdfhmlamjhedaa
