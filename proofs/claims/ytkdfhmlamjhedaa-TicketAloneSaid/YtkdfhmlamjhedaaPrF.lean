/- What follows of the shares, in the plain model: they make up the total; who is given a unit has a rest; greater weights have no less. -/
import Derived.Test.YtkdfhmlamjhedaaPrB
import Derived.Test.YtkdfhmlamjhedaaPrPure3
namespace Go.Proofs.Ytkdfhmlamjhedaa
open Go.Sort Go.Stb Go.Pror

theorem srt_ex (l : List Int) (h : 0 < l.length) : ∃ L, Srt l L := by
  obtain ⟨N, hl⟩ : ∃ N, l.length = N + 1 := ⟨l.length - 1, by omega⟩
  have := insertionSort_holds (odrF l N).swo (idF N) 0 (N + 1) (Nat.zero_le _) (by rw [idF_size]; exact Nat.le_refl _)
  exact ⟨_, srt_of l N hl _ this⟩
theorem sum_set (l : List Nat) (i v : Nat) (h : i < l.length) : (l.set i v).sum + l.getD i 0 = l.sum + v := by
  induction l generalizing i with
  | nil => simp at h
  | cons a l ih =>
    cases i with
    | zero => simp only [List.set_cons_zero, List.sum_cons, List.getD_cons_zero]; omega
    | succ i =>
      have := ih i (by simpa using h)
      simp only [List.set_cons_succ, List.sum_cons, List.getD_cons_succ]; omega
theorem given_sum (A : Nat) (ws : List Nat) (hn : 0 < ws.length) : ∀ j, j ≤ ws.length → (given A ws j).sum = (wholes A ws.sum ws).sum + j
  | 0, _ => by rw [given_zero]; rfl
  | j + 1, h => by
    obtain ⟨L, hL⟩ := srt_ex (restI A ws) (by rw [restI_len]; exact hn)
    have ih := given_sum A ws hn j (by omega)
    have h1 := given_next A ws L hL j (by omega)
    have hlt := hL.lt (k := j) (by rw [hL.len, restI_len]; omega)
    rw [restI_len] at hlt
    have h2 := sum_set (given A ws j) (L.getD j 0) ((given A ws j).getD (L.getD j 0) 0 + 1) (by rw [given_len]; exact hlt)
    rw [h1] at h2
    omega
/-- nothing is lost -/
theorem share_sum (A : Nat) (ws : List Nat) (h : 0 < ws.sum) : (shareL A ws).sum = A := by
  have hn : 0 < ws.length := by
    rcases Nat.eq_zero_or_pos ws.length with e | e
    · have := List.eq_nil_of_length_eq_zero e; subst this; simp at h
    · exact e
  unfold shareL
  rw [given_sum A ws hn _ (by have := left_lt A ws h; omega)]
  have := wholes_le A ws h
  unfold left; omega
theorem sum_le_len (l : List Nat) (B : Nat) (h : ∀ x ∈ l, x ≤ B) : l.sum ≤ l.length * B := by
  induction l with
  | nil => simp
  | cons a l ih =>
    have h1 := h a (by simp)
    have h2 := ih (fun x hx => h x (by simp [hx]))
    simp only [List.sum_cons, List.length_cons, Nat.add_mul]; omega
/-- who is given a unit has a rest -/
theorem given_rest (A : Nat) (ws : List Nat) (h : 0 < ws.sum) (i : Nat) (hi : i < ws.length) (hr : rank (restI A ws) i < left A ws) : 0 < (rests A ws.sum ws).getD i 0 := by
  rcases Nat.eq_zero_or_pos ((rests A ws.sum ws).getD i 0) with hz | hz
  · exfalso
    obtain ⟨L, hL⟩ := srt_ex (restI A ws) (by rw [restI_len]; omega)
    have hlen : L.length = ws.length := hL.len.trans (restI_len A ws)
    obtain ⟨hk, hki⟩ := hL.at_rank (i := i) (by rw [restI_len]; exact hi)
    -- the sum of the rests, in the order of L
    have hs : (rests A ws.sum ws).sum = (L.map fun i => (rests A ws.sum ws).getD i 0).sum := by
      have hp := hL.perm.map (fun i => (rests A ws.sum ws).getD i 0)
      rw [restI_len] at hp
      have e : (List.range ws.length).map (fun i => (rests A ws.sum ws).getD i 0) = rests A ws.sum ws := by
        apply List.ext_getElem
        · simp [rests_len]
        · intro t h1 h2
          simp [List.getD_eq_getElem?_getD, List.getElem?_eq_getElem h2]
      rw [e] at hp
      exact hp.sum_nat.symm
    have hb : (rests A ws.sum ws).sum ≤ rank (restI A ws) i * ws.sum := by
      rw [hs]
      rw [← List.take_append_drop (rank (restI A ws) i) (L.map fun i => (rests A ws.sum ws).getD i 0), List.sum_append]
      have h1 : ((L.map fun i => (rests A ws.sum ws).getD i 0).take (rank (restI A ws) i)).sum ≤ rank (restI A ws) i * ws.sum := by
        have := sum_le_len ((L.map fun i => (rests A ws.sum ws).getD i 0).take (rank (restI A ws) i)) ws.sum (fun x hx => by
          obtain ⟨t, ht, rfl⟩ := List.mem_map.1 (List.mem_of_mem_take hx)
          have htl : t < ws.length := by have := hL.perm.mem_iff.1 ht; rw [restI_len] at this; exact List.mem_range.1 this
          rw [rests_getD A ws.sum ws t htl]
          exact Nat.le_of_lt (Nat.mod_lt _ h))
        rw [List.length_take, List.length_map, Nat.min_eq_left (by omega)] at this
        exact this
      have h2 : ((L.map fun i => (rests A ws.sum ws).getD i 0).drop (rank (restI A ws) i)).sum ≤ 0 := by
        have := sum_le_len ((L.map fun i => (rests A ws.sum ws).getD i 0).drop (rank (restI A ws) i)) 0 (fun x hx => by
          obtain ⟨t, ht, rfl⟩ := List.getElem_of_mem hx
          rw [List.getElem_drop, List.getElem_map]
          rw [List.length_drop, List.length_map] at ht
          have htl : rank (restI A ws) i + t < L.length := by omega
          have hle : (rests A ws.sum ws).getD (L.getD (rank (restI A ws) i + t) 0) 0 ≤ (rests A ws.sum ws).getD i 0 := by
            by_cases c : t = 0
            · subst c; rw [Nat.add_zero, hki]; exact Nat.le_refl _
            · have hb := hL.srt (rank (restI A ws) i) (rank (restI A ws) i + t) (by omega) htl
              rw [hki, before_iff] at hb
              unfold restI at hb
              rw [ints_getD, ints_getD] at hb
              unfold restI
              omega
          have e : L[rank (restI A ws) i + t] = L.getD (rank (restI A ws) i + t) 0 := by rw [List.getD_eq_getElem?_getD, List.getElem?_eq_getElem htl]; rfl
          rw [e]; omega)
        simpa using this
      omega
    rw [← left_rests A ws h] at hb
    have := Nat.le_of_mul_le_mul_right hb h
    omega
  · exact hz
theorem rank_lt (A : Nat) (ws : List Nat) {i k : Nat} (hi : i < ws.length) (hk : k < ws.length) (hb : before (restI A ws) i k = true) : rank (restI A ws) i < rank (restI A ws) k := by
  obtain ⟨L, hL⟩ := srt_ex (restI A ws) (by rw [restI_len]; omega)
  obtain ⟨h1, h2⟩ := hL.at_rank (i := i) (by rw [restI_len]; exact hi)
  obtain ⟨h3, h4⟩ := hL.at_rank (i := k) (by rw [restI_len]; exact hk)
  refine (hL.iff h1 h3).1 ?_
  rw [h2, h4]; exact hb
theorem share_getD (A : Nat) (ws : List Nat) (i : Nat) (h : i < ws.length) : (shareL A ws).getD i 0 = A * ws.getD i 0 / ws.sum + if rank (restI A ws) i < left A ws then 1 else 0 := by
  unfold shareL
  rw [given_getD A ws _ i h, wholes_getD A ws.sum ws i h]
theorem share_len (A : Nat) (ws : List Nat) : (shareL A ws).length = ws.length := by unfold shareL; exact given_len _ _ _
theorem restI_at (A : Nat) (ws : List Nat) (i : Nat) (h : i < ws.length) : (restI A ws).getD i 0 = ((A * ws.getD i 0 % ws.sum : Nat) : Int) := by
  unfold restI; rw [ints_getD, rests_getD A ws.sum ws i h]
/-- of equal weights the first one has no less -/
theorem share_first (A : Nat) (ws : List Nat) {i k : Nat} (hik : i < k) (hk : k < ws.length) (he : ws.getD i 0 = ws.getD k 0) : (shareL A ws).getD k 0 ≤ (shareL A ws).getD i 0 := by
  have hb : before (restI A ws) i k = true := by
    rw [before_iff, restI_at A ws i (by omega), restI_at A ws k hk, he]
    exact Or.inr ⟨rfl, hik⟩
  have := rank_lt A ws (by omega) hk hb
  rw [share_getD A ws i (by omega), share_getD A ws k hk, he]
  by_cases c : rank (restI A ws) k < left A ws
  · rw [if_pos c, if_pos (by omega)]; exact Nat.le_refl _
  · rw [if_neg c]; omega
/-- a greater weight has no less -/
theorem share_more (A : Nat) (ws : List Nat) {i k : Nat} (hi : i < ws.length) (hk : k < ws.length) (hlt : ws.getD i 0 < ws.getD k 0) : (shareL A ws).getD i 0 ≤ (shareL A ws).getD k 0 := by
  rw [share_getD A ws i hi, share_getD A ws k hk]
  have hm : A * ws.getD i 0 ≤ A * ws.getD k 0 := Nat.mul_le_mul_left _ (by omega)
  have hd : A * ws.getD i 0 / ws.sum ≤ A * ws.getD k 0 / ws.sum := Nat.div_le_div_right hm
  by_cases c : rank (restI A ws) i < left A ws
  · by_cases e : A * ws.getD i 0 / ws.sum = A * ws.getD k 0 / ws.sum
    · have h1 := Nat.div_add_mod (A * ws.getD i 0) ws.sum
      have h2 := Nat.div_add_mod (A * ws.getD k 0) ws.sum
      rw [e] at h1
      have hA : 0 < A := by
        rcases Nat.eq_zero_or_pos A with h | h
        · subst h; unfold left at c; simp at c
        · exact h
      have hm2 : A * ws.getD i 0 < A * ws.getD k 0 := Nat.mul_lt_mul_of_pos_left hlt hA
      have hb : before (restI A ws) k i = true := by
        rw [before_iff, restI_at A ws i hi, restI_at A ws k hk]
        left
        generalize ws.sum * (A * ws.getD k 0 / ws.sum) = z at *
        omega
      have := rank_lt A ws hk hi hb
      rw [e, if_pos c, if_pos (by omega)]; exact Nat.le_refl _
    · rw [if_pos c]; omega
  · rw [if_neg c]; omega
end Go.Proofs.Ytkdfhmlamjhedaa
