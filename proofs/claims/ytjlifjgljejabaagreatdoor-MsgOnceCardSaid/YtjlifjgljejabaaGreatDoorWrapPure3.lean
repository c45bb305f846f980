/- Numbers and their digits are each other's; interchanges and their texts are each other's. -/
import Derived.Test.YtjlifjgljejabaaGreatDoorWrapR
namespace Go.Proofs.YtjlifjgljejabaaGreatDoor
open Go.RowKit Go.Edi Go.Wrap

theorem digs_small {u : Nat} (h : u < 10) : digs u = [UInt8.ofNat (48 + u)] := by show Lib.decDigits u = _; rw [Lib.decDigits, dif_pos h]
theorem digs_big {u : Nat} (h : ¬ u < 10) : digs u = digs (u / 10) ++ [UInt8.ofNat (48 + u % 10)] := by show Lib.decDigits u = _; rw [Lib.decDigits, dif_neg h]
theorem nat_d (d : Nat) (h : d < 10) : (UInt8.ofNat (48 + d)).toNat = 48 + d := by rw [UInt8.toNat_ofNat']; omega
theorem dgt_d (d : Nat) (h : d < 10) : dgt (UInt8.ofNat (48 + d)) = true := by
  simp only [dgt, Bool.and_eq_true, decide_eq_true_eq, UInt8.le_iff_toNat_le, nat_d d h]
  exact ⟨by show 48 ≤ _; omega, by show _ ≤ 57; omega⟩
theorem rd_digs (most : Nat) (u : Nat) : rdN most 0 (digs u) = if u ≤ most then some u else none := by
  induction u using Nat.strongRecOn with
  | _ u ih =>
    by_cases h : u < 10
    · rw [digs_small h]
      simp only [rdN, dgt_d u h, if_true, nat_d u h]
      rw [show 0 * 10 + (48 + u - 48) = u by omega]
    · rw [digs_big h, rdN_snoc, ih (u / 10) (by omega)]
      have hd := dgt_d (u % 10) (by omega)
      by_cases h2 : u / 10 ≤ most
      · rw [if_pos h2]
        simp only [Option.bind_some, hd, if_true, nat_d (u % 10) (by omega)]
        rw [show u / 10 * 10 + (48 + u % 10 - 48) = u by omega]
      · rw [if_neg h2, if_neg (by omega)]
        rfl
theorem digs_head (u : Nat) : ∃ c t, digs u = c :: t ∧ (0 < u → c ≠ 48) ∧ (u = 0 → t = []) := by
  induction u using Nat.strongRecOn with
  | _ u ih =>
    by_cases h : u < 10
    · refine ⟨_, [], digs_small h, fun h0 e => ?_, fun _ => rfl⟩
      have := congrArg UInt8.toNat e
      rw [nat_d u h] at this
      have h48 : (48 : UInt8).toNat = 48 := rfl
      omega
    · obtain ⟨c, t, e1, e2, _⟩ := ih (u / 10) (by omega)
      exact ⟨c, t ++ [UInt8.ofNat (48 + u % 10)], by rw [digs_big h, e1]; rfl, fun _ => e2 (by omega), fun e => by omega⟩
theorem lead_digs (u : Nat) : lead0 (digs u) = false := by
  obtain ⟨c, t, e1, e2, e3⟩ := digs_head u
  rw [e1]
  simp only [lead0]
  by_cases h : 0 < u
  · have := e2 h; simp [this]
  · rw [e3 (by omega)]; simp
theorem numL_digs (most u : Nat) : numL most (digs u) = if u ≤ most then some u else none := by rw [numL_run (lead_digs u), rd_digs]
theorem of_d {c : UInt8} (h : dgt c = true) : c = UInt8.ofNat (48 + (c.toNat - 48)) ∧ c.toNat - 48 < 10 := by
  simp only [dgt, Bool.and_eq_true, decide_eq_true_eq, UInt8.le_iff_toNat_le] at h
  obtain ⟨g1, g2⟩ := h
  have g1' : 48 ≤ c.toNat := g1
  have g2' : c.toNat ≤ 57 := g2
  refine ⟨?_, by omega⟩
  rw [show 48 + (c.toNat - 48) = c.toNat by omega]
  simp
theorem rd_inv (most : Nat) : ∀ (k : Nat) (t : Tx) (n : Nat), t.length = k → lead0 t = false → rdN most 0 t = some n → t = digs n := by
  intro k
  induction k with
  | zero => intro t n hk hl _; obtain rfl := List.length_eq_zero_iff.1 hk; simp [lead0] at hl
  | succ k ih =>
    intro t n hk hl hr
    obtain ⟨u, c, rfl⟩ : ∃ u c, t = u ++ [c] := ⟨t.dropLast, t.getLast (by intro e; rw [e] at hk; simp at hk), (List.dropLast_concat_getLast _).symm⟩
    rw [rdN_snoc] at hr
    cases hm : rdN most 0 u with
    | none => rw [hm] at hr; cases hr
    | some m =>
      rw [hm] at hr
      simp only [Option.bind_some] at hr
      split at hr
      · rename_i hd
        split at hr
        · obtain ⟨hc1, hc2⟩ := of_d hd
          have hn : n = m * 10 + (c.toNat - 48) := by simpa using hr.symm
          match u, hk, hl, hm with
          | [], _, _, hm =>
            have : m = 0 := by simpa [rdN] using hm.symm
            subst this
            rw [hn, show 0 * 10 + (c.toNat - 48) = c.toNat - 48 by omega, digs_small hc2, ← hc1]
            rfl
          | a :: r, hk, hl, hm =>
            have ha : a ≠ 48 := by
              intro e
              simp [lead0, e] at hl
            have hl2 : lead0 (a :: r) = false := by simp [lead0, ha]
            have hu := ih (a :: r) m (by simpa using hk) hl2 hm
            have hm0 : 0 < m := by
              rcases Nat.eq_zero_or_pos m with e | e
              · rw [e, digs_small (by omega)] at hu
                simp at hu
                exact absurd hu.1 ha
              · exact e
            rw [hu, digs_big (show ¬ n < 10 by omega), show n / 10 = m by omega, show n % 10 = c.toNat - 48 by omega, ← hc1]
        · cases hr
      · cases hr
theorem numL_inv {most n : Nat} {t : Tx} (h : numL most t = some n) : t = digs n ∧ n ≤ most := by
  unfold numL at h
  split at h
  · cases h
  · rename_i hl
    exact ⟨rd_inv most _ t n rfl (by simpa using hl) h, rdN_le most t 0 n (Nat.zero_le _) h⟩
theorem headV_head {f t r : Nat} (hf : f ≤ 7) (ht : t ≤ 7) (hr : r < 18446744073709551616) : headV (headS f t r) = some (f, t, r) := by
  show headV ⟨[85, 78, 66], [[digs f], [digs t], [digs r]]⟩ = _
  simp only [headV, if_true, numL_digs, hf, ht, show r ≤ 18446744073709551615 by omega]
theorem tailV_tail {n r : Nat} (hn : n < 18446744073709551616) (hr : r < 18446744073709551616) : tailV (tailS n r) = some (n, r) := by
  show tailV ⟨[85, 78, 90], [[digs n], [digs r]]⟩ = _
  simp only [tailV, if_true, numL_digs, show n ≤ 18446744073709551615 by omega, show r ≤ 18446744073709551615 by omega]
theorem headV_inv {s : Sg} {f t r : Nat} (h : headV s = some (f, t, r)) : s = headS f t r ∧ f ≤ 7 ∧ t ≤ 7 ∧ r < 18446744073709551616 := by
  obtain ⟨tag, els⟩ := s
  simp only [headV] at h
  split at h
  · rename_i htag
    split at h
    · rename_i a b c
      split at h
      · rename_i x y z h1 h2 h3
        simp only [Option.some.injEq, Prod.mk.injEq] at h
        obtain ⟨rfl, rfl, rfl⟩ := h
        obtain ⟨rfl, g1⟩ := numL_inv h1
        obtain ⟨rfl, g2⟩ := numL_inv h2
        obtain ⟨rfl, g3⟩ := numL_inv h3
        exact ⟨by rw [htag]; rfl, g1, g2, by omega⟩
      · cases h
    · cases h
  · cases h
theorem tailV_inv {s : Sg} {c a : Nat} (h : tailV s = some (c, a)) : s = tailS c a ∧ c < 18446744073709551616 ∧ a < 18446744073709551616 := by
  obtain ⟨tag, els⟩ := s
  simp only [tailV] at h
  split at h
  · rename_i htag
    split at h
    · rename_i x y
      split at h
      · rename_i p q h1 h2
        simp only [Option.some.injEq, Prod.mk.injEq] at h
        obtain ⟨rfl, rfl⟩ := h
        obtain ⟨rfl, g1⟩ := numL_inv h1
        obtain ⟨rfl, g2⟩ := numL_inv h2
        exact ⟨by rw [htag]; rfl, by omega, by omega⟩
      · cases h
    · cases h
  · cases h
theorem close_len (f t r : Nat) (l : List Sg) : (closeL f t r l).length = l.length + 2 := by simp [closeL]
theorem open_close {f t r : Nat} {l : List Sg} (hf : f ≤ 7) (ht : t ≤ 7) (hr : r < 18446744073709551616) (hl : l.length ≤ 1000) : openL (closeL f t r l) = (⟨f, t, r, l⟩, 0) := by
  have h1 : (closeL f t r l).getD ((closeL f t r l).length - 1) ⟨[], []⟩ = tailS l.length r := by
    rw [close_len]
    simp [closeL, List.getD]
  have h0 : (closeL f t r l).getD 0 ⟨[], []⟩ = headS f t r := rfl
  rw [openL_ok (by rw [close_len]; omega) (by rw [h0]; exact headV_head hf ht hr) (by rw [h1]; exact tailV_tail (by omega) hr) (by rw [close_len]; omega) rfl]
  congr 2
  rw [close_len]
  simp [closeL]
theorem open_inv {l : List Sg} {x : Wr} (h : openL l = (x, 0)) : l = closeL x.from_ x.to_ x.ref x.segs ∧ x.from_ ≤ 7 ∧ x.to_ ≤ 7 ∧ x.ref < 18446744073709551616 ∧ l.length = x.segs.length + 2 := by
  by_cases h2 : 2 ≤ l.length
  · cases hh : headV (l.getD 0 ⟨[], []⟩) with
    | none => rw [openL_head hh] at h; cases h
    | some v =>
      obtain ⟨f, t, r⟩ := v
      cases ht : tailV (l.getD (l.length - 1) ⟨[], []⟩) with
      | none => rw [openL_tail ht] at h; cases h
      | some v =>
        obtain ⟨c, a⟩ := v
        by_cases hc : c = l.length - 2
        · by_cases ha : a = r
          · rw [openL_ok h2 hh ht hc ha] at h
            obtain rfl := (Prod.mk.inj h).1
            obtain ⟨e1, g1, g2, g3⟩ := headV_inv hh
            obtain ⟨e2, _, _⟩ := tailV_inv ht
            have hm : ((l.take (l.length - 1)).drop 1).length = l.length - 2 := by simp; omega
            refine ⟨?_, g1, g2, g3, by rw [hm]; omega⟩
            show l = headS f t r :: (((l.take (l.length - 1)).drop 1) ++ [tailS ((l.take (l.length - 1)).drop 1).length r])
            rw [hm, ← hc, ← ha, ← e2, ← (show l.getD 0 ⟨[], []⟩ = headS f t a from by rw [ha]; exact e1)]
            apply List.ext_getElem?
            intro i
            rcases i with _ | i
            · simp [List.getD]; rw [List.getElem?_eq_getElem (by omega)]; simp
            · rw [List.getElem?_cons_succ, List.getElem?_append]
              split
              · rename_i hi
                rw [hm] at hi
                rw [List.getElem?_drop, List.getElem?_take, if_pos (by omega), show 1 + i = i + 1 by omega]
              · rename_i hi
                rw [hm] at hi ⊢
                by_cases hi2 : i + 1 = l.length - 1
                · rw [show i - (l.length - 2) = 0 by omega, hi2]
                  simp [List.getD]
                  rw [List.getElem?_eq_getElem (by omega)]
                  simp
                · rw [List.getElem?_eq_none (by omega), List.getElem?_eq_none (by simp; omega)]
          · rw [openL_ref h2 hh ht hc ha] at h; cases h
        · rw [openL_count h2 hh ht hc] at h; cases h
  · rw [openL_short h2] at h; cases h
end Go.Proofs.YtjlifjgljejabaaGreatDoor
