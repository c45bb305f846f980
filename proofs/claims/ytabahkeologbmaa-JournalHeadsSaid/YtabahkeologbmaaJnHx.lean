/- What stands on a disk, to the byte, when nothing was ever lost. -/
import Derived.Test.YtabahkeologbmaaJnSe
namespace Go.Proofs.Ytabahkeologbmaa.Jn
open Go.RowKit Go.Shelf Go.Dk Go.Jn Go.Sha Go.Proofs.Ytabahkeologbmaa.Dk

/-- the older head's own numbers; zeros behind the records -/
structure Exact (n : Nat) (la : Nat → By) (rs : List By) : Prop where
  old : 0 < rs.length → la ((rs.length + 1) % 2) = headB (rs.length - 1) (dat rs.dropLast).length
  zero : ∀ j, (dat rs).length ≤ j → j < 64 * (n - 2) → (la (2 + j / 64))[j % 64]? = some 0
theorem exact_new (n : Nat) : Exact n (fun _ => zero64) [] :=
  ⟨fun h => absurd h (Nat.lt_irrefl 0), fun j _ _ => by
    unfold zero64
    rw [List.getElem?_replicate, if_pos (Nat.mod_lt _ (by omega))]⟩
theorem pad_zero {rs : List By} {b : By} {j : Nat} (hj : (dat (rs ++ [b])).length ≤ j) (h : (dat rs).length / 64 ≤ j / 64) (hm : j / 64 < (dat rs).length / 64 + nwM rs b) : (chunk (nwS rs b) (j / 64 - (dat rs).length / 64))[j % 64]? = some 0 := by
  have hl := dat_snoc_len rs b
  have hnl := nwS_len rs b
  have hlt : 64 * (j / 64 - (dat rs).length / 64) + j % 64 < (nwS rs b).length := by rw [hnl]; omega
  unfold chunk
  rw [List.getElem?_take, if_pos (Nat.mod_lt _ (by omega)), List.getElem?_drop]
  unfold nwS padS at hlt ⊢
  rw [List.getElem?_append_right (by rw [List.length_drop]; omega), List.getElem?_replicate, if_pos (by rw [List.length_append, List.length_replicate] at hlt; rw [List.length_drop] at hlt ⊢; omega)]
theorem exact_next {n : Nat} {la : Nat → By} {rs : List By} (h : Exact n la rs) (hh : Hold (mkD n la) rs) (b : By) : Exact n (laH la rs b) (rs ++ [b]) := by
  have hl : (rs ++ [b]).length = rs.length + 1 := by simp
  refine ⟨fun _ => ?_, fun j hj hjn => ?_⟩
  · rw [hl, List.dropLast_concat, Nat.add_sub_cancel]
    unfold laH
    rw [upd_other _ _ (by omega), laD_low (by unfold nwA; omega), show (rs.length + 1 + 1) % 2 = rs.length % 2 by omega]
    exact hh.head
  · have hdl := dat_snoc_len rs b
    unfold laH
    rw [upd_other _ _ (by omega)]
    unfold laD wtW
    by_cases hi : nwA rs ≤ 2 + j / 64 ∧ 2 + j / 64 < nwA rs + nwM rs b
    · rw [if_pos hi, Option.getD_some, show 2 + j / 64 - nwA rs = j / 64 - (dat rs).length / 64 by unfold nwA; omega]
      exact pad_zero hj (by unfold nwA at hi; omega) (by unfold nwA at hi; omega)
    · rw [if_neg hi]
      exact h.zero j (by omega) hjn
theorem dat_drop (rs : List By) : (dat rs.dropLast).length ≤ (dat rs).length := by
  rcases List.eq_nil_or_concat rs with rfl | ⟨xs, x, rfl⟩
  · exact Nat.le_refl _
  · rw [List.concat_eq_append, List.dropLast_concat, dat_snoc_len]; omega
/-- what a Read of one sector says -/
theorem rd_one {n : Nat} {la : Nat → By} (i : Nat) : rdsL (mkD n la) i 1 = la i := by
  unfold rdsL flat
  show flat _ 0 ++ la (i + 0) = la i
  unfold flat
  simp
/-- what a Read of the records' part says -/
theorem rd_data {n : Nat} {la : Nat → By} {rs : List By} (h : Exact n la rs) (hh : Hold (mkD n la) rs) : rdsL (mkD n la) 2 (n - 2) = dat rs ++ List.replicate (64 * (n - 2) - (dat rs).length) 0 := by
  have hfit : (dat rs).length ≤ 64 * (n - 2) := hh.fit
  have hlen : (rdsL (mkD n la) 2 (n - 2)).length = 64 * (n - 2) := flat_len (fun j => by rw [hh.rd]; exact hh.la _) _
  apply List.ext_getElem?
  intro j
  by_cases hj : j < 64 * (n - 2)
  · have e : (rdsL (mkD n la) 2 (n - 2))[j]? = (la (2 + j / 64))[j % 64]? := by
      have := flat_get (la := fun k => (mkD n la).rd (2 + k)) (fun i => by rw [hh.rd]; exact hh.la _) (n := n - 2) (i := j / 64) (j := j % 64) (by omega) (Nat.mod_lt _ (by omega))
      rw [show 64 * (j / 64) + j % 64 = j by omega] at this
      exact this
    rw [e]
    by_cases hd : j < (dat rs).length
    · rw [List.getElem?_append_left hd]
      exact hh.data j hd
    · rw [List.getElem?_append_right (by omega), List.getElem?_replicate, if_pos (by omega)]
      exact h.zero j (by omega) hj
  · rw [List.getElem?_eq_none (by omega), List.getElem?_eq_none (by rw [List.length_append, List.length_replicate]; omega)]
end Go.Proofs.Ytabahkeologbmaa.Jn
