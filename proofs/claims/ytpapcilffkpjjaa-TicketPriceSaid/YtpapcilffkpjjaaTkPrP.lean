/- TicketPrice, the plain part: a sale and the same with a tax more. -/
import Derived.Test.YtpapcilffkpjjaaTkPure
namespace Go.Tick
open Go.Money

def addT (s : Sl) (x : Tax) : Sl := { s with taxes := s.taxes ++ [x] }
theorem amts_add (s : Sl) (x : Tax) : amts (addT s x) = amts s ++ [x.am] := by unfold amts addT; simp
theorem sum_app (l : List Int) (a : Int) : (l ++ [a]).sum = l.sum + a := by
  induction l with
  | nil => simp
  | cons b l ih => simp only [List.cons_append, List.sum_cons, ih]; omega
theorem nn_app {l : List Int} {a : Int} (h : nonneg l) (ha : 0 ≤ a) : nonneg (l ++ [a]) := by
  intro b hb
  rcases List.mem_append.1 hb with hb | hb
  · exact h b hb
  · simp only [List.mem_singleton] at hb; omega
theorem price_ok {s : Sl} {n : Int} (h : chkL s n = 0) : nonneg (amts s) ∧ ∃ p, sumO 0 (amts s) = some p ∧ p = (amts s).sum ∧ s.fare ≤ p ∧ 0 ≤ p ∧ p ≤ 1125899906842624 := by
  have ht := tst_of_chk h
  have hn := nn_of_tst (ht 4 (by omega)) (ht 6 (by omega))
  have h8 : (sumO 0 (amts s)).isSome = true := ht 8 (by omega)
  have e := sumO_nn (amts s) 0 (Int.le_refl _) (by decide) hn
  rw [e] at h8
  by_cases hs : 0 + (amts s).sum ≤ 1125899906842624
  · rw [if_pos hs] at e
    refine ⟨hn, _, e, by omega, ?_, ?_, hs⟩
    · have hc : (amts s).sum = s.fare + (s.taxes.map Tax.am).sum := by unfold amts; exact List.sum_cons
      have : 0 ≤ (s.taxes.map Tax.am).sum := by
        have hn2 : nonneg (s.taxes.map Tax.am) := fun a ha => hn a (by unfold amts; exact List.mem_cons_of_mem _ ha)
        clear e hc hs h8 hn ht h
        generalize s.taxes.map Tax.am = l at hn2
        induction l with
        | nil => simp
        | cons b l ih => simp only [List.sum_cons]; have := hn2 b (by simp); have := ih (fun x hx => hn2 x (by simp [hx])); omega
      omega
    · have hn2 : nonneg (amts s) := hn
      have hh : ∀ l : List Int, nonneg l → 0 ≤ l.sum := by
        intro l hl
        induction l with
        | nil => simp
        | cons b l ih => simp only [List.sum_cons]; have := hl b (by simp); have := ih (fun x hx => hl x (by simp [hx])); omega
      have := hh _ hn2
      omega
  · rw [if_neg hs] at h8; cases h8
theorem add_ok {s : Sl} {x : Tax} {n : Int} {p : Int} (hp : p = (amts s).sum) (h2 : chkL (addT s x) n = 0) : nonneg (amts (addT s x)) ∧ sumO 0 (amts (addT s x)) = some (p + x.am) ∧ s.taxes.length + 1 ≤ 4 := by
  obtain ⟨hn2, q, hq, hqs, _⟩ := price_ok h2
  refine ⟨hn2, ?_, ?_⟩
  · rw [hq, hqs, amts_add, sum_app, hp]
  · have h5 : decide ((addT s x).taxes.length ≤ 4) = true := tst_of_chk h2 5 (by omega)
    have := of_decide_eq_true h5
    simpa [addT] using this
theorem tst_add (s : Sl) (x : Tax) (n : Int) {j : Nat} (hj : j < 5 ∨ j = 7) : tst (addT s x) n j = tst s n j := by
  rcases hj with hj | rfl
  · match j, hj with
    | 0, _ => rfl
    | 1, _ => rfl
    | 2, _ => rfl
    | 3, _ => rfl
    | 4, _ => rfl
  · rfl
/-- why a tax more may not be -/
def BadT (s : Sl) (x : Tax) : Prop := 4 < s.taxes.length + 1 ∨ x.code.length ≠ 2 ∨ x.am < 0 ∨ (∀ r : Option Int, (nonneg (amts (addT s x)) → r = sumO 0 (amts (addT s x))) → r = none) ∨ ∃ a b : UInt8, x.code = [a, b] ∧ (a.toNat < 65 ∨ 90 < a.toNat ∨ b.toNat < 65 ∨ 90 < b.toNat)
theorem add_bad {s : Sl} {x : Tax} {n : Int} (h : chkL s n = 0) (h2 : chkL (addT s x) n ≠ 0) : BadT s x := by
  have ht := tst_of_chk h
  have hn := nn_of_tst (ht 4 (by omega)) (ht 6 (by omega))
  rcases chk_cases (addT s x) n with ⟨h3, _⟩ | ⟨k, hk, _, hf, hl⟩
  · exact absurd h3 h2
  · have hk' : k = 5 ∨ k = 6 ∨ k = 8 := by
      by_cases h0 : k < 5 ∨ k = 7
      · rw [tst_add s x n h0, ht k hk] at hf; cases hf
      · omega
    have hrest : 0 ≤ x.am → (sumO 0 (amts (addT s x))).isSome = false → BadT s x := by
      intro h0 hs
      refine .inr (.inr (.inr (.inl fun r hr => ?_)))
      have := hr (by rw [amts_add]; exact nn_app hn h0)
      rw [this]
      cases hq : sumO 0 (amts (addT s x)) with
      | none => rfl
      | some q => rw [hq] at hs; cases hs
    by_cases h0 : 0 ≤ x.am
    · rcases hk' with rfl | rfl | rfl
      · have h5 : decide ((addT s x).taxes.length ≤ 4) = false := hf
        have := of_decide_eq_false h5
        refine .inl ?_
        have e : (addT s x).taxes.length = s.taxes.length + 1 := by simp [addT]
        omega
      · have h6 : (s.taxes ++ [x]).all taxB = false := hf
        have h6' : s.taxes.all taxB = true := ht 6 (by omega)
        rw [List.all_append, h6'] at h6
        simp only [List.all_cons, List.all_nil, Bool.and_true, Bool.true_and] at h6
        unfold taxB at h6
        by_cases hc : codeB x.code = true
        · rw [hc, Bool.true_and] at h6
          have ha : ¬ (0 ≤ x.am ∧ x.am ≤ 1125899906842624) := fun e => by rw [(amt_iff _).2 e] at h6; cases h6
          refine hrest h0 ?_
          have hn2 : nonneg (amts (addT s x)) := by rw [amts_add]; exact nn_app hn h0
          rw [sumO_nn _ 0 (Int.le_refl _) (by decide) hn2, if_neg]
          · rfl
          · rw [amts_add, sum_app]
            have hh : ∀ l : List Int, nonneg l → 0 ≤ l.sum := by
              intro l hl
              induction l with
              | nil => simp
              | cons b l ih => simp only [List.sum_cons]; have := hl b (by simp); have := ih (fun x hx => hl x (by simp [hx])); omega
            have := hh _ hn
            omega
        · unfold codeB at hc
          by_cases hl2 : x.code.length = 2
          · obtain ⟨a, b, hab⟩ : ∃ a b, x.code = [a, b] := by
              match hx : x.code, hl2 with
              | [a, b], _ => exact ⟨a, b, rfl⟩
            refine .inr (.inr (.inr (.inr ⟨a, b, hab, ?_⟩)))
            rw [hab] at hc
            refine Classical.byContradiction fun hne => hc ?_
            have h1 : isL a = true := by simp only [isL, Bool.and_eq_true, decide_eq_true_eq]; omega
            have h2 : isL b = true := by simp only [isL, Bool.and_eq_true, decide_eq_true_eq]; omega
            simp [h1, h2]
          · exact .inr (.inl hl2)
      · exact hrest h0 hf
    · exact .inr (.inr (.inl (by omega)))
end Go.Tick
