/- Plain laws of TicketTaxes: a sale whose taxes change places. -/
import Derived.Test.YtkdfhmlamjhedaaTkOw
namespace Go.Tick
open Go.Money

def sw (s : Sl) (a b : Nat) : Sl := { s with taxes := (s.taxes.set a s.taxes[b]!).set b s.taxes[a]! }
theorem sw_len (s : Sl) (a b : Nat) : (sw s a b).taxes.length = s.taxes.length := by simp [sw]
theorem sw_perm (s : Sl) {a b : Nat} (ha : a < s.taxes.length) (hb : b < s.taxes.length) : (sw s a b).taxes.Perm s.taxes := by
  show ((s.taxes.set a s.taxes[b]!).set b s.taxes[a]!).Perm s.taxes
  rw [getElem!_pos s.taxes b hb, getElem!_pos s.taxes a ha]
  exact List.set_set_perm ha hb
theorem perm_sumL {l M : List Int} (hp : M.Perm l) : M.sum = l.sum := by
  induction hp with
  | nil => rfl
  | cons x _ ih => simp only [List.sum_cons, ih]
  | swap x y l => simp only [List.sum_cons]; omega
  | trans _ _ h1 h2 => exact h1.trans h2
theorem perm_all {α : Type} {p : α → Bool} {l m : List α} (h : l.Perm m) : l.all p = m.all p := by
  rw [Bool.eq_iff_iff, List.all_eq_true, List.all_eq_true]
  exact ⟨fun hx x hm => hx x (h.mem_iff.2 hm), fun hx x hm => hx x (h.mem_iff.1 hm)⟩
theorem amts_perm (s : Sl) {T : List Tax} (hp : T.Perm s.taxes) : (amts { s with taxes := T }).Perm (amts s) := (hp.map Tax.am).cons s.fare
theorem sum_perm {l M : List Int} (hp : M.Perm l) (hn : nonneg l) : sumO 0 M = sumO 0 l := by
  have hM : nonneg M := fun a ha => hn a (hp.mem_iff.1 ha)
  rw [sumO_nn l 0 (Int.le_refl _) (by decide) hn, sumO_nn M 0 (Int.le_refl _) (by decide) hM, perm_sumL hp]
theorem tst_perm (s : Sl) {T : List Tax} (hp : T.Perm s.taxes) (n : Int) {j : Nat} (hj : j < 8) : tst { s with taxes := T } n j = tst s n j := by
  match j, hj with
  | 0, _ => rfl
  | 1, _ => rfl
  | 2, _ => rfl
  | 3, _ => rfl
  | 4, _ => rfl
  | 5, _ => show decide (T.length ≤ 4) = decide (s.taxes.length ≤ 4); rw [hp.length_eq]
  | 6, _ => exact perm_all hp
  | 7, _ => rfl
theorem chk_perm (s : Sl) {T : List Tax} (hp : T.Perm s.taxes) (n : Int) : chkL { s with taxes := T } n = chkL s n := by
  have h8 : tst s n 4 = true → tst s n 6 = true → tst { s with taxes := T } n 8 = tst s n 8 := fun h4 h6 => by
    show (sumO 0 (amts _)).isSome = (sumO 0 (amts s)).isSome
    rw [sum_perm (amts_perm s hp) (nn_of_tst h4 h6)]
  rcases chk_cases s n with ⟨h0, hall⟩ | ⟨k, hk, hc, hf, hlt⟩
  · rw [h0]
    refine chk_ok fun j hj => ?_
    by_cases e : j = 8
    · subst e; rw [h8 (hall 4 (by omega)) (hall 6 (by omega))]; exact hall 8 hj
    · rw [tst_perm s hp n (by omega)]; exact hall j hj
  · rw [hc]
    refine chk_at hk (fun j hj => by rw [tst_perm s hp n (by omega)]; exact hlt j hj) ?_
    by_cases e : k = 8
    · subst e; rw [h8 (hlt 4 (by omega)) (hlt 6 (by omega))]; exact hf
    · rw [tst_perm s hp n (by omega)]; exact hf
theorem sw_chk (s : Sl) {a b : Nat} (ha : a < s.taxes.length) (hb : b < s.taxes.length) (n : Int) : chkL (sw s a b) n = chkL s n := chk_perm s (sw_perm s ha hb) n
theorem sw_sum (s : Sl) {a b : Nat} (ha : a < s.taxes.length) (hb : b < s.taxes.length) {n : Int} (h : chkL s n = 0) : nonneg (amts s) ∧ nonneg (amts (sw s a b)) ∧ sumO 0 (amts (sw s a b)) = sumO 0 (amts s) := by
  have ht := tst_of_chk h
  have hn := nn_of_tst (ht 4 (by omega)) (ht 6 (by omega))
  have hp := amts_perm s (sw_perm s ha hb)
  exact ⟨hn, fun x hx => hn x (hp.mem_iff.1 hx), sum_perm hp hn⟩
/-- a place within the list, out of whatever number -/
theorem place (i : Int) {n : Nat} (hn : 1 ≤ n) : ∃ a : Nat, a < n ∧ (i.tmod n = (a : Int) ∨ ∃ A : Int, i.tmod n = A ∧ A < 0 ∧ -(n : Int) ≤ A ∧ A + (n : Int) = (a : Int)) := by
  have h1 := Int.tmod_lt_of_pos i (show (0 : Int) < n by omega)
  have h2 : -(n : Int) < i.tmod n := by
    have := Int.tmod_lt_of_pos (-i) (show (0 : Int) < n by omega)
    rw [Int.neg_tmod] at this
    omega
  by_cases h : i.tmod n < 0
  · exact ⟨(i.tmod n + n).toNat, by omega, Or.inr ⟨_, rfl, h, by omega, by omega⟩⟩
  · exact ⟨(i.tmod n).toNat, by omega, Or.inl (by omega)⟩
end Go.Tick
namespace Go.Proofs.Ytkdfhmlamjhedaa
open Go.RowKit Go.Money Go.Tick
theorem saV_sw (s : Sl) (a b : Nat) (lp : Option Addr) (lc : Nat) (tp : Option Addr) (tc : Nat) : saV (sw s a b) lp lc tp tc = saV s lp lc tp tc := by
  unfold saV; rw [sw_len]; rfl
end Go.Proofs.Ytkdfhmlamjhedaa
