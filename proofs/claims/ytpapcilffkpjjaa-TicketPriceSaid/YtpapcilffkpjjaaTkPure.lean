/- The plain model of ticket: sales, whether they may be, their prices. -/
import Derived.Test.YtpapcilffkpjjaaMoneyPure
namespace Go.Tick
open Go.Money

structure Lg where
  c : UInt8
  f : Nat
  wt : Nat
structure Tax where
  code : List UInt8
  am : Int
structure Sl where
  name : List UInt8
  legs : List Lg
  fare : Int
  taxes : List Tax
  pen : Int
instance : Inhabited Lg := ⟨⟨0, 0, 0⟩⟩
instance : Inhabited Tax := ⟨⟨[], 0⟩⟩
def isL (c : UInt8) : Bool := decide (65 ≤ c.toNat) && decide (c.toNat ≤ 90)
def isN (c : UInt8) : Bool := isL c || decide (c.toNat = 32) || decide (c.toNat = 47)
def nameB (t : List UInt8) : Bool := decide (1 ≤ t.length) && decide (t.length ≤ 32) && t.all isN
def codeB (t : List UInt8) : Bool := decide (t.length = 2) && t.all isL
def amtB (a : Int) : Bool := decide (0 ≤ a) && may a
def legB (n : Int) (l : Lg) : Bool := decide ((l.c.toNat : Int) < n) && decide (0 < l.wt)
def taxB (x : Tax) : Bool := codeB x.code && amtB x.am
def amts (s : Sl) : List Int := s.fare :: s.taxes.map Tax.am
/-- the conditions, in their order -/
def tst (s : Sl) (n : Int) : Nat → Bool
  | 0 => decide (2 ≤ n) && decide (n ≤ 8)
  | 1 => nameB s.name
  | 2 => decide (1 ≤ s.legs.length) && decide (s.legs.length ≤ 4)
  | 3 => s.legs.all (legB n)
  | 4 => amtB s.fare
  | 5 => decide (s.taxes.length ≤ 4)
  | 6 => s.taxes.all taxB
  | 7 => amtB s.pen
  | _ => (sumO 0 (amts s)).isSome
def er : Nat → Int
  | 0 => 1
  | 8 => 7
  | _ => 90
def chkF (s : Sl) (n : Int) : Nat → Nat → Int
  | 0, _ => 0
  | f + 1, k => if tst s n k then chkF s n f (k + 1) else er k
def chkL (s : Sl) (n : Int) : Int := chkF s n 9 0
theorem chkF_skip {s : Sl} {n : Int} : ∀ (k f i : Nat), (∀ j, i ≤ j → j < i + k → tst s n j = true) → chkF s n (f + k) i = chkF s n f (i + k)
  | 0, f, i, _ => rfl
  | k + 1, f, i, h => by
    have h0 := h i (Nat.le_refl _) (by omega)
    have ih := chkF_skip k f (i + 1) (fun j h1 h2 => h j (by omega) (by omega))
    rw [show f + (k + 1) = (f + k) + 1 by omega]
    have e : chkF s n (f + k + 1) i = if tst s n i then chkF s n (f + k) (i + 1) else er i := rfl
    rw [e, if_pos h0, ih, show i + 1 + k = i + (k + 1) by omega]
theorem chk_at {s : Sl} {n : Int} {k : Nat} (hk : k < 9) (h : ∀ j, j < k → tst s n j = true) (hf : tst s n k = false) : chkL s n = er k := by
  unfold chkL
  have h1 := chkF_skip (s := s) (n := n) k (9 - k) 0 (fun j _ h2 => h j (by omega))
  rw [show 9 - k + k = 9 by omega, Nat.zero_add] at h1
  rw [h1, show 9 - k = (8 - k) + 1 by omega]
  have e : chkF s n (8 - k + 1) k = if tst s n k then chkF s n (8 - k) (k + 1) else er k := rfl
  rw [e, if_neg (by rw [hf]; decide)]
theorem chk_ok {s : Sl} {n : Int} (h : ∀ j, j < 9 → tst s n j = true) : chkL s n = 0 := by
  unfold chkL
  have h1 := chkF_skip (s := s) (n := n) 9 0 0 (fun j _ h2 => h j (by omega))
  rw [h1]; rfl
theorem er_ne (k : Nat) : er k ≠ 0 := by unfold er; split <;> decide
/-- the first condition that does not hold -/
theorem chk_cases (s : Sl) (n : Int) : (chkL s n = 0 ∧ ∀ j, j < 9 → tst s n j = true) ∨ ∃ k, k < 9 ∧ chkL s n = er k ∧ tst s n k = false ∧ ∀ j, j < k → tst s n j = true := by
  by_cases h : ∀ j, j < 9 → tst s n j = true
  · exact .inl ⟨chk_ok h, h⟩
  · right
    have key : ∀ m, m ≤ 9 → (∀ j, j < m → tst s n j = true) ∨ ∃ k, k < m ∧ tst s n k = false ∧ ∀ j, j < k → tst s n j = true := by
      intro m
      induction m with
      | zero => intro _; exact .inl fun j hj => absurd hj (Nat.not_lt_zero _)
      | succ m ih =>
        intro hm
        rcases ih (by omega) with h1 | ⟨k, h1, h2, h3⟩
        · cases ht : tst s n m with
          | true =>
            refine .inl fun j hj => ?_
            by_cases e : j = m
            · rw [e]; exact ht
            · exact h1 j (by omega)
          | false => exact .inr ⟨m, by omega, ht, h1⟩
        · exact .inr ⟨k, by omega, h2, h3⟩
    rcases key 9 (Nat.le_refl _) with h1 | ⟨k, h1, h2, h3⟩
    · exact absurd h1 h
    · exact ⟨k, h1, chk_at h1 h3 h2, h2, h3⟩
theorem tst_of_chk {s : Sl} {n : Int} (h : chkL s n = 0) : ∀ j, j < 9 → tst s n j = true := by
  rcases chk_cases s n with ⟨_, h1⟩ | ⟨k, _, h1, _⟩
  · exact h1
  · rw [h] at h1; exact absurd h1.symm (er_ne k)
/-- what there must be of amounts for a sum that hangs on no order -/
def nonneg (l : List Int) : Prop := ∀ a ∈ l, 0 ≤ a
theorem sumO_nn : ∀ (l : List Int) (s : Int), 0 ≤ s → s ≤ 1125899906842624 → nonneg l → sumO s l = if s + l.sum ≤ 1125899906842624 then some (s + l.sum) else none
  | [], s, h0, h1, _ => by simp only [sumO, List.sum_nil, Int.add_zero]; rw [if_pos h1]
  | a :: l, s, h0, h1, h => by
    have ha : 0 ≤ a := h a (by simp)
    have hl : nonneg l := fun x hx => h x (by simp [hx])
    have hls : 0 ≤ l.sum := by
      clear h1 h
      induction l with
      | nil => simp
      | cons b l ih => simp only [List.sum_cons]; have := hl b (by simp); have := ih (fun x hx => hl x (by simp [hx])); omega
    have hc : (a :: l).sum = a + l.sum := List.sum_cons
    have hstep : sumO s (a :: l) = match addO s a with | some x => sumO x l | none => none := rfl
    rw [hstep]
    by_cases hs : s + a ≤ 1125899906842624
    · have e : addO s a = some (s + a) := by
        unfold addO
        rw [if_pos (by simp only [Bool.and_eq_true, may_iff]; omega)]
      rw [e]
      show sumO (s + a) l = _
      rw [sumO_nn l (s + a) (by omega) hs hl]
      by_cases ht : s + (a :: l).sum ≤ 1125899906842624
      · rw [if_pos ht, if_pos (by omega)]; congr 1; omega
      · rw [if_neg ht, if_neg (by omega)]
    · have e : addO s a = none := by
        unfold addO
        rw [if_neg (by simp only [Bool.and_eq_true, may_iff]; omega)]
      rw [e, if_neg (by omega)]
theorem amt_iff (a : Int) : amtB a = true ↔ 0 ≤ a ∧ a ≤ 1125899906842624 := by
  unfold amtB; simp only [Bool.and_eq_true, decide_eq_true_eq, may_iff]; omega
theorem nn_of_tst {s : Sl} {n : Int} (h4 : tst s n 4 = true) (h6 : tst s n 6 = true) : nonneg (amts s) := by
  intro a ha
  simp only [tst] at h4 h6
  unfold amts at ha
  rcases List.mem_cons.1 ha with rfl | ha
  · exact ((amt_iff _).1 h4).1
  · obtain ⟨x, hx, rfl⟩ := List.mem_map.1 ha
    have := List.all_eq_true.1 h6 x hx
    unfold taxB at this
    exact ((amt_iff _).1 (Bool.and_eq_true _ _ ▸ this).2).1
/-- what is given, what is kept -/
def giveL (v p : Int) : Int × Int := if v < 0 ∨ p < 0 then (0, 0) else if v < p then (0, v) else (v - p, p)
/-- a ticket may be -/
def tkB (c s : Nat) (n : Int) : Bool := decide ((c : Int) < n) && decide (1 ≤ s) && decide (s ≤ 9999999999)
/-- which statuses are one; which are worth their value -/
def isS (s : Nat) : Bool := decide (1 ≤ s) && decide (s ≤ 7)
def wthB (s : Nat) : Bool := !(decide (s = 5) || decide (s = 6) || decide (s = 7))
end Go.Tick
