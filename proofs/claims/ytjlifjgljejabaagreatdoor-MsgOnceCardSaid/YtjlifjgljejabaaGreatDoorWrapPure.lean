/- The plain model of numbers in texts: digits read one by one, up to a greatest number. -/
import Derived.Test.YtjlifjgljejabaaGreatDoorEdiPure2
namespace Go.Wrap
open Go.Edi
def dgt (c : UInt8) : Bool := decide (48 ≤ c) && decide (c ≤ 57)
/-- digits behind a number -/
def rdN (most : Nat) : Nat → Tx → Option Nat
  | n, [] => some n
  | n, c :: t => if dgt c then (if n * 10 + (c.toNat - 48) ≤ most then rdN most (n * 10 + (c.toNat - 48)) t else none) else none
def lead0 : Tx → Bool
  | [] => true
  | c :: t => c == 48 && decide (0 < t.length)
def numL (most : Nat) (t : Tx) : Option Nat := if lead0 t then none else rdN most 0 t
theorem rdN_snoc (most : Nat) (t : Tx) (c : UInt8) : ∀ n, rdN most n (t ++ [c]) = (rdN most n t).bind fun m => if dgt c then (if m * 10 + (c.toNat - 48) ≤ most then some (m * 10 + (c.toNat - 48)) else none) else none := by
  induction t with
  | nil => intro n; simp [rdN]
  | cons a t ih =>
    intro n
    simp only [List.cons_append, rdN]
    split
    · split
      · exact ih _
      · simp
    · simp
theorem rdN_none_app (most : Nat) (t u : Tx) : ∀ n, rdN most n t = none → rdN most n (t ++ u) = none := by
  induction t with
  | nil => intro n h; simp [rdN] at h
  | cons a t ih =>
    intro n h
    simp only [List.cons_append, rdN] at h ⊢
    split
    · rename_i h1; rw [if_pos h1] at h
      split
      · rename_i h2; rw [if_pos h2] at h; exact ih _ h
      · rfl
    · rfl
theorem rdN_le (most : Nat) (t : Tx) : ∀ n m, n ≤ most → rdN most n t = some m → m ≤ most := by
  induction t with
  | nil => intro n m h0 h; simp [rdN] at h; omega
  | cons a t ih =>
    intro n m h0 h
    simp only [rdN] at h
    split at h
    · split at h
      · exact ih _ _ (by assumption) h
      · cases h
    · cases h
end Go.Wrap
