/- The plain model of money: amounts, sums, multiples, parts. -/
import Derived.WalkKit
namespace Go.Money

def most : Int := 1125899906842624
/-- an amount may be -/
def may (a : Int) : Bool := decide (-1125899906842624 ≤ a) && decide (a ≤ 1125899906842624)
theorem may_iff (a : Int) : may a = true ↔ -1125899906842624 ≤ a ∧ a ≤ 1125899906842624 := by simp [may]
theorem may_no (a : Int) : may a = false ↔ a < -1125899906842624 ∨ 1125899906842624 < a := by
  rw [← Bool.not_eq_true, may_iff]; omega
def chk (a : Int) : Int := if may a then 0 else 7
def pairV (r : Option Int) : Int × Int := match r with | some x => (x, 0) | none => (0, 7)
def addO (a b : Int) : Option Int := if may a && may b && may (a + b) then some (a + b) else none
def subO (a b : Int) : Option Int := if may a && may b && may (a - b) then some (a - b) else none
def mulO (a n : Int) : Option Int := if may a && may (a * n) then some (a * n) else none
def sumO : Int → List Int → Option Int
  | s, [] => some s
  | s, a :: l => match addO s a with | some x => sumO x l | none => none
def partC (a n d : Int) : Bool := decide (0 ≤ a) && may a && decide (0 ≤ n) && decide (1 ≤ d) && decide (n ≤ d) && decide (d ≤ 1099511627776)
def partO (a n d : Int) : Option (Int × Int) := if partC a n d then some (a * n / d, a * n % d) else none
def tripV (r : Option (Int × Int)) : Int × Int × Int := match r with | some x => (x.1, x.2, 0) | none => (0, 0, 7)
/-- a value of int64 -/
def i64 (a : Int) : Prop := -9223372036854775808 ≤ a ∧ a ≤ 9223372036854775807
theorem may_i64 {a : Int} (h : may a = true) : i64 a := by rw [may_iff] at h; exact ⟨by omega, by omega⟩
theorem sub_add (a b : Int) : subO a b = addO a (-b) := by
  unfold subO addO
  have : may (-b) = may b := by rw [Bool.eq_iff_iff, may_iff, may_iff]; omega
  rw [this, Int.sub_eq_add_neg]
end Go.Money
