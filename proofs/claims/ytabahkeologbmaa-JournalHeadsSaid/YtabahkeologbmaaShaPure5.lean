/- The text of a digest. No program is spoken of here. -/
import Derived.Test.YtabahkeologbmaaShaPure4
import Derived.Laws.BytesArg
namespace Go.Sha
open Go.RowKit

def hexc (n : Nat) : Nat := if n < 10 then 48 + n else 87 + n
def txTo (d : List Nat) : Nat → List Nat
  | 0 => zl 64
  | k + 1 => ((txTo d k).set (2 * k) (hexc (at0 d k / 16))).set (2 * k + 1) (hexc (at0 d k % 16))
theorem txTo_len (d : List Nat) : ∀ k, (txTo d k).length = 64
  | 0 => zl_len 64
  | k + 1 => by rw [txTo, List.length_set, List.length_set, txTo_len d k]
theorem txTo_zero (d : List Nat) : txTo d 0 = zl 64 := rfl
theorem txTo_succ (d : List Nat) (k : Nat) : txTo d (k + 1) = ((txTo d k).set (2 * k) (hexc (at0 d k / 16))).set (2 * k + 1) (hexc (at0 d k % 16)) := rfl
/-- a list of numbers below 256 as a string -/
def strN (l : List Nat) : ByteArray := ⟨(l.map fun n => UInt8.ofNat n).toArray⟩
def textL (d : List Nat) : ByteArray := strN (txTo d 32)
theorem hex_at : ∀ (y : Nat) (h : y < 16), ((⟨#[48, 49, 50, 51, 52, 53, 54, 55, 56, 57, 97, 98, 99, 100, 101, 102]⟩ : ByteArray)[y]'h).toNat = hexc y := by decide
theorem strN_nums (l : List Nat) : strOfNums (l.map fun (n : Nat) => (n : Int)) = strN l := by simp [strOfNums, strN, Function.comp_def]
attribute [irreducible] txTo textL
end Go.Sha
