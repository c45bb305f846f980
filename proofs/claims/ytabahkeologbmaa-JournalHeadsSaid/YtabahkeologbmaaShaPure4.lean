/- What fills bytes up, and the digest of what was written. No program is spoken of here. -/
import Derived.Test.YtabahkeologbmaaShaPure3
namespace Go.Sha
open Go.RowKit

def psize (c : Nat) : Nat := if 64 - c % 64 ≤ 8 then 64 - c % 64 + 64 else 64 - c % 64
theorem psize_lo (c : Nat) : 9 ≤ psize c := by unfold psize; split <;> omega
theorem psize_hi (c : Nat) : psize c ≤ 72 := by unfold psize; split <;> omega
def tlTo (c : Nat) : Nat → List Nat
  | 0 => (zl 72).set 0 128
  | k + 1 => (tlTo c k).set (psize c - 1 - k) (((8 * c) >>> (8 * k)) % 256)
theorem tlTo_len (c : Nat) : ∀ k, (tlTo c k).length = 72
  | 0 => by rw [tlTo, List.length_set, zl_len]
  | k + 1 => by rw [tlTo, List.length_set, tlTo_len c k]
theorem tlTo_lt (c : Nat) : ∀ k, Lt 256 (tlTo c k)
  | 0 => Lt.set (zl_lt 72 256 (by decide)) _ _ (by decide)
  | k + 1 => (tlTo_lt c k).set _ _ (Nat.mod_lt _ (by decide))
theorem tlTo_zero (c : Nat) : tlTo c 0 = (zl 72).set 0 128 := rfl
theorem tlTo_succ (c k : Nat) : tlTo c (k + 1) = (tlTo c k).set (psize c - 1 - k) (((8 * c) >>> (8 * k)) % 256) := rfl
theorem tl_walk (c k : Nat) : 8 * (c : Int) / 2 ^ (8 * k) % 256 = ((((8 * c) >>> (8 * k)) % 256 : Nat) : Int) := by
  rw [show 8 * (c : Int) = ((8 * c : Nat) : Int) by simp, shrm]; simp
/-- what is written behind c bytes to fill them up -/
def pad (c : Nat) : List Nat := (tlTo c 8).take (psize c)
theorem pad_len (c : Nat) : (pad c).length = psize c := by rw [pad, List.length_take, tlTo_len]; have := psize_hi c; omega
theorem pad_lt (c : Nat) : Lt 256 (pad c) := fun x hx => tlTo_lt c 8 x (List.mem_of_mem_take hx)
theorem pad_at (c j : Nat) (h : j < psize c) : at0 (pad c) j = at0 (tlTo c 8) j := by
  unfold at0 pad
  rw [List.getD_eq_getElem?_getD, List.getD_eq_getElem?_getD, List.getElem?_take, if_pos h]
/-- the digest of what was written -/
def sumL (s : HS) : List Nat := dig (putL s (pad s.c)).m
def hs0 : HS := ⟨BEG, zl 64, 0⟩
theorem hs0_ok : hs0.Ok := ⟨BEG_len, BEG_lt, zl_len 64, zl_lt 64 256 (by decide)⟩
/-- the digest of bytes -/
def shaL (l : List Nat) : List Nat := sumL (putL hs0 l)
theorem shaL_len (l : List Nat) : (shaL l).length = 32 := dig_len _
theorem shaL_lt (l : List Nat) : Lt 256 (shaL l) := dig_lt _
attribute [irreducible] tlTo pad sumL shaL psize
end Go.Sha
