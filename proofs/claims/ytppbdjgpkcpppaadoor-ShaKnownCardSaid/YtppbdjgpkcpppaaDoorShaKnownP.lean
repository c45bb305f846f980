/- Digests that are known. No program is spoken of here. -/
import Derived.Test.YtppbdjgpkcpppaaDoorShaMillion
import Derived.Test.YtppbdjgpkcpppaaDoorShaPure5
namespace Go.Sha
open Go.Sha.Fast

theorem sumL_len (s : HS) : (sumL s).length = 32 := by unfold sumL; exact dig_len _
theorem sumL_lt (s : HS) : Lt 256 (sumL s) := by unfold sumL; exact dig_lt _
/-- the first k of a thousand noughts are signs a -/
def aTo : Nat → List Nat
  | 0 => zl 1000
  | k + 1 => (aTo k).set k 97
theorem aTo_len : ∀ k, (aTo k).length = 1000
  | 0 => zl_len 1000
  | k + 1 => by rw [aTo, List.length_set, aTo_len k]
theorem aTo_zero : aTo 0 = zl 1000 := rfl
theorem aTo_succ (k : Nat) : aTo (k + 1) = (aTo k).set k 97 := rfl
def aa (n : Nat) : List Nat := List.replicate n 97
theorem aa_len (n : Nat) : (aa n).length = n := by simp [aa]
theorem aa_lt (n : Nat) : Lt 256 (aa n) := by intro x hx; simp [aa] at hx; omega
theorem aa_add (n m : Nat) : aa (n + m) = aa n ++ aa m := by simp [aa]
theorem aTo_get (k : Nat) : ∀ j, j < k → k ≤ 1000 → (aTo k)[j]? = some 97 := by
  induction k with
  | zero => intro j hj; omega
  | succ k ih =>
    intro j hj hk
    rw [aTo_succ, List.getElem?_set]
    by_cases h : k = j
    · subst h; simp [aTo_len]; omega
    · rw [if_neg h]; exact ih j (by omega) (by omega)
theorem aTo_all : aTo 1000 = aa 1000 := by
  apply List.ext_getElem?
  intro j
  by_cases h : j < 1000
  · rw [aTo_get 1000 j h (Nat.le_refl _), aa, List.getElem?_replicate, if_pos h]
  · rw [List.getElem?_eq_none (by rw [aTo_len]; omega), List.getElem?_eq_none (by rw [aa_len]; omega)]
def msg56 : List Nat := [97, 98, 99, 100, 98, 99, 100, 101, 99, 100, 101, 102, 100, 101, 102, 103, 101, 102, 103, 104, 102, 103, 104, 105, 103, 104, 105, 106, 104, 105, 106, 107, 105, 106, 107, 108, 106, 107, 108, 109, 107, 108, 109, 110, 108, 109, 110, 111, 109, 110, 111, 112, 110, 111, 112, 113]
theorem msg56_len : msg56.length = 56 := rfl
theorem msg56_lt : Lt 256 msg56 := by decide
def txt0 : ByteArray := ⟨#[101, 51, 98, 48, 99, 52, 52, 50, 57, 56, 102, 99, 49, 99, 49, 52, 57, 97, 102, 98, 102, 52, 99, 56, 57, 57, 54, 102, 98, 57, 50, 52, 50, 55, 97, 101, 52, 49, 101, 52, 54, 52, 57, 98, 57, 51, 52, 99, 97, 52, 57, 53, 57, 57, 49, 98, 55, 56, 53, 50, 98, 56, 53, 53]⟩
def txt56 : ByteArray := ⟨#[50, 52, 56, 100, 54, 97, 54, 49, 100, 50, 48, 54, 51, 56, 98, 56, 101, 53, 99, 48, 50, 54, 57, 51, 48, 99, 51, 101, 54, 48, 51, 57, 97, 51, 51, 99, 101, 52, 53, 57, 54, 52, 102, 102, 50, 49, 54, 55, 102, 54, 101, 99, 101, 100, 100, 52, 49, 57, 100, 98, 48, 54, 99, 49]⟩
def txtM : ByteArray := ⟨#[99, 100, 99, 55, 54, 101, 53, 99, 57, 57, 49, 52, 102, 98, 57, 50, 56, 49, 97, 49, 99, 55, 101, 50, 56, 52, 100, 55, 51, 101, 54, 55, 102, 49, 56, 48, 57, 97, 52, 56, 97, 52, 57, 55, 50, 48, 48, 101, 48, 52, 54, 100, 51, 57, 99, 99, 99, 55, 49, 49, 50, 99, 100, 48]⟩
theorem known0 : textL (shaL []) = txt0 := by kernel_rfl
theorem known56 : textL (shaL msg56) = txt56 := by kernel_rfl
theorem aa64 : aa 64 = A64 := by unfold aa A64; rfl
theorem aa_blocks (n : Nat) : aa (64 * n) = List.flatten (List.replicate n A64) := by
  induction n with
  | zero => rfl
  | succ n ih =>
    rw [Nat.mul_succ, Nat.add_comm, aa_add, ih, List.replicate_succ, List.flatten_cons, aa64]
theorem lastM : textL (dig (mixL mil (pad 1000000))) = txtM := by kernel_rfl
theorem pad_mil : psize 1000000 = 64 := by unfold psize; rfl
theorem knownM : textL (sumL (putL hs0 (aa 1000000))) = txtM := by
  have e : (putL hs0 (aa 1000000)).m = mil := by
    rw [show (1000000 : Nat) = 64 * 15625 from rfl, aa_blocks, putL_blocks A64 (by unfold A64; simp) 15625 hs0 hs0_ok.r64 rfl]
    exact million
  have hc : (putL hs0 (aa 1000000)).c = 1000000 := by rw [putL_c, aa_len]; rfl
  have hok := putL_ok hs0_ok (aa_lt 1000000)
  unfold sumL
  generalize putL hs0 (aa 1000000) = s at *
  obtain ⟨m, r, c⟩ := s
  dsimp only at e hc
  subst hc
  have hr : r.length = 64 := hok.r64
  have hl : lay r (1000000 % 64) (pad 1000000) = pad 1000000 := by
    unfold lay; rw [show 1000000 % 64 = 0 from rfl]; simp [pad_len, pad_mil, ← hr]
  rw [putL_piece (pad 1000000) ⟨m, r, 1000000⟩ hr (by rw [pad_len, pad_mil]; show 1000000 % 64 + 64 ≤ 64; decide) (by rw [pad_len, pad_mil]; decide)]
  dsimp only
  rw [hl, pad_len, pad_mil, if_pos (by decide)]
  rw [e]
  exact lastM
attribute [irreducible] aTo aa msg56
end Go.Sha
