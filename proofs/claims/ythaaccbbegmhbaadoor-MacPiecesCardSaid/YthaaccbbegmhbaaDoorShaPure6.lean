/- The text of a digest, sign by sign; unlike digests have unlike texts. No program is spoken of here. -/
import Derived.Test.YthaaccbbegmhbaaDoorShaPure5
namespace Go.Sha
open Go.RowKit

def hx (d : List Nat) : Nat → List Nat
  | 0 => []
  | k + 1 => hx d k ++ [hexc (at0 d k / 16), hexc (at0 d k % 16)]
theorem hx_zero (d : List Nat) : hx d 0 = [] := rfl
theorem hx_succ (d : List Nat) (k : Nat) : hx d (k + 1) = hx d k ++ [hexc (at0 d k / 16), hexc (at0 d k % 16)] := rfl
theorem hx_len (d : List Nat) : ∀ k, (hx d k).length = 2 * k
  | 0 => rfl
  | k + 1 => by rw [hx_succ, List.length_append, hx_len d k]; simp; omega
theorem tx_hx (d : List Nat) : ∀ k, k ≤ 32 → (txTo d k).take (2 * k) = hx d k
  | 0, _ => by simp [hx]
  | k + 1, h => by
    have hl : (txTo d k).length = 64 := txTo_len d k
    rw [txTo_succ, hx_succ, ← tx_hx d k (by omega)]
    apply List.ext_getElem?
    intro j
    simp only [List.getElem?_take, List.getElem?_set, List.getElem?_append, List.length_take, List.length_set, hl]
    have e : min (2 * k) 64 = 2 * k := by omega
    rw [e]
    by_cases h1 : j < 2 * k
    · simp [h1, show j < 2 * (k + 1) by omega, show ¬ 2 * k + 1 = j by omega, show ¬ 2 * k = j by omega]
    · by_cases h2 : j = 2 * k
      · subst h2; simp [show 2 * k < 2 * (k + 1) by omega, show 2 * k < 64 by omega]
      · by_cases h3 : j = 2 * k + 1
        · subst h3
          rw [if_pos (by omega), if_pos rfl, if_pos (by omega), if_neg h1, show 2 * k + 1 - 2 * k = 1 by omega]; rfl
        · rw [if_neg (by omega), if_neg h1, List.getElem?_eq_none (by simp; omega)]
theorem text_hx (d : List Nat) : textL d = strN (hx d 32) := by
  unfold textL
  rw [← tx_hx d 32 (Nat.le_refl _), List.take_of_length_le (by rw [txTo_len]; decide)]
theorem strN_size (l : List Nat) : (strN l).size = l.length := by simp [strN, ByteArray.size]
theorem textL_size (d : List Nat) : (textL d).size = 64 := by rw [text_hx, strN_size, hx_len]
theorem strN_append (a b : List Nat) : strN a ++ strN b = strN (a ++ b) := by
  apply ByteArray.ext
  simp [strN, ByteArray.data_append]
theorem hexc_lt (n : Nat) (h : n < 16) : hexc n < 256 := by unfold hexc; split <;> omega
theorem hexc_inj {a b : Nat} (ha : a < 16) (hb : b < 16) (h : hexc a = hexc b) : a = b := by unfold hexc at h; split at h <;> split at h <;> omega
theorem strN_inj {a b : List Nat} (ha : Lt 256 a) (hb : Lt 256 b) (h : strN a = strN b) : a = b := by
  have h' := congrArg (fun s : ByteArray => s.data.toList.map UInt8.toNat) h
  simp only [strN, List.map_map] at h'
  have e : ∀ l : List Nat, Lt 256 l → l.map (UInt8.toNat ∘ fun n => UInt8.ofNat n) = l := by
    intro l hl
    conv => rhs; rw [← List.map_id l]
    apply List.map_congr_left
    intro x hx
    have := hl x hx
    simp; omega
  rwa [e a ha, e b hb] at h'
theorem hx_lt {d : List Nat} (h : Lt 256 d) : ∀ k, Lt 256 (hx d k)
  | 0 => by intro x hx'; simp [hx] at hx'
  | k + 1 => by
    intro x hx'
    rw [hx_succ, List.mem_append] at hx'
    have g := h.getD (by decide) k
    rcases hx' with h1 | h1
    · exact hx_lt h k x h1
    · simp only [List.mem_cons, List.not_mem_nil, or_false] at h1
      rcases h1 with rfl | rfl <;> exact hexc_lt _ (by omega)
theorem hx_inj {a b : List Nat} (ha : Lt 256 a) (hb : Lt 256 b) : ∀ k, hx a k = hx b k → ∀ j, j < k → at0 a j = at0 b j
  | 0, _, j, hj => by omega
  | k + 1, h, j, hj => by
    rw [hx_succ, hx_succ] at h
    obtain ⟨h1, h2⟩ := List.append_inj h (by rw [hx_len, hx_len])
    have ga := ha.getD (by decide) k
    have gb := hb.getD (by decide) k
    simp only [List.cons.injEq, and_true] at h2
    have e1 := hexc_inj (by omega) (by omega) h2.1
    have e2 := hexc_inj (by omega) (by omega) h2.2
    by_cases hjk : j = k
    · subst hjk; omega
    · exact hx_inj ha hb k h1 j (by omega)
theorem textL_inj {a b : List Nat} (ha : Lt 256 a) (hb : Lt 256 b) (la : a.length = 32) (lb : b.length = 32) : textL a = textL b ↔ a = b := by
  constructor
  · intro h
    rw [text_hx, text_hx] at h
    have h1 := hx_inj ha hb 32 (strN_inj (hx_lt ha 32) (hx_lt hb 32) h)
    apply List.ext_getElem (by omega)
    intro i h2 h3
    have := h1 i (by omega)
    simpa [at0, List.getD_eq_getElem?_getD, h2, h3] using this
  · rintro rfl; rfl
attribute [irreducible] hx
end Go.Sha
