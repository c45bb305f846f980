/- Plain facts of the document's own way to a digest: how bytes are filled, a word of four bytes, block after block. -/
import Derived.Test.YthaaccbbegmhbaaDoorShaPure4
namespace Go.Sha

theorem at0_set (l : List Nat) (i x j : Nat) (h : i < l.length) : at0 (l.set i x) j = if i = j then x else at0 l j := by
  unfold at0
  rw [List.getD_eq_getElem?_getD, List.getD_eq_getElem?_getD, List.getElem?_set]
  by_cases e : i = j
  · subst e; simp [h]
  · simp [e]
theorem at0_zl (n j : Nat) : at0 (zl n) j = 0 := by
  unfold at0 zl
  rw [List.getD_eq_getElem?_getD]
  by_cases h : j < n
  · simp [h]
  · simp [h]
theorem at0_get (l : List Nat) (j : Nat) (h : j < l.length) : at0 l j = l[j] := by
  unfold at0; rw [List.getD_eq_getElem?_getD, List.getElem?_eq_getElem h]; rfl
theorem list_at0 {x y : List Nat} (h : x.length = y.length) (e : ∀ j, j < x.length → at0 x j = at0 y j) : x = y := by
  apply List.ext_getElem h
  intro i h1 h2
  rw [← at0_get x i h1, ← at0_get y i h2]; exact e i h1
theorem at0_append (x y : List Nat) (j : Nat) : at0 (x ++ y) j = if j < x.length then at0 x j else at0 y (j - x.length) := by
  unfold at0
  rw [List.getD_eq_getElem?_getD, List.getElem?_append]
  split
  · rw [List.getD_eq_getElem?_getD]
  · rw [List.getD_eq_getElem?_getD]
theorem at0_cons (x : Nat) (y : List Nat) (j : Nat) : at0 (x :: y) j = if j = 0 then x else at0 y (j - 1) := by
  cases j with
  | zero => rfl
  | succ n => simp [at0, List.getD_eq_getElem?_getD]
theorem psize_mod (c : Nat) : (c + psize c) % 64 = 0 := by unfold psize; split <;> omega

/-- the number of bits, as eight bytes, the greatest first: the first k of them -/
def len8 (c : Nat) : Nat → List Nat
  | 0 => []
  | k + 1 => len8 c k ++ [((8 * c) >>> (56 - 8 * k)) % 256]
theorem len8_len (c : Nat) : ∀ k, (len8 c k).length = k
  | 0 => rfl
  | k + 1 => by rw [len8, List.length_append, len8_len c k]; rfl
theorem len8_lt (c : Nat) : ∀ k, Lt 256 (len8 c k)
  | 0 => fun x hx => by simp [len8] at hx
  | k + 1 => fun x hx => by
    rw [len8, List.mem_append] at hx
    rcases hx with hx | hx
    · exact len8_lt c k x hx
    · simp at hx; omega
theorem len8_at (c : Nat) : ∀ k j, j < k → at0 (len8 c k) j = ((8 * c) >>> (56 - 8 * j)) % 256
  | 0, j, h => by omega
  | k + 1, j, h => by
    rw [len8, at0_append, len8_len]
    split
    · exact len8_at c k j (by assumption)
    · obtain rfl : j = k := by omega
      simp [at0]
theorem tlTo_at (c : Nat) : ∀ k j, k ≤ 8 → at0 (tlTo c k) j = if psize c - k ≤ j ∧ j < psize c then ((8 * c) >>> (8 * (psize c - 1 - j))) % 256 else if j = 0 then 128 else 0
  | 0, j, _ => by
    have hn : ¬ (psize c - 0 ≤ j ∧ j < psize c) := by omega
    rw [tlTo_zero, at0_set _ _ _ _ (by rw [zl_len]; decide), at0_zl, if_neg hn]
    by_cases h : j = 0
    · subst h; rfl
    · rw [if_neg h, if_neg (fun e : 0 = j => h e.symm)]
  | k + 1, j, hk => by
    have := psize_lo c
    have := psize_hi c
    rw [tlTo_succ, at0_set _ _ _ _ (by rw [tlTo_len]; omega), tlTo_at c k j (by omega)]
    by_cases e : psize c - 1 - k = j
    · rw [if_pos e, if_pos (by omega)]
      congr 3
      omega
    · rw [if_neg e]
      by_cases h : psize c - k ≤ j ∧ j < psize c
      · rw [if_pos h, if_pos (by omega)]
      · rw [if_neg h, if_neg (by omega : ¬ (psize c - (k + 1) ≤ j ∧ j < psize c))]
theorem pad_eq (c : Nat) : pad c = 128 :: (zl (psize c - 9) ++ len8 c 8) := by
  have h1 := psize_lo c
  have h2 := psize_hi c
  apply list_at0
  · rw [pad_len, List.length_cons, List.length_append, zl_len, len8_len]; omega
  · intro j hj
    rw [pad_len] at hj
    rw [pad_at c j hj, tlTo_at c 8 j (Nat.le_refl _), at0_cons]
    by_cases h0 : j = 0
    · subst h0; rw [if_neg (by omega), if_pos rfl, if_pos rfl]
    · rw [if_neg h0, at0_append, zl_len]
      by_cases h : j - 1 < psize c - 9
      · rw [if_pos h, at0_zl, if_neg (by omega), if_neg h0]
      · rw [if_neg h, len8_at c 8 _ (by omega), if_pos (by omega : psize c - 8 ≤ j ∧ j < psize c), if_neg h0]
        congr 3
        omega
/-- where the noughts end -/
theorem pad_stop (c j : Nat) (h : j ≤ psize c - 9) : (c + 1 + j) % 64 = 56 ↔ j = psize c - 9 := by
  have h1 := psize_lo c
  have h2 := psize_hi c
  have h3 := psize_mod c
  constructor <;> intro h4 <;> omega
theorem len8_walk (c k : Nat) (hc : c < 1152921504606846976) : (((c : Int) * 8) % 18446744073709551616) / 2 ^ (56 - 8 * k) % 256 = ((((8 * c) >>> (56 - 8 * k)) % 256 : Nat) : Int) := by
  rw [show ((c : Int) * 8) % 18446744073709551616 = ((8 * c : Nat) : Int) by omega, Nat.shiftRight_eq_div_pow]
  simp

/-- a word of four bytes, read by the document's way: the first k bytes -/
def be4 (b : List Nat) (i : Nat) : Nat → Nat
  | 0 => 0
  | k + 1 => (be4 b i k * 256 % M + at0 b (4 * i + k)) % M
theorem or_add (a b n : Nat) (h : b < 2 ^ n) : (a <<< n) ||| b = a * 2 ^ n + b := by
  rw [← Nat.shiftLeft_eq]; exact (Nat.shiftLeft_add_eq_or_of_lt h a).symm
theorem be4_eq {b : List Nat} (h : Lt 256 b) (i : Nat) : be4 b i 4 = be b i := by
  have h0 := h.getD (by decide) (4 * i)
  have h1 := h.getD (by decide) (4 * i + 1)
  have h2 := h.getD (by decide) (4 * i + 2)
  have h3 := h.getD (by decide) (4 * i + 3)
  simp only [be4, be, Nat.add_zero]
  generalize at0 b (4 * i) = a at *
  generalize at0 b (4 * i + 1) = b1 at *
  generalize at0 b (4 * i + 2) = c at *
  generalize at0 b (4 * i + 3) = d at *
  rw [Nat.or_assoc, Nat.or_assoc, or_add c d 8 (by omega), or_add b1 _ 16 (by omega), or_add a _ 24 (by omega)]
  unfold M
  omega
/-- the schedule by the document's way: the first sixteen words, one of them in the making -/
def spr4 (b : List Nat) (i k : Nat) : List Nat := if k = 0 then spr b i else (spr b i).set i (be4 b i k)

/-- a whole block behind whole blocks -/
theorem putL_block {s : HS} {x : List Nat} (hr : s.r.length = 64) (hc : s.c % 64 = 0) (hx : x.length = 64) : (putL s x).m = mixL s.m x := by
  have h := putL_piece x s hr (by omega) (by omega)
  rw [h]
  have e : (s.c + x.length) % 64 = 0 := by omega
  simp only
  rw [if_pos e, hc]
  congr 1
  unfold lay
  rw [List.take_zero, List.nil_append, List.drop_of_length_le (by omega), List.append_nil]
theorem putL_r {x : List Nat} {s : HS} (h : s.Ok) (hx : Lt 256 x) : (putL s x).r.length = 64 := (putL_ok h hx).r64
/-- the bytes, filled -/
def filL (l : List Nat) : List Nat := l ++ pad l.length
theorem filL_len (l : List Nat) : (filL l).length = l.length + psize l.length := by rw [filL, List.length_append, pad_len]
theorem filL_lt {l : List Nat} (h : Lt 256 l) : Lt 256 (filL l) := fun x hx => by
  rw [filL, List.mem_append] at hx
  exact hx.elim (h x) (pad_lt _ x)
theorem shaL_fil (l : List Nat) : shaL l = dig (putL hs0 (filL l)).m := by
  unfold shaL sumL filL
  rw [putL_append, putL_c]
  show dig (putL (putL hs0 l) (pad (0 + l.length))).m = _
  rw [Nat.zero_add]
theorem step_block {f : List Nat} {i : Nat} (hf : Lt 256 f) (h : 64 * i + 64 ≤ f.length) :
    (putL hs0 (f.take (64 * i + 64))).m = mixL (putL hs0 (f.take (64 * i))).m ((f.drop (64 * i)).take 64) := by
  have hl : (f.take (64 * i)).length = 64 * i := by rw [List.length_take]; omega
  rw [List.take_add, putL_append]
  refine putL_block (putL_ok hs0_ok (fun x hx => hf x (List.mem_of_mem_take hx))).r64 ?_ (by rw [List.length_take, List.length_drop]; omega)
  rw [putL_c, hl]
  show (0 + 64 * i) % 64 = 0
  omega
attribute [irreducible] len8 be4 spr4 filL
end Go.Sha
