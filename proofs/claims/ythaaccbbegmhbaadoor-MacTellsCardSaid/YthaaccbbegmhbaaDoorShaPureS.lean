/- More plain facts of the document's own way to a digest: the bytes filled step by step, the words made byte by byte, the sum of words. -/
import Derived.Test.YthaaccbbegmhbaaDoorShaPureR
namespace Go.Sha

def pa (l : List Nat) (j : Nat) : List Nat := l ++ (128 :: zl j)
def pb (l : List Nat) (t : Nat) : List Nat := l ++ (128 :: (zl (psize l.length - 9) ++ len8 l.length t))
theorem zl_snoc (j : Nat) : zl j ++ [0] = zl (j + 1) := by
  unfold zl
  rw [List.replicate_succ']
theorem pa_zero (l : List Nat) : l ++ [128] = pa l 0 := by unfold pa zl; rfl
theorem pa_succ (l : List Nat) (j : Nat) : pa l j ++ [0] = pa l (j + 1) := by
  unfold pa
  rw [List.append_assoc, List.cons_append, zl_snoc]
theorem pa_len (l : List Nat) (j : Nat) : (pa l j).length = l.length + 1 + j := by unfold pa; rw [List.length_append, List.length_cons, zl_len]; omega
theorem pb_zero (l : List Nat) : pa l (psize l.length - 9) = pb l 0 := by unfold pa pb len8; rw [List.append_nil]
theorem pb_succ (l : List Nat) (t : Nat) : pb l t ++ [((8 * l.length) >>> (56 - 8 * t)) % 256] = pb l (t + 1) := by
  unfold pb
  conv => rhs; unfold len8
  simp
theorem pb_all (l : List Nat) : pb l 8 = filL l := by unfold pb filL; rw [pad_eq]
theorem pb_len (l : List Nat) (t : Nat) : (pb l t).length = l.length + 1 + (psize l.length - 9) + t := by
  unfold pb; rw [List.length_append, List.length_cons, List.length_append, zl_len, len8_len]; omega

theorem spr_rest (b : List Nat) : ∀ k j, k ≤ j → at0 (spr b k) j = 0
  | 0, j, _ => by rw [spr_zero, at0_zl]
  | k + 1, j, h => by
    have hl := spr_len b k
    by_cases hk : k < 64
    · rw [spr, at0_set _ _ _ _ (by rw [hl]; exact hk), if_neg (by omega)]; exact spr_rest b k j (by omega)
    · rw [spr, List.set_eq_of_length_le (by rw [hl]; omega)]; exact spr_rest b k j (by omega)
theorem spr4_zero (b : List Nat) (i : Nat) : spr4 b i 0 = spr b i := by unfold spr4; rfl
theorem spr4_len (b : List Nat) (i k : Nat) : (spr4 b i k).length = 64 := by unfold spr4; split <;> simp [spr_len]
theorem be4_zero (b : List Nat) (i : Nat) : be4 b i 0 = 0 := by unfold be4; rfl
theorem be4_succ (b : List Nat) (i k : Nat) : be4 b i (k + 1) = (be4 b i k * 256 % M + at0 b (4 * i + k)) % M := by conv => lhs; unfold be4
theorem spr4_at (b : List Nat) (i k : Nat) (hi : i < 16) : at0 (spr4 b i k) i = be4 b i k := by
  unfold spr4
  split
  · rename_i h; subst h; rw [be4_zero, spr_rest b i i (Nat.le_refl _)]
  · rw [at0_set _ _ _ _ (by rw [spr_len]; omega), if_pos rfl]
theorem spr4_succ (b : List Nat) (i k : Nat) : (spr4 b i k).set i (be4 b i (k + 1)) = spr4 b i (k + 1) := by
  unfold spr4
  rw [if_neg (by omega : ¬ k + 1 = 0)]
  split
  · rfl
  · rw [List.set_set]
theorem spr4_all {b : List Nat} (h : Lt 256 b) (i : Nat) (hi : i < 16) : spr4 b i 4 = spr b (i + 1) := by
  unfold spr4
  rw [if_neg (by decide), be4_eq h, spr, if_pos hi]
theorem be4_lt (b : List Nat) (i : Nat) : ∀ k, be4 b i k < M
  | 0 => by rw [be4_zero]; decide
  | k + 1 => by rw [be4_succ]; exact mod_lt _
theorem be4_walk (b : List Nat) (i k : Nat) : ((((be4 b i k : Nat) : Int) * 256) % 4294967296 + ((at0 b (4 * i + k) : Nat) : Int)) % 4294967296 = ((be4 b i (k + 1) : Nat) : Int) := by
  rw [be4_succ]; simp [M]

/-- the words added, the other way round -/
def rfold (was now : List Nat) : Nat → List Nat
  | 0 => was
  | k + 1 => (rfold was now k).set k ((at0 (rfold was now k) k + at0 now k) % M)
theorem rfold_zero (was now : List Nat) : rfold was now 0 = was := rfl
theorem rfold_succ (was now : List Nat) (k : Nat) : rfold was now (k + 1) = (rfold was now k).set k ((at0 (rfold was now k) k + at0 now k) % M) := rfl
theorem rfold_len (was : List Nat) {now : List Nat} : ∀ k, (rfold was now k).length = was.length
  | 0 => rfl
  | k + 1 => by rw [rfold_succ, List.length_set]; exact rfold_len was k
theorem rfold_at {was : List Nat} (now : List Nat) (h : was.length = 8) : ∀ k i, k ≤ 8 → at0 (rfold was now k) i = if i < k then (at0 was i + at0 now i) % M else at0 was i
  | 0, i, _ => by rw [rfold_zero, if_neg (by omega)]
  | k + 1, i, hk => by
    rw [rfold_succ, at0_set _ _ _ _ (by rw [rfold_len, h]; omega), rfold_at now h k k (by omega), rfold_at now h k i (by omega), if_neg (Nat.lt_irrefl k)]
    by_cases e : k = i
    · subst e; rw [if_pos rfl, if_pos (by omega)]
    · rw [if_neg e]
      by_cases h2 : i < k
      · rw [if_pos h2, if_pos (by omega)]
      · rw [if_neg h2, if_neg (by omega)]
theorem fold_at (was : List Nat) {now : List Nat} (h : now.length = 8) : ∀ k i, k ≤ 8 → at0 (fold was now k) i = if i < k then (at0 now i + at0 was i) % M else at0 now i
  | 0, i, _ => by rw [fold_zero, if_neg (by omega)]
  | k + 1, i, hk => by
    rw [fold_succ, at0_set _ _ _ _ (by rw [fold_len, h]; omega), fold_at was h k k (by omega), fold_at was h k i (by omega), if_neg (Nat.lt_irrefl k)]
    by_cases e : k = i
    · subst e; rw [if_pos rfl, if_pos (by omega)]
    · rw [if_neg e]
      by_cases h2 : i < k
      · rw [if_pos h2, if_pos (by omega)]
      · rw [if_neg h2, if_neg (by omega)]
theorem rfold_fold {was now : List Nat} (h : was.length = 8) (h2 : now.length = 8) : rfold was now 8 = fold was now 8 := by
  apply list_at0
  · rw [rfold_len, fold_len, h, h2]
  · intro j hj
    rw [rfold_len, h] at hj
    rw [rfold_at now h 8 j (Nat.le_refl _), fold_at was h2 8 j (Nat.le_refl _), if_pos hj, if_pos hj, Nat.add_comm]
theorem mixL_rfold {was : List Nat} (b : List Nat) (h : was.length = 8) : rfold was (rds KON (spr b 64) was 64) 8 = mixL was b := by
  rw [rfold_fold h (rds_len _ _ h 64)]; unfold mixL; rfl
theorem rfold_lt {was : List Nat} (now : List Nat) (h : Lt M was) : ∀ k, Lt M (rfold was now k)
  | 0 => h
  | k + 1 => by rw [rfold_succ]; exact (rfold_lt now h k).set _ _ (mod_lt _)
attribute [irreducible] pa pb rfold
end Go.Sha
