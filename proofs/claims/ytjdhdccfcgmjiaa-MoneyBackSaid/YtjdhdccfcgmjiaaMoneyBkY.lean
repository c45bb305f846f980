/- MoneyBack, all its cases. -/
import Derived.Test.YtjdhdccfcgmjiaaMoneyBkX
namespace Go.Proofs.Ytjdhdccfcgmjiaa
open Go.RowKit Go.Money

theorem tdiv_half (n : Int) : 2 * (n.tdiv 2) ≤ n + 1 ∧ n ≤ 2 * (n.tdiv 2) + 1 ∧ (0 ≤ n → 0 ≤ n.tdiv 2) ∧ (n ≤ 0 → n.tdiv 2 ≤ 0) := by
  by_cases h : 0 ≤ n
  · rw [Int.tdiv_eq_ediv_of_nonneg h]; omega
  · have e : n = -(-n) := by omega
    have e2 : n.tdiv 2 = -((-n) / 2) := by
      conv => lhs; rw [e]
      rw [Int.neg_tdiv, Int.tdiv_eq_ediv_of_nonneg (by omega)]
    rw [e2]; omega
/-- what is told of the three multiples -/
theorem mul_parts {a n : Int} (hm : may a = true) (hp : may (a * n) = true) (hn : i64 n) : ∃ U D h g : Int, n.tdiv 2 = h ∧ -9223372036854775808 ≤ h ∧ h ≤ 9223372036854775807 ∧ n - h = g ∧ -9223372036854775808 ≤ g ∧ g ≤ 9223372036854775807 ∧ i64 h ∧ i64 g ∧ mulO a n = some (a * n) ∧ mulO a h = some U ∧ mulO a g = some D ∧ addO U D = some (a * n) ∧ chk (a * n) = 0 := by
  obtain ⟨n1, n2⟩ := hn
  obtain ⟨t1, t2, t3, t4⟩ := tdiv_half n
  generalize n.tdiv 2 = h at *
  have b1 : -9223372036854775808 ≤ h ∧ h ≤ 9223372036854775807 := by omega
  have b2 : -9223372036854775808 ≤ n - h ∧ n - h ≤ 9223372036854775807 := by omega
  have mU := mul_half (a := a) (n := n) (h := h) hp (by omega)
  have mD := mul_half (a := a) (n := n) (h := n - h) hp (by omega)
  have hs : a * h + a * (n - h) = a * n := by rw [← Int.mul_add]; congr 1; omega
  refine ⟨a * h, a * (n - h), h, n - h, rfl, b1.1, b1.2, rfl, b2.1, b2.2, b1, b2, mulO_some (by rw [hm, hp]; rfl), mulO_some (by rw [hm, mU]; rfl), mulO_some (by rw [hm, mD]; rfl), ?_, chk_t hp⟩
  rw [addO_some (by rw [mU, mD, hs, hp]; rfl), hs]
/-- the sign of a product -/
theorem mul_signs (a n : Int) : (0 < a ∧ 0 < n ∧ 0 < a * n) ∨ (0 < a ∧ n < 0 ∧ a * n < 0) ∨ (a < 0 ∧ 0 < n ∧ a * n < 0) ∨ (a < 0 ∧ n < 0 ∧ 0 < a * n) ∨ (a ≠ 0 ∧ n = 0 ∧ a * n = 0) ∨ (a = 0 ∧ a * n = 0) := by
  rcases Int.lt_trichotomy a 0 with h | h | h
  · rcases Int.lt_trichotomy n 0 with k | k | k
    · exact Or.inr (Or.inr (Or.inr (Or.inl ⟨h, k, Int.mul_pos_of_neg_of_neg h k⟩)))
    · exact Or.inr (Or.inr (Or.inr (Or.inr (Or.inl ⟨by omega, k, by rw [k, Int.mul_zero]⟩))))
    · exact Or.inr (Or.inr (Or.inl ⟨h, k, Int.mul_neg_of_neg_of_pos h k⟩))
  · exact Or.inr (Or.inr (Or.inr (Or.inr (Or.inr ⟨h, by rw [h, Int.zero_mul]⟩))))
  · rcases Int.lt_trichotomy n 0 with k | k | k
    · exact Or.inr (Or.inl ⟨h, k, Int.mul_neg_of_pos_of_neg h k⟩)
    · exact Or.inr (Or.inr (Or.inr (Or.inr (Or.inl ⟨by omega, k, by rw [k, Int.mul_zero]⟩))))
    · exact Or.inl ⟨h, k, Int.mul_pos h k⟩
theorem bne {x : Int} (h : x ≠ 0) : (x == 0) = false := by simpa using h
theorem beq {x : Int} (h : x = 0) : (x == 0) = true := by simpa using h
theorem mnback_any (a b n : Int) (w : World) (ha : i64 a) (hb : i64 b) (hn : i64 n) : Calls Try.prog 5 #[iv a, iv b, iv n] w fun e w' => e = .returned (.bool true) ∧ Below w.heap.size w w' := by
  by_cases hA : (may a && may b && may (a + b)) = true
  · have EA := addO_some hA
    have EC := (addO_comm a b).trans EA
    simp only [Bool.and_eq_true] at hA
    have EB := subO_back hA.1.1 hA.1.2 hA.2
    have KS := chk_t hA.2
    have five : (0 < a ∧ 0 < b) ∨ (0 < a ∧ b ≤ 0) ∨ (0 ≤ a ∧ a ≤ 0) ∨ (a < 0 ∧ b < 0) ∨ (a < 0 ∧ 0 ≤ b) := by omega
    clear hA
    rcases five with ⟨s1, s2⟩ | ⟨s1, s2⟩ | ⟨s1, s2⟩ | ⟨s1, s2⟩ | ⟨s1, s2⟩
    · by_cases hm : (may a && may (a * n)) = true
      · rw [Bool.and_eq_true] at hm
        obtain ⟨U, D, h, g, hh, h1, h2, hg, g1, g2, HH, HG, EP, EU, ED, ES, KP⟩ := mul_parts hm.1 hm.2 hn
        rcases mul_signs a n with ⟨k1, k2, k3⟩ | ⟨k1, k2, k3⟩ | ⟨k1, k2, k3⟩ | ⟨k1, k2, k3⟩ | ⟨k1, k2, k3⟩ | ⟨k1, k3⟩
        · exact mnback_p1_m1 a b n w ha hb hn EA EC EB KS (a * n) U D h g hh h1 h2 hg g1 g2 HH HG EP EU ED ES KP s1 s2 k1 k2 k3 (bne (by omega)) (bne (by omega)) (bne (by omega))
        · exact mnback_p1_m2 a b n w ha hb hn EA EC EB KS (a * n) U D h g hh h1 h2 hg g1 g2 HH HG EP EU ED ES KP s1 s2 k1 k2 k3 (bne (by omega)) (bne (by omega)) (bne (by omega))
        · omega
        · omega
        · exact mnback_p1_m5 a b n w ha hb hn EA EC EB KS (a * n) U D h g hh h1 h2 hg g1 g2 HH HG EP EU ED ES KP s1 s2 (beq k3) (bne k1) (beq k2)
        · omega
      · have hm2 : (may a && may (a * n)) = false := by simpa using hm
        exact mnback_p1_n a b n w ha hb hn EA EC EB KS (mulO_none hm2) s1 s2
    · by_cases hm : (may a && may (a * n)) = true
      · rw [Bool.and_eq_true] at hm
        obtain ⟨U, D, h, g, hh, h1, h2, hg, g1, g2, HH, HG, EP, EU, ED, ES, KP⟩ := mul_parts hm.1 hm.2 hn
        rcases mul_signs a n with ⟨k1, k2, k3⟩ | ⟨k1, k2, k3⟩ | ⟨k1, k2, k3⟩ | ⟨k1, k2, k3⟩ | ⟨k1, k2, k3⟩ | ⟨k1, k3⟩
        · exact mnback_p2_m1 a b n w ha hb hn EA EC EB KS (a * n) U D h g hh h1 h2 hg g1 g2 HH HG EP EU ED ES KP s1 s2 k1 k2 k3 (bne (by omega)) (bne (by omega)) (bne (by omega))
        · exact mnback_p2_m2 a b n w ha hb hn EA EC EB KS (a * n) U D h g hh h1 h2 hg g1 g2 HH HG EP EU ED ES KP s1 s2 k1 k2 k3 (bne (by omega)) (bne (by omega)) (bne (by omega))
        · omega
        · omega
        · exact mnback_p2_m5 a b n w ha hb hn EA EC EB KS (a * n) U D h g hh h1 h2 hg g1 g2 HH HG EP EU ED ES KP s1 s2 (beq k3) (bne k1) (beq k2)
        · omega
      · have hm2 : (may a && may (a * n)) = false := by simpa using hm
        exact mnback_p2_n a b n w ha hb hn EA EC EB KS (mulO_none hm2) s1 s2
    · by_cases hm : (may a && may (a * n)) = true
      · rw [Bool.and_eq_true] at hm
        obtain ⟨U, D, h, g, hh, h1, h2, hg, g1, g2, HH, HG, EP, EU, ED, ES, KP⟩ := mul_parts hm.1 hm.2 hn
        rcases mul_signs a n with ⟨k1, k2, k3⟩ | ⟨k1, k2, k3⟩ | ⟨k1, k2, k3⟩ | ⟨k1, k2, k3⟩ | ⟨k1, k2, k3⟩ | ⟨k1, k3⟩
        · omega
        · omega
        · omega
        · omega
        · omega
        · exact mnback_p3_m6 a b n w ha hb hn EA EC EB KS (a * n) U D h g hh h1 h2 hg g1 g2 HH HG EP EU ED ES KP s1 s2 (beq k3) (beq k1)
      · have hm2 : (may a && may (a * n)) = false := by simpa using hm
        exact mnback_p3_n a b n w ha hb hn EA EC EB KS (mulO_none hm2) s1 s2
    · by_cases hm : (may a && may (a * n)) = true
      · rw [Bool.and_eq_true] at hm
        obtain ⟨U, D, h, g, hh, h1, h2, hg, g1, g2, HH, HG, EP, EU, ED, ES, KP⟩ := mul_parts hm.1 hm.2 hn
        rcases mul_signs a n with ⟨k1, k2, k3⟩ | ⟨k1, k2, k3⟩ | ⟨k1, k2, k3⟩ | ⟨k1, k2, k3⟩ | ⟨k1, k2, k3⟩ | ⟨k1, k3⟩
        · omega
        · omega
        · exact mnback_p4_m3 a b n w ha hb hn EA EC EB KS (a * n) U D h g hh h1 h2 hg g1 g2 HH HG EP EU ED ES KP s1 s2 k1 k2 k3 (bne (by omega)) (bne (by omega)) (bne (by omega))
        · exact mnback_p4_m4 a b n w ha hb hn EA EC EB KS (a * n) U D h g hh h1 h2 hg g1 g2 HH HG EP EU ED ES KP s1 s2 k1 k2 k3 (bne (by omega)) (bne (by omega)) (bne (by omega))
        · exact mnback_p4_m5 a b n w ha hb hn EA EC EB KS (a * n) U D h g hh h1 h2 hg g1 g2 HH HG EP EU ED ES KP s1 s2 (beq k3) (bne k1) (beq k2)
        · omega
      · have hm2 : (may a && may (a * n)) = false := by simpa using hm
        exact mnback_p4_n a b n w ha hb hn EA EC EB KS (mulO_none hm2) s1 s2
    · by_cases hm : (may a && may (a * n)) = true
      · rw [Bool.and_eq_true] at hm
        obtain ⟨U, D, h, g, hh, h1, h2, hg, g1, g2, HH, HG, EP, EU, ED, ES, KP⟩ := mul_parts hm.1 hm.2 hn
        rcases mul_signs a n with ⟨k1, k2, k3⟩ | ⟨k1, k2, k3⟩ | ⟨k1, k2, k3⟩ | ⟨k1, k2, k3⟩ | ⟨k1, k2, k3⟩ | ⟨k1, k3⟩
        · omega
        · omega
        · exact mnback_p5_m3 a b n w ha hb hn EA EC EB KS (a * n) U D h g hh h1 h2 hg g1 g2 HH HG EP EU ED ES KP s1 s2 k1 k2 k3 (bne (by omega)) (bne (by omega)) (bne (by omega))
        · exact mnback_p5_m4 a b n w ha hb hn EA EC EB KS (a * n) U D h g hh h1 h2 hg g1 g2 HH HG EP EU ED ES KP s1 s2 k1 k2 k3 (bne (by omega)) (bne (by omega)) (bne (by omega))
        · exact mnback_p5_m5 a b n w ha hb hn EA EC EB KS (a * n) U D h g hh h1 h2 hg g1 g2 HH HG EP EU ED ES KP s1 s2 (beq k3) (bne k1) (beq k2)
        · omega
      · have hm2 : (may a && may (a * n)) = false := by simpa using hm
        exact mnback_p5_n a b n w ha hb hn EA EC EB KS (mulO_none hm2) s1 s2
  · have hA2 : (may a && may b && may (a + b)) = false := by simpa using hA
    have EA := addO_none hA2
    have EC := (addO_comm a b).trans EA
    clear hA hA2
    by_cases hm : (may a && may (a * n)) = true
    · rw [Bool.and_eq_true] at hm
      obtain ⟨U, D, h, g, hh, h1, h2, hg, g1, g2, HH, HG, EP, EU, ED, ES, KP⟩ := mul_parts hm.1 hm.2 hn
      rcases mul_signs a n with ⟨k1, k2, k3⟩ | ⟨k1, k2, k3⟩ | ⟨k1, k2, k3⟩ | ⟨k1, k2, k3⟩ | ⟨k1, k2, k3⟩ | ⟨k1, k3⟩
      · exact mnback_n_m1 a b n w ha hb hn EA EC (a * n) U D h g hh h1 h2 hg g1 g2 HH HG EP EU ED ES KP k1 k2 k3 (bne (by omega)) (bne (by omega)) (bne (by omega))
      · exact mnback_n_m2 a b n w ha hb hn EA EC (a * n) U D h g hh h1 h2 hg g1 g2 HH HG EP EU ED ES KP k1 k2 k3 (bne (by omega)) (bne (by omega)) (bne (by omega))
      · exact mnback_n_m3 a b n w ha hb hn EA EC (a * n) U D h g hh h1 h2 hg g1 g2 HH HG EP EU ED ES KP k1 k2 k3 (bne (by omega)) (bne (by omega)) (bne (by omega))
      · exact mnback_n_m4 a b n w ha hb hn EA EC (a * n) U D h g hh h1 h2 hg g1 g2 HH HG EP EU ED ES KP k1 k2 k3 (bne (by omega)) (bne (by omega)) (bne (by omega))
      · exact mnback_n_m5 a b n w ha hb hn EA EC (a * n) U D h g hh h1 h2 hg g1 g2 HH HG EP EU ED ES KP (beq k3) (bne k1) (beq k2)
      · exact mnback_n_m6 a b n w ha hb hn EA EC (a * n) U D h g hh h1 h2 hg g1 g2 HH HG EP EU ED ES KP (beq k3) (beq k1)
    · have hm2 : (may a && may (a * n)) = false := by simpa using hm
      exact mnback_n_n a b n w ha hb hn EA EC (mulO_none hm2)
end Go.Proofs.Ytjdhdccfcgmjiaa
