/- Division of two words by one, digit by digit (half a word each): the plain reckoning. -/
import Derived.Test.YtpapcilffkpjjaaMoneyPure
namespace Go.Money

theorem digit_lt {B u w Y : Nat} (hu : u < Y) (hw : w < B) : (u * B + w) / Y < B := by
  have hY : 0 < Y := by omega
  refine (Nat.div_lt_iff_lt_mul hY).2 ?_
  have h : (u + 1) * B ≤ Y * B := Nat.mul_le_mul_right _ hu
  rw [Nat.mul_comm B, Nat.lt_iff_add_one_le]
  rw [Nat.add_mul] at h
  omega
theorem digit_eq {B Q R u v1 v0 : Nat} (h1 : Q * v1 + R = u) : Q * (v1 * B + v0) + R * B = u * B + Q * v0 := by
  subst h1; grind
theorem digit_go {B Q R u w v1 v0 : Nat} (h1 : Q * v1 + R = u) (hu : u < v1 * B + v0) (hw : w < B) (h : B ≤ Q ∨ R * B + w < Q * v0) : (u * B + w) / (v1 * B + v0) ≤ Q - 1 ∧ 1 ≤ Q := by
  have hd := digit_eq (B := B) (v0 := v0) h1
  have hlt : (u * B + w) / (v1 * B + v0) < Q := by
    rcases h with h | h
    · exact Nat.lt_of_lt_of_le (digit_lt hu hw) h
    · generalize v1 * B + v0 = Y at *
      have hY : 0 < Y := by omega
      refine (Nat.div_lt_iff_lt_mul hY).2 ?_
      omega
  exact ⟨Nat.le_sub_one_of_lt hlt, Nat.lt_of_le_of_lt (Nat.zero_le _) hlt⟩
theorem digit_stop {B Q R u w v1 v0 : Nat} (h1 : Q * v1 + R = u) (hp : 0 < v1 * B + v0) (h : Q * v0 ≤ R * B + w) (ht : (u * B + w) / (v1 * B + v0) ≤ Q) : Q = (u * B + w) / (v1 * B + v0) := by
  have hd := digit_eq (B := B) (v0 := v0) h1
  generalize v1 * B + v0 = Y at *
  refine Nat.le_antisymm ?_ ht
  refine (Nat.le_div_iff_mul_le hp).2 ?_
  omega
theorem digit_break {B Q R u w v1 v0 : Nat} (h1 : Q * v1 + R = u) (hp : 0 < v1 * B + v0) (hQ : Q ≤ B) (h0 : v0 ≤ B) (hR : B ≤ R) (ht : (u * B + w) / (v1 * B + v0) ≤ Q) : Q = (u * B + w) / (v1 * B + v0) := by
  refine digit_stop h1 hp ?_ ht
  have h2 : Q * v0 ≤ B * B := Nat.mul_le_mul hQ h0
  have h3 : B * B ≤ R * B := Nat.mul_le_mul_right _ hR
  omega
theorem digit_top {B Q R u w v1 v0 : Nat} (h1 : Q * v1 + R = u) (hR : R < v1) (hB : 0 < B) (hw : w < B) : (u * B + w) / (v1 * B + v0) ≤ Q := by
  have hp : 0 < v1 * B := Nat.mul_pos (by omega) hB
  have hY : 0 < v1 * B + v0 := by omega
  refine Nat.le_of_lt_succ ((Nat.div_lt_iff_lt_mul hY).2 ?_)
  have hd := digit_eq (B := B) (v0 := v0) h1
  have h2 : (R + 1) * B ≤ v1 * B := Nat.mul_le_mul_right _ hR
  rw [Nat.succ_mul]
  rw [Nat.add_mul] at h2
  have h3 : Q * v0 ≤ Q * v0 + v0 := Nat.le_add_right _ _
  generalize Q * (v1 * B + v0) = a at *
  omega
theorem digit_dec {Q R u v1 : Nat} (h1 : Q * v1 + R = u) (hQ : 1 ≤ Q) : (Q - 1) * v1 + (R + v1) = u := by
  obtain ⟨m, rfl⟩ : ∃ m, Q = m + 1 := ⟨Q - 1, by omega⟩
  rw [← h1, Nat.add_sub_cancel, Nat.add_mul]; omega
theorem prod_le {Q v0 : Nat} (h1 : Q ≤ 4294967295) (h2 : v0 ≤ 4294967295) : (Q : Int) * (v0 : Int) ≤ 18446744065119617025 := by
  have h : Q * v0 ≤ 4294967295 * 4294967295 := Nat.mul_le_mul h1 h2
  have e : ((Q * v0 : Nat) : Int) = (Q : Int) * (v0 : Int) := Int.natCast_mul ..
  omega
theorem digit_first {u v1 v0 : Nat} (hu : u < v1 * 4294967296 + v0) (hv : 2147483648 ≤ v1) (h0 : v0 < 4294967296) : u / v1 ≤ 4294967297 := by
  have h : u < 4294967298 * v1 := by omega
  have h2 : u / v1 < 4294967298 := (Nat.div_lt_iff_lt_mul (by omega)).2 h
  omega
theorem dv_or (A B s : Nat) (h : B < 2 ^ s) : A * 2 ^ s ||| B = A * 2 ^ s + B := by
  rw [Nat.mul_comm, ← Nat.two_pow_add_eq_or_of_lt h]
theorem dv_low' {W p q lo : Nat} (e : q * p = W) (hp : 0 < p) (hq : 0 < q) (hl : lo < W) : lo / p < q ∧ lo * q = (lo / p) * W + lo * q % W := by
  refine ⟨(Nat.div_lt_iff_lt_mul hp).2 (by rw [e]; exact hl), ?_⟩
  have h1 : lo = lo / p * p + lo % p := by rw [Nat.mul_comm]; exact (Nat.div_add_mod lo p).symm
  have h2 : lo % p < p := Nat.mod_lt _ hp
  have h3 : lo * q = lo % p * q + (lo / p) * W := by
    conv => lhs; rw [h1]
    rw [← e]; grind
  have h4 : lo % p * q < W := by
    rw [← e, Nat.mul_comm q]; exact Nat.mul_lt_mul_of_pos_right h2 hq
  rw [h3, Nat.add_mul_mod_self_right, Nat.mod_eq_of_lt h4, Nat.add_comm]
theorem dv_low (lo s : Nat) (hs : s ≤ 63) (hl : lo < 18446744073709551616) : lo / 2 ^ (64 - s) < 2 ^ s ∧ lo * 2 ^ s = (lo / 2 ^ (64 - s)) * 18446744073709551616 + lo * 2 ^ s % 18446744073709551616 := by
  have e : 2 ^ s * 2 ^ (64 - s) = 18446744073709551616 := by rw [← Nat.pow_add, show s + (64 - s) = 64 by omega]
  exact dv_low' e (Nat.two_pow_pos _) (Nat.two_pow_pos _) hl
/-- the quotient, and what is left, out of the two digits -/
theorem dv_fin {B N y P Y u C w1 w0 : Nat} (hy : 0 < y) (hP : 0 < P) (hY : Y = y * P) (hU : N * P = u * (B * B) + C) (hC : C = w1 * B + w0) :
    N / y = (u * B + w1) / Y * B + ((u * B + w1) % Y * B + w0) / Y ∧ N % y = ((u * B + w1) % Y * B + w0) % Y / P := by
  have hYp : 0 < Y := by rw [hY]; exact Nat.mul_pos hy hP
  have h1 : N * P = ((u * B + w1) % Y * B + w0) + (u * B + w1) / Y * B * Y := by
    have h := Nat.div_add_mod (u * B + w1) Y
    rw [hU, hC]
    generalize (u * B + w1) / Y = d at *
    generalize (u * B + w1) % Y = m at *
    grind
  have hd : N / y = N * P / Y := by rw [hY, Nat.mul_div_mul_right _ _ hP]
  have hm : N % y = N * P % Y / P := by rw [hY, Nat.mul_mod_mul_right, Nat.mul_div_cancel _ hP]
  rw [hd, hm, h1, Nat.add_mul_div_right _ _ hYp, Nat.add_mul_mod_self_right]
  exact ⟨by omega, rfl⟩
end Go.Money
