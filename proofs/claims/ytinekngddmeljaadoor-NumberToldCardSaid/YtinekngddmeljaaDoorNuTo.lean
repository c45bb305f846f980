/- What one digit that is another one, or two neighbours that changed places, do to a number. -/
import Derived.Test.YtinekngddmeljaaDoorNuPure
namespace Go.Number

theorem val_mid (a : Tx) (y : UInt8) (b : Tx) : val (a ++ y :: b) = (val a * 10 + (dv y).1) * 10 ^ b.length + val b := by
  have e : a ++ y :: b = (a ++ [y]) ++ b := by simp
  rw [e, val_app, val_app]
  show (val a * 10 ^ 1 + sumD [dv y]) * _ + _ = _
  simp [sumD]
theorem set_mid {l : Tx} {k : Nat} (hk : k < l.length) (x : UInt8) : l.set k x = l.take k ++ x :: l.drop (k + 1) := by
  rw [List.set_eq_take_append_cons_drop, if_pos hk]
theorem get_mid {l : Tx} {k : Nat} (hk : k < l.length) : l = l.take k ++ l[k] :: l.drop (k + 1) := by
  rw [List.getElem_cons_drop, List.take_append_drop]
theorem alg_set (A P B x y : Int) : (A * 10 + x) * P + B = (A * 10 + y) * P + B + (x - y) * P := by grind
theorem val_set {l : Tx} {k : Nat} (hk : k < l.length) (x : UInt8) : (val (l.set k x) : Int) = (val l : Int) + (((dv x).1 : Int) - ((dv l[k]).1 : Int)) * 10 ^ (l.length - (k + 1)) := by
  have e2 : val l = (val (l.take k) * 10 + (dv l[k]).1) * 10 ^ (l.length - (k + 1)) + val (l.drop (k + 1)) := by
    conv => lhs; rw [get_mid hk]
    rw [val_mid, List.length_drop]
  rw [set_mid hk, val_mid, e2, List.length_drop]
  push_cast
  exact alg_set _ _ _ _ _
theorem p7 (z : Int) (n : Nat) : z * 10 ^ n % 7 = 0 ↔ z % 7 = 0 := by
  induction n with
  | zero => simp
  | succ n ih =>
    rw [Int.pow_succ, ← Int.mul_assoc]
    generalize z * 10 ^ n = X at *
    omega
/-- a number that is right: its fourteen digits -/
structure Right (m : Tx) : Prop where
  len : m.length = 14
  all : m.all dgt = true
  chk : val (m.drop 13) = chk (m.take 13)
theorem right_full {c s : Nat} : Right (full c s) := ⟨full_len c s, full_all c s, by
  have := chk_lt (body c s)
  rw [full_drop, full_take, val_last, Nat.pow_one, Nat.mod_eq_of_lt (by omega)]⟩
theorem code70 {l : Tx} (h1 : l.length = 14) (h2 : l.all dgt = true) : (parseL l).2.2 = 70 ↔ val (l.drop 13) ≠ chk (l.take 13) := by
  unfold parseL
  rw [if_neg (by simp [h1, h2])]
  split
  · rename_i h; simp [h]
  · rename_i h
    split <;> simp [h]
theorem set_all {l : Tx} {k : Nat} {x : UInt8} (h : l.all dgt = true) (hx : dgt x = true) : (l.set k x).all dgt = true := by
  rw [List.all_eq_true] at h ⊢
  intro y hy
  rcases List.mem_or_eq_of_mem_set hy with h1 | h1
  · exact h y h1
  · rw [h1]; exact hx
theorem take_set13 {m : Tx} (k : Nat) (x : UInt8) : (m.set k x).take 13 = (m.take 13).set k x := List.take_set
theorem get13 {m : Tx} {k : Nat} (h : k < 13) (h14 : m.length = 14) : (m.take 13)[k]'(by rw [List.length_take]; omega) = m[k]'(by omega) := by simp
theorem told_low {m : Tx} (R : Right m) {k : Nat} (hk : k < 13) {x : UInt8} (hx : dgt x = true) :
    (parseL (m.set k x)).2.2 = 70 ↔ (((dv x).1 : Int) - ((dv (m[k]'(by have := R.len; omega))).1 : Int)) % 7 ≠ 0 := by
  have hl := R.len
  rw [code70 (by rw [List.length_set]; exact hl) (set_all R.all hx)]
  have e1 : (m.set k x).drop 13 = m.drop 13 := List.drop_set_of_lt hk
  have hk2 : k < (m.take 13).length := by rw [List.length_take]; omega
  have e2 := val_set hk2 x
  rw [e1, R.chk, take_set13]
  unfold chk
  simp only [List.getElem_take] at e2
  have e3 := p7 (((dv x).1 : Int) - ((dv m[k]).1 : Int)) ((m.take 13).length - (k + 1))
  generalize (((dv x).1 : Int) - ((dv m[k]).1 : Int)) * 10 ^ ((m.take 13).length - (k + 1)) = X at *
  omega
theorem told_last {m : Tx} (R : Right m) {x : UInt8} (hx : dgt x = true) :
    (parseL (m.set 13 x)).2.2 = 70 ↔ (dv x).1 ≠ (dv (m[13]'(by have := R.len; omega))).1 := by
  have hl := R.len
  have h13 : 13 < m.length := by omega
  rw [code70 (by rw [List.length_set]; exact hl) (set_all R.all hx)]
  have e1 : (m.set 13 x).drop 13 = [x] := by rw [set_mid h13, List.drop_left' (by rw [List.length_take]; omega), List.drop_of_length_le (by omega)]
  have e2 : (m.set 13 x).take 13 = m.take 13 := by rw [set_mid h13, List.take_left' (by rw [List.length_take]; omega)]
  have e3 : m.drop 13 = [m[13]] := by rw [List.drop_eq_getElem_cons h13, List.drop_of_length_le (by omega)]
  have e4 : ∀ y : UInt8, val [y] = (dv y).1 := fun y => by simp [val, sumD]
  rw [e1, e2, ← R.chk, e3, e4, e4]
theorem told_same {m : Tx} (R : Right m) (h0 : (parseL m).2.2 = 0) {k : Nat} (hk : k < 14) {x : UInt8} (hx : dgt x = true) (he : (dv x).1 = (dv (m[k]'(by have := R.len; omega))).1) : (parseL (m.set k x)).2.2 = 0 := by
  have hl := R.len
  have hkl : k < m.length := by omega
  have g : dgt m[k] = true := List.all_eq_true.1 R.all _ (List.getElem_mem hkl)
  have : x = m[k] := by rw [(of_dgt hx).1, (of_dgt g).1, he]
  rw [this, List.set_getElem_self, h0]
/-- what NumberTold asks of one digit -/
theorem told_one {m : Tx} (R : Right m) (h0 : (parseL m).2.2 = 0) {k : Nat} (hk : k < 14) {x : UInt8} (hx : dgt x = true) (F : Int) (hF : F = ((dv x).1 : Int) - ((dv (m[k]'(by have := R.len; omega))).1 : Int)) :
    (F % 7 ≠ 0 ∧ (parseL (m.set k x)).2.2 = 70) ∨ (F = 0 ∧ (parseL (m.set k x)).2.2 = 0) ∨ (F ≠ 0 ∧ F % 7 = 0 ∧ k < 13 ∧ (parseL (m.set k x)).2.2 ≠ 70) ∨ (F ≠ 0 ∧ F % 7 = 0 ∧ k = 13) := by
  have hl := R.len
  have b1 := (dv x).2
  have b2 := (dv (m[k]'(by omega))).2
  by_cases hz : F = 0
  · exact .inr (.inl ⟨hz, told_same R h0 hk hx (by omega)⟩)
  by_cases h7 : F % 7 = 0
  · by_cases h13 : k < 13
    · refine .inr (.inr (.inl ⟨hz, h7, h13, fun h => ?_⟩))
      exact (told_low R h13 hx).1 h (by rw [← hF]; exact h7)
    · exact .inr (.inr (.inr ⟨hz, h7, by omega⟩))
  · refine .inl ⟨h7, ?_⟩
    by_cases h13 : k < 13
    · exact (told_low R h13 hx).2 (by rw [← hF]; exact h7)
    · obtain rfl : k = 13 := by omega
      exact (told_last R hx).2 (by omega)
theorem alg_swap (z P : Int) : z * (P * 10) + -z * P = z * 9 * P := by grind
theorem swap7 (z : Int) (n : Nat) : (z * 10 ^ (n + 1) + -z * 10 ^ n) % 7 = 0 ↔ z % 7 = 0 := by
  rw [Int.pow_succ, alg_swap, p7]; omega
/-- what it asks of two neighbours -/
theorem told_two {m : Tx} (R : Right m) {k : Nat} (hk : k ≤ 11) (F : Int) (hF : F = ((dv (m[k]'(by have := R.len; omega))).1 : Int) - ((dv (m[k + 1]'(by have := R.len; omega))).1 : Int)) :
    (parseL ((m.set k (m[k + 1]'(by have := R.len; omega))).set (k + 1) (m[k]'(by have := R.len; omega)))).2.2 = 70 ↔ F % 7 ≠ 0 := by
  have hl := R.len
  have g : ∀ (j : Nat) (h : j < m.length), dgt m[j] = true := fun j h => List.all_eq_true.1 R.all _ (List.getElem_mem h)
  have g0 := g k (by omega)
  have g1 := g (k + 1) (by omega)
  rw [code70 (by rw [List.length_set, List.length_set]; exact hl) (set_all (set_all R.all g1) g0)]
  have e1 : ((m.set k m[k + 1]).set (k + 1) m[k]).drop 13 = m.drop 13 := by rw [List.drop_set_of_lt (by omega), List.drop_set_of_lt (by omega)]
  have hk2 : k < (m.take 13).length := by rw [List.length_take]; omega
  have hk3 : k + 1 < ((m.take 13).set k m[k + 1]).length := by rw [List.length_set, List.length_take]; omega
  have e2 := val_set hk2 m[k + 1]
  have e3 := val_set hk3 m[k]
  rw [List.getElem_set_ne (by omega)] at e3
  simp only [List.getElem_take, List.length_set] at e2 e3
  have e4 := swap7 (((dv m[k + 1]).1 : Int) - ((dv m[k]).1 : Int)) ((m.take 13).length - (k + 1 + 1))
  rw [show (m.take 13).length - (k + 1 + 1) + 1 = (m.take 13).length - (k + 1) by rw [List.length_take]; omega] at e4
  rw [show ((dv m[k]).1 : Int) - ((dv m[k + 1]).1 : Int) = -(((dv m[k + 1]).1 : Int) - ((dv m[k]).1 : Int)) by omega] at e3 hF
  rw [e1, R.chk, take_set13, take_set13]
  unfold chk
  generalize ((dv m[k + 1]).1 : Int) - ((dv m[k]).1 : Int) = z at *
  generalize z * 10 ^ ((m.take 13).length - (k + 1)) = X at *
  generalize -z * 10 ^ ((m.take 13).length - (k + 1 + 1)) = Y at *
  omega
end Go.Number
