/- The plain model of a ticket's number: digits, padding, the check digit; texts and tickets are each other's. -/
import Derived.Lib.ItoaNum
namespace Go.Number
abbrev Tx := List UInt8
def dgt (c : UInt8) : Bool := decide (48 ≤ c.toNat) && decide (c.toNat ≤ 57)
def dv (c : UInt8) : Fin 10 := Fin.ofNat 10 (c.toNat - 48)
/-- the digits that a text begins with -/
def lead (l : Tx) : List (Fin 10) := (l.takeWhile dgt).map dv
def sumD (l : List (Fin 10)) : Nat := l.foldl (fun n d => n * 10 + d.1) 0
def remD (l : List (Fin 10)) : Nat := l.foldl (fun n d => (n * 10 + d.1) % 7) 0
def val (l : Tx) : Nat := sumD (l.map dv)
def chk (l : Tx) : Nat := val l % 7
def pad (k n : Nat) : Tx := List.replicate (k - (Lib.decDigits n).length) 48 ++ Lib.decDigits n
/-- the last k digits of n -/
def last : Nat → Nat → Tx
  | 0, _ => []
  | k + 1, n => last k (n / 10) ++ [UInt8.ofNat (48 + n % 10)]
def may (c s : Nat) : Prop := c < 8 ∧ 1 ≤ s ∧ s ≤ 9999999999
instance (c s : Nat) : Decidable (may c s) := by unfold may; infer_instance
def body (c s : Nat) : Tx := last 3 c ++ last 10 s
def full (c s : Nat) : Tx := body c s ++ last 1 (chk (body c s))
/-- Text's answer: the text, the error -/
def textL (c s : Nat) : Tx × Nat := if may c s then (full c s, 0) else ([], 1)
/-- Parse's answer: carrier, serial, error -/
def parseL (l : Tx) : Nat × Nat × Nat :=
  if l.length ≠ 14 ∨ l.all dgt = false then (0, 0, 90)
  else if val (l.drop 13) ≠ chk (l.take 13) then (0, 0, 70)
  else if may (val (l.take 3)) (val ((l.take 13).drop 3)) then (val (l.take 3), val ((l.take 13).drop 3), 0) else (0, 0, 1)

theorem sumD_snoc (l : List (Fin 10)) (d : Fin 10) : sumD (l ++ [d]) = sumD l * 10 + d.1 := by simp [sumD]
theorem remD_snoc (l : List (Fin 10)) (d : Fin 10) : remD (l ++ [d]) = (remD l * 10 + d.1) % 7 := by simp [remD]
theorem snoc_ind {α : Type} {P : List α → Prop} (h0 : P []) (h1 : ∀ l a, P l → P (l ++ [a])) (l : List α) : P l := by
  rw [← List.reverse_reverse l]
  induction l.reverse with
  | nil => exact h0
  | cons a t ih => rw [List.reverse_cons]; exact h1 _ _ ih
theorem sumD_lt (l : List (Fin 10)) : sumD l < 10 ^ l.length := by
  induction l using snoc_ind with
  | h0 => simp [sumD]
  | h1 l d ih =>
    rw [sumD_snoc, List.length_append, List.length_singleton, Nat.pow_succ]
    have := d.2
    omega
theorem remD_eq (l : List (Fin 10)) : remD l = sumD l % 7 := by
  induction l using snoc_ind with
  | h0 => rfl
  | h1 l d ih => rw [remD_snoc, sumD_snoc, ih]; omega
theorem remD_lt (l : List (Fin 10)) : remD l < 7 := by rw [remD_eq]; omega
theorem sumD_app (a b : List (Fin 10)) : sumD (a ++ b) = sumD a * 10 ^ b.length + sumD b := by
  induction b using snoc_ind with
  | h0 => simp [sumD]
  | h1 b d ih =>
    rw [← List.append_assoc, sumD_snoc, sumD_snoc, ih, List.length_append, List.length_singleton, Nat.pow_succ, ← Nat.mul_assoc]
    generalize sumD a * 10 ^ b.length = X
    omega
theorem val_app (a b : Tx) : val (a ++ b) = val a * 10 ^ b.length + val b := by unfold val; rw [List.map_append, sumD_app, List.length_map]
theorem val_lt (a : Tx) : val a < 10 ^ a.length := by have := sumD_lt (a.map dv); rwa [List.length_map] at this
theorem take_self {l : Tx} : l.takeWhile dgt = l ↔ l.all dgt = true := by
  induction l with
  | nil => simp
  | cons c t ih =>
    cases h : dgt c
    · simp [h]
    · simp [h, ih]
theorem lead_all {l : Tx} (h : l.all dgt = true) : lead l = l.map dv := by
  unfold lead
  rw [take_self.2 h]
theorem lead_len (l : Tx) : (lead l).length ≤ l.length := by
  unfold lead; rw [List.length_map]; exact (List.takeWhile_prefix dgt).length_le
theorem lead_full (l : Tx) : decide ((lead l).length = l.length) = l.all dgt := by
  cases h : l.all dgt
  · refine decide_eq_false fun e => ?_
    unfold lead at e
    rw [List.length_map] at e
    have := (List.takeWhile_prefix dgt (l := l)).eq_of_length e
    have h2 := take_self.1 this
    rw [h2] at h; cases h
  · rw [lead_all h]; simp
theorem lead_at {t : Tx} {k : Nat} (h : k < t.length) (ha : (t.take k).all dgt = true) (hd : dgt t[k] = false) : lead t = (t.take k).map dv := by
  have e : t = t.take k ++ t[k] :: t.drop (k + 1) := by rw [List.getElem_cons_drop, List.take_append_drop]
  have e2 : t.takeWhile dgt = t.take k := by
    conv => lhs; rw [e]
    rw [List.takeWhile_append_of_pos (by simpa using ha), List.takeWhile_cons, if_neg (by simp [hd]), List.append_nil]
  unfold lead; rw [e2]
theorem take_all {t : Tx} {k : Nat} (h : k < t.length) (ha : (t.take k).all dgt = true) (hd : dgt t[k] = true) : (t.take (k + 1)).all dgt = true := by
  rw [List.take_succ_eq_append_getElem h, List.all_append, ha]; simp [hd]
theorem take_dv {t : Tx} {k : Nat} (h : k < t.length) : (t.take (k + 1)).map dv = (t.take k).map dv ++ [dv t[k]] := by
  rw [List.take_succ_eq_append_getElem h, List.map_append]; rfl
theorem dgt_le {c : UInt8} (h : dgt c = true) : (48 : Int) ≤ (c.toNat : Int) ∧ (c.toNat : Int) ≤ 57 := by
  simp only [dgt, Bool.and_eq_true, decide_eq_true_eq] at h; omega
theorem dgt_not {c : UInt8} (h : dgt c = false) : (c.toNat : Int) < 48 ∨ (57 : Int) < (c.toNat : Int) := by
  rw [← Bool.not_eq_true] at h; simp only [dgt, Bool.and_eq_true, decide_eq_true_eq] at h; omega
theorem sum_lead {l : Tx} (h : l.all dgt = true) : sumD (lead l) = val l := by rw [lead_all h]; rfl
theorem rem_lead {l : Tx} (h : l.all dgt = true) : remD (lead l) = chk l := by rw [lead_all h, remD_eq]; rfl
theorem dv_of (d : Nat) (h : d < 10) : dv (UInt8.ofNat (48 + d)) = ⟨d, h⟩ := by
  apply Fin.ext
  show ((UInt8.ofNat (48 + d)).toNat - 48) % 10 = d
  rw [UInt8.toNat_ofNat']; omega
theorem dgt_of (d : Nat) (h : d < 10) : dgt (UInt8.ofNat (48 + d)) = true := by
  unfold dgt; rw [UInt8.toNat_ofNat']; simp; omega
theorem of_dgt {c : UInt8} (h : dgt c = true) : c = UInt8.ofNat (48 + (dv c).1) ∧ c.toNat = 48 + (dv c).1 := by
  simp only [dgt, Bool.and_eq_true, decide_eq_true_eq] at h
  have e : (dv c).1 = c.toNat - 48 := by show (c.toNat - 48) % 10 = _; omega
  refine ⟨?_, by omega⟩
  rw [e, show 48 + (c.toNat - 48) = c.toNat by omega]; simp
theorem dv_int {c : UInt8} (h : dgt c = true) : ((dv c).1 : Int) = (c.toNat : Int) - 48 := by have := (of_dgt h).2; omega
theorem last_len (k n : Nat) : (last k n).length = k := by
  induction k generalizing n with
  | zero => rfl
  | succ k ih => simp [last, ih]
theorem last_all (k n : Nat) : (last k n).all dgt = true := by
  induction k generalizing n with
  | zero => rfl
  | succ k ih => simp only [last, List.all_append, ih, List.all_cons, List.all_nil, dgt_of _ (Nat.mod_lt n (by omega : 0 < 10))]; rfl
theorem val_last (k n : Nat) : val (last k n) = n % 10 ^ k := by
  induction k generalizing n with
  | zero => simp [last, val, sumD, Nat.mod_one]
  | succ k ih =>
    rw [last, val_app, ih]
    have e : val [UInt8.ofNat (48 + n % 10)] = n % 10 := by
      show sumD [dv _] = _
      rw [dv_of _ (Nat.mod_lt n (by omega))]; simp [sumD]
    rw [e, List.length_singleton, Nat.pow_one, Nat.pow_succ, Nat.mul_comm (10 ^ k) 10, Nat.mod_mul]
    omega
theorem last_val {l : Tx} (h : l.all dgt = true) : last l.length (val l) = l := by
  induction l using snoc_ind with
  | h0 => rfl
  | h1 l c ih =>
    simp only [List.all_append, List.all_cons, List.all_nil, Bool.and_true, Bool.and_eq_true] at h
    rw [List.length_append, List.length_singleton, last, val_app]
    have e : val [c] = (dv c).1 := by show sumD [dv c] = _; simp [sumD]
    have hd := (dv c).2
    rw [e, List.length_singleton, Nat.pow_one, show (val l * 10 + (dv c).1) / 10 = val l by omega, show (val l * 10 + (dv c).1) % 10 = (dv c).1 by omega, ih h.1, ← (of_dgt h.2).1]
theorem dec_small {u : Nat} (h : u < 10) : Lib.decDigits u = [UInt8.ofNat (48 + u)] := by rw [Lib.decDigits, dif_pos h]
theorem dec_big {u : Nat} (h : ¬ u < 10) : Lib.decDigits u = Lib.decDigits (u / 10) ++ [UInt8.ofNat (48 + u % 10)] := by rw [Lib.decDigits, dif_neg h]
theorem last_zero (k : Nat) : last k 0 = List.replicate k 48 := by
  induction k with
  | zero => rfl
  | succ k ih => rw [last, Nat.zero_div, ih, ← List.replicate_append_replicate (n := k) (m := 1)]; rfl
theorem pad_last (k : Nat) : ∀ n, n < 10 ^ k → 1 ≤ k → pad k n = last k n ∧ (Lib.decDigits n).length ≤ k := by
  induction k with
  | zero => intro n _ h; omega
  | succ k ih =>
    intro n hn _
    by_cases h : n < 10
    · unfold pad
      rw [dec_small h, last, show n / 10 = 0 by omega, last_zero, show n % 10 = n by omega]
      exact ⟨rfl, by simp⟩
    · have hk : 1 ≤ k := by
        rcases k with _ | k
        · simp at hn; omega
        · omega
      rw [Nat.pow_succ] at hn
      obtain ⟨e, hl⟩ := ih (n / 10) (by omega) hk
      unfold pad at e ⊢
      rw [dec_big h, last, ← e, List.length_append, List.length_singleton, Nat.add_sub_add_right, List.append_assoc]
      exact ⟨rfl, by omega⟩

theorem body_len (c s : Nat) : (body c s).length = 13 := by unfold body; rw [List.length_append, last_len, last_len]
theorem body_all (c s : Nat) : (body c s).all dgt = true := by unfold body; rw [List.all_append, last_all, last_all]; rfl
theorem full_len (c s : Nat) : (full c s).length = 14 := by unfold full; rw [List.length_append, body_len, last_len]
theorem full_all (c s : Nat) : (full c s).all dgt = true := by unfold full; rw [List.all_append, body_all, last_all]; rfl
theorem full_take (c s : Nat) : (full c s).take 13 = body c s := by unfold full; rw [List.take_left' (body_len c s)]
theorem full_drop (c s : Nat) : (full c s).drop 13 = last 1 (chk (body c s)) := by unfold full; rw [List.drop_left' (body_len c s)]
theorem full_take3 (c s : Nat) : (full c s).take 3 = last 3 c := by
  have : (full c s).take 3 = ((full c s).take 13).take 3 := by rw [List.take_take]; rfl
  rw [this, full_take]; unfold body; rw [List.take_left' (last_len 3 c)]
theorem body_drop3 (c s : Nat) : (body c s).drop 3 = last 10 s := by unfold body; rw [List.drop_left' (last_len 3 c)]
theorem chk_lt (l : Tx) : chk l < 7 := Nat.mod_lt _ (by omega)
theorem val_body {c s : Nat} (h : may c s) : val (body c s) = c * 10000000000 + s := by
  obtain ⟨h1, h2, h3⟩ := h
  unfold body
  rw [val_app, val_last, val_last, last_len, Nat.mod_eq_of_lt (by omega), Nat.mod_eq_of_lt (by omega)]
theorem parse_full {c s : Nat} (h : may c s) : parseL (full c s) = (c, s, 0) := by
  obtain ⟨h1, h2, h3⟩ := h
  unfold parseL
  have hc := chk_lt (body c s)
  rw [full_len, full_all, if_neg (by simp), full_drop, full_take, full_take3, body_drop3, val_last, val_last, val_last, Nat.mod_eq_of_lt (by omega), if_neg (by simp), Nat.mod_eq_of_lt (by omega), Nat.mod_eq_of_lt (by omega), if_pos ⟨h1, h2, h3⟩]
theorem full_parse {l : Tx} {c s : Nat} (h : parseL l = (c, s, 0)) : may c s ∧ full c s = l := by
  unfold parseL at h
  by_cases h1 : l.length ≠ 14 ∨ l.all dgt = false
  · rw [if_pos h1] at h; simp at h
  rw [if_neg h1] at h
  by_cases h2 : val (l.drop 13) ≠ chk (l.take 13)
  · rw [if_pos h2] at h; simp at h
  rw [if_neg h2] at h
  by_cases h3 : may (val (l.take 3)) (val ((l.take 13).drop 3))
  · rw [if_pos h3] at h
    simp only [Prod.mk.injEq, and_true] at h
    obtain ⟨rfl, rfl⟩ := h
    refine ⟨h3, ?_⟩
    obtain ⟨g1, g2⟩ := not_or.1 h1
    have g1 : l.length = 14 := by omega
    have g2 : l.all dgt = true := by simpa using g2
    have h2 : val (l.drop 13) = chk (l.take 13) := by omega
    have sub : ∀ t : Tx, (∀ x ∈ t, x ∈ l) → t.all dgt = true := fun t ht => List.all_eq_true.2 fun x hx => List.all_eq_true.1 g2 x (ht x hx)
    have a1 : last 3 (val (l.take 3)) = l.take 3 := by
      have := last_val (l := l.take 3) (sub _ fun x hx => List.mem_of_mem_take hx)
      rwa [List.length_take, g1] at this
    have a2 : last 10 (val ((l.take 13).drop 3)) = (l.take 13).drop 3 := by
      have := last_val (l := (l.take 13).drop 3) (sub _ fun x hx => List.mem_of_mem_take (List.mem_of_mem_drop hx))
      rwa [List.length_drop, List.length_take, g1] at this
    have a3 : last 1 (val (l.drop 13)) = l.drop 13 := by
      have := last_val (l := l.drop 13) (sub _ fun x hx => List.mem_of_mem_drop hx)
      rwa [List.length_drop, g1] at this
    have a4 : l.take 3 = (l.take 13).take 3 := by rw [List.take_take]; rfl
    unfold full
    have a5 : body (val (l.take 3)) (val ((l.take 13).drop 3)) = l.take 13 := by unfold body; rw [a1, a2, a4, List.take_append_drop]
    rw [a5, ← h2, a3, List.take_append_drop]
  · rw [if_neg h3] at h; simp at h
theorem parse_err (l : Tx) (h : (parseL l).2.2 ≠ 0) : (parseL l).1 = 0 ∧ (parseL l).2.1 = 0 := by
  unfold parseL at h ⊢
  split
  · exact ⟨rfl, rfl⟩
  · rename_i h1
    split
    · exact ⟨rfl, rfl⟩
    · rename_i h2
      split
      · rename_i h3
        rw [if_neg h1, if_neg h2, if_pos h3] at h
        exact absurd rfl h
      · exact ⟨rfl, rfl⟩
theorem text_ok (c s : Nat) : (textL c s).2 = if may c s then 0 else 1 := by unfold textL; split <;> rfl
theorem text_in {c s : Nat} (h : may c s) : textL c s = (full c s, 0) := if_pos h
theorem text_out {c s : Nat} (h : ¬ may c s) : textL c s = ([], 1) := if_neg h
end Go.Number
