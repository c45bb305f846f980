/- The plain model of a journal: numbers as bytes, heads, records one behind the other. -/
import Derived.Test.YtjdfdihopgceoaaDkPure
namespace Go.Jn
open Go.Dk

theorem snoc_ind {α : Type} {P : List α → Prop} (h0 : P []) (h1 : ∀ l c, P l → P (l ++ [c])) : ∀ (n : Nat) (l : List α), l.length = n → P l
  | 0, l, h => by rw [List.eq_nil_of_length_eq_zero h]; exact h0
  | n + 1, l, h => by
    have hne : l ≠ [] := by intro e; rw [e] at h; cases h
    rw [← List.dropLast_concat_getLast hne]
    exact h1 _ _ (snoc_ind h0 h1 n _ (by rw [List.length_dropLast]; omega))
/-- n bytes of a number, the highest first -/
def beL : Nat → Nat → By
  | 0, _ => []
  | n + 1, v => beL n (v / 256) ++ [UInt8.ofNat (v % 256)]
theorem beL_len : ∀ n v, (beL n v).length = n
  | 0, _ => rfl
  | n + 1, v => by rw [beL, List.length_append, beL_len n]; rfl
theorem beL_get : ∀ (n v i : Nat), i < n → (beL n v)[n - 1 - i]? = some (UInt8.ofNat (v / 256 ^ i % 256))
  | n + 1, v, 0, _ => by
    rw [beL, List.getElem?_append_right (by rw [beL_len]; omega), beL_len]
    simp
  | n + 1, v, i + 1, h => by
    have ih := beL_get n (v / 256) i (by omega)
    rw [beL, List.getElem?_append_left (by rw [beL_len]; omega), show n + 1 - 1 - (i + 1) = n - 1 - i by omega, ih, Nat.div_div_eq_div_mul, Nat.pow_succ, Nat.mul_comm 256]
/-- the number that bytes are -/
def valB (l : By) : Nat := l.foldl (fun v c => v * 256 + c.toNat) 0
theorem valB_snoc (l : By) (c : UInt8) : valB (l ++ [c]) = valB l * 256 + c.toNat := by simp [valB, List.foldl_append]
theorem valB_beL : ∀ n v, valB (beL n v) = v % 256 ^ n
  | 0, v => by rw [Nat.pow_zero, Nat.mod_one]; rfl
  | n + 1, v => by
    rw [beL, valB_snoc, valB_beL n, Nat.pow_succ, Nat.mul_comm (256 ^ n), Nat.mod_mul]
    have : (UInt8.ofNat (v % 256)).toNat = v % 256 := by simp
    rw [this, Nat.mul_comm]; omega
theorem valB_lt (l : By) : valB l < 256 ^ l.length := by
  refine snoc_ind (P := fun l => valB l < 256 ^ l.length) (by simp [valB]) (fun l c ih => ?_) _ l rfl
  have := c.toNat_lt
  rw [valB_snoc, List.length_append, List.length_singleton, Nat.pow_succ]
  omega
theorem beL_valB (l : By) : beL l.length (valB l) = l := by
  refine snoc_ind (P := fun l => beL l.length (valB l) = l) rfl (fun l c ih => ?_) _ l rfl
  · have := c.toNat_lt
    rw [valB_snoc, List.length_append, List.length_singleton, beL, show (valB l * 256 + c.toNat) / 256 = valB l by omega, ih, show (valB l * 256 + c.toNat) % 256 = c.toNat by omega]
    simp
theorem beL_inj {n a b : Nat} (ha : a < 256 ^ n) (hb : b < 256 ^ n) (h : beL n a = beL n b) : a = b := by
  have := congrArg valB h
  rwa [valB_beL, valB_beL, Nat.mod_eq_of_lt ha, Nat.mod_eq_of_lt hb] at this
/-- a head -/
def headB (num len : Nat) : By := beL 8 num ++ (beL 8 len ++ (List.replicate 40 0 ++ beL 8 num))
theorem headB_len (num len : Nat) : (headB num len).length = 64 := by simp [headB, beL_len]
def numB (s : By) : Nat := valB (s.take 8)
def lenB (s : By) : Nat := valB ((s.drop 8).take 8)
theorem headB_take (num len : Nat) : (headB num len).take 8 = beL 8 num := by
  unfold headB; rw [List.take_append_of_le_length (by rw [beL_len]; omega), List.take_of_length_le (by rw [beL_len]; omega)]
theorem headB_drop8 (num len : Nat) : (headB num len).drop 8 = beL 8 len ++ (List.replicate 40 0 ++ beL 8 num) := by
  unfold headB; rw [List.drop_append_of_le_length (by rw [beL_len]; omega), List.drop_of_length_le (by rw [beL_len]; omega), List.nil_append]
theorem headB_mid (num len : Nat) : ((headB num len).drop 8).take 8 = beL 8 len := by
  rw [headB_drop8, List.take_append_of_le_length (by rw [beL_len]; omega), List.take_of_length_le (by rw [beL_len]; omega)]
theorem headB_drop16 (num len : Nat) : (headB num len).drop 16 = List.replicate 40 0 ++ beL 8 num := by
  rw [show 16 = 8 + 8 by rfl, ← List.drop_drop, headB_drop8, List.drop_append_of_le_length (by rw [beL_len]; omega), List.drop_of_length_le (by rw [beL_len]; omega), List.nil_append]
theorem headB_end (num len : Nat) : (headB num len).drop 56 = beL 8 num := by
  rw [show 56 = 16 + 40 by rfl, ← List.drop_drop, headB_drop16, List.drop_append_of_le_length (by simp), List.drop_of_length_le (by simp), List.nil_append]
theorem num_head {num len : Nat} (h : num < 2 ^ 64) : numB (headB num len) = num := by
  unfold numB; rw [headB_take, valB_beL, Nat.mod_eq_of_lt (by simpa using h)]
theorem len_head {num len : Nat} (h : len < 2 ^ 64) : lenB (headB num len) = len := by
  unfold lenB; rw [headB_mid, valB_beL, Nat.mod_eq_of_lt (by simpa using h)]
theorem numB_lt {s : By} (h : s.length = 64) : numB s < 2 ^ 64 := by
  have := valB_lt (s.take 8)
  rw [List.length_take, h, show min 8 64 = 8 by rfl] at this
  unfold numB; have e : (256 : Nat) ^ 8 = 2 ^ 64 := by decide
  omega
theorem lenB_lt {s : By} (h : s.length = 64) : lenB s < 2 ^ 64 := by
  have := valB_lt ((s.drop 8).take 8)
  rw [List.length_take, List.length_drop, h, show min 8 (64 - 8) = 8 by rfl] at this
  unfold lenB; have e : (256 : Nat) ^ 8 = 2 ^ 64 := by decide
  omega
/-- whether a head is whole -/
def wholeB (s : By) (room : Nat) : Bool := decide (s = headB (numB s) (lenB s)) && decide (lenB s ≤ room)
theorem whole_head {num len room : Nat} (h1 : num < 2 ^ 64) (h2 : len < 2 ^ 64) (h3 : len ≤ room) : wholeB (headB num len) room = true := by
  unfold wholeB; rw [num_head h1, len_head h2]; simp [h3]
/-- the head of two -/
def topB (s0 s1 : By) (room : Nat) : Option By :=
  if wholeB s0 room = true then (if wholeB s1 room = true ∧ numB s0 < numB s1 then some s1 else some s0)
  else if wholeB s1 room = true then some s1 else none
/-- records one behind the other -/
def recB (r : By) : By := beL 4 r.length ++ r
theorem recB_len (r : By) : (recB r).length = 4 + r.length := by simp [recB, beL_len]
def dat (rs : List By) : By := (rs.map recB).flatten
theorem dat_nil : dat [] = [] := rfl
theorem dat_snoc (rs : List By) (r : By) : dat (rs ++ [r]) = dat rs ++ (beL 4 r.length ++ r) := by simp [dat, recB]
theorem dat_snoc_len (rs : List By) (r : By) : (dat (rs ++ [r])).length = (dat rs).length + 4 + r.length := by rw [dat_snoc]; simp [beL_len]; omega
theorem dat_app (a b : List By) : dat (a ++ b) = dat a ++ dat b := by simp [dat]
/-- bytes with which no record begins -/
def Stuck (t : By) : Prop := t.length < 4 ∨ t.length - 4 < valB (t.take 4)
theorem stuck_nil : Stuck [] := .inl (by decide)
theorem cut_any : ∀ (n : Nat) (l : By), l.length ≤ n → ∃ rs t, l = dat rs ++ t ∧ Stuck t
  | 0, l, h => ⟨[], l, rfl, .inl (by omega)⟩
  | n + 1, l, h => by
    by_cases h1 : Stuck l
    · exact ⟨[], l, rfl, h1⟩
    · unfold Stuck at h1
      have h2 : 4 ≤ l.length := by omega
      have h3 : valB (l.take 4) ≤ l.length - 4 := by omega
      obtain ⟨rs, t, e, ht⟩ := cut_any n ((l.drop 4).drop (valB (l.take 4))) (by rw [List.length_drop, List.length_drop]; omega)
      refine ⟨(l.drop 4).take (valB (l.take 4)) :: rs, t, ?_, ht⟩
      have e1 : ((l.drop 4).take (valB (l.take 4))).length = valB (l.take 4) := by rw [List.length_take, List.length_drop]; omega
      have e2 : beL 4 (valB (l.take 4)) = l.take 4 := by
        have := beL_valB (l.take 4)
        rwa [List.length_take, Nat.min_eq_left h2] at this
      show l = (recB _ ++ dat rs) ++ t
      rw [recB, e1, e2, List.append_assoc, List.append_assoc, ← e, List.take_append_drop, List.take_append_drop]
/-- as many sectors as so many bytes are in -/
def secs (n : Nat) : Nat := (n + 63) / 64
/-- whole sectors -/
def padS (b : By) : By := b ++ List.replicate (64 * secs b.length - b.length) 0
theorem padS_len (b : By) : (padS b).length = 64 * secs b.length := by unfold padS secs; rw [List.length_append, List.length_replicate]; omega
end Go.Jn
