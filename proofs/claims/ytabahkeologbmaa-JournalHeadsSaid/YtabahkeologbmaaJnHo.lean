/- What lies on a disk: a journal of records; what becomes of a commit, whenever the power goes. -/
import Derived.Test.YtabahkeologbmaaJnCo
namespace Go.Proofs.Ytabahkeologbmaa.Jn
open Go.Dk Go.Jn Go.Proofs.Ytabahkeologbmaa.Dk

theorem dat_ge : ∀ l : List By, 4 * l.length ≤ (dat l).length
  | [] => Nat.zero_le _
  | a :: b => by
    show 4 * (b.length + 1) ≤ (recB a ++ dat b).length
    have := dat_ge b
    rw [List.length_append, recB_len]; omega
/-- the other head: an older one, one that was torn, one of a new disk -/
def Tame (num : Nat) (o : By) : Prop := (∃ m, m < num ∧ o.drop 56 = beL 8 m) ∨ (o.take 8 = beL 8 (num + 1) ∧ o.drop 56 ≠ beL 8 (num + 1)) ∨ (num = 0 ∧ o = zero64)
/-- a journal of records lies on a disk, and lasts -/
structure Hold (d : Dk) (rs : List By) : Prop where
  n4 : 4 ≤ d.n
  n5 : d.n ≤ 4096
  la : ∀ i, (d.la i).length = 64
  wt : d.wt = fun _ => none
  fit : (dat rs).length ≤ 64 * (d.n - 2)
  head : d.la (rs.length % 2) = headB rs.length (dat rs).length
  oth : Tame rs.length (d.la ((rs.length + 1) % 2))
  data : ∀ j, j < (dat rs).length → (d.la (2 + j / 64))[j % 64]? = (dat rs)[j]?
theorem Hold.num {d : Dk} {rs : List By} (h : Hold d rs) : rs.length ≤ 70000 := by have := dat_ge rs; have := h.fit; have := h.n5; omega
theorem Hold.len {d : Dk} {rs : List By} (h : Hold d rs) : (dat rs).length ≤ 262144 := by have := h.fit; have := h.n5; omega
theorem Hold.rd {d : Dk} {rs : List By} (h : Hold d rs) (i : Nat) : d.rd i = d.la i := by unfold Dk.rd; rw [h.wt]; rfl
theorem head_zero : headB 0 0 = zero64 := by unfold zero64; rfl
theorem hold_new {n : Nat} (h : 4 ≤ n) (h2 : n ≤ 4096) : Hold (Dk.new n) [] :=
  ⟨h, h2, fun _ => zero64_len, rfl, Nat.zero_le _, head_zero.symm, .inr (.inr ⟨rfl, rfl⟩), fun j hj => absurd hj (Nat.not_lt_zero j)⟩
theorem lt8 {n : Nat} (h : n < 18446744073709551616) : n < 256 ^ 8 := by have : (256 : Nat) ^ 8 = 18446744073709551616 := rfl; omega
theorem tame_whole {num room : Nat} {o : By} (hl : o.length = 64) (hn : num + 1 < 18446744073709551616) (ht : Tame num o) (hw : wholeB o room = true) : numB o < num ∨ (num = 0 ∧ o = zero64) := by
  unfold wholeB at hw
  simp only [Bool.and_eq_true, decide_eq_true_eq] at hw
  have e := hw.1
  have hnb : numB o < 18446744073709551616 := numB_lt hl
  have e1 : o.drop 56 = beL 8 (numB o) := by
    have := headB_end (numB o) (lenB o)
    rw [← e] at this; exact this
  have e2 : o.take 8 = beL 8 (numB o) := by
    have := headB_take (numB o) (lenB o)
    rw [← e] at this; exact this
  rcases ht with ⟨m, hm, h⟩ | ⟨h1, h2⟩ | h
  · left
    have := beL_inj (lt8 hnb) (lt8 (by omega : m < 18446744073709551616)) (e1.symm.trans h)
    omega
  · exact absurd (e1.trans (e2.symm.trans h1)) h2
  · exact .inr h
theorem hold_top {d : Dk} {rs : List By} (h : Hold d rs) : topB (d.rd 0) (d.rd 1) (64 * (d.n - 2)) = some (headB rs.length (dat rs).length) := by
  have hn := h.num
  have hln := h.len
  rw [h.rd, h.rd]
  have hw : wholeB (headB rs.length (dat rs).length) (64 * (d.n - 2)) = true := whole_head (by omega) (by omega) h.fit
  have hnum : numB (headB rs.length (dat rs).length) = rs.length := num_head (by omega)
  have ho := h.oth
  have hh := h.head
  unfold topB
  rcases Nat.mod_two_eq_zero_or_one rs.length with e | e
  · have e2 : (rs.length + 1) % 2 = 1 := by omega
    rw [e] at hh
    rw [e2] at ho
    rw [hh, if_pos hw, if_neg]
    rintro ⟨h1, h2⟩
    rw [hnum] at h2
    rcases tame_whole (h.la 1) (by omega) ho h1 with h3 | ⟨h3, h4⟩
    · omega
    · rw [h4] at h2
      have : numB zero64 = 0 := by rw [← head_zero]; exact num_head (by omega)
      omega
  · have e2 : (rs.length + 1) % 2 = 0 := by omega
    rw [e] at hh
    rw [e2] at ho
    rw [hh]
    by_cases hw0 : wholeB (d.la 0) (64 * (d.n - 2)) = true
    · rw [if_pos hw0]
      rcases tame_whole (h.la 0) (by omega) ho hw0 with h3 | ⟨h3, h4⟩
      · rw [if_pos ⟨hw, by rw [hnum]; exact h3⟩]
      · omega
    · rw [if_neg hw0, if_pos hw]
theorem div_mod64 (j : Nat) : 64 * (j / 64) + j % 64 = j := by omega
theorem hold_data {d : Dk} {rs : List By} (h : Hold d rs) : (rdsL d 2 (secs (dat rs).length)).take (dat rs).length = dat rs ++ [] := by
  rw [List.append_nil]
  have hl : (rdsL d 2 (secs (dat rs).length)).length = 64 * secs (dat rs).length := flat_len (fun j => by rw [h.rd]; exact h.la _) _
  have hle : (dat rs).length ≤ 64 * secs (dat rs).length := by unfold secs; omega
  apply List.ext_getElem?
  intro j
  by_cases hj : j < (dat rs).length
  · rw [List.getElem?_take, if_pos hj, ← h.data j hj]
    have hs : j / 64 < secs (dat rs).length := by unfold secs; omega
    have := flat_get (la := fun j => d.rd (2 + j)) (fun j => by rw [h.rd]; exact h.la _) hs (Nat.mod_lt j (by omega : 64 > 0))
    rw [div_mod64] at this
    unfold rdsL
    rw [this, h.rd]
  · rw [List.getElem?_eq_none (by rw [List.length_take]; omega), List.getElem?_eq_none (by omega)]
theorem len_top {d : Dk} {rs : List By} (h : Hold d rs) : lenB (headB rs.length (dat rs).length) = (dat rs).length := len_head (by have := h.len; omega)
theorem num_top {d : Dk} {rs : List By} (h : Hold d rs) : numB (headB rs.length (dat rs).length) = rs.length := num_head (by have := h.num; omega)
/-- a head that is torn is the new one, or tame -/
theorem torn {num len k : Nat} {o : By} (ho : o.length = 64) (hk : k ≤ 64) (ht : Tame num o) : mix k (headB (num + 1) len) o = headB (num + 1) len ∨ Tame num (mix k (headB (num + 1) len) o) := by
  have hN := headB_len (num + 1) len
  have hN8 := headB_take (num + 1) len
  have hNe := headB_end (num + 1) len
  generalize headB (num + 1) len = N at *
  unfold mix
  by_cases hk2 : 56 < k
  · have e1 : (N.take k ++ o.drop k).take 56 = N.take 56 := by rw [List.take_append_of_le_length (by rw [List.length_take]; omega), List.take_take, Nat.min_eq_left (by omega)]
    have e8 : (N.take k ++ o.drop k).take 8 = beL 8 (num + 1) := by rw [List.take_append_of_le_length (by rw [List.length_take]; omega), List.take_take, Nat.min_eq_left (by omega), hN8]
    by_cases h : (N.take k ++ o.drop k).drop 56 = beL 8 (num + 1)
    · left
      rw [← List.take_append_drop 56 (N.take k ++ o.drop k), e1, h, ← hNe, List.take_append_drop]
    · exact .inr (.inr (.inl ⟨e8, h⟩))
  · right
    have hd : (N.take k ++ o.drop k).drop 56 = o.drop 56 := by
      rw [List.drop_append, List.drop_of_length_le (by rw [List.length_take]; omega), List.nil_append, List.length_take, Nat.min_eq_left (by omega), List.drop_drop, show k + (56 - k) = 56 by omega]
    have h8 : 8 ≤ k → (N.take k ++ o.drop k).take 8 = beL 8 (num + 1) := fun h => by rw [List.take_append_of_le_length (by rw [List.length_take]; omega), List.take_take, Nat.min_eq_left (by omega), hN8]
    rcases ht with ⟨m, hm, h⟩ | ⟨h1, h2⟩ | ⟨h1, h2⟩
    · exact .inl ⟨m, hm, hd.trans h⟩
    · refine .inr (.inl ⟨?_, by rw [hd]; exact h2⟩)
      by_cases hk8 : 8 ≤ k
      · exact h8 hk8
      · have : N.take k = o.take k := by
          have a1 : (N.take 8).take k = N.take k := by rw [List.take_take, Nat.min_eq_left (by omega)]
          have a2 : (o.take 8).take k = o.take k := by rw [List.take_take, Nat.min_eq_left (by omega)]
          rw [← a1, ← a2, hN8, h1]
        rw [this, List.take_append_drop]; exact h1
    · subst h1 h2
      by_cases hk8 : 8 ≤ k
      · refine .inr (.inl ⟨h8 hk8, ?_⟩)
        rw [hd]
        unfold zero64
        decide
      · refine .inr (.inr ⟨rfl, ?_⟩)
        have a1 : (N.take 8).take k = N.take k := by rw [List.take_take, Nat.min_eq_left (by omega)]
        rw [← a1, hN8]
        have : (beL 8 (0 + 1)).take k = zero64.take k := by
          have hk7 : k ≤ 7 := by omega
          have e : (beL 8 (0 + 1)).take 7 = zero64.take 7 := by unfold zero64; decide
          have a2 : ((beL 8 (0 + 1)).take 7).take k = (beL 8 (0 + 1)).take k := by rw [List.take_take, Nat.min_eq_left hk7]
          have a3 : (zero64.take 7).take k = zero64.take k := by rw [List.take_take, Nat.min_eq_left hk7]
          rw [← a2, ← a3, e]
        rw [this, List.take_append_drop]
end Go.Proofs.Ytabahkeologbmaa.Jn
