/- Contract of lay: bytes filled with a number, the highest byte first. -/
import Derived.Test.YtabahkeologbmaaJnB
namespace Go.Proofs.Ytabahkeologbmaa.Jn
open Go.RowKit Go.Shelf Go.Dk Go.Jn Go.Sha Go.Proofs.Ytabahkeologbmaa.Dk

theorem bc_put (l : By) (k : Nat) (c : UInt8) : (bc l).setIfInBounds k (.int .u8 (c.toNat : Int)) = bc (l.set k c) := by
  apply Array.ext_getElem?
  intro j
  rw [Array.getElem?_setIfInBounds, bc_get, bc_get, bc_size]
  unfold Lib.byteCells
  rw [List.getElem?_map, List.getElem?_map, List.getElem?_set]
  by_cases h : k = j
  · subst h
    by_cases h2 : k < l.length
    · simp [h2]
    · simp [h2]
  · simp [h]
/-- as far as j bytes are laid -/
def layL (x : By) (off n v j : Nat) : By := x.take (off + (n - j)) ++ ((beL n v).drop (n - j) ++ x.drop (off + n))
theorem layL_zero (x : By) (off n v : Nat) : layL x off n v 0 = x := by
  unfold layL
  rw [Nat.sub_zero, List.drop_of_length_le (by rw [beL_len]; omega), List.nil_append, List.take_append_drop]
theorem layL_all (x : By) (off n v : Nat) : layL x off n v n = x.take off ++ (beL n v ++ x.drop (off + n)) := by
  unfold layL
  rw [Nat.sub_self, Nat.add_zero, List.drop_zero]
theorem layL_len {x : By} {off n v j : Nat} (h : off + n ≤ x.length) (hj : j ≤ n) : (layL x off n v j).length = x.length := by
  unfold layL
  simp only [List.length_append, List.length_take, List.length_drop, beL_len]; omega
theorem layL_set {x : By} {off n v j : Nat} (h : off + n ≤ x.length) (hj : j < n) : (layL x off n v j).set (off + (n - 1 - j)) (UInt8.ofNat (v / 256 ^ j % 256)) = layL x off n v (j + 1) := by
  apply List.ext_getElem?
  intro k
  have hg := beL_get n v j hj
  have e1 : (x.take (off + (n - j))).length = off + (n - j) := by rw [List.length_take]; omega
  have e2 : (x.take (off + (n - (j + 1)))).length = off + (n - (j + 1)) := by rw [List.length_take]; omega
  rw [List.getElem?_set]
  by_cases hk : off + (n - 1 - j) = k
  · subst hk
    rw [if_pos rfl, if_pos (by rw [layL_len h (by omega)]; omega)]
    unfold layL
    rw [List.getElem?_append_right (by omega), e2, List.getElem?_append_left (by rw [List.length_drop, beL_len]; omega), List.getElem?_drop, show n - (j + 1) + (off + (n - 1 - j) - (off + (n - (j + 1)))) = n - 1 - j by omega, hg]
  · rw [if_neg hk]
    unfold layL
    by_cases h1 : k < off + (n - (j + 1))
    · rw [List.getElem?_append_left (by omega), List.getElem?_append_left (by omega), List.getElem?_take, List.getElem?_take, if_pos (by omega), if_pos (by omega)]
    · rw [List.getElem?_append_right (l₁ := x.take (off + (n - j))) (by omega), List.getElem?_append_right (l₁ := x.take (off + (n - (j + 1)))) (by omega), e1, e2]
      by_cases h3 : k < off + n
      · rw [List.getElem?_append_left (by rw [List.length_drop, beL_len]; omega), List.getElem?_append_left (by rw [List.length_drop, beL_len]; omega), List.getElem?_drop, List.getElem?_drop, show n - j + (k - (off + (n - j))) = n - (j + 1) + (k - (off + (n - (j + 1)))) by omega]
      · rw [List.getElem?_append_right (by rw [List.length_drop, beL_len]; omega), List.getElem?_append_right (by rw [List.length_drop, beL_len]; omega), List.length_drop, List.length_drop, beL_len, show k - (off + (n - j)) - (n - (n - j)) = k - (off + (n - (j + 1))) - (n - (n - (j + 1))) by omega]
def LayP (b off n v : Nat) (x : By) (T : TypeId) (w : World) (e : Ending) (w' : World) : Prop := e = .returned (.tuple #[]) ∧ w'.heap[b]? = some (.cells (bc (x.take off ++ (beL n v ++ x.drop (off + n)))) T (0, 0)) ∧ Frq (· = b) w w'
set_option maxRecDepth 100000 in
theorem lay_any (b off n cap v : Nat) (x : By) (T : TypeId) (hn : n ≤ 8) (hv : v < 18446744073709551616) (hx : off + n ≤ x.length) (w : World) (h : w.heap[b]? = some (.cells (bc x) T (0, 0))) :
    Calls Try.prog 51 #[.slice (some ⟨b, off, none⟩) n cap, .int .u64 (v : Int)] w (LayP b off n v x T w) := by
  have hn1 : (n : Int) ≤ 8 := by omega
  have H := Lib.hid h
  have HV := Lib.hid hv
  have HX := Lib.hid hx
  clear h hv hx
  go_enter Try.func51, Try.ntmps51
  go_wp2
  go_loopw [7] (fun i wr => ∃ k : Nat, k ≤ n ∧ i = .int .i64 (k : Int) ∧ wr.heap[b]? = some (.cells (bc (layL x off n v k)) T (0, 0)) ∧ Frq (· = b) w wr) (fun i _ => n - (intOf i).toNat)
  case atStart => exact ⟨0, Nat.zero_le _, rfl, by rw [layL_zero]; exact H.out, Frq.refl _ _⟩
  case round =>
    obtain ⟨k, hk, rfl, hb, hf⟩ := hrel
    have hk0 : (0 : Int) ≤ (k : Int) := Int.natCast_nonneg _
    have HB := Lib.hid hb
    have HF := Lib.hid hf
    by_cases hlt : (k : Int) < (n : Int)
    · have hlt2 : k < n := by omega
      have hx := HX.out
      obtain ⟨u, hu⟩ : ∃ u, wr.cell? ⟨b, off + (n - 1 - k), none⟩ = some u := by
        rw [cell_of_arr hb, bc_get]; unfold Lib.byteCells
        rw [List.getElem?_map, List.getElem?_eq_getElem (by rw [layL_len hx (by omega)]; omega)]
        exact ⟨_, rfl⟩
      have hfz : wr.frozen? ⟨b, off + (n - 1 - k), none⟩ = false := froz_of_arr hb _
      have i1 : (0 : Int) ≤ (n : Int) - 1 - (k : Int) := by omega
      have i2 : (n : Int) - 1 - (k : Int) < (n : Int) := by omega
      have i3 : ((n : Int) - 1 - (k : Int)).toNat = n - 1 - k := by omega
      clear hb hf hx
      go_wp2
      have hval : (v : Int) / 2 ^ (8 * k) % 256 = ((UInt8.ofNat (v / 256 ^ k % 256)).toNat : Int) := by
        rw [show (2 : Int) ^ (8 * k) = ((256 ^ k : Nat) : Int) by rw [Int.pow_mul]; push_cast; rfl]
        have : (UInt8.ofNat (v / 256 ^ k % 256)).toNat = v / 256 ^ k % 256 := by simp
        rw [this]; push_cast; rfl
      rw [hval]
      refine ⟨⟨k + 1, by omega, by go_num, by rw [set_heap HB.out, bc_put, layL_set HX.out hlt2], HF.out.setCell (p := ⟨b, off + (n - 1 - k), none⟩) (.inl rfl) _⟩, ?_⟩
      simp [intOf]; omega
    · obtain rfl : k = n := by omega
      clear hb hf
      go_wp2
      go_end0
      exact ⟨rfl, by rw [← layL_all]; exact HB.out, HF.out⟩
end Go.Proofs.Ytabahkeologbmaa.Jn
