/- Contracts of both sums of many. -/
import Derived.Test.YtpapcilffkpjjaaMoneyQ
import Derived.Test.YtpapcilffkpjjaaMoneyOpen
namespace Go.Proofs.Ytpapcilffkpjjaa
open Go.RowKit Go.Money

theorem sumO_app (l m : List Int) : ∀ s, sumO s (l ++ m) = (sumO s l).bind fun x => sumO x m := by
  induction l with
  | nil => intro s; rfl
  | cons a l ih =>
    intro s
    simp only [List.cons_append, sumO]
    cases addO s a with
    | none => rfl
    | some x => exact ih x
theorem sum_take {l : List Int} {k : Nat} (h : k < l.length) {s : Int} (hs : sumO 0 (l.take k) = some s) : sumO 0 (l.take (k + 1)) = addO s (l.getD k 0) ∧ (addO s (l.getD k 0) = none → sumO 0 l = none) := by
  have e : l.getD k 0 = l[k] := by rw [List.getD_eq_getElem?_getD, List.getElem?_eq_getElem h]; rfl
  have h1 : sumO 0 (l.take (k + 1)) = addO s (l.getD k 0) := by
    rw [List.take_succ_eq_append_getElem h, sumO_app, hs, e]
    simp only [Option.bind_some, sumO]
    cases addO s l[k] <;> rfl
  refine ⟨h1, fun hn => ?_⟩
  rw [← List.take_append_drop (k + 1) l, sumO_app, h1, hn]
  rfl
theorem addO_may {s a x : Int} (h : addO s a = some x) : may s = true ∧ may a = true ∧ may (s + a) = true ∧ x = s + a := by
  unfold addO at h
  split at h
  · rename_i hc
    simp only [Bool.and_eq_true] at hc
    simp only [Option.some.injEq] at h
    exact ⟨hc.1.1, hc.1.2, hc.2, h.symm⟩
  · cases h
theorem sum_may {l : List Int} : ∀ {s x : Int}, may s = true → sumO s l = some x → may x = true := by
  induction l with
  | nil => intro s x h1 h2; simp only [sumO, Option.some.injEq] at h2; rw [← h2]; exact h1
  | cons a l ih =>
    intro s x h1 h2
    simp only [sumO] at h2
    cases h3 : addO s a with
    | none => rw [h3] at h2; cases h2
    | some y => rw [h3] at h2; exact ih (by obtain ⟨_, _, h4, h5⟩ := addO_may h3; rw [h5]; exact h4) h2
theorem take_all (l : List Int) {k : Nat} (h : ¬ (k : Int) < (l.length : Int)) : l.take k = l := List.take_of_length_le (by omega)
/-- a slice of numbers, of which none lies in a block that the call made -/
theorem Nums.cell {W : World} {k : IntKind} {p : Option Addr} {l : List Int} (h : Nums W k p l) {j : Nat} (hj : j < l.length) : ∃ b o, p = some ⟨b, o, none⟩ ∧ b < W.heap.size ∧ W.cell? ⟨b, o + j, none⟩ = some (.int k (l.getD j 0)) := by
  obtain ⟨b, o, h1, h2, h3⟩ := h.at_ (by omega)
  exact ⟨b, o, h1, h2, h3 j hj⟩
theorem Nums.keep {W W' : World} {k : IntKind} {p : Option Addr} {l : List Int} (h : Nums W k p l) (hb : Below W.heap.size W W') : Nums W' k p l :=
  ⟨fun h0 => by
    obtain ⟨b, o, h1, h2, h3⟩ := h.at_ h0
    exact ⟨b, o, h1, Nat.lt_of_lt_of_le h2 hb.size, fun j hj => (hb.cell (p := ⟨b, o + j, none⟩) h2).trans (h3 j hj)⟩⟩
set_option maxRecDepth 100000 in
set_option maxHeartbeats 1600000 in
theorem sum_any (l : List Int) (p : Option Addr) (cap : Nat) (w : World) (hN : Nums w .i64 p l) (hc : l.length ≤ 1152921504606846976) : Calls Try.prog 15 #[.slice p l.length cap] w fun e w' => e = .returned (pv (sumO 0 l)) ∧ w = w' := by
  have HN := Lib.hid hN
  have hl : (l.length : Int) ≤ 1152921504606846976 := by omega
  clear hN hc
  go_enter Try.func15, Try.ntmps15
  go_wp2
  go_loopw [4, 5, 7, 10] (fun s e _ i wr => ∃ (k : Nat) (x : Int), i = .int .i64 k ∧ s = .int .i64 x ∧ e = .int .i64 0 ∧ k ≤ l.length ∧ Hid (sumO 0 (l.take k) = some x) ∧ w = wr) (fun _ _ _ i _ => l.length - (intOf i).toNat)
  case atStart => exact ⟨0, 0, rfl, rfl, rfl, Nat.zero_le _, rfl, rfl⟩
  case round =>
    obtain ⟨k, x, rfl, rfl, rfl, hk, hs, rfl⟩ := hrel
    have HS := Lib.hid hs.out
    clear hs
    by_cases hlt : (k : Int) < (l.length : Int)
    · have hkl : k < l.length := by omega
      have hk0 : (0 : Int) ≤ (k : Int) := Int.natCast_nonneg _
      obtain ⟨b, o, rfl, hb, hcell⟩ := HN.out.cell hkl
      obtain ⟨t1, t2⟩ := sum_take hkl HS.out
      have HT1 := Lib.hid t1
      have HT2 := Lib.hid t2
      clear t1 t2
      generalize l.getD k 0 = a at *
      cases ha : addO x a with
      | none =>
        have HA := Lib.hid ha
        clear ha
        go_wp2_with (go_at_call 31; refine (add_any _ _ _).mono ?_; rintro e w' ⟨rfl, rfl⟩; rw [HA.out]; simp only [pv, pairV])
        go_ret2
        exact ⟨by rw [HT2.out HA.out]; rfl, rfl⟩
      | some y =>
        have HA := Lib.hid ha
        clear ha
        go_wp2_with (go_at_call 31; refine (add_any _ _ _).mono ?_; rintro e w' ⟨rfl, rfl⟩; rw [HA.out]; simp only [pv, pairV])
        go_roundw
        case rel => exact ⟨k + 1, y, by go_num, rfl, rfl, by omega, HT1.out.trans HA.out, trivial⟩
        case measure => simp [intOf]; omega
    · have HE := Lib.hid (take_all l hlt)
      go_wp2
      go_ret2
      refine ⟨?_, rfl⟩
      have h := HS.out
      rw [HE.out] at h
      rw [h]
      rfl
end Go.Proofs.Ytpapcilffkpjjaa
