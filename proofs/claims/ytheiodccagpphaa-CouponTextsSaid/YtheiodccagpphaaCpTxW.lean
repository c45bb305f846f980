/- The walk of CouponTexts. -/
import Derived.Test.YtheiodccagpphaaCpTlW
namespace Go.Proofs.Ytheiodccagpphaa
open Go.RowKit Go.Coupon

theorem toList_inj {x y : ByteArray} (h : x.toList = y.toList) : x = y := by
  have h1 : (x.toList == y.toList) = true := by rw [h]; simp
  rw [← beq_toListBytes] at h1
  cases x with | mk x => cases y with | mk y =>
    have h2 : (x == y) = true := h1
    rw [beq_iff_eq.1 h2]
set_option maxRecDepth 100000 in
set_option maxHeartbeats 1600000 in
theorem cptexts_some (a b : Nat) (xa xb : Bool) (ta tb : List UInt8) (w : World) (hta : ta.length = if xa then 1 else 0) (HX : Hid (∀ W, Calls Try.prog 15 #[] W fun e w' => e = .returned (.bool true) ∧ Below W.heap.size W w'))
    (H1 : Hid (∀ W, Calls Try.prog 13 #[.int .u8 (a : Int)] W fun e w' => e = .returned (.string ⟨ta.toArray⟩) ∧ W = w'))
    (H2 : Hid (∀ W, Calls Try.prog 13 #[.int .u8 (b : Int)] W fun e w' => e = .returned (.string ⟨tb.toArray⟩) ∧ W = w'))
    (H3 : Hid (∀ W, Calls Try.prog 11 #[.int .u8 (a : Int)] W fun e w' => e = .returned (.bool xa) ∧ W = w'))
    (H4 : Hid (∀ W, Calls Try.prog 11 #[.int .u8 (b : Int)] W fun e w' => e = .returned (.bool xb) ∧ W = w'))
    (hab : xa = true → xb = true → (ta = tb ↔ a = b)) : Calls Try.prog 5 #[.int .u8 (a : Int), .int .u8 (b : Int)] w fun e w' => e = .returned (.bool true) ∧ Below w.heap.size w w' := by
  obtain ⟨X, hX⟩ : ∃ X : ByteArray, X = ⟨ta.toArray⟩ := ⟨_, rfl⟩
  obtain ⟨Y, hY⟩ : ∃ Y : ByteArray, Y = ⟨tb.toArray⟩ := ⟨_, rfl⟩
  rw [← hX] at H1
  rw [← hY] at H2
  have hsz : (X.size : Int) = if xa then 1 else 0 := by rw [hX]; simp [ByteArray.size, hta]; cases xa <;> rfl
  have hem : xa = true → ¬ X = ⟨#[]⟩ := fun h e => by rw [e, h] at hsz; simp [ByteArray.size] at hsz
  have hem2 : xa = false → X = ⟨#[]⟩ := fun h => by
    rw [h] at hta
    have : ta = [] := List.eq_nil_of_length_eq_zero (by simpa using hta)
    rw [hX, this]
  have hxy : xa = true → xb = true → (X = Y ↔ (a : Int) = (b : Int)) := fun h1 h2 => by
    rw [hX, hY]; rw [Int.natCast_inj, ← hab h1 h2]
    constructor
    · intro h; have := congrArg (fun z : ByteArray => z.data.toList) h; simpa using this
    · rintro rfl; rfl
  clear hta hab hX hY
  generalize (a : Int) = p at *
  generalize (b : Int) = q at *
  go_enter Try.func5, Try.ntmps5
  cases xa
  · have h0 := hem2 rfl
    subst h0
    clear hsz hem hem2 hxy
    go_wp2_with fail
    go_at_call 13
    refine (H1.out _).mono ?_
    rintro e w3 ⟨rfl, rfl⟩
    go_wp2_with (first | (go_at_call 13; refine (H2.out _).mono ?_; rintro e w3 ⟨rfl, rfl⟩) | (go_at_call 11; refine (H3.out _).mono ?_; rintro e w3 ⟨rfl, rfl⟩) | (go_at_call 15; refine (HX.out _).mono ?_; rintro e w4 ⟨rfl, hb4⟩))
    all_goals go_ret
    all_goals exact ⟨ret_bool (by first | rfl | (simp [*]; done)), hb4⟩
  · have h0 := hem rfl
    have hsz1 : (X.size : Int) = 1 := hsz
    have hX1 : ¬ X.toList = [] := fun h => h0 (toList_inj (by rw [h]; unfold ByteArray.toList; rw [ByteArray.toList.loop]; rfl))
    clear hem hem2 hsz
    cases xb
    · clear hxy
      go_wp2_with fail
      go_at_call 13
      refine (H1.out _).mono ?_
      rintro e w3 ⟨rfl, rfl⟩
      go_wp2_with fail
      go_at_call 13
      refine (H2.out _).mono ?_
      rintro e w3 ⟨rfl, rfl⟩
      go_wp2_with (first | (go_at_call 11; first | (refine (H3.out _).mono ?_; rintro e w3 ⟨rfl, rfl⟩) | (refine (H4.out _).mono ?_; rintro e w3 ⟨rfl, rfl⟩)) | (go_at_call 15; refine (HX.out _).mono ?_; rintro e w4 ⟨rfl, hb4⟩))
      all_goals go_ret
      all_goals exact ⟨ret_bool (by first | rfl | (simp [*]; done)), hb4⟩
    · have hq := hxy rfl rfl
      clear hxy
      by_cases hpq : p = q
      · obtain rfl := hq.2 hpq
        subst hpq
        clear hq
        go_wp2_with fail
        go_at_call 13
        refine (H1.out _).mono ?_
        rintro e w3 ⟨rfl, rfl⟩
        go_wp2_with (first | (go_at_call 13; refine (H1.out _).mono ?_; rintro e w3 ⟨rfl, rfl⟩) | (go_at_call 11; refine (H3.out _).mono ?_; rintro e w3 ⟨rfl, rfl⟩) | (go_at_call 15; refine (HX.out _).mono ?_; rintro e w4 ⟨rfl, hb4⟩))
        all_goals go_ret
        all_goals exact ⟨ret_bool (by first | rfl | (simp [*]; done)), hb4⟩
      · have hXY : ¬ X.toList = Y.toList := fun h => hpq (hq.1 (toList_inj h))
        have hpq' : (p == q) = false := by simpa using hpq
        clear hq hpq
        go_wp2_with fail
        go_at_call 13
        refine (H1.out _).mono ?_
        rintro e w3 ⟨rfl, rfl⟩
        go_wp2_with fail
        go_at_call 13
        refine (H2.out _).mono ?_
        rintro e w3 ⟨rfl, rfl⟩
        go_wp2_with (first | (go_at_call 11; first | (refine (H3.out _).mono ?_; rintro e w3 ⟨rfl, rfl⟩) | (refine (H4.out _).mono ?_; rintro e w3 ⟨rfl, rfl⟩)) | (go_at_call 15; refine (HX.out _).mono ?_; rintro e w4 ⟨rfl, hb4⟩))
        all_goals go_ret
        all_goals exact ⟨ret_bool (by first | rfl | (simp [*]; done)), hb4⟩
theorem signL_len (a : Nat) : (signL a).length = if isS a then 1 else 0 := by
  by_cases h : isS a = true
  · rcases isS_cases h with rfl | rfl | rfl | rfl | rfl | rfl | rfl <;> rfl
  · have h' : isS a = false := by simpa using h
    unfold signL; simp [h']
theorem signL_inj {a b : Nat} (ha : isS a = true) (hb : isS b = true) : signL a = signL b ↔ a = b := by
  rcases isS_cases ha with rfl | rfl | rfl | rfl | rfl | rfl | rfl <;> rcases isS_cases hb with rfl | rfl | rfl | rfl | rfl | rfl | rfl <;> decide
theorem cptexts_any (a b : Nat) (ha : a < 256) (hb : b < 256) (w : World) : Calls Try.prog 5 #[.int .u8 (a : Int), .int .u8 (b : Int)] w fun e w' => e = .returned (.bool true) ∧ Below w.heap.size w w' :=
  cptexts_some a b (isS a) (isS b) (signL a) (signL b) w (signL_len a) (Lib.hid fun W => cpwakes_any W) (Lib.hid fun W => text_any a ha W) (Lib.hid fun W => text_any b hb W) (Lib.hid fun W => is_any a ha W) (Lib.hid fun W => is_any b hb W) signL_inj
end Go.Proofs.Ytheiodccagpphaa
