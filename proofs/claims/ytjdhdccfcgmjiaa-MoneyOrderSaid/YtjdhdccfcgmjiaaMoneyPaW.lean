/- The walk of MoneyParts. -/
import Derived.Test.YtjdhdccfcgmjiaaMoneySm
import Derived.Test.YtjdhdccfcgmjiaaMoneyTlW
namespace Go.Proofs.Ytjdhdccfcgmjiaa
open Go.RowKit Go.Money

/-- all numbers together -/
def allI : List Int → Int
  | [] => 0
  | a :: l => a + allI l
theorem allI_app (l m : List Int) : allI (l ++ m) = allI l + allI m := by
  induction l with
  | nil => simp [allI]
  | cons a l ih => simp only [List.cons_append, allI, ih]; omega
def u16 (l : List Int) : Prop := ∀ x ∈ l, 0 ≤ x ∧ x ≤ 65535
theorem allI_pos : ∀ {l : List Int}, u16 l → 0 ≤ allI l ∧ allI l ≤ l.length * 65535
  | [], _ => by simp [allI]
  | a :: l, h => by
    have h1 := h a (by simp)
    have h2 := allI_pos (l := l) (fun x hx => h x (by simp [hx]))
    simp only [allI, List.length_cons]
    omega
theorem allI_take {l : List Int} {k : Nat} (h : k < l.length) : allI (l.take (k + 1)) = allI (l.take k) + l.getD k 0 := by
  have e : l.getD k 0 = l[k] := by rw [List.getD_eq_getElem?_getD, List.getElem?_eq_getElem h]; rfl
  rw [List.take_succ_eq_append_getElem h, allI_app, e]
  simp [allI]
theorem u16_take {l : List Int} (h : u16 l) (k : Nat) : u16 (l.take k) := fun x hx => h x (List.mem_of_mem_take hx)
theorem u16_drop {l : List Int} (h : u16 l) (k : Nat) : u16 (l.drop k) := fun x hx => h x (List.mem_of_mem_drop hx)
theorem u16_get {l : List Int} (h : u16 l) {k : Nat} (hk : k < l.length) : 0 ≤ l.getD k 0 ∧ l.getD k 0 ≤ 65535 := by
  rw [List.getD_eq_getElem?_getD, List.getElem?_eq_getElem hk]
  exact h _ (List.getElem_mem hk)
theorem get_le {l : List Int} (h : u16 l) {k : Nat} (hk : k < l.length) : l.getD k 0 ≤ allI l := by
  have h1 := allI_take hk
  have h2 := allI_pos (u16_take h k)
  have h3 := allI_pos (u16_drop h (k + 1))
  have h4 : allI l = allI (l.take (k + 1)) + allI (l.drop (k + 1)) := by rw [← allI_app, List.take_append_drop]
  omega
theorem part_good {a n d : Int} (ha : 0 ≤ a) (ha2 : a ≤ 1125899906842624) (hn : 0 ≤ n) (hd : n ≤ d) (hd1 : 1 ≤ d) (hd2 : d ≤ 1099511627776) : ∃ W X : Int, partO a n d = some (W, X) ∧ W * d + X = a * n ∧ 0 ≤ W ∧ W ≤ a ∧ 0 ≤ X ∧ X + 1 ≤ d := by
  have hp : partC a n d = true := by rw [partC_iff]; unfold partB; omega
  refine ⟨a * n / d, a * n % d, by unfold partO; rw [hp]; rfl, ?_, ?_, ?_, ?_, ?_⟩
  · rw [Int.mul_comm]; exact Int.mul_ediv_add_emod ..
  · exact Int.ediv_nonneg (Int.mul_nonneg ha hn) (by omega)
  · have h1 : a * n ≤ a * d := Int.mul_le_mul_of_nonneg_left hd ha
    calc a * n / d ≤ a * d / d := Int.ediv_le_ediv (by omega) h1
      _ = a := Int.mul_ediv_cancel _ (by omega)
  · exact Int.emod_nonneg _ (by omega)
  · have := Int.emod_lt_of_pos (a * n) (show 0 < d by omega); omega
theorem parts_step {A R W X a n d s : Int} (h : A * d + R = a * s) (h2 : W * d + X = a * n) : (A + W) * d + (R + X) = a * (s + n) := by
  rw [Int.add_mul, Int.mul_add]; omega
theorem parts_end {A R a d : Int} {k : Nat} (h : A * d + R = a * d) (hd : 1 ≤ d) (hR : 0 ≤ R) (hk : R + k ≤ k * d) (hk0 : 0 < k) : R % d = 0 ∧ ∃ q, R / d = q ∧ A + q = a ∧ a - A < k := by
  have e : R = (a - A) * d := by rw [Int.sub_mul]; omega
  have h1 : R / d = a - A := by rw [e]; exact Int.mul_ediv_cancel _ (by omega)
  refine ⟨by rw [e]; exact Int.mul_emod_left .., a - A, h1, by omega, ?_⟩
  have h2 : (a - A) * d < k * d := by rw [← e]; omega
  exact Int.lt_of_mul_lt_mul_right h2 (by omega)
theorem room_step {R X d : Int} {k : Nat} (h : R + k ≤ k * d) (hX : X + 1 ≤ d) : (R + X) + ((k + 1 : Nat) : Int) ≤ ((k + 1 : Nat) : Int) * d := by
  rw [show ((k + 1 : Nat) : Int) = (k : Int) + 1 by omega, Int.add_mul]; omega
set_option maxRecDepth 100000 in
set_option maxHeartbeats 1600000 in
theorem mnparts_any (a : Int) (l : List Int) (p : Option Addr) (cap : Nat) (w : World) (hN : Nums w .u16 p l) (hu : u16 l) : Calls Try.prog 6 #[iv a, .slice p l.length cap] w fun e w' => e = .returned (.bool true) ∧ Below w.heap.size w w' := by
  by_cases h60 : (60 : Int) < (l.length : Int)
  · clear hN
    go_enter Try.func6, Try.ntmps6
    go_wp2_with (go_at_call 18; refine (mnwakes_any _).mono ?_; rintro e w2 ⟨rfl, hb2⟩)
    go_ret
    exact ⟨rfl, hb2⟩
  by_cases h0 : l.length = 0
  · clear hN
    have z0 : (l.length == 0) = true := by simpa using h0
    go_enter Try.func6, Try.ntmps6
    go_wp2_with (go_at_call 18; refine (mnwakes_any _).mono ?_; rintro e w2 ⟨rfl, hb2⟩)
    go_ret
    exact ⟨rfl, hb2⟩
  have hl1 : (1 : Int) ≤ (l.length : Int) := by omega
  have hl2 : (l.length : Int) ≤ 60 := by omega
  have HN := Lib.hid hN
  have HU := Lib.hid hu
  have HL0 := Lib.hid h0
  have z0 : (l.length == 0) = false := by simpa using h0
  have z1 : ((l.length : Int) == 0) = false := by simpa using h0
  clear hN hu h60 h0
  go_enter Try.func6, Try.ntmps6
  go_wp2_with fail
  go_loopw [5, 6] (fun s i wr => ∃ (k : Nat) (x : Int), i = .int .i64 k ∧ s = .int .i64 x ∧ k ≤ l.length ∧ Hid (allI (l.take k) = x) ∧ 0 ≤ x ∧ x ≤ 3932100 ∧ w = wr) (fun _ i _ => l.length - (intOf i).toNat)
  case atStart => exact ⟨0, 0, rfl, rfl, Nat.zero_le _, rfl, by omega, by omega, rfl⟩
  case round =>
    obtain ⟨k, x, rfl, rfl, hk, hs, x1, x2, rfl⟩ := hrel
    have HS := Lib.hid hs.out
    clear hs
    by_cases hlt : (k : Int) < (l.length : Int)
    · have hkl : k < l.length := by omega
      have hk0 : (0 : Int) ≤ (k : Int) := Int.natCast_nonneg _
      obtain ⟨b, o, rfl, hb, hcell⟩ := HN.out.cell hkl
      obtain ⟨g1, g2⟩ := u16_get HU.out hkl
      have hst := allI_take hkl
      have hpos := allI_pos (u16_take HU.out (k + 1))
      have hlen : (l.take (k + 1)).length ≤ 60 := by simp; omega
      rw [HS.out] at hst
      have HST := Lib.hid hst
      have b1 : x + l.getD k 0 ≤ 3932100 := by rw [← hst]; omega
      generalize l.getD k 0 = n at *
      clear hst hpos hlen
      go_wp2_with fail
      go_roundw
      case rel => exact ⟨k + 1, _, by go_num, rfl, by omega, HST.out, by omega, by omega, trivial⟩
      case measure => simp [intOf]; omega
    · have hE := take_all l hlt
      have hs2 := HS.out
      rw [hE] at hs2
      have HS2 := Lib.hid hs2
      clear hE hs2 HS
      by_cases hx0 : x = 0
      · subst hx0
        have hp : partO a 0 0 = none := part_none (by rw [← Bool.not_eq_true, partC_iff]; unfold partB; omega)
        have HP := Lib.hid hp
        clear hp
        cases hma : may a
        · have hca := chk_f hma
          clear hma
          go_wp2_with first
            | (go_at_call 12; refine (check_any _ _).mono ?_; rintro e w' ⟨rfl, rfl⟩; rw [hca])
            | (go_at_call 16; refine (part_any _ _ _ _).mono ?_; rintro e w3 ⟨rfl, hb3⟩; rw [HP.out]; simp only [tv, tripV])
            | (go_at_call 18; refine (mnwakes_any _).mono ?_; rintro e w4 ⟨rfl, hb4⟩)
          go_ret
          exact ⟨rfl, hb3.trans (hb4.mono hb3.size)⟩
        · have hca := chk_t hma
          clear hma
          go_wp2_with first
            | (go_at_call 12; refine (check_any _ _).mono ?_; rintro e w' ⟨rfl, rfl⟩; rw [hca])
            | (go_at_call 16; refine (part_any _ _ _ _).mono ?_; rintro e w3 ⟨rfl, hb3⟩; rw [HP.out]; simp only [tv, tripV])
            | (go_at_call 18; refine (mnwakes_any _).mono ?_; rintro e w4 ⟨rfl, hb4⟩)
          go_ret
          exact ⟨rfl, hb3.trans (hb4.mono hb3.size)⟩
      have xz : (x == 0) = false := by simpa using hx0
      have xp : 1 ≤ x := by omega
      by_cases ha0 : a < 0
      · have hp : partO a 0 x = none := part_none (by rw [← Bool.not_eq_true, partC_iff]; unfold partB; omega)
        have HP := Lib.hid hp
        clear hp
        go_wp2_with first
          | (go_at_call 12; refine (check_any _ _).mono ?_; rintro e w' ⟨rfl, rfl⟩; rw [hca])
          | (go_at_call 16; refine (part_any _ _ _ _).mono ?_; rintro e w3 ⟨rfl, hb3⟩; rw [HP.out]; simp only [tv, tripV])
          | (go_at_call 18; refine (mnwakes_any _).mono ?_; rintro e w4 ⟨rfl, hb4⟩)
        go_ret
        exact ⟨rfl, hb3.trans (hb4.mono hb3.size)⟩
      cases hma : may a
      · have hca := chk_f hma
        have hp : partO a 0 x = none := part_none (by rw [← Bool.not_eq_true, partC_iff]; unfold partB; have := (may_no a).1 hma; omega)
        have HP := Lib.hid hp
        clear hp hma
        go_wp2_with first
          | (go_at_call 12; refine (check_any _ _).mono ?_; rintro e w' ⟨rfl, rfl⟩; rw [hca])
          | (go_at_call 16; refine (part_any _ _ _ _).mono ?_; rintro e w3 ⟨rfl, hb3⟩; rw [HP.out]; simp only [tv, tripV])
          | (go_at_call 18; refine (mnwakes_any _).mono ?_; rintro e w4 ⟨rfl, hb4⟩)
        go_ret
        exact ⟨rfl, hb3.trans (hb4.mono hb3.size)⟩
      have hca := chk_t hma
      obtain ⟨a1, a2⟩ := (may_iff a).1 hma
      have ap : 0 ≤ a := by omega
      have an : decide (a < 0) = false := decide_eq_false (by omega)
      have HPG := Lib.hid (fun (j : Nat) (hj : j < l.length) => part_good (a := a) (n := l.getD j 0) (d := x) ap a2 (u16_get HU.out hj).1 (by rw [← HS2.out]; exact get_le HU.out hj) xp (by omega))
      clear hma hx0 ha0
      go_wp2_with (go_at_call 12; refine (check_any _ _).mono ?_; rintro e w' ⟨rfl, rfl⟩; rw [hca])
      go_loopw [10, 11, 12, 13, 14, 15] (fun A R i _ _ _ wr => ∃ (k : Nat) (A1 R1 : Int), i = .int .i64 k ∧ A = .int .i64 A1 ∧ R = .int .i64 R1 ∧ k ≤ l.length ∧ Hid (A1 * x + R1 = a * allI (l.take k)) ∧ Hid (R1 + k ≤ k * x) ∧ 0 ≤ A1 ∧ A1 ≤ k * 1125899906842624 ∧ 0 ≤ R1 ∧ R1 ≤ k * 3932100 ∧ Hid (Below w.heap.size w wr)) (fun _ _ i _ _ _ _ => l.length - (intOf i).toNat)
      case atStart => exact ⟨0, 0, 0, rfl, rfl, rfl, Nat.zero_le _, by show _ = _; simp [allI], by show _ ≤ _; simp, by omega, by omega, by omega, by omega, Below.refl _ _⟩
      case round =>
        obtain ⟨k, A1, R1, rfl, rfl, rfl, hk, hs, hr, q1, q2, r1, r2, hbl⟩ := hrel
        have HS := Lib.hid hs.out
        have HR := Lib.hid hr.out
        have HB := Lib.hid hbl.out
        clear hs hr hbl
        by_cases hlt : (k : Int) < (l.length : Int)
        · have hkl : k < l.length := by omega
          have hk0 : (0 : Int) ≤ (k : Int) := Int.natCast_nonneg _
          have hk1 : (k : Int) ≤ 59 := by omega
          obtain ⟨b, o, rfl, hb, hcell⟩ := (HN.out.keep HB.out).cell hkl
          obtain ⟨g1, g2⟩ := u16_get HU.out hkl
          have hst := allI_take hkl
          obtain ⟨W, X, hpo, hwx, w1, w2, x3, x4⟩ := HPG.out k hkl
          have HPO := Lib.hid hpo
          have HN1 := Lib.hid (parts_step HS.out hwx)
          have HN2 := Lib.hid (room_step HR.out x4)
          rw [← hst] at HN1
          generalize l.getD k 0 = n at *
          have d1 : decide (W < 0) = false := decide_eq_false (by omega)
          have d2 : decide (a < W) = false := decide_eq_false (by omega)
          have d3 : decide (X < 0) = false := decide_eq_false (by omega)
          have d4 : decide (x ≤ X) = false := decide_eq_false (by omega)
          clear hst hpo hwx
          go_wp2_with (go_at_call 16; refine (part_any _ _ _ _).mono ?_; rintro e w3 ⟨rfl, hb3⟩; rw [HPO.out]; simp only [tv, tripV])
          go_roundw
          case rel => exact ⟨k + 1, _, _, by go_num, rfl, rfl, by omega, HN1.out, HN2.out, by omega, by omega, by omega, by omega, HB.out.trans (hb3.mono HB.out.size)⟩
          case measure => simp [intOf]; omega
        · have hE := take_all l hlt
          have hs2 := HS.out
          rw [hE, HS2.out] at hs2
          have hkk : k = l.length := by omega
          obtain ⟨t1, q, t2, t3, t4⟩ := parts_end hs2 xp r1 HR.out (by have := HL0.out; omega)
          have t5 : a - A1 < (l.length : Int) := by omega
          have t6 : a - A1 = q := by omega
          clear hE hs2
          go_wp2_with (go_at_call 18; refine (mnwakes_any _).mono ?_; rintro e w4 ⟨rfl, hb4⟩)
          go_ret
          exact ⟨rfl, HB.out.trans (hb4.mono HB.out.size)⟩
end Go.Proofs.Ytjdhdccfcgmjiaa
