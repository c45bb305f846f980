/- The walk of ProrateEqual. -/
import Derived.Test.YthjaiianbcfiaaaPrAp
import Derived.Test.YthjaiianbcfiaaaPrPure3
namespace Go.Proofs.Ythjaiianbcfiaaa
open Go.Shelf Go.RowKit Go.Lib Go.Sort Go.Stb Go.Money Go.Pror

set_option maxRecDepth 100000 in
set_option maxHeartbeats 3200000 in
theorem prequal_any (a : Int) (v : Nat) (n : Int) (w : World) (hv : (v : Int) ≤ 4294967295) :
    Calls Try.prog 6 #[.int .i64 a, .int .u32 (v : Int), .int .i64 n] w fun e w' => e = .returned (.bool true) ∧ Below w.heap.size w w' := by
  have v0 : (0 : Int) ≤ (v : Int) := Int.natCast_nonneg _
  by_cases n1 : n < 1
  · go_enter Try.func6, Try.ntmps6
    go_wp2_with (go_at_call 8; refine (prwakes_any _).mono ?_; rintro e w2 ⟨rfl, hb2⟩)
    go_ret
    exact ⟨rfl, hb2⟩
  by_cases n2 : 64 < n
  · have n1b : decide (n < 1) = false := decide_eq_false n1
    clear n1
    go_enter Try.func6, Try.ntmps6
    go_wp2_with (go_at_call 8; refine (prwakes_any _).mono ?_; rintro e w2 ⟨rfl, hb2⟩)
    go_ret
    exact ⟨rfl, hb2⟩
  have n1b : decide (n < 1) = false := decide_eq_false n1
  have n2b : decide (n > 64) = false := decide_eq_false n2
  obtain ⟨m, rfl⟩ : ∃ m : Nat, n = (m : Int) := ⟨n.toNat, by omega⟩
  have m1 : (1 : Int) ≤ (m : Int) := by omega
  have m2 : (m : Int) ≤ 64 := by omega
  clear n1 n2
  by_cases hv0 : v = 0
  · subst hv0
    go_enter Try.func6, Try.ntmps6
    go_wp2_with (go_at_call 8; refine (prwakes_any _).mono ?_; rintro e w2 ⟨rfl, hb2⟩)
    go_ret
    exact ⟨rfl, hb2⟩
  have v0b : ((v : Int) == 0) = false := by rw [beq_eq_false_iff_ne]; omega
  by_cases a1 : a < 0
  · have HV0 := Lib.hid hv0
    clear hv0
    go_enter Try.func6, Try.ntmps6
    go_wp2_with (go_at_call 8; refine (prwakes_any _).mono ?_; rintro e w2 ⟨rfl, hb2⟩)
    go_ret
    exact ⟨rfl, hb2⟩
  have a1b : decide (a < 0) = false := decide_eq_false a1
  cases hm : may a
  · have ca := chk_f hm
    have HV0 := Lib.hid hv0
    clear hv0 a1 hm
    go_enter Try.func6, Try.ntmps6
    go_wp2_with first | (go_at_call 15; refine (check_any _ _).mono ?_; rintro e w' ⟨rfl, rfl⟩; simp only [ca]) | (go_at_call 8; refine (prwakes_any _).mono ?_; rintro e w2 ⟨rfl, hb2⟩)
    go_ret
    exact ⟨rfl, hb2⟩
  have ca := chk_t hm
  have am := (may_iff a).1 hm
  obtain ⟨A, rfl⟩ : ∃ A : Nat, a = (A : Int) := ⟨a.toNat, by omega⟩
  have A0 : (0 : Int) ≤ (A : Int) := Int.natCast_nonneg _
  have A1 : (A : Int) ≤ 1125899906842624 := am.2
  have HV0 := Lib.hid hv0
  have HR := Lib.hid (show shareR (A : Int) (List.replicate m v) = (ints (shareL A (List.replicate m v)), 0) from shareR_ok (by simp; omega) (by rw [rep_sum]; intro h; rcases Nat.mul_eq_zero.1 h with h | h <;> omega) A1)
  have HRB := Lib.hid (show ∀ x ∈ List.replicate m v, x ≤ 4294967295 from fun x hx => by rw [(List.mem_replicate.1 hx).2]; omega)
  clear hv0 a1 hm am
  go_enter Try.func6, Try.ntmps6
  go_wp2_with (go_at_call 15; refine (check_any _ _).mono ?_; rintro e w' ⟨rfl, rfl⟩; simp only [ca])
  clear ca
  go_loopw [7, 8] (fun vv i wr => ∃ (j : Nat), i = .int .i64 j ∧ j ≤ m ∧ Hid (OwN .u32 29 w.heap.size wr vv (List.replicate j v)) ∧ Hid (Below w.heap.size w wr)) (fun _ i _ => m - (intOf i).toNat)
  case atStart => exact ⟨0, rfl, Nat.zero_le _, by show OwN _ _ _ _ _ _; unfold OwN; exact World.ownsRow_nil _ _ _ _, Below.refl _ _⟩
  case round =>
    obtain ⟨j, rfl, hj, ho, hb⟩ := hrel
    have HO := Lib.hid ho.out
    have HB := Lib.hid hb.out
    rename World => wr
    obtain ⟨pa, ca, rfl, _, ho2, hn2⟩ := own_at (n := j) (by simp) ho.out
    have HO2 := Lib.hid ho2
    have HN2 := Lib.hid hn2
    clear ho hb ho2 hn2
    by_cases hlt : (j : Int) < (m : Int)
    · have hj0 : (0 : Int) ≤ (j : Int) := Int.natCast_nonneg _
      go_wp2_with (at_builtin; refine wl_appF 22 29 (.int .u32 0) 1 4 par_u32 Try.underlying22 rfl (by decide) (by decide) w.heap.size (.slice pa j ca) j ((ints (List.replicate j v)).map (Value.int .u32)) (by rfl) (HO2.out.alloc _) (.slice (some ⟨wr.heap.size, 0, none⟩) 1 1) (fun _ => True) 1 [.int .u32 (v : Int)] rfl (row1 _ _ _) rfl (one_int _ _) (by omega) (by have := HB.out.size; simp; omega) ?_)
      intro v' w3 ho hgr _
      have HO3 := Lib.hid (own_snoc (x := v) (by simp) ho)
      have HB3 := Lib.hid ((HB.out.alloc HB.out.size _).grown hgr (by have := HB.out.size; simp; omega) (fun k hk => (HO2.out.lt k hk).1))
      clear ho hgr
      go_wp2
      go_roundw
      case rel => exact ⟨j + 1, by go_num, by omega, by rw [List.replicate_succ']; exact HO3.out, HB3.out⟩
      case measure => simp [intOf]; omega
    · obtain rfl : j = m := by omega
      have hsl : (shareL A (List.replicate j v)).length = j := by unfold shareL; rw [given_len]; simp
      have HS := Lib.hid (by
        have := share_is HR.out pa ca wr HN2.out HRB.out
        rw [ints_len, hsl, List.length_replicate] at this; exact this)
      have HSL := Lib.hid hsl
      obtain ⟨Q, hQ⟩ : ∃ Q, Q = A / j := ⟨_, rfl⟩
      obtain ⟨r, hr⟩ : ∃ r, r = A % j := ⟨_, rfl⟩
      have q1 : (A : Int) / (j : Int) = (Q : Int) := by rw [hQ]; omega
      have r1 : (A : Int) % (j : Int) = (r : Int) := by rw [hr]; omega
      have q2 : (A : Int).tdiv (j : Int) = (Q : Int) := by rw [Int.tdiv_eq_ediv_of_nonneg A0]; exact q1
      have r2 : (A : Int).tmod (j : Int) = (r : Int) := by rw [Int.tmod_eq_emod_of_nonneg A0]; exact r1
      have qb : (Q : Int) ≤ 1125899906842624 := by have := Nat.div_le_self A j; omega
      have q0 : (0 : Int) ≤ (Q : Int) := Int.natCast_nonneg _
      have j0 : ((j : Int) == 0) = false := by rw [beq_eq_false_iff_ne]; omega
      have HQR := Lib.hid (show ∀ i, i < j → (shareL A (List.replicate j v)).getD i 0 = Q + if i < r then 1 else 0 from fun i hi => by
        rw [hQ, hr]; exact equal_share A j v (by omega) (by have := HV0.out; omega) i hi)
      clear hsl hQ hr
      go_wp2_with fail
      refine (HS.out).mono ?_
      rintro e w3 ⟨q, c3, rfl, hc3, hn3, hb3⟩
      have HB3 := Lib.hid (HB.out.trans (hb3.mono HB.out.size))
      have HN5 := Lib.hid hn3
      clear hc3 hn3 hb3
      go_wp2_with fail
      go_loopw [11, 12] (fun i _ wx => ∃ (k : Nat), i = .int .i64 k ∧ k ≤ j ∧ w3 = wx) (fun i _ _ => j - (intOf i).toNat)
      case atStart => exact ⟨0, rfl, Nat.zero_le _, rfl⟩
      case round =>
        obtain ⟨k, rfl, hk, rfl⟩ := hrel
        by_cases hlt2 : (k : Int) < (j : Int)
        · have hkj : k < j := by omega
          have hk0 : (0 : Int) ≤ (k : Int) := Int.natCast_nonneg _
          obtain ⟨b2, o2, rfl, _, c2⟩ := kcell HN5.out (j := k) (by rw [HSL.out]; exact hkj)
          rw [HQR.out k hkj] at c2
          by_cases hkr : (k : Int) < (r : Int)
          · rw [if_pos (by omega)] at c2
            obtain ⟨Q1, hQ1⟩ : ∃ Q1, Q1 = Q + 1 := ⟨_, rfl⟩
            have e1 : (Q : Int) + 1 = (Q1 : Int) := by omega
            rw [← hQ1] at c2
            clear hQ1
            go_wp2_with fail
            go_roundw
            case rel => exact ⟨k + 1, by go_num, by omega, trivial⟩
            case measure => simp [intOf]; omega
          · rw [if_neg (by omega), Nat.add_zero] at c2
            go_wp2_with fail
            go_roundw
            case rel => exact ⟨k + 1, by go_num, by omega, trivial⟩
            case measure => simp [intOf]; omega
        · go_wp2_with (go_at_call 8; refine (prwakes_any _).mono ?_; rintro e w4 ⟨rfl, hb4⟩)
          go_ret
          exact ⟨rfl, HB3.out.trans (hb4.mono HB3.out.size)⟩
end Go.Proofs.Ythjaiianbcfiaaa
