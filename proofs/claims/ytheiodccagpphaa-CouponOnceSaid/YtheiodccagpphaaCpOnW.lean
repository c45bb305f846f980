/- The walk of CouponOnce. -/
import Derived.Test.YtheiodccagpphaaCpTlW
import Derived.Test.YtheiodccagpphaaCpOpen
namespace Go.Proofs.Ytheiodccagpphaa
open Go.RowKit Go.Coupon

/-- where a command leads from a status that is one: along one of the seven ways, or nowhere -/
theorem next_cases {s : Nat} (hs : isS s = true) (c : Nat) : (nextL s c = (0, 1) ∨ nextL s c = (0, 6)) ∨ ∃ t, nextL s c = (t, 0) ∧ ((s = 1 ∧ (t = 2 ∨ t = 5 ∨ t = 6 ∨ t = 7)) ∨ (s = 2 ∧ (t = 1 ∨ t = 3)) ∨ (s = 3 ∧ t = 4)) := by
  by_cases hc : isC c = true
  · rcases isS_cases hs with rfl | rfl | rfl | rfl | rfl | rfl | rfl <;> rcases isC_cases hc with rfl | rfl | rfl | rfl | rfl | rfl | rfl <;>
      first | exact .inl (.inl rfl) | exact .inl (.inr rfl) | exact .inr ⟨_, rfl, by decide⟩
  · exact .inl (.inl (next_arg (.inr (by simpa using hc))))
def en (s : Nat) : Int := if overL s then 1 else 0
set_option maxRecDepth 100000 in
set_option maxHeartbeats 1600000 in
theorem cponce_any (l : List Int) (p : Option Addr) (cap : Nat) (w : World) (hN : Nums w .u8 p l) (hw : ∀ x ∈ l, (Lit.int .u8 x).wf = true) : Calls Try.prog 4 #[.slice p l.length cap] w fun e w' => e = .returned (.bool true) ∧ Below w.heap.size w w' := by
  have HX := Lib.hid (fun W => cpwakes_any W)
  by_cases h500 : (500 : Int) < (l.length : Int)
  · clear hN hw
    go_enter Try.func4, Try.ntmps4
    go_wp2_with (go_at_call 15; refine (HX.out _).mono ?_; rintro e w2 ⟨rfl, hb2⟩)
    go_ret
    exact ⟨rfl, hb2⟩
  have HN := Lib.hid hN
  have HL := Lib.hid (show l.length ≤ 500 by omega)
  have HWF := Lib.hid hw
  clear hN hw
  have hlz : (l.length : Int) ≤ 500 := by omega
  go_enter Try.func4, Try.ntmps4
  go_wp2_with fail
  go_loopw [3, 4, 5] (fun sv ev i wr => ∃ (k s : Nat), i = .int .i64 k ∧ sv = .int .u8 (s : Int) ∧ ev = .int .i64 (en s) ∧ k ≤ l.length ∧ Hid (isS s = true) ∧ Hd w wr) (fun _ _ i _ => l.length - (intOf i).toNat)
  case atStart => exact ⟨0, 1, rfl, rfl, rfl, Nat.zero_le _, Lib.hid rfl, ⟨Below.refl _ _⟩⟩
  case round =>
    obtain ⟨k, s, rfl, rfl, rfl, hk, hs, hwr⟩ := hrel
    have hs256 : s < 256 := by have := isS_cases hs.out; omega
    by_cases hlt : (k : Int) < (l.length : Int)
    · have hkl : k < l.length := by omega
      have hk0 : (0 : Int) ≤ (k : Int) := Int.natCast_nonneg _
      obtain ⟨b, o, rfl, hb, hcell⟩ := (HN.out.keep hwr.out).cell hkl
      obtain ⟨c, hc, hc256⟩ := byte_nat (HWF.out (l.getD k 0) (by rw [List.getD_eq_getElem?_getD, List.getElem?_eq_getElem hkl]; exact List.getElem_mem hkl))
      rw [hc] at hcell
      have H1 := Lib.hid (fun W => next_any s c hs256 hc256 W)
      clear hc hc256 hb
      rcases next_cases hs.out c with hn | ⟨t, hn, hst⟩
      · have hn' : ∃ e : Nat, nextL s c = (0, e) ∧ (e = 1 ∨ e = 6) := by rcases hn with h | h <;> exact ⟨_, h, by simp⟩
        obtain ⟨er, hne, her⟩ := hn'
        rw [hne] at H1
        clear hn hne
        rcases her with rfl | rfl
        all_goals
          go_wp2_with (go_at_call 6; refine (H1.out _).mono ?_; rintro e w2 ⟨rfl, hb2⟩; have HB2 := Lib.hid (hwr.out.trans (hb2.mono hwr.out.size)); clear hb2)
          go_roundw
          case rel => exact ⟨k + 1, s, by go_num, rfl, rfl, by omega, hs, ⟨HB2.out⟩⟩
          case measure => simp [intOf]; omega
      · rw [hn] at H1
        clear hn
        rcases hst with ⟨rfl, rfl | rfl | rfl | rfl⟩ | ⟨rfl, rfl | rfl⟩ | ⟨rfl, rfl⟩
        · have HOs := Lib.hid (fun W => over_any 1 (by decide) W)
          have HOt := Lib.hid (fun W => over_any 2 (by decide) W)
          have HI := Lib.hid (fun W => is_any 2 (by decide) W)
          have HF := Lib.hid (fun W => free_any 1 W)
          go_wp2_with (go_at_call 6; refine (H1.out _).mono ?_; rintro e w2 ⟨rfl, hb2⟩; have HB2 := Lib.hid (hwr.out.trans (hb2.mono hwr.out.size)); clear hb2)
          go_at_call 8
          refine (HOs.out _).mono ?_
          rintro e w3 ⟨rfl, rfl⟩
          go_wp2_with (first | (go_at_call 11; refine (HI.out _).mono ?_; rintro e w3 ⟨rfl, rfl⟩))
          go_at_call 8
          refine (HOt.out _).mono ?_
          rintro e w3 ⟨rfl, rfl⟩
          go_wp2
          go_roundw
          case rel => exact ⟨k + 1, 2, by go_num, rfl, rfl, by omega, Lib.hid rfl, ⟨HB2.out⟩⟩
          case measure => simp [intOf]; omega
        · have HOs := Lib.hid (fun W => over_any 1 (by decide) W)
          have HOt := Lib.hid (fun W => over_any 5 (by decide) W)
          have HI := Lib.hid (fun W => is_any 5 (by decide) W)
          have HF := Lib.hid (fun W => free_any 1 W)
          go_wp2_with (go_at_call 6; refine (H1.out _).mono ?_; rintro e w2 ⟨rfl, hb2⟩; have HB2 := Lib.hid (hwr.out.trans (hb2.mono hwr.out.size)); clear hb2)
          go_at_call 8
          refine (HOs.out _).mono ?_
          rintro e w3 ⟨rfl, rfl⟩
          go_wp2_with (first | (go_at_call 11; refine (HI.out _).mono ?_; rintro e w3 ⟨rfl, rfl⟩) | (go_at_call 10; refine (HF.out _).mono ?_; rintro e w3 ⟨rfl, rfl⟩))
          go_at_call 8
          refine (HOt.out _).mono ?_
          rintro e w3 ⟨rfl, rfl⟩
          go_wp2
          go_roundw
          case rel => exact ⟨k + 1, 5, by go_num, rfl, by kernel_rfl, by omega, Lib.hid rfl, ⟨HB2.out⟩⟩
          case measure => simp [intOf]; omega
        · have HOs := Lib.hid (fun W => over_any 1 (by decide) W)
          have HOt := Lib.hid (fun W => over_any 6 (by decide) W)
          have HI := Lib.hid (fun W => is_any 6 (by decide) W)
          have HF := Lib.hid (fun W => free_any 1 W)
          go_wp2_with (go_at_call 6; refine (H1.out _).mono ?_; rintro e w2 ⟨rfl, hb2⟩; have HB2 := Lib.hid (hwr.out.trans (hb2.mono hwr.out.size)); clear hb2)
          go_at_call 8
          refine (HOs.out _).mono ?_
          rintro e w3 ⟨rfl, rfl⟩
          go_wp2_with (first | (go_at_call 11; refine (HI.out _).mono ?_; rintro e w3 ⟨rfl, rfl⟩) | (go_at_call 10; refine (HF.out _).mono ?_; rintro e w3 ⟨rfl, rfl⟩))
          go_at_call 8
          refine (HOt.out _).mono ?_
          rintro e w3 ⟨rfl, rfl⟩
          go_wp2
          go_roundw
          case rel => exact ⟨k + 1, 6, by go_num, rfl, by kernel_rfl, by omega, Lib.hid rfl, ⟨HB2.out⟩⟩
          case measure => simp [intOf]; omega
        · have HOs := Lib.hid (fun W => over_any 1 (by decide) W)
          have HOt := Lib.hid (fun W => over_any 7 (by decide) W)
          have HI := Lib.hid (fun W => is_any 7 (by decide) W)
          have HF := Lib.hid (fun W => free_any 1 W)
          go_wp2_with (go_at_call 6; refine (H1.out _).mono ?_; rintro e w2 ⟨rfl, hb2⟩; have HB2 := Lib.hid (hwr.out.trans (hb2.mono hwr.out.size)); clear hb2)
          go_at_call 8
          refine (HOs.out _).mono ?_
          rintro e w3 ⟨rfl, rfl⟩
          go_wp2_with (first | (go_at_call 11; refine (HI.out _).mono ?_; rintro e w3 ⟨rfl, rfl⟩) | (go_at_call 10; refine (HF.out _).mono ?_; rintro e w3 ⟨rfl, rfl⟩))
          go_at_call 8
          refine (HOt.out _).mono ?_
          rintro e w3 ⟨rfl, rfl⟩
          go_wp2
          go_roundw
          case rel => exact ⟨k + 1, 7, by go_num, rfl, by kernel_rfl, by omega, Lib.hid rfl, ⟨HB2.out⟩⟩
          case measure => simp [intOf]; omega
        · have HOs := Lib.hid (fun W => over_any 2 (by decide) W)
          have HOt := Lib.hid (fun W => over_any 1 (by decide) W)
          have HI := Lib.hid (fun W => is_any 1 (by decide) W)
          have HF := Lib.hid (fun W => free_any 2 W)
          go_wp2_with (go_at_call 6; refine (H1.out _).mono ?_; rintro e w2 ⟨rfl, hb2⟩; have HB2 := Lib.hid (hwr.out.trans (hb2.mono hwr.out.size)); clear hb2)
          go_at_call 8
          refine (HOs.out _).mono ?_
          rintro e w3 ⟨rfl, rfl⟩
          go_wp2_with (first | (go_at_call 11; refine (HI.out _).mono ?_; rintro e w3 ⟨rfl, rfl⟩))
          go_at_call 8
          refine (HOt.out _).mono ?_
          rintro e w3 ⟨rfl, rfl⟩
          go_wp2
          go_roundw
          case rel => exact ⟨k + 1, 1, by go_num, rfl, rfl, by omega, Lib.hid rfl, ⟨HB2.out⟩⟩
          case measure => simp [intOf]; omega
        · have HOs := Lib.hid (fun W => over_any 2 (by decide) W)
          have HOt := Lib.hid (fun W => over_any 3 (by decide) W)
          have HI := Lib.hid (fun W => is_any 3 (by decide) W)
          have HF := Lib.hid (fun W => free_any 2 W)
          go_wp2_with (go_at_call 6; refine (H1.out _).mono ?_; rintro e w2 ⟨rfl, hb2⟩; have HB2 := Lib.hid (hwr.out.trans (hb2.mono hwr.out.size)); clear hb2)
          go_at_call 8
          refine (HOs.out _).mono ?_
          rintro e w3 ⟨rfl, rfl⟩
          go_wp2_with (first | (go_at_call 11; refine (HI.out _).mono ?_; rintro e w3 ⟨rfl, rfl⟩))
          go_at_call 8
          refine (HOt.out _).mono ?_
          rintro e w3 ⟨rfl, rfl⟩
          go_wp2
          go_roundw
          case rel => exact ⟨k + 1, 3, by go_num, rfl, rfl, by omega, Lib.hid rfl, ⟨HB2.out⟩⟩
          case measure => simp [intOf]; omega
        · have HOs := Lib.hid (fun W => over_any 3 (by decide) W)
          have HOt := Lib.hid (fun W => over_any 4 (by decide) W)
          have HI := Lib.hid (fun W => is_any 4 (by decide) W)
          have HF := Lib.hid (fun W => free_any 3 W)
          go_wp2_with (go_at_call 6; refine (H1.out _).mono ?_; rintro e w2 ⟨rfl, hb2⟩; have HB2 := Lib.hid (hwr.out.trans (hb2.mono hwr.out.size)); clear hb2)
          go_at_call 8
          refine (HOs.out _).mono ?_
          rintro e w3 ⟨rfl, rfl⟩
          go_wp2_with (first | (go_at_call 11; refine (HI.out _).mono ?_; rintro e w3 ⟨rfl, rfl⟩))
          go_at_call 8
          refine (HOt.out _).mono ?_
          rintro e w3 ⟨rfl, rfl⟩
          go_wp2
          go_roundw
          case rel => exact ⟨k + 1, 4, by go_num, rfl, by kernel_rfl, by omega, Lib.hid rfl, ⟨HB2.out⟩⟩
          case measure => simp [intOf]; omega
    · have HOs := Lib.hid (fun W => over_any s hs256 W)
      have hen : overL s = true ∨ overL s = false := by cases overL s <;> simp
      rcases hen with ho | ho
      · have hE : en s = 1 := by unfold en; rw [ho]; rfl
        rw [ho] at HOs
        rw [hE]
        clear hE ho
        go_wp2_with (first | (go_at_call 8; refine (HOs.out _).mono ?_; rintro e w3 ⟨rfl, rfl⟩) | (go_at_call 15; refine (HX.out _).mono ?_; rintro e w4 ⟨rfl, hb4⟩))
        go_ret
        exact ⟨ret_bool rfl, hwr.out.trans (hb4.mono hwr.out.size)⟩
      · have hE : en s = 0 := by unfold en; rw [ho]; rfl
        rw [ho] at HOs
        rw [hE]
        clear hE ho
        go_wp2_with (first | (go_at_call 8; refine (HOs.out _).mono ?_; rintro e w3 ⟨rfl, rfl⟩) | (go_at_call 15; refine (HX.out _).mono ?_; rintro e w4 ⟨rfl, hb4⟩))
        go_ret
        exact ⟨ret_bool rfl, hwr.out.trans (hb4.mono hwr.out.size)⟩
end Go.Proofs.Ytheiodccagpphaa
