/- The walk of Share where it shares out. -/
import Derived.Test.YtpapcilffkpjjaaPrS2
namespace Go.Proofs.Ytpapcilffkpjjaa
open Go.Shelf Go.RowKit Go.Lib Go.Sort Go.Stb Go.Money Go.Pror

theorem ShM.drew {w wr : World} {A : Nat} {ws : List Nat} {k gs gr : Nat} (h : ShM w A ws k gs gr wr) : ShM w A ws k gs gr wr.drew := ⟨⟨h.s.row⟩, ⟨h.r.row⟩, h.bel.drew, h.ls, h.lr, h.ne⟩
theorem whole_bd {A : Nat} {ws : List Nat} (h : 0 < ws.sum) {k : Nat} (hk : k < ws.length) : ws.getD k 0 ≤ ws.sum := by
  have h1 := sum_take_succ ws k hk
  have h2 := sum_take_le ws (k + 1)
  omega
/-- what the first k whole shares leave -/
def lft (A : Nat) (ws : List Nat) (k : Nat) : Nat := A - ((wholes A ws.sum ws).take k).sum
theorem lft_zero (A : Nat) (ws : List Nat) : lft A ws 0 = A := by simp [lft]
theorem lft_next {A : Nat} {ws : List Nat} (h : 0 < ws.sum) {k : Nat} (hk : k < ws.length) : lft A ws k = lft A ws (k + 1) + (wholes A ws.sum ws).getD k 0 := by
  have h1 := sum_take_succ (wholes A ws.sum ws) k (by rw [wholes_len]; exact hk)
  have h2 := sum_take_le (wholes A ws.sum ws) (k + 1)
  have h3 := wholes_le A ws h
  unfold lft
  omega
theorem lft_all (A : Nat) (ws : List Nat) : lft A ws ws.length = left A ws := by
  unfold lft left
  rw [List.take_of_length_le (by rw [wholes_len]; exact Nat.le_refl _)]
theorem lft_le (A : Nat) (ws : List Nat) (k : Nat) : lft A ws k ≤ A := by unfold lft; omega
attribute [irreducible] lft
/-- a slice in a block of the call's own -/
def NewQ (w : World) (e : Ending) : Prop := ∃ g n c x, e = .returned (.tuple #[.slice (some ⟨g, 0, none⟩) n c, x]) ∧ w.heap.size ≤ g
set_option maxRecDepth 100000 in
set_option maxHeartbeats 3200000 in
theorem share_good (A : Nat) (ws : List Nat) (p : Option Addr) (cap : Nat) (w : World) (hN : Nums w .u32 p (ints ws)) (hw : ∀ x ∈ ws, x ≤ 4294967295) (h64 : ¬ 64 < ws.length) (h0 : ws.sum ≠ 0) (hA : (A : Int) ≤ 1125899906842624) :
    Calls Try.prog 28 #[iv (A : Int), .slice p ws.length cap] w fun e w' => ShareP (A : Int) ws w e w' ∧ NewQ w e := by
  have HT := Lib.hid (fun w hN => together_any' ws p cap w hN (by omega) hw)
  have HE := Lib.hid (shareR_ok h64 h0 hA)
  have hl : ¬ (64 : Int) < (ws.length : Int) := by omega
  have HL := Lib.hid (show ws.length ≤ 64 by omega)
  have hl2 : (ws.length : Int) ≤ 64 := by omega
  have hn0 : 0 < ws.length := by
    rcases Nat.eq_zero_or_pos ws.length with h | h
    · have := List.eq_nil_of_length_eq_zero h; subst this; exact absurd rfl h0
    · exact h
  have HD0 := Lib.hid (show 0 < ws.sum by omega)
  have HDB := Lib.hid (show ws.sum ≤ 274877906880 by have := sum_bound ws hw; omega)
  have HP := Lib.hid (fun (k : Nat) (hk : k < ws.length) (w : World) => part_some A (ws.getD k 0) ws.sum w hA (by have := whole_bd (A := A) HD0.out hk; omega) (by have := HD0.out; omega) (by have := HDB.out; omega))
  have hD : ¬ ((ws.sum : Nat) : Int) = 0 := by omega
  have HN := Lib.hid hN
  have HW := Lib.hid hw
  have HA := Lib.hid hA
  have HR := Lib.hid (fun (q : Option Addr) (cap : Nat) (w : World) (hN : Nums w .i64 q (restI A ws)) => by
    have := byRest_any (restI A ws) q cap w (by rw [restI_len]; exact hn0) (by rw [restI_len]; omega) hN
    rw [restI_len] at this; exact this)
  have mk : ∀ w : World, (Instr.makeSlice 29 (.int .i64 (ws.length : Int)) (.int .i64 (ws.length : Int))).run Try.prog w = .ok (.slice (some ⟨w.heap.size, 0, none⟩) ws.length ws.length) (w.alloc (.cells (zI ws.length) 2)) := fun w => mk_i64s ws.length (by omega) w
  have HN0 := Lib.hid hn0
  clear hN hw h64 h0 hn0
  obtain ⟨D, hDD⟩ : ∃ D, D = ws.sum := ⟨_, rfl⟩
  have hD2 : ((D : Int) == 0) = false := by rw [beq_eq_false_iff_ne]; omega
  have hl3 : decide ((ws.length : Int) > 64) = false := decide_eq_false (by omega)
  clear hD hl
  have HDD := Lib.hid hDD
  rw [← hDD] at HT HP
  clear hDD
  go_enter Try.func28, Try.ntmps28
  go_wp2_with first | (go_at_call 36; refine (HT.out _ HN.out).mono ?_; rintro e w' ⟨rfl, rfl⟩) | fail
  go_upto_region 6 with fail
  go_cut [7, 8] from 24 to 29 (fun vs vr wx => ∃ gs gr, vs = .slice (some ⟨gs, 0, none⟩) ws.length ws.length ∧ vr = .slice (some ⟨gr, 0, none⟩) ws.length ws.length ∧ Hid (ShM w A ws 0 gs gr wx))
  case first =>
    go_region
    all_goals go_wp2
    all_goals go_meet
    all_goals exact ⟨_, _, rfl, rfl, (two_blocks _ _ (by first | exact Or.inl ⟨rfl, by simp⟩ | exact Or.inr ⟨rfl, by simp⟩)).out.drew⟩
  case rest =>
    obtain ⟨gs, gr, rfl, rfl, hb⟩ := hcut
    have HB := Lib.hid hb.out
    clear hb mk
    rename World => w1
    go_wp2
    go_loopw [9, 10, 11, 12, 13, 14, 33] (fun vl _ _ _ _ _ i wx => ∃ (k u : Nat), i = .int .i64 k ∧ vl = .int .i64 u ∧ k ≤ ws.length ∧ Hid (u = lft A ws k) ∧ Hid (ShM w A ws k gs gr wx)) (fun _ _ _ _ _ _ i _ => ws.length - (intOf i).toNat)
    case atStart => exact ⟨0, A, rfl, rfl, Nat.zero_le _, (lft_zero A ws).symm, HB.out⟩
    case round =>
      obtain ⟨k, u, rfl, rfl, hk, hu, hM⟩ := hrel
      have HU := Lib.hid hu.out
      have HM := Lib.hid hM.out
      clear HB hu hM
      rename World => wr
      by_cases hlt : (k : Int) < (ws.length : Int)
      · have hk0 : (0 : Int) ≤ (k : Int) := Int.natCast_nonneg _
        have hkl : k < ws.length := by omega
        obtain ⟨b, o, rfl, hbl, hcell⟩ := wcell HN.out hkl
        have hc : wr.cell? ⟨b, o + k, none⟩ = some (.int .u32 ((ws.getD k 0 : Nat) : Int)) := (HM.out.bel.cell (p := ⟨b, o + k, none⟩) hbl).trans hcell
        clear hcell
        obtain ⟨u', hu'⟩ : ∃ u', u' = lft A ws (k + 1) := ⟨_, rfl⟩
        obtain ⟨x, hx⟩ : ∃ x, x = A * ws.getD k 0 / D := ⟨_, rfl⟩
        obtain ⟨y, hy⟩ : ∃ y, y = A * ws.getD k 0 % D := ⟨_, rfl⟩
        have hx2 := wholes_getD A ws.sum ws k hkl
        have hy2 := rests_getD A ws.sum ws k hkl
        rw [← HDD.out, ← hx] at hx2
        rw [← HDD.out, ← hy] at hy2
        have hnx := lft_next (A := A) HD0.out hkl
        rw [← HU.out, ← hu', ← HDD.out, hx2] at hnx
        have ub := lft_le A ws k
        rw [← HU.out] at ub
        have hPk := HP.out k hkl
        rw [← hx, ← hy] at hPk
        have HPK := Lib.hid hPk
        have eu : (u : Int) - (x : Int) = (u' : Int) := by omega
        have hA' := HA.out
        have u1 : (u : Int) ≤ 1125899906842624 := by omega
        have u2 : (u' : Int) ≤ 1125899906842624 := by omega
        have u0 : (0 : Int) ≤ (u' : Int) := Int.natCast_nonneg _
        have a0 : (0 : Int) ≤ ((ws.getD k 0 : Nat) : Int) := Int.natCast_nonneg _
        have a1 : ((ws.getD k 0 : Nat) : Int) ≤ 4294967295 := by have := HW.out _ (getD_mem hkl); omega
        have HX2 := Lib.hid hx2
        have HY2 := Lib.hid hy2
        have HU2 := Lib.hid hu'
        clear hx hy hx2 hy2 hnx ub hPk hu' hA'
        generalize ws.getD k 0 = a at *
        go_wp2_with fail
        refine (HPK.out _).mono ?_
        rintro e w2 ⟨rfl, hb2⟩
        have hs2 := HM.out.s.lt
        have hr2 := HM.out.r.lt
        have HM2 : Hid (ShM w A ws k gs gr w2) := ⟨HM.out.s.keep hb2 hs2, HM.out.r.keep hb2 hr2, HM.out.bel.trans (hb2.mono HM.out.bel.size), HM.out.ls, HM.out.lr, HM.out.ne⟩
        clear hs2 hr2 hb2
        have cs := HM2.out.s.cell (j := k) (by rw [prt_len, wholes_len]; exact hkl)
        have fs := HM2.out.s.frozen k
        have cr := HM2.out.r.cell (j := k) (by rw [prt_len, rests_len]; exact hkl)
        have fr := HM2.out.r.frozen k
        have ne := HM2.out.ne
        generalize (prt (wholes A ws.sum ws) k).getD k 0 = o1 at cs
        generalize (prt (rests A ws.sum ws) k).getD k 0 = o2 at cr
        go_wp2
        go_roundw
        case rel => exact ⟨k + 1, u', by go_num, rfl, by omega, HU2.out, HM2.out.next (by rw [← HDD.out, HX2.out]) (by rw [← HDD.out, HY2.out])⟩
        case measure => simp [intOf]; omega
      · obtain rfl : k = ws.length := by omega
        have hu := HU.out
        rw [lft_all] at hu
        have ul := left_lt A ws HD0.out
        have ul2 : (u : Int) ≤ (ws.length : Int) := by omega
        have u0 : (0 : Int) ≤ (u : Int) := Int.natCast_nonneg _
        have HU2 := Lib.hid hu
        have hrr := HM.out.r
        rw [← rests_len A ws.sum ws, prt_all] at hrr
        have hnr : Nums wr .i64 (some ⟨gr, 0, none⟩) (restI A ws) := by unfold restI; exact hrr.nums
        have HC := Lib.hid (HR.out (some ⟨gr, 0, none⟩) ws.length wr hnr)
        clear hu ul hrr hnr
        go_wp2_with fail
        refine (HC.out).mono ?_
        rintro e w2 ⟨q, L, rfl, hs, hn, hq, hb2⟩
        have HS := Lib.hid hs
        have hLl : L.length = ws.length := hs.len.trans (restI_len A ws)
        have HLL := Lib.hid hLl
        have hM : Hid (ShN w A ws L 0 gs q w2) := by
          have hlt2 := HM.out.s.lt
          refine ⟨?_, ?_, HM.out.bel.trans (hb2.mono HM.out.bel.size), HM.out.ls, by omega⟩
          · have := HM.out.s.keep hb2 hlt2
            rw [← wholes_len A ws.sum ws, prt_all] at this
            rw [given_zero]; exact this
          · exact hn
        clear hs hLl hn hq hb2
        go_wp2
        go_loopw [16, 67] (fun _ i wx => ∃ (j : Nat), i = .int .i64 j ∧ j ≤ u ∧ Hid (ShN w A ws L j gs q wx)) (fun _ i _ => u - (intOf i).toNat)
        case atStart => exact ⟨0, rfl, Nat.zero_le _, hM⟩
        case round =>
          obtain ⟨j, rfl, hj, hM⟩ := hrel
          have HN2 := Lib.hid hM.out
          clear hM
          rename World => wx
          by_cases hlt : (j : Int) < (u : Int)
          · have hj0 : (0 : Int) ≤ (j : Int) := Int.natCast_nonneg _
            have hjl : j < ws.length := by omega
            obtain ⟨i, hi⟩ : ∃ i, i = L.getD j 0 := ⟨_, rfl⟩
            have hil := HS.out.lt (k := j) (by rw [HLL.out]; exact hjl)
            rw [← hi, restI_len] at hil
            obtain ⟨b, o, e1, _, e3⟩ := HN2.out.pl.cell (j := j) (by rw [ints_len, HLL.out]; exact hjl)
            simp only [Option.some.injEq, Addr.mk.injEq] at e1
            obtain ⟨rfl, rfl, _⟩ := e1
            rw [ints_getD, ← hi, Nat.zero_add] at e3
            have cs := HN2.out.s.cell (j := i) (by rw [ints_len, given_len]; exact hil)
            have fs := HN2.out.s.frozen i
            rw [ints_getD] at cs
            obtain ⟨g, hg⟩ : ∃ g, g = (given A ws j).getD i 0 := ⟨_, rfl⟩
            rw [← hg] at cs
            have gb : (g : Int) ≤ 9223372036854775806 := by
              have h1 := given_getD A ws j i hil
              have h2 := wholes_getD A ws.sum ws i hil
              have h3 : A * ws.getD i 0 / ws.sum ≤ A := by
                have := Nat.mul_le_mul_left A (whole_bd (A := A) HD0.out hil)
                calc A * ws.getD i 0 / ws.sum ≤ A * ws.sum / ws.sum := Nat.div_le_div_right this
                  _ = A := Nat.mul_div_cancel _ HD0.out
              have h4 := HA.out
              rw [hg, h1, h2]
              split <;> omega
            have g0 : (0 : Int) ≤ (g : Int) := Int.natCast_nonneg _
            have i0 : (0 : Int) ≤ (i : Int) := Int.natCast_nonneg _
            have il : (i : Int) < (ws.length : Int) := by omega
            have HI := Lib.hid hi
            have HG := Lib.hid hg
            clear hi hg
            go_wp2
            go_roundw
            case rel => exact ⟨j + 1, by go_num, by omega, HN2.out.next HS.out hjl HI.out (by rw [← HG.out]; simp)⟩
            case measure => simp [intOf]; omega
          · obtain rfl : j = u := by omega
            go_wp2
            go_ret2
            refine ⟨?_, ⟨gs, _, _, _, rfl, HN2.out.ls⟩⟩
            unfold ShareP
            rw [HE.out]
            have hsz : (ints (shareL A ws)).length = ws.length := by rw [ints_len]; unfold shareL; exact given_len _ _ _
            refine ⟨some ⟨gs, 0, none⟩, ws.length, by rw [hsz]; rfl, by rw [hsz]; exact Nat.le_refl _, ?_, HN2.out.bel⟩
            have := HN2.out.s.nums
            rw [HU2.out] at this
            unfold shareL
            exact this
theorem share_any (t : Int) (ws : List Nat) (p : Option Addr) (cap : Nat) (w : World) (hN : Nums w .u32 p (ints ws)) (hw : ∀ x ∈ ws, x ≤ 4294967295) :
    Calls Try.prog 28 #[iv t, .slice p ws.length cap] w fun e w' => ShareP t ws w e w' := by
  by_cases hb : 64 < ws.length ∨ ws.sum = 0 ∨ t < 0 ∨ 1125899906842624 < t
  · exact share_bad t ws p cap w hN hw hb
  · obtain ⟨A, rfl⟩ : ∃ A : Nat, t = (A : Int) := ⟨t.toNat, by omega⟩
    exact (share_good A ws p cap w hN hw (by omega) (by omega) (by omega)).mono fun _ _ h => h.1
end Go.Proofs.Ytpapcilffkpjjaa
