/- The walk of Share. -/
import Derived.Test.YtpapcilffkpjjaaPrS
namespace Go.Proofs.Ytpapcilffkpjjaa
open Go.Shelf Go.RowKit Go.Lib Go.Sort Go.Stb Go.Money Go.Pror

theorem shareR_long {t : Int} {ws : List Nat} (h : 64 < ws.length) : shareR t ws = ([], 2) := by unfold shareR; rw [if_pos h]
theorem shareR_weight {t : Int} {ws : List Nat} (h : ¬ 64 < ws.length) (h2 : ws.sum = 0) : shareR t ws = ([], 60) := by unfold shareR; rw [if_neg h, if_pos h2]
theorem shareR_over {t : Int} {ws : List Nat} (h : ¬ 64 < ws.length) (h2 : ws.sum ≠ 0) (h3 : t < 0 ∨ 1125899906842624 < t) : shareR t ws = ([], 7) := by unfold shareR; rw [if_neg h, if_neg h2, if_pos h3]
theorem shareR_ok {A : Nat} {ws : List Nat} (h : ¬ 64 < ws.length) (h2 : ws.sum ≠ 0) (h3 : (A : Int) ≤ 1125899906842624) : shareR (A : Int) ws = (ints (shareL A ws), 0) := by
  unfold shareR; rw [if_neg h, if_neg h2, if_neg (by omega)]; rfl
theorem two_blocks {w : World} {A : Nat} {ws : List Nat} (gs gr : Nat) (hgs : (gs = w.heap.size ∧ gr = w.heap.size + 1) ∨ (gr = w.heap.size ∧ gs = w.heap.size + 1)) : Hid (ShM w A ws 0 gs gr ((w.alloc (.cells (zI ws.length) 2)).alloc (.cells (zI ws.length) 2))) := by
  have hs : (w.alloc (.cells (zI ws.length) 2)).heap.size = w.heap.size + 1 := by simp
  have b0 : BlkI ((w.alloc (.cells (zI ws.length) 2)).alloc (.cells (zI ws.length) 2)) w.heap.size 2 (List.replicate ws.length 0) :=
    ⟨by rw [heap_prev _ _ _ (by omega)]; exact (blk_zero w ws.length 2).row⟩
  have b1 : BlkI ((w.alloc (.cells (zI ws.length) 2)).alloc (.cells (zI ws.length) 2)) (w.heap.size + 1) 2 (List.replicate ws.length 0) := by
    have := blk_zero (w.alloc (.cells (zI ws.length) 2)) ws.length 2
    rw [hs] at this; exact this
  have bb : Below w.heap.size w ((w.alloc (.cells (zI ws.length) 2)).alloc (.cells (zI ws.length) 2)) := ((Below.refl _ _).alloc (Nat.le_refl _) _).alloc (by omega) _
  have p1 : prt (wholes A ws.sum ws) 0 = List.replicate ws.length 0 := by rw [prt_zero, wholes_len]
  have p2 : prt (rests A ws.sum ws) 0 = List.replicate ws.length 0 := by rw [prt_zero, rests_len]
  rcases hgs with ⟨rfl, rfl⟩ | ⟨rfl, rfl⟩
  · exact ⟨by rw [p1]; exact b0, by rw [p2]; exact b1, bb, Nat.le_refl _, by omega, by omega⟩
  · exact ⟨by rw [p1]; exact b1, by rw [p2]; exact b0, bb, by omega, Nat.le_refl _, by omega⟩
set_option maxRecDepth 100000 in
set_option maxHeartbeats 1600000 in
theorem share_bad (t : Int) (ws : List Nat) (p : Option Addr) (cap : Nat) (w : World) (hN : Nums w .u32 p (ints ws)) (hw : ∀ x ∈ ws, x ≤ 4294967295) (hb : 64 < ws.length ∨ ws.sum = 0 ∨ t < 0 ∨ 1125899906842624 < t) :
    Calls Try.prog 28 #[iv t, .slice p ws.length cap] w fun e w' => ShareP t ws w e w' := by
  by_cases h64 : 64 < ws.length
  · have hl : (64 : Int) < (ws.length : Int) := by omega
    have HE := Lib.hid (shareR_long (t := t) h64)
    clear hN hw hb h64
    go_enter Try.func28, Try.ntmps28
    go_wp2
    go_ret2
    exact share_nil HE.out (Below.refl _ _)
  have HT := Lib.hid (fun w hN => together_any' ws p cap w hN (by omega) hw)
  by_cases h0 : ws.sum = 0
  · have HE := Lib.hid (shareR_weight (t := t) h64 h0)
    have hl : ¬ (64 : Int) < (ws.length : Int) := by omega
    have HN := Lib.hid hN
    have HZ := Lib.hid h0
    clear hN hw hb h64 h0
    go_enter Try.func28, Try.ntmps28
    go_wp2_with (go_at_call 36; refine (HT.out _ HN.out).mono ?_; rw [HZ.out]; rintro e w' ⟨rfl, rfl⟩)
    go_ret2
    exact share_nil HE.out (Below.refl _ _)
  have ht : t < 0 ∨ 1125899906842624 < t := by omega
  have HE := Lib.hid (shareR_over h64 h0 ht)
  have hl : ¬ (64 : Int) < (ws.length : Int) := by omega
  have hn0 : 0 < ws.length := by
    rcases Nat.eq_zero_or_pos ws.length with h | h
    · have := List.eq_nil_of_length_eq_zero h; subst this; exact absurd rfl h0
    · exact h
  have hn0' : (0 : Int) < (ws.length : Int) := by omega
  have HP := Lib.hid (fun (n D : Int) (w : World) => part_bad t n D w (by unfold partB; omega))
  have hD : ¬ ((ws.sum : Nat) : Int) = 0 := by omega
  have HN := Lib.hid hN
  have HW := Lib.hid hw
  have mk : ∀ w : World, (Instr.makeSlice 29 (.int .i64 (ws.length : Int)) (.int .i64 (ws.length : Int))).run Try.prog w = .ok (.slice (some ⟨w.heap.size, 0, none⟩) ws.length ws.length) (w.alloc (.cells (zI ws.length) 2)) := fun w => mk_i64s ws.length (by omega) w
  clear hN hw hb h64 h0 ht
  generalize ws.sum = D at *
  go_enter Try.func28, Try.ntmps28
  go_wp2_with first | (go_at_call 36; refine (HT.out _ HN.out).mono ?_; rintro e w' ⟨rfl, rfl⟩) | fail
  go_upto_region 6 with fail
  go_cut [7, 8] from 24 to 29 (fun vs vr wx => ∃ gs gr, vs = .slice (some ⟨gs, 0, none⟩) ws.length ws.length ∧ vr = .slice (some ⟨gr, 0, none⟩) ws.length ws.length ∧ Hid (Below w.heap.size w wx))
  case first =>
    go_region
    all_goals go_wp2
    all_goals go_meet
    all_goals exact ⟨_, _, rfl, rfl, (((Below.refl _ _).alloc (Nat.le_refl _) _).alloc (by simp) _).drew⟩
  case rest =>
    obtain ⟨gs, gr, rfl, rfl, hb⟩ := hcut
    have HB := Lib.hid hb.out
    clear hb mk
    rename World => w1
    obtain ⟨b, o, rfl, hlt, hcell⟩ := wcell HN.out hn0
    have hcell1 : w1.cell? ⟨b, o, none⟩ = some (.int .u32 ((ws.getD 0 0 : Nat) : Int)) := (HB.out.cell (p := ⟨b, o + 0, none⟩) hlt).trans hcell
    clear hcell
    have a0 : (0 : Int) ≤ ((ws.getD 0 0 : Nat) : Int) := Int.natCast_nonneg _
    have a1 : ((ws.getD 0 0 : Nat) : Int) ≤ 4294967295 := by have := HW.out _ (getD_mem (l := ws) hn0); omega
    generalize ws.getD 0 0 = a at *
    go_wp2
    go_loopw [9, 10, 11, 12, 13, 14, 33] (fun _ _ _ _ _ _ i wx => i = .int .i64 (0 : Int) ∧ w1 = wx) (fun _ _ _ _ _ _ _ _ => 0)
    case atStart => exact ⟨rfl, rfl⟩
    case round =>
      obtain ⟨rfl, rfl⟩ := hrel
      go_wp2_with (go_at_call 37; refine (HP.out _ _ _).mono ?_; rintro e w' ⟨rfl, rfl⟩)
      go_ret2
      exact share_nil HE.out HB.out
end Go.Proofs.Ytpapcilffkpjjaa
