/- wrap.Print's contract. -/
import Derived.Test.YtjlifjgljejabaaGreatDoorWrapK
import Derived.Test.YtjlifjgljejabaaGreatDoorEdiW9
namespace Go.Proofs.YtjlifjgljejabaaGreatDoor
open Go.RowKit Go.Edi Go.Wrap

def wprintL (x : Wr) : Tx × Nat := if 8 ≤ x.from_ ∨ 8 ≤ x.to_ then ([], 1) else if 62 < x.segs.length then ([], 2) else printL (closeL x.from_ x.to_ x.ref x.segs)
theorem digs_len (n : Nat) (h : n < 18446744073709551616) : (digs n).length ≤ 20 := by
  show (Lib.decDigits n).length ≤ 20
  rw [Lib.decDigits_length]
  by_cases h1 : 1 ≤ n
  · have := Lib.numDigits_eq n h1 h; split at this <;> omega
  · obtain rfl : n = 0 := by omega
    rw [show Lib.nDigits 0 = 1 from by unfold Lib.nDigits; rfl]; omega
theorem sane_nums (ns : List Nat) (hn : ns.length ≤ 1000) (hlt : ∀ n ∈ ns, n < 18446744073709551616) : (numsE ns).length ≤ 1000000000000 ∧ ∀ e ∈ numsE ns, e.length ≤ 1000000000000 ∧ ∀ t ∈ e, t.length ≤ 1000000000000 := by
  refine ⟨by simp [numsE]; omega, fun e he => ?_⟩
  obtain ⟨n, hn2, rfl⟩ := List.mem_map.1 he
  refine ⟨by simp, fun t ht => ?_⟩
  obtain rfl := List.mem_singleton.1 ht
  have := digs_len n (hlt n hn2)
  omega
theorem sane_close {f t r : Nat} {l : List Sg} (hl : sane l) (hn : l.length ≤ 1000) (hf : f < 256) (ht : t < 256) (hr : r < 18446744073709551616) : sane (closeL f t r l) := by
  refine ⟨by simp [closeL]; omega, fun s hs => ?_⟩
  simp only [closeL, List.mem_cons, List.mem_append, List.not_mem_nil, or_false] at hs
  rcases hs with rfl | hs | rfl
  · exact sane_nums _ (by simp) (by intro n hn; simp only [List.mem_cons, List.not_mem_nil, or_false] at hn; omega)
  · exact hl.2 s hs
  · exact sane_nums _ (by simp) (by intro n hn; simp only [List.mem_cons, List.not_mem_nil, or_false] at hn; omega)
set_option maxRecDepth 100000 in
set_option maxHeartbeats 6400000 in
theorem wprint_any (x : Wr) (v : Value) (B : Nat) (w : World) (hv : SegsF w (· < w.heap.size) v x.segs) (hs : sane x.segs) (hf : x.from_ < 256) (ht : x.to_ < 256) (hr : x.ref < 18446744073709551616) (htab : Tab B w) (hB : B ≤ w.heap.size) :
    Calls Tryz.prog 34 #[.agg (wrV x.from_ x.to_ x.ref v)] w fun e w' => e = .returned (.tuple #[str (wprintL x).1, .int .i64 ((wprintL x).2 : Nat)]) ∧ Below w.heap.size w w' := by
  obtain ⟨f, t, r, l⟩ := x
  simp only at hv hs hf ht hr ⊢
  obtain ⟨p, cap, rfl⟩ := segs_slice hv
  have hf0 : (0 : Int) ≤ (f : Int) := Int.natCast_nonneg _
  have ht0 : (0 : Int) ≤ (t : Int) := Int.natCast_nonneg _
  by_cases h1 : (8 : Int) ≤ (f : Int) ∨ (8 : Int) ≤ (t : Int)
  · have HW := Lib.hid (show wprintL ⟨f, t, r, l⟩ = ([], 1) by unfold wprintL; rw [if_pos (by simp only; omega)])
    have h1' : (8 : Int) ≤ (f : Int) ∨ ((f : Int) < 8 ∧ (8 : Int) ≤ (t : Int)) := by omega
    clear hv hs hf ht hr htab hB h1
    rcases h1' with h1 | ⟨h1, h2⟩
    all_goals
      go_enter Tryz.func34, Tryz.ntmps34
      go_wp2
      go_ret2
      rw [HW.out]
      exact ⟨rfl, (Below.refl _ _).alloc (Nat.le_refl _) _⟩
  · have hf8 : ¬ (8 : Int) ≤ (f : Int) := by omega
    have ht8 : ¬ (8 : Int) ≤ (t : Int) := by omega
    by_cases h2 : (62 : Int) < (l.length : Int)
    · have HW := Lib.hid (show wprintL ⟨f, t, r, l⟩ = ([], 2) by unfold wprintL; rw [if_neg (by simp only; omega), if_pos (by simp only; omega)])
      clear hv hs hf ht hr htab hB h1
      go_enter Tryz.func34, Tryz.ntmps34
      go_wp2
      go_ret2
      rw [HW.out]
      exact ⟨rfl, (Below.refl _ _).alloc (Nat.le_refl _) _⟩
    · have HW := Lib.hid (show wprintL ⟨f, t, r, l⟩ = printL (closeL f t r l) by unfold wprintL; rw [if_neg (by simp only; omega), if_neg (by simp only; omega)])
      have hb1 : Below w.heap.size w (w.alloc (.cells (wrV f t r (.slice p l.length cap)) 41)) := (Below.refl _ _).alloc (Nat.le_refl _) _
      have hc := closed_any f t r l (.slice p l.length cap) B (w.alloc (.cells (wrV f t r (.slice p l.length cap)) 41)) (hv.kept fun b hb => ⟨Nat.lt_of_lt_of_le hb hb1.size, hb1.block b hb⟩) (by omega) hf ht hr (htab.on (hb1.mono hB)) (Nat.le_trans hB hb1.size)
      have hsn := sane_close hs (by omega) hf ht hr
      have HC := Lib.hid hc
      have HB1 := Lib.hid hb1
      have HSN := Lib.hid hsn
      clear hv hs hf ht hr htab hB h1 hc hb1 hsn
      generalize closeL f t r l = cl at *
      go_enter Tryz.func34, Tryz.ntmps34
      go_wp2_with (go_at_call 45; refine (HC.out).mono ?_)
      first | rintro e w1 v rfl hsg hb | rintro e w1 ⟨v, rfl, hsg, hb⟩
      have HP := Lib.hid (print_any cl v w1 hsg HSN.out)
      have HB2 := Lib.hid (HB1.out.trans (hb.mono (by first | exact Nat.le_succ _ | exact HB1.out.size)))
      clear hsg hb
      go_wp2_with (go_at_call 44; refine (HP.out).mono ?_)
      first | rintro e w2 rfl hb | rintro e w2 ⟨rfl, hb⟩
      have HB3 := Lib.hid (HB2.out.trans (hb.mono HB2.out.size))
      clear hb
      go_wp2
      go_ret2
      rw [HW.out]
      exact ⟨rfl, HB3.out⟩
end Go.Proofs.YtjlifjgljejabaaGreatDoor
