/- Contract of tarmacref01.filled, over the translated program. -/
import Derived.Test.YthaaccbbegmhbaaDoorShaR2
import Derived.Test.YthaaccbbegmhbaaDoorShaApp
import Derived.Test.YthaaccbbegmhbaaDoorShaPureS
namespace Go.Proofs.YthaaccbbegmhbaaDoor
open Go.RowKit Go.Sha

theorem Own.sl {w : World} {base n : Nat} {v : Value} {l : List Nat} (h : Own w base v l) (hn : l.length = n) : ∃ p cap, v = .slice p n cap := by
  obtain ⟨p, cap, e, _⟩ := h.src
  exact ⟨p, cap, by rw [e, hn]⟩
theorem rem64 (L z : Nat) (h : z = L % 64) : (L : Int).tmod 64 = (z : Int) := by rw [Int.tmod_eq_emod_of_nonneg (by omega)]; omega
theorem len8_walk' (c k : Nat) : ((c : Int) * 8) / 2 ^ (56 - 8 * k) % 256 = ((((8 * c) >>> (56 - 8 * k)) % 256 : Nat) : Int) := by
  rw [show ((c : Int) * 8) = ((8 * c : Nat) : Int) by omega, Nat.shiftRight_eq_div_pow]
  simp
theorem psize_le (c : Nat) : psize c ≤ 72 := psize_hi c

set_option maxRecDepth 100000 in
set_option maxHeartbeats 1600000 in
theorem filled_any (l : List Nat) (p : Option Addr) (n c : Nat) (w : World) (hn : n = l.length) (hl : n ≤ 100000) (hv : Src w (.slice p n c) l) :
    Calls Tryd.prog 24 #[.slice p n c] w fun e w' => ∃ v, e = .returned v ∧ Own w' w.heap.size v (filL l) ∧ Below w.heap.size w w' := by
  have HN := Lib.hid hn; clear hn
  have HV := Lib.hid hv; clear hv
  go_enter Tryd.func24, Tryd.ntmps24
  go_wp2_with (with_reducible refine stp_append ?_)
  unfold Stp
  with_reducible refine wl_app w.heap.size (.slice none 0 0) (.slice p n c) [] l ?_ ?_ (own_nil _ _) ?_ ?_ ?_ ?_
  · rfl
  · rfl
  · exact HV.out
  · rw [← HN.out]; simp; omega
  · exact Nat.le_refl _
  intro v1 w1 hown1 hgr1 _
  rw [List.nil_append] at hown1
  have HB1 := Lib.hid (grown_to_below hgr1 (Nat.le_refl _) (by simp [Value.ownBlock]))
  have HO1 := Lib.hid hown1
  clear hown1 hgr1 HV
  obtain ⟨p1, c1, rfl⟩ := HO1.out.sl HN.out.symm
  go_wp2_with (with_reducible refine stp_append ?_)
  unfold Stp
  with_reducible refine wl_app w.heap.size (.slice p1 n c1) (.slice (some ⟨w1.heap.size, 0, none⟩) 1 1) l [128] ?_ ?_ ?_ ?_ ?_ ?_ ?_
  · rfl
  · rfl
  · exact HO1.out.kept ((Below.refl _ _).alloc (Nat.le_refl _) _)
  · exact src_one w1 128 5 1
  · rw [← HN.out]; simp; omega
  · have := HB1.out.size; simp; omega
  intro v2 w2 hown2 hgr2 _
  rw [pa_zero] at hown2
  have HB2 := Lib.hid (show Below w.heap.size w w2 from (HB1.out.alloc HB1.out.size _).trans (grown_to_below hgr2 (by have := HB1.out.size; simp; omega) (fun k e => (HO1.out.lt k e).1)))
  have HO2 := Lib.hid hown2
  clear hown2 hgr2 HO1 HB1
  go_wp2_with fail
  go_loopw [3] (fun s wr => ∃ j, j ≤ psize n - 9 ∧ Own wr w.heap.size s (pa l j) ∧ Below w.heap.size w wr) (fun s _ => n + 200 - slen s)
  case atStart => exact ⟨0, Nat.zero_le _, HO2.out, HB2.out⟩
  case round =>
    clear HO2 HB2
    obtain ⟨j, hj, hown, hb⟩ := hrel
    have HO := Lib.hid hown; clear hown
    have HB := Lib.hid hb; clear hb
    have HL := Lib.hid (show (pa l j).length = n + 1 + j by rw [pa_len, HN.out])
    obtain ⟨p3, c3, rfl⟩ := HO.out.sl HL.out
    have hps := psize_le n
    have hpl := psize_lo n
    have hst := pad_stop n j hj
    obtain ⟨L, hL⟩ : ∃ L, L = n + 1 + j := ⟨_, rfl⟩
    rw [← hL] at hst HO HL ⊢
    obtain ⟨z, hz⟩ : ∃ z, z = L % 64 := ⟨_, rfl⟩
    have q1 := rem64 L z hz
    rw [← hz] at hst
    have HZ := Lib.hid hz; clear hz
    by_cases h56 : z = 56
    · have hz1 : ((z : Int) == 56) = true := by simp; omega
      have hj2 := hst.1 h56
      rw [hj2, HN.out, pb_zero] at HO
      have HPL := Lib.hid (show ∀ t, (pb l t).length = L + t from fun t => by rw [pb_len, hL, hj2, HN.out])
      have hL2 : L ≤ n + 100 := by omega
      clear hst hps hpl hL hj2 hj HL
      go_wp2_with fail
      go_loopw [3, 5] (fun s i wr => ∃ t : Nat, t ≤ 8 ∧ i = .int .i64 (56 - 8 * (t : Int)) ∧ Own wr w.heap.size s (pb l t) ∧ Below w.heap.size w wr) (fun _ i _ => (intOf i + 8).toNat)
      case atStart => exact ⟨0, Nat.zero_le _, rfl, HO.out, HB.out⟩
      case round =>
        clear HO HB
        obtain ⟨t, ht, rfl, hown, hb⟩ := hrel
        have HO := Lib.hid hown; clear hown
        have HB := Lib.hid hb; clear hb
        obtain ⟨p5, c5, rfl⟩ := HO.out.sl (HPL.out t)
        by_cases h8 : t < 8
        · have g1 : decide ((0 : Int) ≤ 56 - 8 * (t : Int)) = true := by simp; omega
          have g2 : (0 : Int) ≤ 56 - 8 * (t : Int) := by omega
          have g3 : ((56 : Int) - 8 * (t : Int)).toNat = 56 - 8 * t := by omega
          have g4 : ¬ ((56 : Int) - 8 * (t : Int) < 0) := by omega
          have g5 : (56 : Int) - 8 * (t : Int) ≤ 9223372036854775807 := by omega
          have HW := Lib.hid (len8_walk' n t)
          go_wp2_with (with_reducible refine stp_append ?_)
          unfold Stp
          rw [HW.out]
          with_reducible refine wl_app w.heap.size (.slice p5 (L + t) c5) (.slice (some ⟨wr.heap.size, 0, none⟩) 1 1) (pb l t) [((8 * n) >>> (56 - 8 * t)) % 256] ?_ ?_ ?_ ?_ ?_ ?_ ?_
          · rfl
          · rfl
          · exact HO.out.kept ((Below.refl _ _).alloc (Nat.le_refl _) _)
          · exact src_one wr _ 5 1
          · rw [HPL.out]; simp; omega
          · have := HB.out.size; simp; omega
          intro v6 w6 hown6 hgr6 _
          have HB6 := Lib.hid (show Below w.heap.size w w6 from (HB.out.alloc HB.out.size _).trans (grown_to_below hgr6 (by have := HB.out.size; simp; omega) (fun k e => (HO.out.lt k e).1)))
          rw [HN.out, pb_succ] at hown6
          have HO6 := Lib.hid hown6
          clear hown6 hgr6 HW
          go_wp2_with fail
          go_roundw
          case rel => exact ⟨t + 1, by omega, by go_num, HO6.out, HB6.out⟩
          case measure => simp [intOf]; omega
        · obtain rfl : t = 8 := by omega
          rw [pb_all] at HO
          go_wp2_with fail
          go_ret
          exact ⟨_, rfl, HO.out, HB.out⟩
    · have hz1 : ((z : Int) == 56) = false := by simp; omega
      have hj2 : j < psize n - 9 := by rcases Nat.lt_or_ge j (psize n - 9) with h | h; exact h; exact absurd (hst.2 (by omega)) h56
      have HJ := Lib.hid hj2
      have hL2 : L ≤ n + 64 := by omega
      have HLL := Lib.hid hL
      clear hst hps hpl hj2 hj hL
      go_wp2_with (with_reducible refine stp_append ?_)
      unfold Stp
      with_reducible refine wl_app w.heap.size (.slice p3 L c3) (.slice (some ⟨wr.heap.size, 0, none⟩) 1 1) (pa l j) [0] ?_ ?_ ?_ ?_ ?_ ?_ ?_
      · rfl
      · rfl
      · exact HO.out.kept ((Below.refl _ _).alloc (Nat.le_refl _) _)
      · exact src_one wr 0 5 1
      · rw [HL.out]; simp; omega
      · have := HB.out.size; simp; omega
      intro v4 w4 hown4 hgr4 _
      rw [pa_succ] at hown4
      have HB4 := Lib.hid (show Below w.heap.size w w4 from (HB.out.alloc HB.out.size _).trans (grown_to_below hgr4 (by have := HB.out.size; simp; omega) (fun k e => (HO.out.lt k e).1)))
      have HO4 := Lib.hid hown4
      clear hown4 hgr4
      obtain ⟨p4, c4, rfl⟩ := HO4.out.sl (show (pa l (j + 1)).length = L + 1 by rw [pa_len, ← HN.out, HLL.out]; omega)
      go_wp2_with fail
      go_roundw
      case rel => exact ⟨j + 1, HJ.out, HO4.out, HB4.out⟩
      case measure => show n + 200 - (L + 1) < n + 200 - L; omega
end Go.Proofs.YthaaccbbegmhbaaDoor
