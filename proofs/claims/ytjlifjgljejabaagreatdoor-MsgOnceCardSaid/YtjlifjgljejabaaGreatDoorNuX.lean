/- Contract of number.Text. -/
import Derived.Test.YtjlifjgljejabaaGreatDoorNuT
namespace Go.Proofs.YtjlifjgljejabaaGreatDoor.Nu
open Go.RowKit Go.Shelf Go.Number

abbrev tkV (c s : Nat) : Array Value := #[.int .u8 (c : Int), .int .u64 (s : Int)]
theorem tx_app2 (a b c : Tx) : tx a ++ tx b ++ tx c = tx (a ++ b ++ c) := by rw [tx_app, tx_app]
theorem tx_size (a : Tx) : (tx a).size = a.length := by simp [ByteArray.size]
def padI (n k : Int) : Tx := last k.toNat n.toNat
def GoodP (n k : Int) : Prop := ∃ n' k' : Nat, n = (n' : Int) ∧ k = (k' : Int) ∧ (1 ≤ k' ∧ k' ≤ 10) ∧ n' < 10 ^ k'
set_option maxRecDepth 100000 in
set_option maxHeartbeats 6400000 in
theorem text_any (c s : Nat) (hc : c < 256) (B : Nat) (w : World) (htab : Tab B w) (hB : B ≤ w.heap.size) :
    Calls Tryz.prog 49 #[.agg (tkV c s)] w fun e w' => e = .returned (.tuple #[str (textL c s).1, .int .i64 ((textL c s).2 : Nat)]) ∧ Below w.heap.size w w' := by
  have hc0 : (0 : Int) ≤ (c : Int) := Int.natCast_nonneg _
  have hc1 : (c : Int) < 256 := by omega
  have hs0 : (0 : Int) ≤ (s : Int) := Int.natCast_nonneg _
  by_cases hm : may c s
  · rw [text_in hm]
    have hdm : decide (may c s) = true := decide_eq_true hm
    obtain ⟨wb, hwb⟩ : ∃ wb, wb = w.alloc (.cells (tkV c s) 24) := ⟨_, rfl⟩
    have hbw : Below w.heap.size w wb := by rw [hwb]; exact (Below.refl _ _).alloc (Nat.le_refl _) _
    have hws : wb.heap.size = w.heap.size + 1 := by rw [hwb, size_a]
    have hb0 : wb.heap[w.heap.size]? = some (.cells (tkV c s) 24 (0, 0)) := by rw [hwb]; exact World.alloc_heap_new w _
    have cell1 : ∀ wz : World, wz.heap[w.heap.size]? = some (.cells (tkV c s) 24 (0, 0)) → wz.cell? ⟨w.heap.size, 1, none⟩ = some (.int .u64 (s : Int)) := fun wz h => by simp [World.cell?, h]
    have CB : ∀ wz : World, Below wb.heap.size wb wz → wz.cell? ⟨w.heap.size, 1, none⟩ = some (.int .u64 (s : Int)) := fun wz hz => cell1 wz ((hz.block _ (by rw [hws]; exact Nat.lt_succ_self _)).trans hb0)
    have hP : ∀ (n k : Int) (wz : World), GoodP n k → Below wb.heap.size wb wz → Calls Tryz.prog 75 #[.int .u64 n, .int .i64 k] wz fun e w' => e = .returned (str (padI n k)) ∧ Below wb.heap.size wb w' := by
      rintro n k wz ⟨n', k', rfl, rfl, g1, g2⟩ hz
      exact (padded_any n' k' g1 g2 B wz (htab.on ((hbw.mono hB).trans (hz.mono (Nat.le_trans hB hbw.size)))) (Nat.le_trans hB (Nat.le_trans hbw.size hz.size))).mono fun e w' h => ⟨h.1, hz.trans (h.2.mono hz.size)⟩
    have G3 : GoodP (c : Int) 3 := ⟨c, 3, rfl, rfl, by omega, by have := hm.1; omega⟩
    have G10 : GoodP (s : Int) 10 := ⟨s, 10, rfl, rfl, by omega, by have := hm.2.2; omega⟩
    have G1 : GoodP (chk (body c s) : Int) 1 := ⟨_, 1, rfl, rfl, by omega, by have := chk_lt (body c s); omega⟩
    have PC : ∀ wz : World, Below wb.heap.size wb wz → Calls Tryz.prog 76 #[.string (tx (body c s))] wz fun e w' => e = .returned (.int .u64 (chk (body c s) : Int)) ∧ Below wb.heap.size wb w' := fun wz hz =>
      (check_any (body c s) (body_all c s) (by rw [body_len]; omega) wz).mono fun e w' h => ⟨h.1, hz.trans (h.2.mono hz.size)⟩
    have HM := Lib.hid (fun W => mayBe_any c s W)
    have HCB := Lib.hid CB
    have HP := Lib.hid hP
    have HPC := Lib.hid PC
    have HFIN := Lib.hid (show ∀ wz : World, Below wb.heap.size wb wz → Below w.heap.size w wz from fun wz hz => hbw.trans (hz.mono hbw.size))
    have c0 := CB _ (show Below wb.heap.size wb wb.drew from (Below.refl _ wb).drew)
    have HB0 := Lib.hid (show Below wb.heap.size wb wb.drew from (Below.refl _ wb).drew)
    have ha1 : tx (padI (c : Int) 3) ++ tx (padI (s : Int) 10) = tx (body c s) := tx_app _ _
    have ha2 : tx (body c s) ++ tx (padI (chk (body c s) : Int) 1) = tx (full c s) := tx_app _ _
    have z3 : (tx (padI (c : Int) 3)).size = 3 := by rw [tx_size]; exact last_len _ _
    have z10 : (tx (padI (s : Int) 10)).size = 10 := by rw [tx_size]; exact last_len _ _
    have z13 : (tx (body c s)).size = 13 := by rw [tx_size, body_len]
    have z1 : (tx (padI (chk (body c s) : Int) 1)).size = 1 := by rw [tx_size]; exact last_len _ _
    clear CB hP PC cell1 hbw hws hb0 htab hB hm
    go_enter Tryz.func49, Tryz.ntmps49
    go_wp2_with (go_at_call 74; refine (HM.out _).mono ?_; rintro e w' ⟨rfl, rfl⟩; simp only [hdm])
    rw [← hwb]
    clear hwb
    go_region_law
      (go_simp
       first
         | (refine (HP.out _ _ _ (by first | exact G3 | exact G10) HB0.out).mono ?_
            rintro e w1 ⟨rfl, hb1⟩
            have c1 := HCB.out _ hb1
            have HB1 := Lib.hid hb1
            clear hb1 HB0)
         | (refine (HP.out _ _ _ (by first | exact G3 | exact G10) HB1.out).mono ?_
            rintro e w2 ⟨rfl, hb2⟩
            have HB2 := Lib.hid hb2
            clear hb2 HB1))
    all_goals
      go_wp2_with first
        | (go_at_call 76; refine (HPC.out _ HB2.out).mono ?_; rintro e w3 ⟨rfl, hb3⟩; have HB3 := Lib.hid hb3; clear hb3)
        | (go_at_call 75; refine (HP.out _ _ _ G1 HB3.out).mono ?_; rintro e w4 ⟨rfl, hb4⟩; have HB4 := Lib.hid hb4; clear hb4)
      go_ret2
      exact ⟨rfl, HFIN.out _ HB4.out⟩
  · rw [text_out hm]
    have hdm : decide (may c s) = false := decide_eq_false hm
    have HM := Lib.hid (fun W => mayBe_any c s W)
    have HFIN := Lib.hid (show Below w.heap.size w (w.alloc (.cells (tkV c s) 24)) from (Below.refl _ _).alloc (Nat.le_refl _) _)
    clear hm htab
    go_enter Tryz.func49, Tryz.ntmps49
    go_wp2_with (go_at_call 74; refine (HM.out _).mono ?_; rintro e w' ⟨rfl, rfl⟩; simp only [hdm])
    go_ret2
    exact ⟨rfl, HFIN.out⟩
end Go.Proofs.YtjlifjgljejabaaGreatDoor.Nu
