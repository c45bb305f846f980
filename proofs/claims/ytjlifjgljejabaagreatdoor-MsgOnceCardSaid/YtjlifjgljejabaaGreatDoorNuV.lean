/- Contracts of the loops over a text's digits: how many, their number, what is left of it. -/
import Derived.Test.YtjlifjgljejabaaGreatDoorNuD
import Derived.Laws.EntriesVeiled
namespace Go.Proofs.YtjlifjgljejabaaGreatDoor.Nu
open Go.RowKit Go.Shelf Go.Number
attribute [local go_sem] Oper.semAt_some

theorem cell_other (W : World) {a b : Nat} {v : Value} (h : a ≠ b) : (W.setCell ⟨a, 0, none⟩ v).cell? ⟨b, 0, none⟩ = W.cell? ⟨b, 0, none⟩ := World.cell?_setCell_other _ _ _ _ (by intro e; exact h (by cases e; rfl))
set_option maxRecDepth 100000 in
set_option maxHeartbeats 2000000 in
theorem areDigits_any (t : Tx) (ht : t.length ≤ 1000000000000) (w : World) : Calls Tryz.prog 111 #[str t] w fun e w' => e = .returned (.bool (t.all dgt)) ∧ Below w.heap.size w w' := by
  have hsz : (tx t).size = t.length := by simp [ByteArray.size]
  rw [← lead_full t]
  refine (callsIn_wide (n := 5)).1 ?_
  refine callsIn_of_wp_marks Tryz.func111 rfl trivial ?_ rfl
  simp only [Tryz.ntmps111, List.size_toArray, List.length_cons, List.length_nil, Nat.reduceAdd, Nat.reduceSub, Array.replicate_succ, Array.replicate_zero, List.push_toArray, List.append_toArray, List.nil_append, List.cons_append]
  gi_wp2_with (refine ⟨trivial, ?_⟩; gi_at_call 109; refine (digits_in Fence.wide _ trivial rfl t _).mono ?_; rintro e w' ⟨rfl, rfl⟩)
  have c0 := cell_new_l w (.int .i64 0) 3
  have c1 := cell_new_l (w.alloc (.cells #[.int .i64 0] 3)) (str t) 9
  simp only [World.size_alloc] at c1
  have hB0 : Below w.heap.size w ((w.alloc (.cells #[.int .i64 0] 3)).alloc (.cells #[str t] 9)) := ((Below.refl _ w).alloc (Nat.le_refl _) _).alloc (by simp) _
  refine wpIn_rangeFunc_ownF rfl (by omega) (gf := 126) (lb := #[.pointer (some ⟨w.heap.size + 1, 0, none⟩)]) rfl trivial (enters_of Tryz.func126 (by kernel_rfl) rfl)
    (digits_stops Fence.wide _ trivial rfl (by omega) (w.heap.size + 1) t ht _ (by simp) c1.1) kpB_t (kpB_b (by simp)) (Below.refl _ _) (fun _ => rfl)
    (fun pre W => (W.cell? ⟨w.heap.size, 0, none⟩ = some (.int .i64 (pre.length : Int)) ∧ W.frozen? ⟨w.heap.size, 0, none⟩ = false) ∧ Below w.heap.size w W)
    (fun _ _ _ => False)
    (OwnFrom.and (Own.from (fun s A B row hs hg hr => ⟨cell_kept hs.1 hg hr, (frozen_kept hs.1 hg hr).trans hs.2⟩) _) (ownFrom_below (Nat.le_refl _) (by simp; omega)))
    (fun _ _ _ _ _ hs _ _ => hs)
    ⟨⟨cell_alloc_l _ c0.1, frozen_alloc_l _ c0.1 c0.2⟩, hB0⟩
    (fun x => { tmps := #[str t, undef, .bool false, .pointer (some ⟨w.heap.size, 0, none⟩), str t, .func (.func 126) #[] #[.pointer (some ⟨w.heap.size + 1, 0, none⟩)], .int .u64 (x.1 : Int), undef, undef, undef, undef, undef, undef], defers := [] }) ?assign ?body ?done ?stop
  case assign =>
    intro l x W K hK
    gi_wp2
    simp
    exact hK
  case body =>
    rintro l pre x W ⟨⟨hc, hf⟩, hB⟩ hlen
    have hb1 : (pre.length : Int) < 1000000000000 := by omega
    have hb0 : (0 : Int) ≤ (pre.length : Int) := Int.natCast_nonneg _
    gi_wp2
    exact ⟨KeepsOthers.setCell _ _ _, kpB_set _ _ (by omega), ⟨by rw [List.length_append, List.length_singleton]; exact World.cell?_setCell_same' _ _ _ (by rw [hc]; rfl), by rw [World.frozen?_setCell]; exact hf⟩, hB.setCell (p := ⟨w.heap.size, 0, none⟩) (Nat.le_refl _) _⟩
  case done =>
    rintro D ys W hD rfl ⟨⟨hc, _⟩, hB⟩ hK
    gi_wp2
    refine ⟨by simp, .inl ⟨_, _, rfl, run_takeDeferred hK, ?_⟩⟩
    have hq : (((lead t).length : Int) == (t.length : Int)) = decide ((lead t).length = t.length) := by rw [Bool.eq_iff_iff]; simp; omega
    exact ⟨_, results_tmp rfl _ _ _, by show Ending.returned (.bool (((lead t).length : Int) == (t.length : Int))) = _; rw [hq], hB.trans (belowK_b (w := w) (Nat.le_refl _) W D _ _ (by simp at hD; omega) hK rfl rfl)⟩
  case stop =>
    rintro D c pre W _ _ h _
    exact h.elim
theorem sum_small {pre : List (Fin 10)} (h : pre.length < 19) : ((sumD pre : Nat) : Int) < 1000000000000000000 := by
  have h1 := sumD_lt pre
  have h2 : 10 ^ pre.length ≤ 10 ^ 18 := Nat.pow_le_pow_right (by decide) (by omega)
  have e : (10 : Nat) ^ 18 = 1000000000000000000 := by decide
  omega
set_option maxRecDepth 100000 in
set_option maxHeartbeats 2000000 in
theorem value_any (t : Tx) (ha : t.all dgt = true) (ht : t.length ≤ 19) (w : World) : Calls Tryz.prog 112 #[str t] w fun e w' => e = .returned (.int .u64 (val t : Int)) ∧ Below w.heap.size w w' := by
  rw [← sum_lead ha]
  clear ha
  refine (callsIn_wide (n := 5)).1 ?_
  refine callsIn_of_wp_marks Tryz.func112 rfl trivial ?_ rfl
  simp only [Tryz.ntmps112, List.size_toArray, List.length_cons, List.length_nil, Nat.reduceAdd, Nat.reduceSub, Array.replicate_succ, Array.replicate_zero, List.push_toArray, List.append_toArray, List.nil_append, List.cons_append]
  gi_wp2_with (refine ⟨trivial, ?_⟩; gi_at_call 109; refine (digits_in Fence.wide _ trivial rfl t _).mono ?_; rintro e w' ⟨rfl, rfl⟩)
  have c0 := cell_new_l w (.int .u64 0) 22
  have c1 := cell_new_l (w.alloc (.cells #[.int .u64 0] 22)) (str t) 9
  simp only [World.size_alloc] at c1
  have hB0 : Below w.heap.size w ((w.alloc (.cells #[.int .u64 0] 22)).alloc (.cells #[str t] 9)) := ((Below.refl _ w).alloc (Nat.le_refl _) _).alloc (by simp) _
  refine wpIn_rangeFunc_ownF rfl (by omega) (gf := 126) (lb := #[.pointer (some ⟨w.heap.size + 1, 0, none⟩)]) rfl trivial (enters_of Tryz.func126 (by kernel_rfl) rfl)
    (digits_stops Fence.wide _ trivial rfl (by omega) (w.heap.size + 1) t (by omega) _ (by simp) c1.1) kpB_t (kpB_b (by simp)) (Below.refl _ _) (fun _ => rfl)
    (fun pre W => (W.cell? ⟨w.heap.size, 0, none⟩ = some (.int .u64 (sumD pre : Int)) ∧ W.frozen? ⟨w.heap.size, 0, none⟩ = false) ∧ Below w.heap.size w W)
    (fun _ _ _ => False)
    (OwnFrom.and (Own.from (fun s A B row hs hg hr => ⟨cell_kept hs.1 hg hr, (frozen_kept hs.1 hg hr).trans hs.2⟩) _) (ownFrom_below (Nat.le_refl _) (by simp; omega)))
    (fun _ _ _ _ _ hs _ _ => hs)
    ⟨⟨cell_alloc_l _ c0.1, frozen_alloc_l _ c0.1 c0.2⟩, hB0⟩
    (fun x => { tmps := #[str t, undef, .int .u64 0, .pointer (some ⟨w.heap.size, 0, none⟩), .int .u64 (x.1 : Int), str t, .func (.func 126) #[] #[.pointer (some ⟨w.heap.size + 1, 0, none⟩)], .int .u64 (x.1 : Int), undef, undef, undef, undef, undef], defers := [] }) ?assign ?body ?done ?stop
  case assign =>
    intro l x W K hK
    gi_wp2
    exact hK
  case body =>
    rintro l pre x W ⟨⟨hc, hf⟩, hB⟩ hlen
    have hb1 := sum_small (pre := pre) (by omega)
    have hb0 : (0 : Int) ≤ ((sumD pre : Nat) : Int) := Int.natCast_nonneg _
    have hx0 : (0 : Int) ≤ ((x.1 : Nat) : Int) := Int.natCast_nonneg _
    have hx1 : ((x.1 : Nat) : Int) ≤ 9 := by have := x.2; omega
    gi_wp2
    exact ⟨KeepsOthers.setCell _ _ _, kpB_set _ _ (by omega), ⟨by rw [sumD_snoc]; exact World.cell?_setCell_same' _ _ _ (by rw [hc]; rfl), by rw [World.frozen?_setCell]; exact hf⟩, hB.setCell (p := ⟨w.heap.size, 0, none⟩) (Nat.le_refl _) _⟩
  case done =>
    rintro D ys W hD rfl ⟨⟨hc, _⟩, hB⟩ hK
    gi_wp2
    refine ⟨by simp, .inl ⟨_, _, rfl, run_takeDeferred hK, ?_⟩⟩
    exact ⟨_, results_tmp rfl _ _ _, rfl, hB.trans (belowK_b (w := w) (Nat.le_refl _) W D _ _ (by simp at hD; omega) hK rfl rfl)⟩
  case stop =>
    rintro D c pre W _ _ h _
    exact h.elim
theorem remainder_in (F : Fence) (n : Nat) (hF : F.fn 108) (hro : F.round = none) (w : World) :
    CallsIn F n Tryz.prog 108 #[] w fun e w' => e = .returned (.func (.func 125) #[] #[.pointer (some ⟨w.heap.size, 0, none⟩)]) ∧ w' = w.alloc (.cells #[.int .u64 0] 22) := by
  refine callsIn_of_wp Tryz.func108 rfl hF ?_ hro
  simp only [Tryz.ntmps108, List.size_toArray, List.length_nil, Nat.reduceSub, Array.replicate_succ, Array.replicate_zero, List.push_toArray, List.append_toArray, List.nil_append, List.cons_append]
  gi_wp2
  go_ret
  exact ⟨rfl, rfl⟩
theorem remainder1_in (F : Fence) (n : Nat) (hF : F.fn 125) (hro : F.round = none) (R r d : Nat) (hr : r < 7) (hd : d ≤ 9) (w : World) (hc : w.cell? ⟨R, 0, none⟩ = some (.int .u64 (r : Int))) (hf : w.frozen? ⟨R, 0, none⟩ = false) :
    CallsIn F n Tryz.prog 125 #[.int .u64 (d : Int), .pointer (some ⟨R, 0, none⟩)] w fun e w' => e = .returned (.int .u64 (((r * 10 + d) % 7 : Nat) : Int)) ∧ w' = w.setCell ⟨R, 0, none⟩ (.int .u64 (((r * 10 + d) % 7 : Nat) : Int)) := by
  refine callsIn_of_wp Tryz.func125 rfl hF ?_ hro
  simp only [Tryz.ntmps125, List.size_toArray, List.length_cons, List.length_nil, Nat.reduceAdd, Nat.reduceSub, Array.replicate_succ, Array.replicate_zero, List.push_toArray, List.append_toArray, List.nil_append, List.cons_append]
  have h0 : (0 : Int) ≤ (r : Int) := Int.natCast_nonneg _
  have h1 : (r : Int) < 7 := by omega
  have h2 : (0 : Int) ≤ (d : Int) := Int.natCast_nonneg _
  have h3 : (d : Int) ≤ 9 := by omega
  have hs : ∀ v, (w.setCell ⟨R, 0, none⟩ v).cell? ⟨R, 0, none⟩ = some v := fun v => World.cell?_setCell_same' _ _ _ (by rw [hc]; rfl)
  gi_wp2
  go_ret
  exact ⟨rfl, rfl⟩
set_option maxRecDepth 100000 in
set_option maxHeartbeats 2000000 in
theorem check_any (t : Tx) (ha : t.all dgt = true) (ht : t.length ≤ 1000000000000) (w : World) : Calls Tryz.prog 76 #[str t] w fun e w' => e = .returned (.int .u64 (chk t : Int)) ∧ Below w.heap.size w w' := by
  rw [← rem_lead ha]
  clear ha
  refine (callsIn_wide (n := 5)).1 ?_
  refine callsIn_of_wp_marks Tryz.func76 rfl trivial ?_ rfl
  simp only [Tryz.ntmps76, List.size_toArray, List.length_cons, List.length_nil, Nat.reduceAdd, Nat.reduceSub, Array.replicate_succ, Array.replicate_zero, List.push_toArray, List.append_toArray, List.nil_append, List.cons_append]
  gi_wp2_with first
    | (refine ⟨trivial, ?_⟩; gi_at_call 108; refine (remainder_in Fence.wide _ trivial rfl _).mono ?_; rintro e w' ⟨rfl, rfl⟩)
    | (refine ⟨trivial, ?_⟩; gi_at_call 109; refine (digits_in Fence.wide _ trivial rfl t _).mono ?_; rintro e w' ⟨rfl, rfl⟩)
  have c0 := cell_new_l w (.int .u64 0) 22
  have c1 := cell_new_l (w.alloc (.cells #[.int .u64 0] 22)) (.int .u64 0) 22
  have c2 := cell_new_l ((w.alloc (.cells #[.int .u64 0] 22)).alloc (.cells #[.int .u64 0] 22)) (.func (.func 125) #[] #[.pointer (some ⟨w.heap.size + 1, 0, none⟩)]) 168
  have c3 := cell_new_l (((w.alloc (.cells #[.int .u64 0] 22)).alloc (.cells #[.int .u64 0] 22)).alloc (.cells #[.func (.func 125) #[] #[.pointer (some ⟨w.heap.size + 1, 0, none⟩)]] 168)) (str t) 9
  simp only [World.size_alloc] at c1 c2 c3
  have hB0 : Below w.heap.size w ((((w.alloc (.cells #[.int .u64 0] 22)).alloc (.cells #[.int .u64 0] 22)).alloc (.cells #[.func (.func 125) #[] #[.pointer (some ⟨w.heap.size + 1, 0, none⟩)]] 168)).alloc (.cells #[str t] 9)) := ((((Below.refl _ w).alloc (Nat.le_refl _) _).alloc (by simp) _).alloc (by simp; omega) _).alloc (by simp; omega) _
  refine wpIn_rangeFunc_ownF rfl (by omega) (gf := 126) (lb := #[.pointer (some ⟨w.heap.size + 1 + 1 + 1, 0, none⟩)]) rfl trivial (enters_of Tryz.func126 (by kernel_rfl) rfl)
    (digits_stops Fence.wide _ trivial rfl (by omega) (w.heap.size + 1 + 1 + 1) t ht _ (by simp) c3.1) kpB_t (kpB_b (by simp)) (Below.refl _ _) (fun _ => rfl)
    (fun pre W => ((W.cell? ⟨w.heap.size, 0, none⟩ = some (.int .u64 (remD pre : Int)) ∧ W.frozen? ⟨w.heap.size, 0, none⟩ = false) ∧ (W.cell? ⟨w.heap.size + 1, 0, none⟩ = some (.int .u64 (remD pre : Int)) ∧ W.frozen? ⟨w.heap.size + 1, 0, none⟩ = false) ∧ W.cell? ⟨w.heap.size + 1 + 1, 0, none⟩ = some (.func (.func 125) #[] #[.pointer (some ⟨w.heap.size + 1, 0, none⟩)])) ∧ Below w.heap.size w W)
    (fun _ _ _ => False)
    (OwnFrom.and (Own.from (fun s A B row hs hg hr => ⟨⟨cell_kept hs.1.1 hg hr, (frozen_kept hs.1.1 hg hr).trans hs.1.2⟩, ⟨cell_kept hs.2.1.1 hg hr, (frozen_kept hs.2.1.1 hg hr).trans hs.2.1.2⟩, cell_kept hs.2.2 hg hr⟩) _) (ownFrom_below (Nat.le_refl _) (by simp; omega)))
    (fun _ _ _ _ _ hs _ _ => hs)
    ⟨⟨⟨cell_alloc_l _ (cell_alloc_l _ (cell_alloc_l _ c0.1)), frozen_alloc_l _ (cell_alloc_l _ (cell_alloc_l _ c0.1)) (frozen_alloc_l _ (cell_alloc_l _ c0.1) (frozen_alloc_l _ c0.1 c0.2))⟩,
      ⟨cell_alloc_l _ (cell_alloc_l _ c1.1), frozen_alloc_l _ (cell_alloc_l _ c1.1) (frozen_alloc_l _ c1.1 c1.2)⟩, cell_alloc_l _ c2.1⟩, hB0⟩
    (fun x => { tmps := #[str t, undef, .int .u64 0, .pointer (some ⟨w.heap.size, 0, none⟩), .pointer (some ⟨w.heap.size + 1 + 1, 0, none⟩), .int .u64 (x.1 : Int), .func (.func 125) #[] #[.pointer (some ⟨w.heap.size + 1, 0, none⟩)], str t, .func (.func 126) #[] #[.pointer (some ⟨w.heap.size + 1 + 1 + 1, 0, none⟩)], .int .u64 (x.1 : Int), undef, undef, undef, undef], defers := [] }) ?assign ?body ?done ?stop
  case assign =>
    intro l x W K hK
    gi_wp2
    exact hK
  case body =>
    rintro l pre x W ⟨⟨⟨hc, hf⟩, ⟨hr, hg⟩, ht⟩, hB⟩ hlen
    have hs1 : ∀ v, (W.setCell ⟨w.heap.size + 1, 0, none⟩ v).cell? ⟨w.heap.size, 0, none⟩ = some (.int .u64 (remD pre : Int)) := fun v => by rw [cell_other _ (by omega)]; exact hc
    have hs2 : ∀ v, (W.setCell ⟨w.heap.size + 1, 0, none⟩ v).frozen? ⟨w.heap.size, 0, none⟩ = false := fun v => by rw [World.frozen?_setCell]; exact hf
    have HC := Lib.hid hc
    have hR := fun n => remainder1_in Fence.wide n trivial rfl (w.heap.size + 1) (remD pre) x.1 (remD_lt _) (by have := x.2; omega) W hr hg
    rw [← remD_snoc] at hR
    have HR := Lib.hid hR
    clear hc hR
    gi_wp2_with (refine ⟨trivial, ?_⟩; gi_at_call 125; refine (CallsIn.inRound l (HR.out _)).mono ?_; rintro e w' ⟨rfl, rfl⟩)
    exact ⟨(KeepsOthers.setCell _ _ _).trans (KeepsOthers.setCell _ _ _), kpB_t (kpB_set _ _ (by omega)) (kpB_set _ _ (by omega)), ⟨⟨World.cell?_setCell_same' _ _ _ (by rw [hs1]; rfl), by rw [World.frozen?_setCell]; exact hs2 _⟩, ⟨by rw [cell_other _ (by omega)]; exact World.cell?_setCell_same' _ _ _ (by rw [hr]; rfl), by rw [World.frozen?_setCell, World.frozen?_setCell]; exact hg⟩, by rw [cell_other _ (by omega), cell_other _ (by omega)]; exact ht⟩, (hB.setCell (p := ⟨w.heap.size + 1, 0, none⟩) (by simp) _).setCell (p := ⟨w.heap.size, 0, none⟩) (Nat.le_refl _) _⟩
  case done =>
    rintro D ys W hD rfl ⟨⟨⟨hc, _⟩, _⟩, hB⟩ hK
    gi_wp2
    refine ⟨by simp, .inl ⟨_, _, rfl, run_takeDeferred hK, ?_⟩⟩
    exact ⟨_, results_tmp rfl _ _ _, rfl, hB.trans (belowK_b (w := w) (Nat.le_refl _) W D _ _ (by simp at hD; omega) hK rfl rfl)⟩
  case stop =>
    rintro D c pre W _ _ h _
    exact h.elim
end Go.Proofs.YtjlifjgljejabaaGreatDoor.Nu
