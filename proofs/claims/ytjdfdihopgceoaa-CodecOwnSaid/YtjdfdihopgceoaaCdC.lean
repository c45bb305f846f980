/- Contracts: count, text. -/
import Derived.Test.YtjdfdihopgceoaaCdW
namespace Go.Proofs.Ytjdfdihopgceoaa.Cd
open Go.RowKit Go.Shelf Go.Dk Go.Jn Go.Cod

theorem wrap_nat (v : Nat) (h : v < 9223372036854775808) : wrap64 (v : Int) = v := by unfold wrap64; omega
def CountP (m : Bool) (B wb rb n : Nat) (s : St) (q most : Nat) (w : World) (e : Ending) (w' : World) : Prop :=
  e = .returned (.int .i64 ((coM m s q most).2 : Int)) ∧ Wk m B wb rb NoX (n + 1) (coM m s q most).1 w' ∧ Fr B (fun x => x = wb ∨ x = rb) w w'
theorem coM_le (m : Bool) (s : St) (q most : Nat) : (coM m s q most).2 ≤ most := by
  unfold coM
  simp only
  split
  · rename_i h
    simp only [Bool.and_eq_true, decide_eq_true_eq] at h
    exact h.2
  · exact Nat.zero_le _
set_option maxRecDepth 100000 in
set_option maxHeartbeats 3200000 in
theorem count_any {m : Bool} {B wb rb n : Nat} {s : St} {w : World} (h : Wk m B wb rb NoX n s w) (q most : Nat) (hq : q ≤ 1000000000) (hm : most ≤ 1000) (hn : n + 1 ≤ 1000000) (hB : B ≤ w.heap.size) :
    Calls Try.prog 61 #[pt wb, .int .i64 (q : Int), .int .i64 (most : Int)] w (CountP m B wb rb n s q most w) := by
  have q0 : (0 : Int) ≤ (q : Int) := Int.natCast_nonneg _
  have q1 : (q : Int) ≤ 1000000000 := by omega
  have m0 : (0 : Int) ≤ (most : Int) := Int.natCast_nonneg _
  have m1 : (most : Int) ≤ 1000 := by omega
  obtain ⟨w1, hw1⟩ : ∃ w1, w.alloc (.cells #[.int .i64 (q : Int)] 3) = w1 := ⟨_, rfl⟩
  have hbl : Below w.heap.size w w1 := by rw [← hw1]; exact (Below.refl _ _).alloc (Nat.le_refl _) _
  have hc1 : w1.heap[w.heap.size]? = some (.cells #[.int .i64 (q : Int)] 3 (0, 0)) := by rw [← hw1]; exact heap_last _ _ _ rfl
  have hs1 : w1.heap.size = w.heap.size + 1 := by rw [← hw1]; simp
  have hk1 := (h.later hB hbl).le (Nat.le_refl n) (X' := NoX) (fun _ e => e.elim)
  have hne : w.heap.size ≠ wb := fun e => by have := lt_of_heap h.walk; omega
  have c1 := cell_of_arr hk1.walk 1
  have f1 := froz_of_arr hk1.walk 1
  have cn := cell_of_arr hc1 0
  simp only [List.getElem?_toArray, List.getElem?_cons_zero, List.getElem?_cons_succ] at c1 cn
  have hk2 : ∀ ok, Wk m B wb rb NoX n ⟨ok, s.L⟩ (w1.setCell ⟨wb, 1, none⟩ (.bool ok)) := fun ok => hk1.setOk ok
  have hc2 : ∀ ok, (w1.setCell ⟨wb, 1, none⟩ (.bool ok)).heap[w.heap.size]? = some (.cells #[.int .i64 (q : Int)] 3 (0, 0)) := fun ok => (Below.heap_setCell _ _ _ _ hne).trans hc1
  have hf2 : ∀ ok, Fr B (fun x => x = wb ∨ x = rb) w (w1.setCell ⟨wb, 1, none⟩ (.bool ok)) := fun ok => (Fr.ofBelow hbl hB).setK (p := ⟨wb, 1, none⟩) (.inl rfl) h.lw _
  have HN := Lib.hid (show ∀ ok, Calls Try.prog 65 #[pt wb, .pointer (some ⟨w.heap.size, 0, none⟩), .int .i64 1] (w1.setCell ⟨wb, 1, none⟩ (.bool ok)) (fun e w' => e = .returned (.tuple #[]) ∧ Wk m B wb rb NoX (n + 1) (nuM m ⟨ok, s.L⟩ 1 (q % 256)).1 w' ∧ w'.heap[w.heap.size]? = some (.cells #[.int .i64 ((nuM m ⟨ok, s.L⟩ 1 (q % 256)).2 : Int)] 3 (0, 0)) ∧ Fr B (fun x => x = wb ∨ x = rb) w w') from fun ok => by
    refine (num_int (k := 1) (v := q % 256) (i := 0) (x := (q : Int)) (hk2 ok) (hc2 ok) rfl (by omega) (by omega) (fun a ha => by
      obtain rfl : a = 0 := by omega
      simp) (by omega) hn (by decide) hB (by have := hbl.size; simp; omega)).mono ?_
    rintro e w' ⟨rfl, g1, g2, g3⟩
    have hv := nuM_lt m ⟨ok, s.L⟩ 1 (q % 256)
    have hfin : (#[Value.int .i64 (q : Int)] : Array Value).setIfInBounds 0 (.int .i64 (wrap64 ((nuM m ⟨ok, s.L⟩ 1 (q % 256)).2 : Int))) = #[.int .i64 ((nuM m ⟨ok, s.L⟩ 1 (q % 256)).2 : Int)] := by
      rw [wrap_nat _ (by omega)]; rfl
    rw [← hfin]
    exact ⟨rfl, g1, g2, (hf2 ok).trans' g3 (fun x hx e => by
      rcases e with e | e | e
      · exact .inl e
      · exact .inr e
      · omega)⟩)
  have HW1 := Lib.hid hw1
  have HS := Lib.hid hs1
  have HLW := Lib.hid h.lw
  have key : ∀ ok, ok = (s.ok && decide (q ≤ most)) → ∀ w2, Wk m B wb rb NoX (n + 1) (nuM m ⟨ok, s.L⟩ 1 (q % 256)).1 w2 → Fr B (fun x => x = wb ∨ x = rb) w w2 →
      Wk m B wb rb NoX (n + 1) (coM m s q most).1 (w2.setCell ⟨wb, 1, none⟩ (.bool ((nuM m ⟨ok, s.L⟩ 1 (q % 256)).1.ok && decide ((nuM m ⟨ok, s.L⟩ 1 (q % 256)).2 ≤ most)))) ∧ Fr B (fun x => x = wb ∨ x = rb) w (w2.setCell ⟨wb, 1, none⟩ (.bool ((nuM m ⟨ok, s.L⟩ 1 (q % 256)).1.ok && decide ((nuM m ⟨ok, s.L⟩ 1 (q % 256)).2 ≤ most)))) := fun ok hok w2 g1 g2 => by
    subst hok
    exact ⟨g1.setOk _, g2.setK (p := ⟨wb, 1, none⟩) (.inl rfl) g1.lw _⟩
  have KEY := Lib.hid key
  have HNE := Lib.hid hne
  clear key hbl hc1 hk1 hk2 hc2 hf2 h hs1 hne
  cases hok : s.ok
  · rw [hok] at c1
    go_enter Try.func61, Try.ntmps61
    go_wp2_with fail
    refine (HN.out false).mono ?_
    rintro e w2 ⟨rfl, g1, g2, g3⟩
    have hres : ∀ (k2 : Bool) (c : Nat), (nuM m ⟨false, s.L⟩ 1 (q % 256)).1.ok = k2 → (nuM m ⟨false, s.L⟩ 1 (q % 256)).2 = c → CountP m B wb rb n s q most w (.returned (.int .i64 ((if k2 && decide (c ≤ most) then c else 0 : Nat) : Int))) (w2.setCell ⟨wb, 1, none⟩ (.bool (k2 && decide (c ≤ most)))) := fun k2 c e1 e2 => by
      subst e1; subst e2
      refine ⟨?_, KEY.out false (by rw [hok]; simp; try omega) w2 g1 g3⟩
      unfold coM
      rw [show (s.ok && decide (q ≤ most)) = false by rw [hok]; simp; try omega]
    have HRES := Lib.hid hres
    clear hres
    obtain ⟨k2, hk2⟩ : ∃ k2, (nuM m ⟨false, s.L⟩ 1 (q % 256)).1.ok = k2 := ⟨_, rfl⟩
    obtain ⟨c, hc⟩ : ∃ c, (nuM m ⟨false, s.L⟩ 1 (q % 256)).2 = c := ⟨_, rfl⟩
    have FIN := Lib.hid (HRES.out k2 c hk2 hc)
    have hwk := g1.walk
    rw [hk2] at hwk
    rw [hc] at g2
    have d1 := cell_of_arr hwk 1
    have d2 := froz_of_arr hwk 1
    have d3 := cell_of_arr g2 0
    simp only [List.getElem?_toArray, List.getElem?_cons_zero, List.getElem?_cons_succ] at d1 d3
    have hc0 : (0 : Int) ≤ (c : Int) := Int.natCast_nonneg _
    have hc1 : (c : Int) ≤ 255 := by have := nuM_lt m ⟨false, s.L⟩ 1 (q % 256); omega
    have HNE2 := Lib.hid (HNE.out)
    have d4 : ∀ b, (w2.setCell ⟨wb, 1, none⟩ (.bool b)).cell? ⟨w.heap.size, 0, none⟩ = some (.int .i64 (c : Int)) := fun b => by
      rw [World.cell?_of_block (a := ⟨w.heap.size, 0, none⟩) (Below.heap_setCell _ _ _ _ HNE.out)]; exact d3
    have d5 : ∀ b, (w2.setCell ⟨wb, 1, none⟩ (.bool b)).cell? ⟨wb, 1, none⟩ = some (.bool b) := fun b => by
      rw [cell_of_arr (set_heap hwk 1 (.bool b)) 1]; rfl
    clear HRES hk2 hc hwk g1 g2 g3
    cases k2
    · have D4 := d4 false
      have D5 := d5 false
      clear d4 d5
      go_wp2
      go_ret
      simpa using FIN.out
    · by_cases hcm : (c : Int) ≤ (most : Int)
      · have D4 := d4 true
        have D5 := d5 true
        have hdd : decide (c ≤ most) = true := by simp; omega
        clear d4 d5
        go_wp2
        go_ret
        have h5 : c ≤ most := by omega
        have := FIN.out
        simp only [h5, decide_true, Bool.and_self, if_true] at this
        exact this
      · have D4 := d4 false
        have D5 := d5 false
        have hdd : decide (c ≤ most) = false := by simp; omega
        clear d4 d5
        go_wp2
        go_ret
        have h5 : ¬ c ≤ most := by omega
        have := FIN.out
        simp only [h5, decide_false, Bool.and_false, if_false, Bool.false_eq_true] at this
        have h6 : decide (c ≤ most) = false := by simpa using h5
        first | exact this | (rw [h6]; exact this)
  · rw [hok] at c1
    by_cases hqm : (q : Int) ≤ (most : Int)
    · go_enter Try.func61, Try.ntmps61
      go_wp2_with fail
      refine (HN.out true).mono ?_
      rintro e w2 ⟨rfl, g1, g2, g3⟩
      have hres : ∀ (k2 : Bool) (c : Nat), (nuM m ⟨true, s.L⟩ 1 (q % 256)).1.ok = k2 → (nuM m ⟨true, s.L⟩ 1 (q % 256)).2 = c → CountP m B wb rb n s q most w (.returned (.int .i64 ((if k2 && decide (c ≤ most) then c else 0 : Nat) : Int))) (w2.setCell ⟨wb, 1, none⟩ (.bool (k2 && decide (c ≤ most)))) := fun k2 c e1 e2 => by
        subst e1; subst e2
        refine ⟨?_, KEY.out true (by rw [hok]; simp; try omega) w2 g1 g3⟩
        unfold coM
        rw [show (s.ok && decide (q ≤ most)) = true by rw [hok]; simp; try omega]
      have HRES := Lib.hid hres
      clear hres
      obtain ⟨k2, hk2⟩ : ∃ k2, (nuM m ⟨true, s.L⟩ 1 (q % 256)).1.ok = k2 := ⟨_, rfl⟩
      obtain ⟨c, hc⟩ : ∃ c, (nuM m ⟨true, s.L⟩ 1 (q % 256)).2 = c := ⟨_, rfl⟩
      have FIN := Lib.hid (HRES.out k2 c hk2 hc)
      have hwk := g1.walk
      rw [hk2] at hwk
      rw [hc] at g2
      have d1 := cell_of_arr hwk 1
      have d2 := froz_of_arr hwk 1
      have d3 := cell_of_arr g2 0
      simp only [List.getElem?_toArray, List.getElem?_cons_zero, List.getElem?_cons_succ] at d1 d3
      have hc0 : (0 : Int) ≤ (c : Int) := Int.natCast_nonneg _
      have hc1 : (c : Int) ≤ 255 := by have := nuM_lt m ⟨true, s.L⟩ 1 (q % 256); omega
      have HNE2 := Lib.hid (HNE.out)
      have d4 : ∀ b, (w2.setCell ⟨wb, 1, none⟩ (.bool b)).cell? ⟨w.heap.size, 0, none⟩ = some (.int .i64 (c : Int)) := fun b => by
        rw [World.cell?_of_block (a := ⟨w.heap.size, 0, none⟩) (Below.heap_setCell _ _ _ _ HNE.out)]; exact d3
      have d5 : ∀ b, (w2.setCell ⟨wb, 1, none⟩ (.bool b)).cell? ⟨wb, 1, none⟩ = some (.bool b) := fun b => by
        rw [cell_of_arr (set_heap hwk 1 (.bool b)) 1]; rfl
      clear HRES hk2 hc hwk g1 g2 g3
      cases k2
      · have D4 := d4 false
        have D5 := d5 false
        clear d4 d5
        go_wp2
        go_ret
        simpa using FIN.out
      · by_cases hcm : (c : Int) ≤ (most : Int)
        · have D4 := d4 true
          have D5 := d5 true
          have hdd : decide (c ≤ most) = true := by simp; omega
          clear d4 d5
          go_wp2
          go_ret
          have h5 : c ≤ most := by omega
          have := FIN.out
          simp only [h5, decide_true, Bool.and_self, if_true] at this
          exact this
        · have D4 := d4 false
          have D5 := d5 false
          have hdd : decide (c ≤ most) = false := by simp; omega
          clear d4 d5
          go_wp2
          go_ret
          have h5 : ¬ c ≤ most := by omega
          have := FIN.out
          simp only [h5, decide_false, Bool.and_false, if_false, Bool.false_eq_true] at this
          have h6 : decide (c ≤ most) = false := by simpa using h5
          first | exact this | (rw [h6]; exact this)
    · go_enter Try.func61, Try.ntmps61
      go_wp2_with fail
      refine (HN.out false).mono ?_
      rintro e w2 ⟨rfl, g1, g2, g3⟩
      have hres : ∀ (k2 : Bool) (c : Nat), (nuM m ⟨false, s.L⟩ 1 (q % 256)).1.ok = k2 → (nuM m ⟨false, s.L⟩ 1 (q % 256)).2 = c → CountP m B wb rb n s q most w (.returned (.int .i64 ((if k2 && decide (c ≤ most) then c else 0 : Nat) : Int))) (w2.setCell ⟨wb, 1, none⟩ (.bool (k2 && decide (c ≤ most)))) := fun k2 c e1 e2 => by
        subst e1; subst e2
        refine ⟨?_, KEY.out false (by rw [hok]; simp; try omega) w2 g1 g3⟩
        unfold coM
        rw [show (s.ok && decide (q ≤ most)) = false by rw [hok]; simp; try omega]
      have HRES := Lib.hid hres
      clear hres
      obtain ⟨k2, hk2⟩ : ∃ k2, (nuM m ⟨false, s.L⟩ 1 (q % 256)).1.ok = k2 := ⟨_, rfl⟩
      obtain ⟨c, hc⟩ : ∃ c, (nuM m ⟨false, s.L⟩ 1 (q % 256)).2 = c := ⟨_, rfl⟩
      have FIN := Lib.hid (HRES.out k2 c hk2 hc)
      have hwk := g1.walk
      rw [hk2] at hwk
      rw [hc] at g2
      have d1 := cell_of_arr hwk 1
      have d2 := froz_of_arr hwk 1
      have d3 := cell_of_arr g2 0
      simp only [List.getElem?_toArray, List.getElem?_cons_zero, List.getElem?_cons_succ] at d1 d3
      have hc0 : (0 : Int) ≤ (c : Int) := Int.natCast_nonneg _
      have hc1 : (c : Int) ≤ 255 := by have := nuM_lt m ⟨false, s.L⟩ 1 (q % 256); omega
      have HNE2 := Lib.hid (HNE.out)
      have d4 : ∀ b, (w2.setCell ⟨wb, 1, none⟩ (.bool b)).cell? ⟨w.heap.size, 0, none⟩ = some (.int .i64 (c : Int)) := fun b => by
        rw [World.cell?_of_block (a := ⟨w.heap.size, 0, none⟩) (Below.heap_setCell _ _ _ _ HNE.out)]; exact d3
      have d5 : ∀ b, (w2.setCell ⟨wb, 1, none⟩ (.bool b)).cell? ⟨wb, 1, none⟩ = some (.bool b) := fun b => by
        rw [cell_of_arr (set_heap hwk 1 (.bool b)) 1]; rfl
      clear HRES hk2 hc hwk g1 g2 g3
      cases k2
      · have D4 := d4 false
        have D5 := d5 false
        clear d4 d5
        go_wp2
        go_ret
        simpa using FIN.out
      · by_cases hcm : (c : Int) ≤ (most : Int)
        · have D4 := d4 true
          have D5 := d5 true
          have hdd : decide (c ≤ most) = true := by simp; omega
          clear d4 d5
          go_wp2
          go_ret
          have h5 : c ≤ most := by omega
          have := FIN.out
          simp only [h5, decide_true, Bool.and_self, if_true] at this
          exact this
        · have D4 := d4 false
          have D5 := d5 false
          have hdd : decide (c ≤ most) = false := by simp; omega
          clear d4 d5
          go_wp2
          go_ret
          have h5 : ¬ c ≤ most := by omega
          have := FIN.out
          simp only [h5, decide_false, Bool.and_false, if_false, Bool.false_eq_true] at this
          have h6 : decide (c ≤ most) = false := by simpa using h5
          first | exact this | (rw [h6]; exact this)
end Go.Proofs.Ytjdfdihopgceoaa.Cd
