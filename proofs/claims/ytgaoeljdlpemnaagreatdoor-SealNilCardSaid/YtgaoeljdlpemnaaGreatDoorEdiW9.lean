/- Contract of edi.Print: the plain text of the segments, or an error. -/
import Derived.Test.YtgaoeljdlpemnaaGreatDoorEdiLt
/- Contracts of edi.arePlain and edi.areShort. -/
namespace Go.Proofs.YtgaoeljdlpemnaaGreatDoor
open Go.RowKit Go.Edi

def plnE (e : List Tx) : Bool := e.all (fun c => c.all pln)
def plnT (c : Tx) : Bool := c.all pln
theorem plainS_eq (s : Sg) : plainS s = s.els.all plnE := rfl
theorem plnE_eq (e : List Tx) : plnE e = e.all plnT := rfl
set_option maxRecDepth 100000 in
set_option maxHeartbeats 3200000 in
theorem arePlain_any (l : List Sg) (v : Value) (w : World) (hv : SegsF w (· < w.heap.size) v l) (hfit : sane l) :
    Calls Tryz.prog 45 #[v] w fun e w' => e = .returned (.bool (l.all plainS)) ∧ Below w.heap.size w w' := by
  have HF := Lib.hid hfit
  obtain ⟨xs, ⟨p, cap, rfl, hnc, hp⟩, hxs⟩ := hv
  have HP := Lib.hid hp
  have HXS := Lib.hid hxs
  have hbz : (l.length : Int) ≤ 1000000000000 := by have := hfit.1; omega
  clear hp hxs hfit
  go_enter Tryz.func45, Tryz.ntmps45
  go_wp2
  go_loopw [11] (fun i wr => ∃ k : Nat, i = .int .i64 k ∧ k ≤ l.length ∧ (l.take k).all plainS = true ∧ Below w.heap.size w wr) (fun i _ => l.length - (intOf i).toNat)
  case atStart => exact ⟨0, rfl, Nat.zero_le _, rfl, Below.refl _ _⟩
  case round =>
    obtain ⟨k, rfl, hk, hal, hb⟩ := hrel
    by_cases hlt : (k : Int) < (l.length : Int)
    · have hkl : k < l.length := by omega
      have hk0 : (0 : Int) ≤ (k : Int) := Int.natCast_nonneg _
      obtain ⟨b, o, rfl, hF, hc⟩ := HP.out (by omega)
      obtain ⟨hc1, pe, cape, ys, hc2, hnce, hrow, hel⟩ := seg_cells hc HXS.out (hb.block b hF) hkl
      have h1 := all_snoc plainS l k hkl
      have h2 := all_false plainS l k hkl
      have h3 := HF.out.2 _ (List.getElem_mem hkl)
      generalize l[k]'hkl = y at *
      have hbe : (y.els.length : Int) ≤ 1000000000000 := by omega
      have HB := Lib.hid (hb.alloc hb.size (.cells #[str y.tag, .slice pe y.els.length cape] 112))
      have HAL := Lib.hid hal
      have H1 := Lib.hid h1
      have H2 := Lib.hid h2
      have H3 := Lib.hid h3
      have HROW := Lib.hid hrow
      have HEL := Lib.hid hel
      clear hal hb h1 h2 hc h3 hrow hel
      go_wp2
      go_loopw [18] (fun i wr2 => ∃ j : Nat, i = .int .i64 j ∧ j ≤ y.els.length ∧ (y.els.take j).all plnE = true ∧ Below w.heap.size w wr2) (fun i _ => y.els.length - (intOf i).toNat)
      case atStart => exact ⟨0, rfl, Nat.zero_le _, rfl, HB.out⟩
      case round =>
        obtain ⟨j, rfl, hj, hal2, hb2⟩ := hrel
        have HB2 := Lib.hid hb2
        by_cases hlt2 : (j : Int) < (y.els.length : Int)
        · have hjl : j < y.els.length := by omega
          have hj0 : (0 : Int) ≤ (j : Int) := Int.natCast_nonneg _
          obtain ⟨pr, capr, hre, _, hpr⟩ := HROW.out
          simp only [Value.slice.injEq, true_and] at hre
          obtain ⟨rfl, rfl⟩ := hre
          obtain ⟨b2, o2, rfl, hF2, hc3⟩ := hpr (by omega)
          obtain ⟨pj, capj, hcj, hncj, hst⟩ := el_cell hc3 HEL.out (hb2.block b2 hF2) hjl
          have g1 := all_snoc plnE y.els j hjl
          have g2 := all_false plnE y.els j hjl
          have g3 := H3.out.2 _ (List.getElem_mem hjl)
          generalize y.els[j]'hjl = z at *
          have hbz2 : (z.length : Int) ≤ 1000000000000 := by omega
          have HAL2 := Lib.hid hal2
          have G1 := Lib.hid g1
          have G2 := Lib.hid g2
          have G3 := Lib.hid g3
          have HST := Lib.hid hst
          clear hal2 hb2 g1 g2 g3 hc3 hst
          go_wp2
          go_loopw [24] (fun i wr3 => ∃ m : Nat, i = .int .i64 m ∧ m ≤ z.length ∧ (z.take m).all plnT = true ∧ Below w.heap.size w wr3) (fun i _ => z.length - (intOf i).toNat)
          case atStart => exact ⟨0, rfl, Nat.zero_le _, rfl, HB2.out⟩
          case round =>
            obtain ⟨m, rfl, hm, hal3, hb3⟩ := hrel
            have HB3 := Lib.hid hb3
            by_cases hlt3 : (m : Int) < (z.length : Int)
            · have hml : m < z.length := by omega
              have hm0 : (0 : Int) ≤ (m : Int) := Int.natCast_nonneg _
              obtain ⟨pq, capq, hqe, _, hpq⟩ := HST.out
              simp only [Value.slice.injEq, true_and] at hqe
              obtain ⟨rfl, rfl⟩ := hqe
              obtain ⟨b3, o3, rfl, hF3, hc4⟩ := hpq (by omega)
              have hck : wr.cell? ⟨b3, o3 + m, none⟩ = some (str (z[m]'hml)) := (World.cell?_of_block (a := ⟨b3, o3 + m, none⟩) (hb3.block b3 hF3)).trans (hc4 m _ (by rw [List.getElem?_map, List.getElem?_eq_getElem hml]; rfl))
              have e1 := all_snoc plnT z m hml
              have e2 := all_false plnT z m hml
              have e3 := G3.out.2 _ (List.getElem_mem hml)
              generalize z[m]'hml = t at *
              have HQ := isPlainText_any t
              by_cases ht : t.all pln = true
              · have HA := Lib.hid (show (z.take (m + 1)).all plnT = true by rw [e1, hal3]; exact ht)
                have hq := fun w => HQ w e3
                rw [ht] at hq
                clear hal3 hb3 e1 e2 e3 hc4 HQ
                go_wp2_with (go_at_call 73; refine (hq _).mono ?_)
                first | rintro e w5 rfl hb5 | rintro e w5 ⟨rfl, hb5⟩
                have HB5 := Lib.hid (HB3.out.trans (hb5.mono HB3.out.size))
                clear hb5
                go_wp2
                go_roundw
                case rel => exact ⟨m + 1, by go_num, by omega, HA.out, HB5.out⟩
                case measure => simp [intOf]; omega
              · have htf : t.all pln = false := by simpa using ht
                have HA := Lib.hid (show l.all plainS = false from H2.out (by rw [plainS_eq]; exact G2.out (by rw [plnE_eq]; exact e2 htf)))
                have hq := fun w => HQ w e3
                rw [htf] at hq
                clear hal3 hb3 e1 e2 e3 hc4 HQ
                go_wp2_with (go_at_call 73; refine (hq _).mono ?_)
                first | rintro e w5 rfl hb5 | rintro e w5 ⟨rfl, hb5⟩
                have HB5 := Lib.hid (HB3.out.trans (hb5.mono HB3.out.size))
                clear hb5
                go_wp2
                go_ret
                exact ⟨ret_bool HA.out.symm, HB5.out⟩
            · obtain rfl : m = z.length := by omega
              rw [List.take_length] at hal3
              have HA := Lib.hid (show (y.els.take (j + 1)).all plnE = true by rw [G1.out, HAL2.out, plnE_eq, hal3]; rfl)
              clear hal3 hb3
              go_wp2
              go_roundw
              case rel => exact ⟨j + 1, by go_num, by omega, HA.out, HB3.out⟩
              case measure => simp [intOf]; omega
        · obtain rfl : j = y.els.length := by omega
          rw [List.take_length] at hal2
          have HA := Lib.hid (show (l.take (k + 1)).all plainS = true by rw [H1.out, HAL.out, plainS_eq, hal2]; rfl)
          clear hal2 hb2
          go_wp2
          go_roundw
          case rel => exact ⟨k + 1, by go_num, by omega, HA.out, HB2.out⟩
          case measure => simp [intOf]; omega
    · obtain rfl : k = l.length := by omega
      rw [List.take_length] at hal
      have HA := Lib.hid hal
      have HB := Lib.hid hb
      clear hal hb
      go_wp2
      go_ret
      exact ⟨ret_bool HA.out.symm, HB.out⟩
end Go.Proofs.YtgaoeljdlpemnaaGreatDoor
/- Contract of edi.areShort. -/
namespace Go.Proofs.YtgaoeljdlpemnaaGreatDoor
open Go.RowKit Go.Edi

theorem shortS_no {s : Sg} (h : ¬ s.els.length ≤ 16) : shortS s = false := by unfold shortS; rw [decide_eq_false h]; rfl
theorem shortS_ok {s : Sg} (h : s.els.length ≤ 16) : shortS s = s.els.all shortE := by unfold shortS; rw [decide_eq_true h]; rfl
set_option maxRecDepth 100000 in
set_option maxHeartbeats 3200000 in
theorem areShort_any (l : List Sg) (v : Value) (w : World) (hv : SegsF w (· < w.heap.size) v l) (hfit : sane l) :
    Calls Tryz.prog 46 #[v] w fun e w' => e = .returned (.bool (decide (l.length ≤ 64) && l.all shortS)) ∧ Below w.heap.size w w' := by
  have HF := Lib.hid hfit
  obtain ⟨xs, ⟨p, cap, rfl, hnc, hp⟩, hxs⟩ := hv
  have HP := Lib.hid hp
  have HXS := Lib.hid hxs
  clear hp hxs hfit
  by_cases h64 : (64 : Int) < (l.length : Int)
  · have HA := Lib.hid (show (decide (l.length ≤ 64) && l.all shortS) = false by rw [decide_eq_false (by omega)]; rfl)
    go_enter Tryz.func46, Tryz.ntmps46
    go_wp2
    go_ret
    exact ⟨ret_bool HA.out.symm, Below.refl _ _⟩
  · have HS := Lib.hid (show (decide (l.length ≤ 64) && l.all shortS) = l.all shortS by rw [decide_eq_true (by omega)]; rfl)
    go_enter Tryz.func46, Tryz.ntmps46
    go_wp2
    go_loopw [12] (fun i wr => ∃ k : Nat, i = .int .i64 k ∧ k ≤ l.length ∧ (l.take k).all shortS = true ∧ Below w.heap.size w wr) (fun i _ => l.length - (intOf i).toNat)
    case atStart => exact ⟨0, rfl, Nat.zero_le _, rfl, Below.refl _ _⟩
    case round =>
      obtain ⟨k, rfl, hk, hal, hb⟩ := hrel
      by_cases hlt : (k : Int) < (l.length : Int)
      · have hkl : k < l.length := by omega
        have hk0 : (0 : Int) ≤ (k : Int) := Int.natCast_nonneg _
        obtain ⟨b, o, rfl, hF, hc⟩ := HP.out (by omega)
        obtain ⟨hc1, pe, cape, ys, hc2, hnce, hrow, hel⟩ := seg_cells hc HXS.out (hb.block b hF) hkl
        have h1 := all_snoc shortS l k hkl
        have h2 := all_false shortS l k hkl
        have h3 := HF.out.2 _ (List.getElem_mem hkl)
        generalize l[k]'hkl = y at *
        have HB := Lib.hid (hb.alloc hb.size (.cells #[str y.tag, .slice pe y.els.length cape] 112))
        by_cases h16 : (16 : Int) < (y.els.length : Int)
        · have HA := Lib.hid (show l.all shortS = false from h2 (shortS_no (by omega)))
          clear hal hb h1 h2 hc h3 hrow hel
          go_wp2
          go_ret
          exact ⟨ret_bool (by rw [HS.out, HA.out]), HB.out⟩
        · have HSS := Lib.hid (shortS_ok (s := y) (by omega))
          have HAL := Lib.hid hal
          have H1 := Lib.hid h1
          have H2 := Lib.hid h2
          have H3 := Lib.hid h3
          have HROW := Lib.hid hrow
          have HEL := Lib.hid hel
          clear hal hb h1 h2 hc h3 hrow hel
          go_wp2
          go_loopw [23] (fun i wr2 => ∃ j : Nat, i = .int .i64 j ∧ j ≤ y.els.length ∧ (y.els.take j).all shortE = true ∧ Below w.heap.size w wr2) (fun i _ => y.els.length - (intOf i).toNat)
          case atStart => exact ⟨0, rfl, Nat.zero_le _, rfl, HB.out⟩
          case round =>
            obtain ⟨j, rfl, hj, hal2, hb2⟩ := hrel
            have HB2 := Lib.hid hb2
            by_cases hlt2 : (j : Int) < (y.els.length : Int)
            · have hjl : j < y.els.length := by omega
              have hj0 : (0 : Int) ≤ (j : Int) := Int.natCast_nonneg _
              obtain ⟨pr, capr, hre, _, hpr⟩ := HROW.out
              simp only [Value.slice.injEq, true_and] at hre
              obtain ⟨rfl, rfl⟩ := hre
              obtain ⟨b2, o2, rfl, hF2, hc3⟩ := hpr (by omega)
              obtain ⟨pj, capj, hcj, hncj, hst⟩ := el_cell hc3 HEL.out (hb2.block b2 hF2) hjl
              have g1 := all_snoc shortE y.els j hjl
              have g2 := all_false shortE y.els j hjl
              have g3 := H3.out.2 _ (List.getElem_mem hjl)
              generalize y.els[j]'hjl = z at *
              have hq := isShortElem_any z (.slice pj z.length capj) wr (hst.kept (old_kept hb2 (Nat.le_refl _))) g3.2
              by_cases hz : shortE z = true
              · rw [hz] at hq
                have HQ := Lib.hid hq
                have HA := Lib.hid (show (y.els.take (j + 1)).all shortE = true by rw [g1, hal2, hz]; rfl)
                clear hal2 hb2 g1 g2 g3 hc3 hst hq
                go_wp2_with (go_at_call 74; refine (HQ.out).mono ?_)
                first | rintro e w5 rfl hb5 | rintro e w5 ⟨rfl, hb5⟩
                have HB5 := Lib.hid (HB2.out.trans (hb5.mono HB2.out.size))
                clear hb5
                go_wp2
                go_roundw
                case rel => exact ⟨j + 1, by go_num, by omega, HA.out, HB5.out⟩
                case measure => simp [intOf]; omega
              · have hzf : shortE z = false := by simpa using hz
                rw [hzf] at hq
                have HQ := Lib.hid hq
                have HA := Lib.hid (show l.all shortS = false from H2.out (by rw [HSS.out]; exact g2 hzf))
                clear hal2 hb2 g1 g2 g3 hc3 hst hq
                go_wp2_with (go_at_call 74; refine (HQ.out).mono ?_)
                first | rintro e w5 rfl hb5 | rintro e w5 ⟨rfl, hb5⟩
                have HB5 := Lib.hid (HB2.out.trans (hb5.mono HB2.out.size))
                clear hb5
                go_wp2
                go_ret
                exact ⟨ret_bool (by rw [HS.out, HA.out]), HB5.out⟩
            · obtain rfl : j = y.els.length := by omega
              rw [List.take_length] at hal2
              have HA := Lib.hid (show (l.take (k + 1)).all shortS = true by rw [H1.out, HAL.out, HSS.out, hal2]; rfl)
              clear hal2 hb2
              go_wp2
              go_roundw
              case rel => exact ⟨k + 1, by go_num, by omega, HA.out, HB2.out⟩
              case measure => simp [intOf]; omega
      · obtain rfl : k = l.length := by omega
        rw [List.take_length] at hal
        have HA := Lib.hid hal
        have HB := Lib.hid hb
        clear hal hb
        go_wp2
        go_ret
        exact ⟨ret_bool (by rw [HS.out, HA.out]), HB.out⟩
end Go.Proofs.YtgaoeljdlpemnaaGreatDoor
namespace Go.Proofs.YtgaoeljdlpemnaaGreatDoor
open Go.RowKit Go.Edi

theorem SegsF.later {w w' : World} {v : Value} {l : List Sg} (h : SegsF w (· < w.heap.size) v l) (hb : Below w.heap.size w w') : SegsF w' (· < w'.heap.size) v l := h.below hb
theorem jnT_bound (x : Tx) (l : List Tx) (B : Nat) (h : ∀ t ∈ l, t.length ≤ B) : (jnT x l).length ≤ l.length * (x.length + B) := by
  induction l with
  | nil => simp [jnT]
  | cons y r ih =>
    have h1 := ih (fun t ht => h t (List.mem_cons_of_mem _ ht))
    have h2 := h y (List.mem_cons_self ..)
    simp only [jnT, List.length_append, List.length_cons, Nat.add_mul, Nat.one_mul]
    omega
theorem jn_bound (x : Tx) (l : List Tx) (B : Nat) (h : ∀ t ∈ l, t.length ≤ B) : (jn x l).length ≤ l.length * (x.length + B) := by
  match l with
  | [] => simp [jn]
  | y :: r =>
    have h1 := jnT_bound x r B (fun t ht => h t (List.mem_cons_of_mem _ ht))
    have h2 := h y (List.mem_cons_self ..)
    simp only [jn, List.length_append, List.length_cons, Nat.add_mul, Nat.one_mul]
    omega
theorem txT_bound (l : List Sg) (B : Nat) (h : ∀ s ∈ l, (sgT s).length ≤ B) : (txT l).length ≤ l.length * (B + 1) := by
  induction l with
  | nil => simp [txT]
  | cons s r ih =>
    have h1 := ih (fun t ht => h t (List.mem_cons_of_mem _ ht))
    have h2 := h s (List.mem_cons_self ..)
    simp only [txT, List.length_append, List.length_cons, Nat.add_mul, Nat.one_mul] at h1 ⊢
    omega
theorem fits_of {l : List Sg} (h1 : l.all wholeS = true) (h2 : (decide (l.length ≤ 64) && l.all shortS) = true) : fits l := by
  simp only [Bool.and_eq_true, decide_eq_true_eq, List.all_eq_true] at h1 h2
  have hs : ∀ s ∈ l, s.els.length ≤ 16 ∧ ∀ e ∈ s.els, e.length ≤ 8 ∧ ∀ t ∈ e, t.length ≤ 256 := by
    intro s hs
    have := h2.2 s hs
    simp only [shortS, shortE, Bool.and_eq_true, decide_eq_true_eq, List.all_eq_true] at this
    exact ⟨this.1, fun e he => ⟨(this.2 e he).1, (this.2 e he).2⟩⟩
  have ht : ∀ s ∈ l, (sgT s).length ≤ 69785 := by
    intro s hs2
    have hw := h1 s hs2
    simp only [wholeS, Bool.and_eq_true] at hw
    have h3 : s.tag.length ≤ 4104 := by
      have := hw.1
      unfold isTag at this
      split at this
      · rename_i e; rw [e]; simp
      · simp at this
    have hE : ∀ e ∈ s.els, (elT e).length ≤ 4104 := by
      intro e he
      have h5 := (hs s hs2).2 e he
      have h6 : (elT e).length ≤ (e.map mkd).length * (1 + 512) := jn_bound [58] (e.map mkd) 512 (by
        intro t ht
        obtain ⟨c, hc, rfl⟩ := List.mem_map.1 ht
        have := mkd_len c
        have := h5.2 c hc
        omega)
      rw [List.length_map] at h6
      exact Nat.le_trans h6 (Nat.mul_le_mul h5.1 (Nat.le_refl 513))
    have h8 : (sgT s).length ≤ (s.tag :: s.els.map elT).length * (1 + 4104) := jn_bound [43] (s.tag :: s.els.map elT) 4104 (by
      intro t ht
      rcases List.mem_cons.1 ht with rfl | ht
      · exact h3
      · obtain ⟨e, he, rfl⟩ := List.mem_map.1 ht
        exact hE e he)
    have h7 := (hs s hs2).1
    exact Nat.le_trans h8 (Nat.mul_le_mul (show (s.tag :: s.els.map elT).length ≤ 17 by simp; omega) (Nat.le_refl 4105))
  refine ⟨by omega, ?_, fun s hs2 => ⟨by have := (hs s hs2).1; omega, fun e he => ⟨by have := ((hs s hs2).2 e he).1; omega, fun t ht2 => by have := ((hs s hs2).2 e he).2 t ht2; omega⟩⟩⟩
  have h9 := txT_bound l _ ht
  exact Nat.le_trans h9 (Nat.le_trans (Nat.mul_le_mul h2.1 (Nat.le_refl 69786)) (by decide))
set_option maxRecDepth 100000 in
set_option maxHeartbeats 1600000 in
theorem print_any (l : List Sg) (v : Value) (w : World) (hv : SegsF w (· < w.heap.size) v l) (hfit : sane l) :
    Calls Tryz.prog 31 #[v] w fun e w' => e = .returned (.tuple #[str (printL l).1, .int .i64 ((printL l).2 : Nat)]) ∧ Below w.heap.size w w' := by
  have HF := Lib.hid hfit
  have HV := Lib.hid hv
  have q1 := areWhole_any l v w hv hfit
  by_cases h1 : l.all wholeS = true
  · rw [h1] at q1
    have Q1 := Lib.hid q1
    clear q1 hv hfit
    go_enter Tryz.func31, Tryz.ntmps31
    go_wp2_with (go_at_call 44; refine (Q1.out).mono ?_)
    first | rintro e w1 rfl hb1 | rintro e w1 ⟨rfl, hb1⟩
    have q2 := arePlain_any l v w1 (HV.out.later hb1) HF.out
    have HB1 := Lib.hid hb1
    clear hb1
    by_cases h2 : l.all plainS = true
    · rw [h2] at q2
      have Q2 := Lib.hid q2
      clear q2
      go_wp2_with (go_at_call 45; refine (Q2.out).mono ?_)
      first | rintro e w2 rfl hb2 | rintro e w2 ⟨rfl, hb2⟩
      have HB2 := Lib.hid (HB1.out.trans (hb2.mono HB1.out.size))
      clear hb2
      have q3 := areShort_any l v w2 (HV.out.later HB2.out) HF.out
      by_cases h3 : (decide (l.length ≤ 64) && l.all shortS) = true
      · rw [h3] at q3
        have Q3 := Lib.hid q3
        have HFT := Lib.hid (fits_of h1 h3)
        clear q3
        have HH := Lib.hid (show printL l = if 65536 < (txT l).length then ([], 2) else (txT l, 0) by unfold printL; rw [if_pos h1, if_pos h2, if_pos h3])
        clear h1 h2 h3
        go_wp2_with (go_at_call 46; refine (Q3.out).mono ?_)
        first | rintro e w3 rfl hb3 | rintro e w3 ⟨rfl, hb3⟩
        have HB3 := Lib.hid (HB2.out.trans (hb3.mono HB2.out.size))
        clear hb3
        have Q4 := Lib.hid (textOf_any l v w3 (HV.out.later HB3.out) HFT.out)
        go_wp2_with (go_at_call 47; refine (Q4.out).mono ?_)
        first | rintro e w4 rfl hb4 | rintro e w4 ⟨rfl, hb4⟩
        have HB4 := Lib.hid (HB3.out.trans (hb4.mono HB3.out.size))
        clear hb4
        generalize txT l = T at *
        have hsz : (tx T).size = T.length := by simp [tx, ByteArray.size]
        by_cases h5 : (65536 : Int) < (T.length : Int)
        · have HP := Lib.hid (show printL l = ([], 2) by rw [HH.out, if_pos (by omega)])
          go_wp2
          go_ret2
          rw [HP.out]
          exact ⟨rfl, HB4.out⟩
        · have HP := Lib.hid (show printL l = (T, 0) by rw [HH.out, if_neg (by omega)])
          go_wp2
          go_ret2
          rw [HP.out]
          exact ⟨rfl, HB4.out⟩
      · have HP := Lib.hid (show printL l = ([], 2) by unfold printL; rw [if_pos h1, if_pos h2, if_neg h3])
        rw [show (decide (l.length ≤ 64) && l.all shortS) = false by simpa using h3] at q3
        have Q3 := Lib.hid q3
        clear q3 h1 h2 h3
        go_wp2_with (go_at_call 46; refine (Q3.out).mono ?_)
        first | rintro e w3 rfl hb3 | rintro e w3 ⟨rfl, hb3⟩
        have HB3 := Lib.hid (HB2.out.trans (hb3.mono HB2.out.size))
        clear hb3
        go_wp2
        go_ret2
        rw [HP.out]
        exact ⟨rfl, HB3.out⟩
    · have HP := Lib.hid (show printL l = ([], 30) by unfold printL; rw [if_pos h1, if_neg h2])
      rw [show l.all plainS = false by simpa using h2] at q2
      have Q2 := Lib.hid q2
      clear q2 h1 h2
      go_wp2_with (go_at_call 45; refine (Q2.out).mono ?_)
      first | rintro e w2 rfl hb2 | rintro e w2 ⟨rfl, hb2⟩
      have HB2 := Lib.hid (HB1.out.trans (hb2.mono HB1.out.size))
      clear hb2
      go_wp2
      go_ret2
      rw [HP.out]
      exact ⟨rfl, HB2.out⟩
  · have HP := Lib.hid (show printL l = ([], 1) by unfold printL; rw [if_neg h1])
    rw [show l.all wholeS = false by simpa using h1] at q1
    have Q1 := Lib.hid q1
    clear q1 hv hfit h1
    go_enter Tryz.func31, Tryz.ntmps31
    go_wp2_with (go_at_call 44; refine (Q1.out).mono ?_)
    first | rintro e w1 rfl hb1 | rintro e w1 ⟨rfl, hb1⟩
    have HB1 := Lib.hid hb1
    clear hb1
    go_wp2
    go_ret2
    rw [HP.out]
    exact ⟨rfl, HB1.out⟩
end Go.Proofs.YtgaoeljdlpemnaaGreatDoor
