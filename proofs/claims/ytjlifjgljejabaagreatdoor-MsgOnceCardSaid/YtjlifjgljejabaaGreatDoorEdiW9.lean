/- Contract of edi.Print: the plain text of the segments, or an error. -/
import Derived.Test.YtjlifjgljejabaaGreatDoorEdiW7
import Derived.Test.YtjlifjgljejabaaGreatDoorEdiW8
namespace Go.Proofs.YtjlifjgljejabaaGreatDoor
open Go.RowKit Go.Edi

theorem SegsF.later {w w' : World} {v : Value} {l : List Sg} (h : SegsF w (· < w.heap.size) v l) (hb : Below w.heap.size w w') : SegsF w' (· < w'.heap.size) v l := h.below hb
theorem jnT_bound (x : Tx) (l : List Tx) (B : Nat) (h : ∀ t ∈ l, t.length ≤ B) : (jnT x l).length ≤ l.length * (x.length + B) := by
  induction l with
  | nil => simp [jnT]
  | cons y r ih =>
    have h1 := ih (fun t ht => h t (List.mem_cons_of_mem _ ht))
    have h2 := h y (List.mem_cons_self ..)
    simp only [jnT, List.length_append, List.length_cons, Nat.add_mul, Nat.one_mul]
    omega
theorem jn_bound (x : Tx) (l : List Tx) (B : Nat) (h : ∀ t ∈ l, t.length ≤ B) : (jn x l).length ≤ l.length * (x.length + B) := by
  match l with
  | [] => simp [jn]
  | y :: r =>
    have h1 := jnT_bound x r B (fun t ht => h t (List.mem_cons_of_mem _ ht))
    have h2 := h y (List.mem_cons_self ..)
    simp only [jn, List.length_append, List.length_cons, Nat.add_mul, Nat.one_mul]
    omega
theorem txT_bound (l : List Sg) (B : Nat) (h : ∀ s ∈ l, (sgT s).length ≤ B) : (txT l).length ≤ l.length * (B + 1) := by
  induction l with
  | nil => simp [txT]
  | cons s r ih =>
    have h1 := ih (fun t ht => h t (List.mem_cons_of_mem _ ht))
    have h2 := h s (List.mem_cons_self ..)
    simp only [txT, List.length_append, List.length_cons, Nat.add_mul, Nat.one_mul] at h1 ⊢
    omega
theorem fits_of {l : List Sg} (h1 : l.all wholeS = true) (h2 : (decide (l.length ≤ 64) && l.all shortS) = true) : fits l := by
  simp only [Bool.and_eq_true, decide_eq_true_eq, List.all_eq_true] at h1 h2
  have hs : ∀ s ∈ l, s.els.length ≤ 16 ∧ ∀ e ∈ s.els, e.length ≤ 8 ∧ ∀ t ∈ e, t.length ≤ 256 := by
    intro s hs
    have := h2.2 s hs
    simp only [shortS, shortE, Bool.and_eq_true, decide_eq_true_eq, List.all_eq_true] at this
    exact ⟨this.1, fun e he => ⟨(this.2 e he).1, (this.2 e he).2⟩⟩
  have ht : ∀ s ∈ l, (sgT s).length ≤ 69785 := by
    intro s hs2
    have hw := h1 s hs2
    simp only [wholeS, Bool.and_eq_true] at hw
    have h3 : s.tag.length ≤ 4104 := by
      have := hw.1
      unfold isTag at this
      split at this
      · rename_i e; rw [e]; simp
      · simp at this
    have hE : ∀ e ∈ s.els, (elT e).length ≤ 4104 := by
      intro e he
      have h5 := (hs s hs2).2 e he
      have h6 : (elT e).length ≤ (e.map mkd).length * (1 + 512) := jn_bound [58] (e.map mkd) 512 (by
        intro t ht
        obtain ⟨c, hc, rfl⟩ := List.mem_map.1 ht
        have := mkd_len c
        have := h5.2 c hc
        omega)
      rw [List.length_map] at h6
      exact Nat.le_trans h6 (Nat.mul_le_mul h5.1 (Nat.le_refl 513))
    have h8 : (sgT s).length ≤ (s.tag :: s.els.map elT).length * (1 + 4104) := jn_bound [43] (s.tag :: s.els.map elT) 4104 (by
      intro t ht
      rcases List.mem_cons.1 ht with rfl | ht
      · exact h3
      · obtain ⟨e, he, rfl⟩ := List.mem_map.1 ht
        exact hE e he)
    have h7 := (hs s hs2).1
    exact Nat.le_trans h8 (Nat.mul_le_mul (show (s.tag :: s.els.map elT).length ≤ 17 by simp; omega) (Nat.le_refl 4105))
  refine ⟨by omega, ?_, fun s hs2 => ⟨by have := (hs s hs2).1; omega, fun e he => ⟨by have := ((hs s hs2).2 e he).1; omega, fun t ht2 => by have := ((hs s hs2).2 e he).2 t ht2; omega⟩⟩⟩
  have h9 := txT_bound l _ ht
  exact Nat.le_trans h9 (Nat.le_trans (Nat.mul_le_mul h2.1 (Nat.le_refl 69786)) (by decide))
set_option maxRecDepth 100000 in
set_option maxHeartbeats 1600000 in
theorem print_any (l : List Sg) (v : Value) (w : World) (hv : SegsF w (· < w.heap.size) v l) (hfit : sane l) :
    Calls Tryz.prog 44 #[v] w fun e w' => e = .returned (.tuple #[str (printL l).1, .int .i64 ((printL l).2 : Nat)]) ∧ Below w.heap.size w w' := by
  have HF := Lib.hid hfit
  have HV := Lib.hid hv
  have q1 := areWhole_any l v w hv hfit
  by_cases h1 : l.all wholeS = true
  · rw [h1] at q1
    have Q1 := Lib.hid q1
    clear q1 hv hfit
    go_enter Tryz.func44, Tryz.ntmps44
    go_wp2_with (go_at_call 56; refine (Q1.out).mono ?_)
    first | rintro e w1 rfl hb1 | rintro e w1 ⟨rfl, hb1⟩
    have q2 := arePlain_any l v w1 (HV.out.later hb1) HF.out
    have HB1 := Lib.hid hb1
    clear hb1
    by_cases h2 : l.all plainS = true
    · rw [h2] at q2
      have Q2 := Lib.hid q2
      clear q2
      go_wp2_with (go_at_call 57; refine (Q2.out).mono ?_)
      first | rintro e w2 rfl hb2 | rintro e w2 ⟨rfl, hb2⟩
      have HB2 := Lib.hid (HB1.out.trans (hb2.mono HB1.out.size))
      clear hb2
      have q3 := areShort_any l v w2 (HV.out.later HB2.out) HF.out
      by_cases h3 : (decide (l.length ≤ 64) && l.all shortS) = true
      · rw [h3] at q3
        have Q3 := Lib.hid q3
        have HFT := Lib.hid (fits_of h1 h3)
        clear q3
        have HH := Lib.hid (show printL l = if 65536 < (txT l).length then ([], 2) else (txT l, 0) by unfold printL; rw [if_pos h1, if_pos h2, if_pos h3])
        clear h1 h2 h3
        go_wp2_with (go_at_call 58; refine (Q3.out).mono ?_)
        first | rintro e w3 rfl hb3 | rintro e w3 ⟨rfl, hb3⟩
        have HB3 := Lib.hid (HB2.out.trans (hb3.mono HB2.out.size))
        clear hb3
        have Q4 := Lib.hid (textOf_any l v w3 (HV.out.later HB3.out) HFT.out)
        go_wp2_with (go_at_call 59; refine (Q4.out).mono ?_)
        first | rintro e w4 rfl hb4 | rintro e w4 ⟨rfl, hb4⟩
        have HB4 := Lib.hid (HB3.out.trans (hb4.mono HB3.out.size))
        clear hb4
        generalize txT l = T at *
        have hsz : (tx T).size = T.length := by simp [tx, ByteArray.size]
        by_cases h5 : (65536 : Int) < (T.length : Int)
        · have HP := Lib.hid (show printL l = ([], 2) by rw [HH.out, if_pos (by omega)])
          go_wp2
          go_ret2
          rw [HP.out]
          exact ⟨rfl, HB4.out⟩
        · have HP := Lib.hid (show printL l = (T, 0) by rw [HH.out, if_neg (by omega)])
          go_wp2
          go_ret2
          rw [HP.out]
          exact ⟨rfl, HB4.out⟩
      · have HP := Lib.hid (show printL l = ([], 2) by unfold printL; rw [if_pos h1, if_pos h2, if_neg h3])
        rw [show (decide (l.length ≤ 64) && l.all shortS) = false by simpa using h3] at q3
        have Q3 := Lib.hid q3
        clear q3 h1 h2 h3
        go_wp2_with (go_at_call 58; refine (Q3.out).mono ?_)
        first | rintro e w3 rfl hb3 | rintro e w3 ⟨rfl, hb3⟩
        have HB3 := Lib.hid (HB2.out.trans (hb3.mono HB2.out.size))
        clear hb3
        go_wp2
        go_ret2
        rw [HP.out]
        exact ⟨rfl, HB3.out⟩
    · have HP := Lib.hid (show printL l = ([], 30) by unfold printL; rw [if_pos h1, if_neg h2])
      rw [show l.all plainS = false by simpa using h2] at q2
      have Q2 := Lib.hid q2
      clear q2 h1 h2
      go_wp2_with (go_at_call 57; refine (Q2.out).mono ?_)
      first | rintro e w2 rfl hb2 | rintro e w2 ⟨rfl, hb2⟩
      have HB2 := Lib.hid (HB1.out.trans (hb2.mono HB1.out.size))
      clear hb2
      go_wp2
      go_ret2
      rw [HP.out]
      exact ⟨rfl, HB2.out⟩
  · have HP := Lib.hid (show printL l = ([], 1) by unfold printL; rw [if_neg h1])
    rw [show l.all wholeS = false by simpa using h1] at q1
    have Q1 := Lib.hid q1
    clear q1 hv hfit h1
    go_enter Tryz.func44, Tryz.ntmps44
    go_wp2_with (go_at_call 56; refine (Q1.out).mono ?_)
    first | rintro e w1 rfl hb1 | rintro e w1 ⟨rfl, hb1⟩
    have HB1 := Lib.hid hb1
    clear hb1
    go_wp2
    go_ret2
    rw [HP.out]
    exact ⟨rfl, HB1.out⟩
end Go.Proofs.YtjlifjgljejabaaGreatDoor
