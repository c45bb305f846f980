/- Contracts of edi's questions about segments: isTag, isPlainText, isShortElem, areWhole. -/
import Derived.Test.YtjlifjgljejabaaGreatDoorEdiW4
namespace Go.Proofs.YtjlifjgljejabaaGreatDoor
open Go.RowKit Go.Edi

theorem isTag_at (t : Tx) (h : t.length = 3) (h0 : 0 < (tx t).size) (h1 : 1 < (tx t).size) (h2 : 2 < (tx t).size) : isTag t = (tgc ((tx t)[0]'h0) && tgc ((tx t)[1]'h1) && tgc ((tx t)[2]'h2)) := by
  match t, h with
  | [a, b, c], _ => rfl
theorem isTag_no (t : Tx) (h : ¬ t.length = 3) : isTag t = false := by
  unfold isTag
  split
  · simp at h
  · rfl
set_option maxRecDepth 100000 in
set_option maxHeartbeats 800000 in
theorem isTag_any (t : Tx) (w : World) : Calls Tryz.prog 84 #[str t] w fun e w' => e = .returned (.bool (isTag t)) ∧ w = w' := by
  have hsz : (tx t).size = t.length := by simp [tx, ByteArray.size]
  by_cases h3 : (t.length : Int) = 3
  · have g0 : 0 < (tx t).size := by omega
    have g1 : 1 < (tx t).size := by omega
    have g2 : 2 < (tx t).size := by omega
    rw [isTag_at t (by omega) g0 g1 g2]
    have q1 := isOfTag_any ((tx t)[0]'g0)
    have q2 := isOfTag_any ((tx t)[1]'g1)
    have q3 := isOfTag_any ((tx t)[2]'g2)
    have hS : (tx t).size = 3 := by omega
    by_cases ha : tgc ((tx t)[0]'g0) = true
    · rw [ha] at q1 ⊢
      by_cases hb : tgc ((tx t)[1]'g1) = true
      · rw [hb] at q2 ⊢
        go_enter Tryz.func84, Tryz.ntmps84
        go_wp2_with (first
          | (go_at_call 114; with_reducible refine (q1 _).mono ?_; rintro e w' ⟨rfl, rfl⟩)
          | (go_at_call 114; with_reducible refine (q2 _).mono ?_; rintro e w' ⟨rfl, rfl⟩)
          | (go_at_call 114; with_reducible refine (q3 _).mono ?_; rintro e w' ⟨rfl, rfl⟩))
        all_goals (go_ret; exact ⟨ret_bool (by simp), rfl⟩)
      · rw [show tgc ((tx t)[1]'g1) = false by simpa using hb] at q2 ⊢
        go_enter Tryz.func84, Tryz.ntmps84
        go_wp2_with (first
          | (go_at_call 114; with_reducible refine (q1 _).mono ?_; rintro e w' ⟨rfl, rfl⟩)
          | (go_at_call 114; with_reducible refine (q2 _).mono ?_; rintro e w' ⟨rfl, rfl⟩))
        all_goals (go_ret; exact ⟨ret_bool (by simp), rfl⟩)
    · rw [show tgc ((tx t)[0]'g0) = false by simpa using ha] at q1 ⊢
      go_enter Tryz.func84, Tryz.ntmps84
      go_wp2_with (go_at_call 114; with_reducible refine (q1 _).mono ?_; rintro e w' ⟨rfl, rfl⟩)
      all_goals (go_ret; exact ⟨ret_bool (by simp), rfl⟩)
  · rw [isTag_no t (by omega)]
    go_enter Tryz.func84, Tryz.ntmps84
    go_wp2
    go_ret
    exact ⟨rfl, rfl⟩
theorem all_snoc {α : Type} (f : α → Bool) (l : List α) (k : Nat) (h : k < l.length) : (l.take (k + 1)).all f = ((l.take k).all f && f l[k]) := by
  rw [← List.take_append_getElem h, List.all_append]; simp
theorem all_false {α : Type} (f : α → Bool) (l : List α) (k : Nat) (h : k < l.length) (hf : f l[k] = false) : l.all f = false := by
  rw [Bool.eq_false_iff]
  intro e
  rw [List.all_eq_true] at e
  rw [e _ (List.getElem_mem h)] at hf
  simp at hf
set_option maxRecDepth 100000 in
set_option maxHeartbeats 1600000 in
theorem isPlainText_any (t : Tx) (w : World) (hl : t.length ≤ 1000000000000) : Calls Tryz.prog 85 #[str t] w fun e w' => e = .returned (.bool (t.all pln)) ∧ Below w.heap.size w w' := by
  have hsz : (tx t).size = t.length := by simp [tx, ByteArray.size]
  have hbz : (t.length : Int) ≤ 1000000000000 := by omega
  clear hl
  go_enter Tryz.func85, Tryz.ntmps85
  go_wp2
  go_loopw [6] (fun i wr => ∃ k : Nat, i = .int .i64 k ∧ k ≤ t.length ∧ (t.take k).all pln = true ∧ Below w.heap.size w wr) (fun i _ => t.length - (intOf i).toNat)
  case atStart => exact ⟨0, rfl, Nat.zero_le _, rfl, Below.refl _ _⟩
  case round =>
    obtain ⟨k, rfl, hk, hal, hb⟩ := hrel
    by_cases hlt : (k : Int) < (t.length : Int)
    · have hkl : k < t.length := by omega
      have hk0 : (0 : Int) ≤ (k : Int) := Int.natCast_nonneg _
      have HB := Lib.hid hb
      by_cases hp : pln t[k] = true
      · have hq := isPlain_any t[k]
        rw [hp] at hq
        have HA := Lib.hid (show (t.take (k + 1)).all pln = true by rw [all_snoc _ _ _ hkl, hal, hp]; rfl)
        clear hal hb
        go_wp2_with (go_at_call 115; refine (hq _).mono ?_; rintro e w' ⟨rfl, rfl⟩)
        go_roundw
        case rel => exact ⟨k + 1, by go_num, by omega, HA.out, HB.out⟩
        case measure => simp [intOf]; omega
      · have hq := isPlain_any t[k]
        rw [show pln t[k] = false by simpa using hp] at hq
        have HA := Lib.hid (all_false pln t k hkl (by simpa using hp))
        clear hal hb
        go_wp2_with (go_at_call 115; refine (hq _).mono ?_; rintro e w' ⟨rfl, rfl⟩)
        go_ret
        exact ⟨ret_bool HA.out.symm, HB.out⟩
    · obtain rfl : k = t.length := by omega
      rw [List.take_length] at hal
      have HA := Lib.hid hal
      have HB := Lib.hid hb
      clear hal hb
      go_wp2
      go_ret
      exact ⟨ret_bool HA.out.symm, HB.out⟩
set_option maxRecDepth 100000 in
set_option maxHeartbeats 1600000 in
theorem isShortElem_any (l : List Tx) (v : Value) (w : World) (hv : StrsF w (· < w.heap.size) v l) (ht : ∀ t ∈ l, t.length ≤ 1000000000000) : Calls Tryz.prog 86 #[v] w fun e w' => e = .returned (.bool (shortE l)) ∧ Below w.heap.size w w' := by
  obtain ⟨p, cap, rfl, hnc, hp⟩ := hv
  have HP := Lib.hid hp
  have HT := Lib.hid ht
  clear hp ht
  by_cases h8 : (8 : Int) < (l.length : Int)
  · have HA := Lib.hid (show shortE l = false by unfold shortE; simp; omega)
    go_enter Tryz.func86, Tryz.ntmps86
    go_wp2
    go_ret
    exact ⟨ret_bool HA.out.symm, Below.refl _ _⟩
  · have HS := Lib.hid (show shortE l = l.all (fun c => decide (c.length ≤ 256)) by unfold shortE; rw [show decide (l.length ≤ 8) = true by simp; omega]; rfl)
    go_enter Tryz.func86, Tryz.ntmps86
    go_wp2
    go_loopw [10] (fun i wr => ∃ k : Nat, i = .int .i64 k ∧ k ≤ l.length ∧ (l.take k).all (fun c => decide (c.length ≤ 256)) = true ∧ Below w.heap.size w wr) (fun i _ => l.length - (intOf i).toNat)
    case atStart => exact ⟨0, rfl, Nat.zero_le _, rfl, Below.refl _ _⟩
    case round =>
      obtain ⟨k, rfl, hk, hal, hb⟩ := hrel
      have HB := Lib.hid hb
      by_cases hlt : (k : Int) < (l.length : Int)
      · have hkl : k < l.length := by omega
        have hk0 : (0 : Int) ≤ (k : Int) := Int.natCast_nonneg _
        obtain ⟨b, o, rfl, hF, hc⟩ := HP.out (by omega)
        have hck : wr.cell? ⟨b, o + k, none⟩ = some (str (l[k]'hkl)) := (World.cell?_of_block (a := ⟨b, o + k, none⟩) (hb.block b hF)).trans (hc k _ (by rw [List.getElem?_map, List.getElem?_eq_getElem hkl]; rfl))
        have h1 := all_snoc (fun c => decide (List.length c ≤ 256)) l k hkl
        have h2 := all_false (fun c => decide (List.length c ≤ 256)) l k hkl
        have h3 := HT.out _ (List.getElem_mem hkl)
        generalize l[k]'hkl = y at *
        have hsz : (tx y).size = y.length := by simp [tx, ByteArray.size]
        by_cases h256 : (256 : Int) < (y.length : Int)
        · have HA := Lib.hid (h2 (by simp; omega))
          clear hal hb h1 h2 hc
          go_wp2
          go_ret
          exact ⟨ret_bool (by rw [HS.out, HA.out]), HB.out⟩
        · have HA := Lib.hid (show (l.take (k + 1)).all (fun c => decide (c.length ≤ 256)) = true by rw [h1, hal]; simp; omega)
          clear hal hb h1 h2 hc
          go_wp2
          go_roundw
          case rel => exact ⟨k + 1, by go_num, by omega, HA.out, HB.out⟩
          case measure => simp [intOf]; omega
      · obtain rfl : k = l.length := by omega
        rw [List.take_length] at hal
        have HA := Lib.hid hal
        clear hal hb
        go_wp2
        go_ret
        exact ⟨ret_bool (by rw [HS.out, HA.out]), HB.out⟩
end Go.Proofs.YtjlifjgljejabaaGreatDoor
