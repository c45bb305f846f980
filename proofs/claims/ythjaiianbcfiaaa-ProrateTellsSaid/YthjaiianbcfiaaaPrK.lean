/- Contracts of Same and of the statements' wakes. -/
import Derived.Test.YthjaiianbcfiaaaPrS3
namespace Go.Proofs.Ythjaiianbcfiaaa
open Go.Shelf Go.RowKit Go.Lib Go.Sort Go.Stb Go.Money Go.Pror

theorem nums_lit {w : World} {g : Nat} {ty : TypeId} {k : IntKind} {fr : Nat × Nat} (L : List Int) (h : w.heap[g]? = some (.cells (L.map (Value.int k)).toArray ty fr)) : Nums w k (some ⟨g, 0, none⟩) L :=
  ⟨fun _ => ⟨g, 0, rfl, (Array.getElem?_eq_some_iff.1 h).1, fun j hj => by
    rw [Nat.zero_add, cell_of_row w g j _ _ _ h, List.getElem?_toArray, List.getElem?_map, List.getElem?_eq_getElem hj, List.getD_eq_getElem?_getD, List.getElem?_eq_getElem hj]
    rfl⟩⟩
theorem take_eq_next {l m : List Int} {k : Nat} (h1 : k < l.length) (h2 : k < m.length) (h : l.take k = m.take k) (he : l.getD k 0 = m.getD k 0) : l.take (k + 1) = m.take (k + 1) := by
  rw [List.take_succ_eq_append_getElem h1, List.take_succ_eq_append_getElem h2, h]
  rw [List.getD_eq_getElem?_getD, List.getElem?_eq_getElem h1, List.getD_eq_getElem?_getD, List.getElem?_eq_getElem h2] at he
  have : l[k] = m[k] := he
  rw [this]
set_option maxRecDepth 100000 in
set_option maxHeartbeats 1600000 in
theorem rsame_any (l m : List Int) (p q : Option Addr) (c c' : Nat) (w : World) (hl : l.length ≤ 1000000) (hm : m.length ≤ 1000000) (hN : Nums w .i64 p l) (hM : Nums w .i64 q m) :
    Calls Try.prog 11 #[.slice p l.length c, .slice q m.length c'] w fun e w' => e = .returned (.bool (decide (l = m))) ∧ ∃ k, w' = w.drewN k := by
  have HN := Lib.hid hN
  have HM := Lib.hid hM
  have l1 : (l.length : Int) ≤ 1000000 := by omega
  have m1 : (m.length : Int) ≤ 1000000 := by omega
  clear hN hM hl hm
  by_cases hlen : l.length = m.length
  · have hle : ((l.length : Nat) : Int) = (m.length : Int) := by omega
    have HL := Lib.hid hlen
    rw [← hlen] at m1 ⊢
    clear hle hlen m1
    go_enter Try.func11, Try.ntmps11
    go_wp2
    go_loopw [5] (fun i wr => ∃ (k n : Nat), i = .int .i64 k ∧ k ≤ l.length ∧ Hid (l.take k = m.take k) ∧ wr = w.drewN n) (fun i _ => l.length - (intOf i).toNat)
    case atStart => exact ⟨0, 0, rfl, Nat.zero_le _, by show l.take 0 = m.take 0; rfl, (World.drewN_zero w).symm⟩
    case round =>
      obtain ⟨k, n, rfl, hk, hT, rfl⟩ := hrel
      have HT := Lib.hid hT.out
      clear hT
      by_cases hlt : (k : Int) < (l.length : Int)
      · have hk0 : (0 : Int) ≤ (k : Int) := Int.natCast_nonneg _
        have hkl : k < l.length := by omega
        obtain ⟨b, o, rfl, _, c1⟩ := HN.out.cell hkl
        obtain ⟨b2, o2, rfl, _, c2⟩ := HM.out.cell (j := k) (by rw [← HL.out]; exact hkl)
        have c1' : (w.drewN n).cell? ⟨b, o + k, none⟩ = some (.int .i64 (l.getD k 0)) := c1
        have c2' : (w.drewN n).cell? ⟨b2, o2 + k, none⟩ = some (.int .i64 (m.getD k 0)) := c2
        have HNX := Lib.hid (take_eq_next hkl (by rw [← HL.out]; exact hkl) HT.out)
        have HNE := Lib.hid (show l.getD k 0 ≠ m.getD k 0 → decide (l = m) = false from fun h => decide_eq_false (fun e => h (by rw [e])))
        clear c1 c2
        generalize l.getD k 0 = x at *
        generalize m.getD k 0 = y at *
        generalize hwq : w.drewN n = wq at c1' c2' ⊢
        have HW : Hid (wq = w.drewN n) := hwq.symm
        clear hwq
        by_cases hxy : x = y
        · subst hxy
          go_wp2_with fail
          go_quiet (fail)
          go_wp2
          go_roundw
          case rel => exact ⟨k + 1, n + nq, by go_num, by omega, HNX.out (by trivial), by rw [HW.out, World.drewN_drewN]⟩
          case measure => simp [intOf]; omega
        · have hb : (x == y) = false := by rw [beq_eq_false_iff_ne]; exact hxy
          have hb2 : (x != y) = true := by rw [bne_iff_ne]; exact hxy
          have HF := Lib.hid (HNE.out hxy)
          clear hxy
          go_wp2_with fail
          go_quiet (fail)
          go_wp2
          go_ret
          rw [HF.out]
          exact ⟨rfl, n + nq, by rw [HW.out, World.drewN_drewN]⟩
      · have HE := Lib.hid (show l = m by
          have h := HT.out
          rw [List.take_of_length_le (by omega), List.take_of_length_le (by have := HL.out; omega)] at h; exact h)
        go_wp2
        go_ret
        rw [decide_eq_true HE.out]
        exact ⟨rfl, n, rfl⟩
  · have hle : ¬ ((l.length : Nat) : Int) = (m.length : Int) := by omega
    have hb : ((l.length : Int) == (m.length : Int)) = false := by rw [beq_eq_false_iff_ne]; exact hle
    have hb2 : (l.length == m.length) = false := by rw [beq_eq_false_iff_ne]; exact hlen
    have HE := Lib.hid (show decide (l = m) = false from decide_eq_false (fun e => hlen (by rw [e])))
    clear hle hlen
    go_enter Try.func11, Try.ntmps11
    go_wp2
    go_ret
    rw [HE.out]
    exact ⟨rfl, 0, by rw [World.drewN_zero]⟩
theorem share_100 : shareR 100 [1, 2, 4] = ([14, 29, 57], 0) := by decide +kernel
theorem share_7 : shareR 7 [] = ([], 60) := by decide +kernel
set_option maxRecDepth 100000 in
set_option maxHeartbeats 1600000 in
theorem prwakes_any (w : World) : Calls Try.prog 8 #[] w fun e w' => e = .returned (.bool true) ∧ Below w.heap.size w w' := by
  have H1 := Lib.hid (fun (w : World) (p : Option Addr) (c : Nat) (h : Nums w .u32 p [1, 2, 4]) => share_any 100 [1, 2, 4] p c w h (by decide))
  have H2 := Lib.hid (fun (w : World) => share_any 7 [] none 0 w ⟨fun h => absurd h (by decide)⟩ (by decide))
  simp only [ShareP, share_100, share_7] at H1 H2
  have H3 := Lib.hid (fun (w : World) (p q : Option Addr) (c c' : Nat) (h : Nums w .i64 p [14, 29, 57]) (h2 : Nums w .i64 q [14, 29, 57]) => rsame_any [14, 29, 57] [14, 29, 57] p q c c' w (by decide) (by decide) h h2)
  go_enter Try.func8, Try.ntmps8
  go_wp2_with fail
  refine (H1.out _ _ _ (nums_lit [1, 2, 4] (heap_last _ _ _ rfl))).mono ?_
  rintro e w1 ⟨q, cap, rfl, hc, hn, hb⟩
  have HB1 := Lib.hid hb
  have HN1 := Lib.hid hn
  clear hc hn hb
  go_wp2_with fail
  refine (H2.out _).mono ?_
  rintro e w2 ⟨q2, cap2, rfl, hc, hn, hb⟩
  have HN2 := Lib.hid (HN1.out.keep hb)
  have HB2 : Hid (Below w.heap.size w w2) := ((Below.refl _ _).alloc (Nat.le_refl _) _).trans ((HB1.out.mono (by simp)).trans (hb.mono (by have := HB1.out.size; simp at this; omega)))
  clear hc hn hb
  go_wp2_with fail
  refine (H3.out _ _ _ _ _ (HN2.out.keep ((Below.refl _ _).alloc (Nat.le_refl _) _)) (nums_lit [14, 29, 57] (heap_last _ _ _ rfl))).mono ?_
  rintro e w3 ⟨rfl, k, rfl⟩
  go_wp2_with fail
  go_ret
  exact ⟨rfl, below_drewN (HB2.out.alloc HB2.out.size _) k⟩
end Go.Proofs.Ythjaiianbcfiaaa
