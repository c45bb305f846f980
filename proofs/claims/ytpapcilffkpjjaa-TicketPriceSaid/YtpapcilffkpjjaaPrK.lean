/- Contract of Same. -/
import Derived.Test.YtpapcilffkpjjaaPrS3
namespace Go.Proofs.Ytpapcilffkpjjaa
open Go.Shelf Go.RowKit Go.Lib Go.Sort Go.Stb Go.Money Go.Pror

theorem nums_lit {w : World} {g : Nat} {ty : TypeId} {k : IntKind} {fr : Nat × Nat} (L : List Int) (h : w.heap[g]? = some (.cells (L.map (Value.int k)).toArray ty fr)) : Nums w k (some ⟨g, 0, none⟩) L :=
  ⟨fun _ => ⟨g, 0, rfl, (Array.getElem?_eq_some_iff.1 h).1, fun j hj => by
    rw [Nat.zero_add, cell_of_row w g j _ _ _ h, List.getElem?_toArray, List.getElem?_map, List.getElem?_eq_getElem hj, List.getD_eq_getElem?_getD, List.getElem?_eq_getElem hj]
    rfl⟩⟩
theorem take_eq_next {l m : List Int} {k : Nat} (h1 : k < l.length) (h2 : k < m.length) (h : l.take k = m.take k) (he : l.getD k 0 = m.getD k 0) : l.take (k + 1) = m.take (k + 1) := by
  rw [List.take_succ_eq_append_getElem h1, List.take_succ_eq_append_getElem h2, h]
  rw [List.getD_eq_getElem?_getD, List.getElem?_eq_getElem h1, List.getD_eq_getElem?_getD, List.getElem?_eq_getElem h2] at he
  have : l[k] = m[k] := he
  rw [this]
set_option maxRecDepth 100000 in
set_option maxHeartbeats 1600000 in
theorem rsame_any (l m : List Int) (p q : Option Addr) (c c' : Nat) (w : World) (hl : l.length ≤ 1000000) (hm : m.length ≤ 1000000) (hN : Nums w .i64 p l) (hM : Nums w .i64 q m) :
    Calls Try.prog 22 #[.slice p l.length c, .slice q m.length c'] w fun e w' => e = .returned (.bool (decide (l = m))) ∧ ∃ k, w' = w.drewN k := by
  have HN := Lib.hid hN
  have HM := Lib.hid hM
  have l1 : (l.length : Int) ≤ 1000000 := by omega
  have m1 : (m.length : Int) ≤ 1000000 := by omega
  clear hN hM hl hm
  by_cases hlen : l.length = m.length
  · have hle : ((l.length : Nat) : Int) = (m.length : Int) := by omega
    have HL := Lib.hid hlen
    rw [← hlen] at m1 ⊢
    clear hle hlen m1
    go_enter Try.func22, Try.ntmps22
    go_wp2
    go_loopw [5] (fun i wr => ∃ (k n : Nat), i = .int .i64 k ∧ k ≤ l.length ∧ Hid (l.take k = m.take k) ∧ wr = w.drewN n) (fun i _ => l.length - (intOf i).toNat)
    case atStart => exact ⟨0, 0, rfl, Nat.zero_le _, by show l.take 0 = m.take 0; rfl, (World.drewN_zero w).symm⟩
    case round =>
      obtain ⟨k, n, rfl, hk, hT, rfl⟩ := hrel
      have HT := Lib.hid hT.out
      clear hT
      by_cases hlt : (k : Int) < (l.length : Int)
      · have hk0 : (0 : Int) ≤ (k : Int) := Int.natCast_nonneg _
        have hkl : k < l.length := by omega
        obtain ⟨b, o, rfl, _, c1⟩ := HN.out.cell hkl
        obtain ⟨b2, o2, rfl, _, c2⟩ := HM.out.cell (j := k) (by rw [← HL.out]; exact hkl)
        have c1' : (w.drewN n).cell? ⟨b, o + k, none⟩ = some (.int .i64 (l.getD k 0)) := c1
        have c2' : (w.drewN n).cell? ⟨b2, o2 + k, none⟩ = some (.int .i64 (m.getD k 0)) := c2
        have HNX := Lib.hid (take_eq_next hkl (by rw [← HL.out]; exact hkl) HT.out)
        have HNE := Lib.hid (show l.getD k 0 ≠ m.getD k 0 → decide (l = m) = false from fun h => decide_eq_false (fun e => h (by rw [e])))
        clear c1 c2
        generalize l.getD k 0 = x at *
        generalize m.getD k 0 = y at *
        generalize hwq : w.drewN n = wq at c1' c2' ⊢
        have HW : Hid (wq = w.drewN n) := hwq.symm
        clear hwq
        by_cases hxy : x = y
        · subst hxy
          go_wp2_with fail
          go_quiet (fail)
          go_wp2
          go_roundw
          case rel => exact ⟨k + 1, n + nq, by go_num, by omega, HNX.out (by trivial), by rw [HW.out, World.drewN_drewN]⟩
          case measure => simp [intOf]; omega
        · have hb : (x == y) = false := by rw [beq_eq_false_iff_ne]; exact hxy
          have hb2 : (x != y) = true := by rw [bne_iff_ne]; exact hxy
          have HF := Lib.hid (HNE.out hxy)
          clear hxy
          go_wp2_with fail
          go_quiet (fail)
          go_wp2
          go_ret
          rw [HF.out]
          exact ⟨rfl, n + nq, by rw [HW.out, World.drewN_drewN]⟩
      · have HE := Lib.hid (show l = m by
          have h := HT.out
          rw [List.take_of_length_le (by omega), List.take_of_length_le (by have := HL.out; omega)] at h; exact h)
        go_wp2
        go_ret
        rw [decide_eq_true HE.out]
        exact ⟨rfl, n, rfl⟩
  · have hle : ¬ ((l.length : Nat) : Int) = (m.length : Int) := by omega
    have hb : ((l.length : Int) == (m.length : Int)) = false := by rw [beq_eq_false_iff_ne]; exact hle
    have hb2 : (l.length == m.length) = false := by rw [beq_eq_false_iff_ne]; exact hlen
    have HE := Lib.hid (show decide (l = m) = false from decide_eq_false (fun e => hlen (by rw [e])))
    clear hle hlen
    go_enter Try.func22, Try.ntmps22
    go_wp2
    go_ret
    rw [HE.out]
    exact ⟨rfl, 0, by rw [World.drewN_zero]⟩
end Go.Proofs.Ytpapcilffkpjjaa
