/- The document's numbers. -/
import Derived.Test.YtabahkeologbmaaJnNlW
namespace Go.Proofs.Ytabahkeologbmaa.Jn
open Go.RowKit Go.Shelf Go.Dk Go.Jn Go.Sha Go.Proofs.Ytabahkeologbmaa.Dk

theorem beL_cons : ∀ (m v : Nat), beL (m + 1) v = UInt8.ofNat (v / 256 ^ m % 256) :: beL m v
  | 0, v => by simp [beL]
  | m + 1, v => by
    rw [beL, beL_cons m (v / 256), beL, List.cons_append, Nat.div_div_eq_div_mul, Nat.pow_succ, Nat.mul_comm 256]
theorem rep_set (k m v : Nat) : (List.replicate (k + 1) (0 : UInt8) ++ beL m v).set k (UInt8.ofNat (v / 256 ^ m % 256)) = List.replicate k 0 ++ beL (m + 1) v := by
  rw [List.replicate_succ', List.append_assoc, List.set_append_right _ _ (by simp), List.length_replicate, Nat.sub_self, beL_cons]
  rfl
def NumP (n v : Nat) (w : World) (e : Ending) (w' : World) : Prop := ∃ u, e = .returned u ∧ OwnB w' w.heap.size u (beL n v) ∧ Below w.heap.size w w'
theorem own_zeros (n : Nat) (hn : n ≤ 1000000) (w : World) (base : Nat) (hb : base ≤ w.heap.size) : OwnB (w.alloc (.cells (bc (List.replicate n 0)) 5)) base (.slice (some ⟨w.heap.size, 0, none⟩) n n) (List.replicate n 0) := by
  show World.ownsRow _ _ _ _ _ (List.replicate n (0 : UInt8)).length _
  rw [List.length_replicate]
  exact ⟨by rw [byl_len, List.length_replicate, Nat.mul_one], Or.inr ⟨w.heap.size, n, bc (List.replicate n 0), rfl, hb, heap_last _ _ _ rfl, Nat.le_refl _, by unfold maxLen; omega, by rw [bc_size]; simp, by rw [bc_list, Nat.mul_one, List.take_of_length_le (by rw [byl_len]; simp)]⟩⟩
set_option maxRecDepth 100000 in
set_option maxHeartbeats 1600000 in
theorem refnum_any (n v : Nat) (hn : n ≤ 1000) (hv : v < 18446744073709551616) (w : World) : Calls Try.prog 24 #[.int .u64 (v : Int), .int .i64 (n : Int)] w (NumP n v w) := by
  have hmk := mkB n (by omega) w
  have hO := own_zeros n (by omega) w w.heap.size (Nat.le_refl _)
  have hB : Below w.heap.size w (w.alloc (.cells (bc (List.replicate n 0)) 5)) := (Below.refl _ _).alloc (Nat.le_refl _) _
  have HO := Lib.hid hO
  have HB := Lib.hid hB
  have hn0 : (0 : Int) ≤ (n : Int) := Int.natCast_nonneg _
  have hn1 : (n : Int) ≤ 1000 := by omega
  have HV := Lib.hid hv
  clear hO hB hv
  go_enter Try.func24, Try.ntmps24
  go_wp2_with fail
  clear hmk
  generalize w.alloc (.cells (bc (List.replicate n 0)) 5) = w1 at *
  go_loopw [0, 6] (fun x i wr => ∃ k y : Nat, k ≤ n ∧ i = .int .i64 ((k : Int) - 1) ∧ x = .int .u64 (y : Int) ∧ Hid (y = v / 256 ^ (n - k)) ∧ Hid (OwnB wr w.heap.size (.slice (some ⟨w.heap.size, 0, none⟩) n n) (List.replicate k 0 ++ beL (n - k) v)) ∧ Hid (Below w.heap.size w wr)) (fun _ i _ => (intOf i + 1).toNat)
  case atStart => exact ⟨n, v, Nat.le_refl _, rfl, rfl, Lib.hid (by simp), by rw [Nat.sub_self]; simpa [beL] using HO, HB⟩
  case round =>
    obtain ⟨k, y, hk, rfl, rfl, hy, HOK, HBK⟩ := hrel
    cases k with
    | zero =>
      go_wp2
      go_ret
      have ho := HOK.out
      rw [Nat.sub_zero, List.replicate_zero, List.nil_append] at ho
      exact ⟨_, rfl, ho, HBK.out⟩
    | succ k =>
      have e0 : ((k + 1 : Nat) : Int) - 1 = (k : Int) := by omega
      rw [e0]
      have hk0 : (0 : Int) ≤ (k : Int) := Int.natCast_nonneg _
      have hk1 : (k : Int) < (n : Int) := by omega
      have hll : (List.replicate (k + 1) (0 : UInt8) ++ beL (n - (k + 1)) v).length = n := by rw [List.length_append, List.length_replicate, beL_len]; omega
      have hcc := own_cell (i := k) HOK.out (by rw [List.length_append, List.length_replicate, beL_len]; omega)
      have cc := hcc.1
      have cf := hcc.2
      have HLL := Lib.hid hll
      clear hll
      have hy1 : (y : Int) < 18446744073709551616 := by have := hy.out; have := Nat.div_le_self v (256 ^ (n - (k + 1))); have := HV.out; omega
      have hy0 : (0 : Int) ≤ (y : Int) := Int.natCast_nonneg _
      clear hcc
      go_wp2
      go_roundw
      case rel =>
        have hyo := hy.out
        refine ⟨k, y / 256, by omega, rfl, by first | rfl | (congr 1; omega), Lib.hid (by rw [hyo, Nat.div_div_eq_div_mul, ← Nat.pow_succ]; congr 2; omega), ?_, ?_⟩
        · refine Lib.hid ?_
          rw [show n - k = n - (k + 1) + 1 by omega, ← rep_set]
          exact own_put HOK.out HLL.out.symm (by omega) _ (by
            rw [← hyo]
            have : (UInt8.ofNat (y % 256)).toNat = y % 256 := by simp
            rw [this]
            first | rfl | (congr 1; omega) | omega)
        · exact Lib.hid (HBK.out.trans (((Frq.refl (· = w.heap.size) wr).setCell (p := ⟨w.heap.size, k, none⟩) (.inl rfl) _).below HBK.out.size (fun x e => by omega)))
      case measure => simp [intOf]
end Go.Proofs.Ytabahkeologbmaa.Jn
