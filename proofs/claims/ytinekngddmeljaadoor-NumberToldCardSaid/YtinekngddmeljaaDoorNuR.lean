/- Contracts of the document's own answers: May, padded, left. -/
import Derived.Test.YtinekngddmeljaaDoorNuQ
import Derived.Laws.Concat
import Derived.Laws.IdiomStrings
import Derived.Laws.DeepStrings4
namespace Go.Proofs.YtinekngddmeljaaDoor
open Go.RowKit Go.Shelf Go.Number

def dgc (d : Nat) : UInt8 := UInt8.ofNat (48 + d)
theorem dx0 : ({ data := #[48, 49, 50, 51, 52, 53, 54, 55, 56, 57] } : ByteArray).extract 0 (0 + 1) = tx [dgc 0] := by kernel_rfl
theorem dx1 : ({ data := #[48, 49, 50, 51, 52, 53, 54, 55, 56, 57] } : ByteArray).extract 1 (1 + 1) = tx [dgc 1] := by kernel_rfl
theorem dx2 : ({ data := #[48, 49, 50, 51, 52, 53, 54, 55, 56, 57] } : ByteArray).extract 2 (2 + 1) = tx [dgc 2] := by kernel_rfl
theorem dx3 : ({ data := #[48, 49, 50, 51, 52, 53, 54, 55, 56, 57] } : ByteArray).extract 3 (3 + 1) = tx [dgc 3] := by kernel_rfl
theorem dx4 : ({ data := #[48, 49, 50, 51, 52, 53, 54, 55, 56, 57] } : ByteArray).extract 4 (4 + 1) = tx [dgc 4] := by kernel_rfl
theorem dx5 : ({ data := #[48, 49, 50, 51, 52, 53, 54, 55, 56, 57] } : ByteArray).extract 5 (5 + 1) = tx [dgc 5] := by kernel_rfl
theorem dx6 : ({ data := #[48, 49, 50, 51, 52, 53, 54, 55, 56, 57] } : ByteArray).extract 6 (6 + 1) = tx [dgc 6] := by kernel_rfl
theorem dx7 : ({ data := #[48, 49, 50, 51, 52, 53, 54, 55, 56, 57] } : ByteArray).extract 7 (7 + 1) = tx [dgc 7] := by kernel_rfl
theorem dx8 : ({ data := #[48, 49, 50, 51, 52, 53, 54, 55, 56, 57] } : ByteArray).extract 8 (8 + 1) = tx [dgc 8] := by kernel_rfl
theorem dx9 : ({ data := #[48, 49, 50, 51, 52, 53, 54, 55, 56, 57] } : ByteArray).extract 9 (9 + 1) = tx [dgc 9] := by kernel_rfl
theorem digit_ex (d : Nat) (hd : d < 10) : ({ data := #[48, 49, 50, 51, 52, 53, 54, 55, 56, 57] } : ByteArray).extract d (d + 1) = tx [dgc d] := by
  match d, hd with
  | 0, _ => exact dx0
  | 1, _ => exact dx1
  | 2, _ => exact dx2
  | 3, _ => exact dx3
  | 4, _ => exact dx4
  | 5, _ => exact dx5
  | 6, _ => exact dx6
  | 7, _ => exact dx7
  | 8, _ => exact dx8
  | 9, _ => exact dx9
theorem digit_slice (d : Nat) (hd : d < 10) (w : World) : (Instr.slice 9 (.string { data := #[48, 49, 50, 51, 52, 53, 54, 55, 56, 57] }) (some (.int .u64 (d : Int))) (some (.int .u64 ((d : Int) + 1))) none).run Tryd.prog w = .ok (str [dgc d]) w := by
  have hsz : ({ data := #[48, 49, 50, 51, 52, 53, 54, 55, 56, 57] } : ByteArray).size = 10 := rfl
  rw [run_slice_string_if (P := Tryd.prog) w 9 _ .u64 .u64 (d : Int) ((d : Int) + 1) Tryd.underlying9, if_pos (by rw [hsz]; omega)]
  rw [if_pos (by omega)]
  rw [show ((d : Int)).toNat = d from rfl, show ((d : Int) + 1).toNat = d + 1 by omega, digit_ex d hd]
theorem last_cons (k n : Nat) : last (k + 1) n = dgc (n / 10 ^ k % 10) :: last k n := by
  induction k generalizing n with
  | zero => simp only [last, Nat.pow_zero, Nat.div_one]; rfl
  | succ k ih =>
    rw [last, ih (n / 10), last, Nat.div_div_eq_div_mul, Nat.pow_succ, Nat.mul_comm (10 ^ k) 10]
    rfl
set_option maxRecDepth 100000 in
theorem rmay_any (c s : Nat) (w : World) : Calls Tryd.prog 14 #[.agg (tkV c s)] w fun e w' => e = .returned (.bool (decide (may c s))) ∧ Below w.heap.size w w' := by
  have e : decide (may c s) = ((decide ((c : Int) < 8) && decide ((0 : Int) < (s : Int))) && decide ((s : Int) ≤ 9999999999)) := by
    rw [Bool.eq_iff_iff, decide_eq_true_iff]; unfold may; simp only [Bool.and_eq_true, decide_eq_true_eq]; omega
  have HB := Lib.hid (show ∀ o, Below w.heap.size w (w.alloc o) from fun o => (Below.refl _ _).alloc (Nat.le_refl _) _)
  rw [e]
  clear e
  go_enter Tryd.func14, Tryd.ntmps14
  go_wp2
  all_goals go_ret
  all_goals refine ⟨ret_bool ?_, HB.out _⟩
  all_goals first | rfl | (simp [*]; done) | (simp [*]; omega) | (simp at *; omega)
set_option maxRecDepth 100000 in
set_option maxHeartbeats 1600000 in
theorem rpadded_any (n k : Nat) (hk : k ≤ 10) (hn : n < 18446744073709551616) (w : World) : Calls Tryd.prog 18 #[.int .u64 (n : Int), .int .i64 (k : Int)] w fun e w' => e = .returned (str (last k n)) ∧ w = w' := by
  have hki : (k : Int) ≤ 10 := by omega
  have hk0 : (0 : Int) ≤ (k : Int) := Int.natCast_nonneg _
  go_enter Tryd.func18, Tryd.ntmps18
  go_wp2
  go_loopw [0, 5, 6] (fun v s i wr => ∃ j : Nat, j ≤ k ∧ v = .int .u64 ((n / 10 ^ j : Nat) : Int) ∧ s = str (last j n) ∧ i = .int .i64 (j : Int) ∧ w = wr) (fun _ _ i _ => k - (intOf i).toNat)
  case atStart => exact ⟨0, Nat.zero_le _, by simp, rfl, rfl, rfl⟩
  case round =>
    obtain ⟨j, hj, rfl, rfl, rfl, rfl⟩ := hrel
    by_cases hlt : (j : Int) < (k : Int)
    · obtain ⟨q, hq⟩ : ∃ q, q = n / 10 ^ j := ⟨_, rfl⟩
      obtain ⟨d, hd⟩ : ∃ d, d = q % 10 := ⟨_, rfl⟩
      have HL := Lib.hid (show last (j + 1) n = [dgc d] ++ last j n by rw [last_cons, ← hq, ← hd]; rfl)
      have HQ := Lib.hid (show n / 10 ^ (j + 1) = q / 10 by rw [Nat.pow_succ, ← Nat.div_div_eq_div_mul, ← hq])
      rw [← hq]
      have hd2 : (q : Int) % 10 = (d : Int) := by omega
      have hd3 : (d : Int) < 10 := by omega
      have hd0 : (0 : Int) ≤ (d : Int) := Int.natCast_nonneg _
      have hq0 : (0 : Int) ≤ (q : Int) := Int.natCast_nonneg _
      have hsl := digit_slice d (by omega)
      have hap := tx_app [dgc d] (last j n)
      have hz1 : (tx [dgc d]).size = 1 := rfl
      have hz2 : (tx (last j n)).size = j := by rw [tx_size, last_len]
      have hj0 : (0 : Int) ≤ (j : Int) := Int.natCast_nonneg _
      have hq1 : (q : Int) ≤ 18446744073709551615 := by have : n / 10 ^ j ≤ n := Nat.div_le_self _ _; omega
      clear hq hd hn
      go_wp2
      go_roundw
      case rel => exact ⟨j + 1, by omega, by rw [HQ.out]; try go_num, by rw [HL.out]; rfl, by go_num, trivial⟩
      case measure => simp [intOf]; omega
    · obtain rfl : j = k := by omega
      go_wp2
      go_ret
      exact ⟨rfl, rfl⟩
theorem chk_step {t : Tx} {k : Nat} (h : k < t.length) : chk (t.take (k + 1)) = (10 * chk (t.take k) + (dv t[k]).1) % 7 := by
  unfold chk val
  rw [take_dv h, sumD_snoc]
  omega
set_option maxRecDepth 100000 in
set_option maxHeartbeats 1600000 in
theorem rleft_any (t : Tx) (ha : t.all dgt = true) (ht : t.length ≤ 1000) (w : World) : Calls Tryd.prog 19 #[str t] w fun e w' => e = .returned (.int .i64 (chk t : Int)) ∧ w = w' := by
  have hsz : (tx t).size = t.length := tx_size t
  have HA := Lib.hid (fun (k : Nat) (h : k < t.length) => List.all_eq_true.1 ha t[k] (List.getElem_mem h))
  have hti : (t.length : Int) ≤ 1000 := by omega
  clear ha ht
  go_enter Tryd.func19, Tryd.ntmps19
  go_wp2
  go_loopw [3, 4] (fun v i wr => ∃ k : Nat, k ≤ t.length ∧ v = .int .i64 (chk (t.take k) : Int) ∧ i = .int .i64 (k : Int) ∧ w = wr) (fun _ i _ => t.length - (intOf i).toNat)
  case atStart => exact ⟨0, Nat.zero_le _, rfl, rfl, rfl⟩
  case round =>
    obtain ⟨k, hk, rfl, rfl, rfl⟩ := hrel
    by_cases hlt : (k : Int) < (t.length : Int)
    · have hkl : k < t.length := by omega
      have hk2 : k < (tx t).size := by omega
      have hk0 : (0 : Int) ≤ (k : Int) := Int.natCast_nonneg _
      obtain ⟨h1, h2⟩ := (show (48 : Int) ≤ (((tx t)[k]'hk2).toNat : Int) ∧ (((tx t)[k]'hk2).toNat : Int) ≤ 57 from dgt_le (HA.out k hkl))
      have HS := Lib.hid (show ((chk (t.take (k + 1)) : Nat) : Int) = (10 * (chk (t.take k) : Int) + ((((tx t)[k]'hk2).toNat : Int) - 48)) % 7 by
        have e := dv_int (HA.out k hkl)
        rw [chk_step hkl]
        have e2 : (((tx t)[k]'hk2).toNat : Int) = (t[k].toNat : Int) := rfl
        rw [e2, ← e]; omega)
      have hc := chk_lt (t.take k)
      have hc0 : (0 : Int) ≤ (chk (t.take k) : Int) := Int.natCast_nonneg _
      have hc1 : (chk (t.take k) : Int) ≤ 6 := by omega
      clear hc
      go_wp2
      go_roundw
      case rel => exact ⟨k + 1, by omega, by rw [HS.out]; try go_num, by go_num, trivial⟩
      case measure => simp [intOf]; omega
    · obtain rfl : k = t.length := by omega
      rw [List.take_length]
      go_wp2
      go_ret
      exact ⟨rfl, rfl⟩
end Go.Proofs.YtinekngddmeljaaDoor
