/- Contracts of a number's text: whether a ticket may be, a padded number, the text. -/
import Derived.Test.YtjlifjgljejabaaGreatDoorNuV
import Derived.Test.YtjlifjgljejabaaGreatDoorNuShelf
import Derived.Outline
import Derived.KernelRfl
import Derived.Deep.QuietTactic
import Derived.BigQuiet
import Derived.BigRegion
import Derived.RegionTactic
import Derived.Deep.RegionLaw
import Derived.Lib.Hide
import Derived.WalkSmall
namespace Go.Proofs.YtjlifjgljejabaaGreatDoor.Nu
open Go.RowKit Go.Shelf Go.Number

theorem tx_app (a b : Tx) : tx a ++ tx b = tx (a ++ b) := by
  apply ByteArray.ext
  simp [ByteArray.data_append]
theorem rep48 (k : Nat) : Lib.repeatL [48] k = List.replicate k 48 := by
  have := Lib.repeatL_replicate 48 1 k
  simpa using this
theorem ret_bool {a b : Bool} (h : a = b) : Ending.returned (.bool a) = .returned (.bool b) := by rw [h]
theorem size_a (w : World) (o : Obj) : (w.alloc o).heap.size = w.heap.size + 1 := by simp
set_option maxRecDepth 100000 in
theorem mayBe_any (c s : Nat) (w : World) : Calls Tryz.prog 74 #[.int .u64 (c : Int), .int .u64 (s : Int)] w fun e w' => e = .returned (.bool (decide (may c s))) ∧ w = w' := by
  have e : decide (may c s) = ((decide ((c : Int) < 8) && decide ((1 : Int) ≤ (s : Int))) && decide ((s : Int) ≤ 9999999999)) := by
    rw [Bool.eq_iff_iff, decide_eq_true_iff]; unfold may; simp only [Bool.and_eq_true, decide_eq_true_eq]; omega
  rw [e]
  generalize (c : Int) = x
  generalize (s : Int) = y
  go_enter Tryz.func74, Tryz.ntmps74
  go_wp2
  all_goals go_ret
  all_goals exact ⟨ret_bool (by first | rfl | (simp [*]; done) | (simp [*]; omega) | (simp at *; omega)), rfl⟩
set_option maxRecDepth 100000 in
set_option maxHeartbeats 1600000 in
theorem padded_any (n k : Nat) (hk : 1 ≤ k ∧ k ≤ 10) (hn : n < 10 ^ k) (B : Nat) (w : World) (htab : Tab B w) (hB : B ≤ w.heap.size) :
    Calls Tryz.prog 75 #[.int .u64 (n : Int), .int .i64 (k : Int)] w fun e w' => e = .returned (str (last k n)) ∧ Below w.heap.size w w' := by
  obtain ⟨hp, hl⟩ := pad_last k n hn hk.1
  have hn64 : n < 18446744073709551616 := by
    have : 10 ^ k ≤ 10 ^ 10 := Nat.pow_le_pow_right (by decide) hk.2
    have e : (10 : Nat) ^ 10 = 10000000000 := by decide
    omega
  have HF := Lib.hid (format_any n hn64 B w htab hB)
  have HR := Lib.hid (fun W => Tryz.strings_Repeat (tx [48]) (k - (Lib.decDigits n).length) W (by omega) (by show 1 * _ ≤ _; omega))
  have hdn : ((k - (Lib.decDigits n).length : Nat) : Int) = (k : Int) - ((Lib.decDigits n).length : Int) := by omega
  have HDN := Lib.hid hdn
  have hsz : (tx (Lib.decDigits n)).size = (Lib.decDigits n).length := by simp [ByteArray.size]
  have hk0 : (0 : Int) ≤ (k : Int) := Int.natCast_nonneg _
  have hk1 : (k : Int) ≤ 10 := by omega
  have hl0 : (0 : Int) ≤ ((Lib.decDigits n).length : Int) := Int.natCast_nonneg _
  have hl1 : ((Lib.decDigits n).length : Int) ≤ (k : Int) := by omega
  have HP := Lib.hid hp
  clear htab hB hp hdn hl hn hn64 hk
  go_enter Tryz.func75, Tryz.ntmps75
  go_wp2_with (go_at_call 89; refine (HF.out).mono ?_; rintro e w1 ⟨rfl, hb1⟩; have HB1 := Lib.hid hb1; clear hb1)
  go_at_call 107
  rw [← HDN.out]
  refine (HR.out _).mono ?_
  rintro e w2 ⟨rfl, hb2⟩
  have HB2 := Lib.hid (HB1.out.trans (hb2.mono HB1.out.size))
  clear hb2
  have hrep : (⟨(Lib.repeatL (tx [48]).data.toList (k - (Lib.decDigits n).length)).toArray⟩ : ByteArray) = tx (List.replicate (k - (Lib.decDigits n).length) 48) := by
    show tx (Lib.repeatL [48] _) = _; rw [rep48]
  rw [hrep]
  have hfin : tx (List.replicate (k - (Lib.decDigits n).length) 48) ++ tx (Lib.decDigits n) = tx (last k n) := by rw [tx_app]; exact congrArg tx HP.out
  have hs2 : (tx (List.replicate (k - (Lib.decDigits n).length) 48)).size = k - (Lib.decDigits n).length := by simp [ByteArray.size]
  go_wp2
  go_ret
  exact ⟨rfl, HB2.out⟩
end Go.Proofs.YtjlifjgljejabaaGreatDoor.Nu
