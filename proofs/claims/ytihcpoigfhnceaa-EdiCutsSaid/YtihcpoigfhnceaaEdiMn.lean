/- Contract of the statements' many: so many times a text. -/
import Derived.Test.YtihcpoigfhnceaaEdiM
import Derived.Laws.Concat
import Derived.Laws.IdiomStrings
namespace Go.Proofs.Ytihcpoigfhnceaa
open Go.RowKit Go.Edi

def rep (s : Tx) : Nat → Tx
  | 0 => []
  | n + 1 => s ++ rep s n
theorem rep_len (s : Tx) (n : Nat) : (rep s n).length = n * s.length := by
  induction n with
  | zero => simp [rep]
  | succ n ih => simp [rep, ih, Nat.add_mul]; omega
theorem rep_add (s : Tx) (a b : Nat) : rep s (a + b) = rep s a ++ rep s b := by
  induction a with
  | zero => simp [rep]
  | succ a ih => rw [show a + 1 + b = (a + b) + 1 by omega]; simp [rep, ih]
theorem rep_two (s : Tx) (m : Nat) : rep (s ++ s) m = rep s (2 * m) := by
  induction m with
  | zero => rfl
  | succ m ih => rw [show 2 * (m + 1) = (2 * m + 1) + 1 by omega]; simp [rep, ih]
theorem rep_odd (s : Tx) (n : Nat) (h : n % 2 = 1) : s ++ rep (s ++ s) (n / 2) = rep s n := by
  rw [rep_two, show n = 2 * (n / 2) + 1 by omega]; simp [rep]
  congr 1; omega
theorem rep_even (s : Tx) (n : Nat) (h : ¬ n % 2 = 1) : rep (s ++ s) (n / 2) = rep s n := by
  rw [rep_two]; congr 1; omega
theorem tx_app (a b : Tx) : tx a ++ tx b = tx (a ++ b) := by
  simp [tx, ByteArray.ext_iff]
theorem rep_bounds {x out : Tx} {k L : Nat} (h : (out ++ rep x k).length ≤ L) (hk : 0 < k) : x.length ≤ L ∧ out.length ≤ L := by
  rw [List.length_append, rep_len] at h
  have : x.length ≤ k * x.length := Nat.le_mul_of_pos_left _ hk
  omega
set_option maxRecDepth 100000 in
set_option maxHeartbeats 1600000 in
theorem many_any (s : Tx) (n : Nat) (w : World) (hn : n ≤ 100000) (hl : n * s.length ≤ 1000000) :
    Calls Try.prog 17 #[str s, .int .i64 (n : Int)] w fun e w' => e = .returned (str (rep s n)) ∧ w = w' := by
  have HL := Lib.hid (show (rep s n).length ≤ 1000000 by rw [rep_len]; exact hl)
  clear hl
  go_enter Try.func17, Try.ntmps17
  go_wp2
  go_loopw [0, 1, 5] (fun u i o wr => ∃ (x out : Tx) (k : Nat), u = str x ∧ i = .int .i64 k ∧ o = str out ∧ k ≤ n ∧ Hid (out ++ rep x k = rep s n) ∧ Hid (w = wr)) (fun _ i _ _ => (intOf i).toNat)
  case atStart => exact ⟨s, [], n, rfl, rfl, rfl, Nat.le_refl _, Lib.hid rfl, Lib.hid rfl⟩
  case round =>
    obtain ⟨x, out, k, rfl, rfl, rfl, hk, HE, HB⟩ := hrel
    by_cases hk0 : (0 : Int) < (k : Int)
    · have hbd := rep_bounds (x := x) (out := out) (k := k) (L := 1000000) (by rw [HE.out]; exact HL.out) (by omega)
      have z1 : (tx x).size = x.length := by simp [tx, ByteArray.size]
      have z2 : (tx out).size = out.length := by simp [tx, ByteArray.size]
      have b1 : ¬ 9223372036854775807 < (tx x).size + (tx x).size := by omega
      have b2 : ¬ 9223372036854775807 < (tx out).size + (tx x).size := by omega
      have B1 := Lib.hid b1
      clear hbd
      by_cases h2 : k % 2 = 1
      · have h3 : ((k : Int) % 2 == 1) = true := by rw [beq_iff_eq]; omega
        have HO := Lib.hid (rep_odd x k h2)
        clear h2
        go_wp2
        go_roundw
        case rel => exact ⟨x ++ x, out ++ x, k / 2, by rw [tx_app], by simp, by rw [tx_app], by omega, Lib.hid (by rw [List.append_assoc, HO.out]; exact HE.out), HB⟩
        case measure => simp [intOf]; omega
      · have h3 : ((k : Int) % 2 == 1) = false := by rw [beq_eq_false_iff_ne]; omega
        have HO := Lib.hid (rep_even x k h2)
        clear h2
        go_wp2
        go_roundw
        case rel => exact ⟨x ++ x, out, k / 2, by rw [tx_app], by simp, rfl, by omega, Lib.hid (by rw [HO.out]; exact HE.out), HB⟩
        case measure => simp [intOf]; omega
    · obtain rfl : k = 0 := by omega
      have HF := Lib.hid (show out = rep s n by have := HE.out; simpa [rep] using this)
      go_wp2
      go_ret
      exact ⟨by rw [HF.out]; rfl, HB.out⟩
end Go.Proofs.Ytihcpoigfhnceaa
