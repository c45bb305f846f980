/- Contracts of the document's own answers: what a kind has, amounts, coupons. -/
import Derived.Test.YtjkdhdficaacaaaGreatDoorMgShelf
import Derived.Test.YtjkdhdficaacaaaGreatDoorMgAr
import Derived.Laws.Concat
import Derived.Laws.IdiomStrings
import Derived.Laws.DeepStrings4
import Derived.Test.YtjkdhdficaacaaaGreatDoorMgMb
/- Which messages may be told, field by field (no walk). -/
namespace Go.Proofs.YtjkdhdficaacaaaGreatDoor
open Go.RowKit Go.Edi Go.Wrap

def cpnOk (m : Ms) : Prop := m.lc ≤ 7 ∧ -1125899906842624 ≤ m.val ∧ m.val ≤ 1125899906842624 ∧ 1 ≤ m.st ∧ m.st ≤ 7
def cpnNo (m : Ms) : Prop := m.lc = 0 ∧ m.lf = 0 ∧ m.lw = 0 ∧ m.val = 0 ∧ m.st = 0 ∧ m.non = 0
def amtOk (m : Ms) : Prop := -1125899906842624 ≤ m.am ∧ m.am ≤ 1125899906842624
def codOk (m : Ms) : Prop := 0 ≤ m.code ∧ m.code ≤ 999
theorem reb_one (m a : Ms) (f : Fd) : rebL m a [f] = takeL a f (tellL m f) := by rw [reb_step]; cases takeL a f (tellL m f) <;> rfl
theorem take_c {m : Ms} (hm : m.Ty) (a : Ms) : takeL a .cpn (tellL m .cpn) = some { a with lc := m.lc, lf := m.lf, lw := m.lw, val := m.val, st := m.st, non := m.non } ∧ cpnOk m ∨ takeL a .cpn (tellL m .cpn) = none ∧ ¬ cpnOk m := by
  have h1 := hm.lf; have h2 := hm.lw; have h3 := hm.non
  show takeL a .cpn [(m.lc : Int), m.lf, m.lw, m.val, m.st, m.non] = _ ∧ _ ∨ takeL a .cpn [(m.lc : Int), m.lf, m.lw, m.val, m.st, m.non] = _ ∧ _
  rw [take_cpn]
  by_cases h : cpnB m.lc m.lf m.lw m.val m.st m.non = true
  · left
    rw [if_pos h]
    rw [cpnB_iff] at h
    exact ⟨by simp only [Int.toNat_natCast], by unfold cpnOk; omega⟩
  · right
    rw [if_neg h]
    rw [cpnB_iff] at h
    exact ⟨rfl, by unfold cpnOk; omega⟩
theorem take_a {m : Ms} (a : Ms) : takeL a .amt (tellL m .amt) = some { a with am := m.am } ∧ amtOk m ∨ takeL a .amt (tellL m .amt) = none ∧ ¬ amtOk m := by
  show takeL a .amt [m.am] = _ ∧ _ ∨ takeL a .amt [m.am] = _ ∧ _
  rw [take_amt]
  by_cases h : inB m.am (-1125899906842624) 1125899906842624 = true
  · left; rw [if_pos h]; rw [inB_iff] at h; exact ⟨rfl, h⟩
  · right; rw [if_neg h]; rw [inB_iff] at h; exact ⟨rfl, h⟩
theorem take_d {m : Ms} (a : Ms) : takeL a .cod (tellL m .cod) = some { a with code := m.code } ∧ codOk m ∨ takeL a .cod (tellL m .cod) = none ∧ ¬ codOk m := by
  show takeL a .cod [m.code] = _ ∧ _ ∨ takeL a .cod [m.code] = _ ∧ _
  rw [take_cod]
  by_cases h : inB m.code 0 999 = true
  · left; rw [if_pos h]; rw [inB_iff] at h; exact ⟨rfl, h⟩
  · right; rw [if_neg h]; rw [inB_iff] at h; exact ⟨rfl, h⟩
def mayD (m : Ms) (fds : List Fd) : Prop := m.at_ < 4 ∧ (Fd.cpn ∈ fds → cpnOk m) ∧ (Fd.cpn ∉ fds → cpnNo m) ∧ (Fd.amt ∈ fds → amtOk m) ∧ (Fd.amt ∉ fds → m.am = 0) ∧ (Fd.cod ∈ fds → codOk m) ∧ (Fd.cod ∉ fds → m.code = 0)
theorem may_rebP {m : Ms} {fds : List Fd} : mayL m fds = true ↔ m.at_ < 4 ∧ rebL m (bareL m) fds = some m := by
  unfold mayL
  simp only [Bool.and_eq_true, decide_eq_true_eq]
  constructor
  · rintro ⟨h1, h2⟩
    refine ⟨h1, ?_⟩
    split at h2
    · rename_i a ha; rw [ha, of_decide_eq_true h2]
    · cases h2
  · rintro ⟨h1, h2⟩
    exact ⟨h1, by rw [h2]; simp⟩
theorem may_iff {m : Ms} (hm : m.Ty) {fds : List Fd} (hf : fdsL m.kind = some fds) : mayL m fds = true ↔ mayD m fds := by
  rw [may_rebP]
  unfold mayD cpnNo
  have key : rebL m (bareL m) fds = some m ↔ (Fd.cpn ∈ fds → cpnOk m) ∧ (Fd.cpn ∉ fds → m.lc = 0 ∧ m.lf = 0 ∧ m.lw = 0 ∧ m.val = 0 ∧ m.st = 0 ∧ m.non = 0) ∧ (Fd.amt ∈ fds → amtOk m) ∧ (Fd.amt ∉ fds → m.am = 0) ∧ (Fd.cod ∈ fds → codOk m) ∧ (Fd.cod ∉ fds → m.code = 0) := by
    rcases fds_cases hf with rfl | rfl | rfl | rfl | rfl
    · rw [reb_nil]
      obtain ⟨k, car, ser, at_, lc, lf, lw, val, st, non, am, code⟩ := m
      simp only [bareL, Option.some.injEq, Ms.mk.injEq, List.not_mem_nil, false_implies, not_false_eq_true, true_implies, true_and, eq_comm (a := (0 : Nat)), eq_comm (a := (0 : Int))]
      constructor <;> intro h <;> simp_all
    · rw [reb_one]
      rcases take_c hm (bareL m) with ⟨h1, h2⟩ | ⟨h1, h2⟩
      · rw [h1]
        obtain ⟨k, car, ser, at_, lc, lf, lw, val, st, non, am, code⟩ := m
        simp only [bareL, Option.some.injEq, Ms.mk.injEq, true_and]
        simp [h2, eq_comm]
      · rw [h1]; simp [h2]
    · rw [reb_one]
      rcases take_d (m := m) (bareL m) with ⟨h1, h2⟩ | ⟨h1, h2⟩
      · rw [h1]
        obtain ⟨k, car, ser, at_, lc, lf, lw, val, st, non, am, code⟩ := m
        simp only [bareL, Option.some.injEq, Ms.mk.injEq, true_and, and_true]
        simp [h2, eq_comm, and_assoc]
      · rw [h1]; simp [h2]
    · rw [reb_one]
      rcases take_a (m := m) (bareL m) with ⟨h1, h2⟩ | ⟨h1, h2⟩
      · rw [h1]
        obtain ⟨k, car, ser, at_, lc, lf, lw, val, st, non, am, code⟩ := m
        simp only [bareL, Option.some.injEq, Ms.mk.injEq, true_and]
        simp [h2, eq_comm, and_assoc]
      · rw [h1]; simp [h2]
    · rw [reb_step]
      rcases take_a (m := m) (bareL m) with ⟨h1, h2⟩ | ⟨h1, h2⟩
      · rw [h1]
        simp only
        rw [reb_one]
        rcases take_d (m := m) { bareL m with am := m.am } with ⟨h3, h4⟩ | ⟨h3, h4⟩
        · rw [h3]
          obtain ⟨k, car, ser, at_, lc, lf, lw, val, st, non, am, code⟩ := m
          simp only [bareL, Option.some.injEq, Ms.mk.injEq, true_and, and_true]
          simp [h2, h4, eq_comm]
        · rw [h3]; simp [h4]
      · rw [h1]; simp [h2]
  rw [key]
end Go.Proofs.YtjkdhdficaacaaaGreatDoor
/- Contracts of the document's own answers: May, padded, left. -/
namespace Go.Proofs.YtjkdhdficaacaaaGreatDoor.Nu
open Go.RowKit Go.Shelf Go.Number

def dgc (d : Nat) : UInt8 := UInt8.ofNat (48 + d)
theorem dx0 : ({ data := #[48, 49, 50, 51, 52, 53, 54, 55, 56, 57] } : ByteArray).extract 0 (0 + 1) = tx [dgc 0] := by kernel_rfl
theorem dx1 : ({ data := #[48, 49, 50, 51, 52, 53, 54, 55, 56, 57] } : ByteArray).extract 1 (1 + 1) = tx [dgc 1] := by kernel_rfl
theorem dx2 : ({ data := #[48, 49, 50, 51, 52, 53, 54, 55, 56, 57] } : ByteArray).extract 2 (2 + 1) = tx [dgc 2] := by kernel_rfl
theorem dx3 : ({ data := #[48, 49, 50, 51, 52, 53, 54, 55, 56, 57] } : ByteArray).extract 3 (3 + 1) = tx [dgc 3] := by kernel_rfl
theorem dx4 : ({ data := #[48, 49, 50, 51, 52, 53, 54, 55, 56, 57] } : ByteArray).extract 4 (4 + 1) = tx [dgc 4] := by kernel_rfl
theorem dx5 : ({ data := #[48, 49, 50, 51, 52, 53, 54, 55, 56, 57] } : ByteArray).extract 5 (5 + 1) = tx [dgc 5] := by kernel_rfl
theorem dx6 : ({ data := #[48, 49, 50, 51, 52, 53, 54, 55, 56, 57] } : ByteArray).extract 6 (6 + 1) = tx [dgc 6] := by kernel_rfl
theorem dx7 : ({ data := #[48, 49, 50, 51, 52, 53, 54, 55, 56, 57] } : ByteArray).extract 7 (7 + 1) = tx [dgc 7] := by kernel_rfl
theorem dx8 : ({ data := #[48, 49, 50, 51, 52, 53, 54, 55, 56, 57] } : ByteArray).extract 8 (8 + 1) = tx [dgc 8] := by kernel_rfl
theorem dx9 : ({ data := #[48, 49, 50, 51, 52, 53, 54, 55, 56, 57] } : ByteArray).extract 9 (9 + 1) = tx [dgc 9] := by kernel_rfl
theorem digit_ex (d : Nat) (hd : d < 10) : ({ data := #[48, 49, 50, 51, 52, 53, 54, 55, 56, 57] } : ByteArray).extract d (d + 1) = tx [dgc d] := by
  match d, hd with
  | 0, _ => exact dx0
  | 1, _ => exact dx1
  | 2, _ => exact dx2
  | 3, _ => exact dx3
  | 4, _ => exact dx4
  | 5, _ => exact dx5
  | 6, _ => exact dx6
  | 7, _ => exact dx7
  | 8, _ => exact dx8
  | 9, _ => exact dx9
theorem digit_slice (d : Nat) (hd : d < 10) (w : World) : (Instr.slice 9 (.string { data := #[48, 49, 50, 51, 52, 53, 54, 55, 56, 57] }) (some (.int .u64 (d : Int))) (some (.int .u64 ((d : Int) + 1))) none).run Tryz.prog w = .ok (str [dgc d]) w := by
  have hsz : ({ data := #[48, 49, 50, 51, 52, 53, 54, 55, 56, 57] } : ByteArray).size = 10 := rfl
  rw [run_slice_string_if (P := Tryz.prog) w 9 _ .u64 .u64 (d : Int) ((d : Int) + 1) Tryz.underlying9, if_pos (by rw [hsz]; omega)]
  rw [if_pos (by omega)]
  rw [show ((d : Int)).toNat = d from rfl, show ((d : Int) + 1).toNat = d + 1 by omega, digit_ex d hd]
theorem last_cons (k n : Nat) : last (k + 1) n = dgc (n / 10 ^ k % 10) :: last k n := by
  induction k generalizing n with
  | zero => simp only [last, Nat.pow_zero, Nat.div_one]; rfl
  | succ k ih =>
    rw [last, ih (n / 10), last, Nat.div_div_eq_div_mul, Nat.pow_succ, Nat.mul_comm (10 ^ k) 10]
    rfl
set_option maxRecDepth 100000 in
theorem rmay_any (c s : Nat) (w : World) : Calls Tryz.prog 55 #[.agg (tkV c s)] w fun e w' => e = .returned (.bool (decide (may c s))) ∧ Below w.heap.size w w' := by
  have e : decide (may c s) = ((decide ((c : Int) < 8) && decide ((0 : Int) < (s : Int))) && decide ((s : Int) ≤ 9999999999)) := by
    rw [Bool.eq_iff_iff, decide_eq_true_iff]; unfold may; simp only [Bool.and_eq_true, decide_eq_true_eq]; omega
  have HB := Lib.hid (show ∀ o, Below w.heap.size w (w.alloc o) from fun o => (Below.refl _ _).alloc (Nat.le_refl _) _)
  rw [e]
  clear e
  go_enter Tryz.func55, Tryz.ntmps55
  go_wp2
  all_goals go_ret
  all_goals refine ⟨ret_bool ?_, HB.out _⟩
  all_goals first | rfl | (simp [*]; done) | (simp [*]; omega) | (simp at *; omega)
set_option maxRecDepth 100000 in
set_option maxHeartbeats 1600000 in
theorem rpadded_any (n k : Nat) (hk : k ≤ 10) (hn : n < 18446744073709551616) (w : World) : Calls Tryz.prog 68 #[.int .u64 (n : Int), .int .i64 (k : Int)] w fun e w' => e = .returned (str (last k n)) ∧ w = w' := by
  have hki : (k : Int) ≤ 10 := by omega
  have hk0 : (0 : Int) ≤ (k : Int) := Int.natCast_nonneg _
  go_enter Tryz.func68, Tryz.ntmps68
  go_wp2
  go_loopw [0, 5, 6] (fun v s i wr => ∃ j : Nat, j ≤ k ∧ v = .int .u64 ((n / 10 ^ j : Nat) : Int) ∧ s = str (last j n) ∧ i = .int .i64 (j : Int) ∧ w = wr) (fun _ _ i _ => k - (intOf i).toNat)
  case atStart => exact ⟨0, Nat.zero_le _, by simp, rfl, rfl, rfl⟩
  case round =>
    obtain ⟨j, hj, rfl, rfl, rfl, rfl⟩ := hrel
    by_cases hlt : (j : Int) < (k : Int)
    · obtain ⟨q, hq⟩ : ∃ q, q = n / 10 ^ j := ⟨_, rfl⟩
      obtain ⟨d, hd⟩ : ∃ d, d = q % 10 := ⟨_, rfl⟩
      have HL := Lib.hid (show last (j + 1) n = [dgc d] ++ last j n by rw [last_cons, ← hq, ← hd]; rfl)
      have HQ := Lib.hid (show n / 10 ^ (j + 1) = q / 10 by rw [Nat.pow_succ, ← Nat.div_div_eq_div_mul, ← hq])
      rw [← hq]
      have hd2 : (q : Int) % 10 = (d : Int) := by omega
      have hd3 : (d : Int) < 10 := by omega
      have hd0 : (0 : Int) ≤ (d : Int) := Int.natCast_nonneg _
      have hq0 : (0 : Int) ≤ (q : Int) := Int.natCast_nonneg _
      have hsl := digit_slice d (by omega)
      have hap := tx_app [dgc d] (last j n)
      have hz1 : (tx [dgc d]).size = 1 := rfl
      have hz2 : (tx (last j n)).size = j := by rw [tx_size, last_len]
      have hj0 : (0 : Int) ≤ (j : Int) := Int.natCast_nonneg _
      have hq1 : (q : Int) ≤ 18446744073709551615 := by have : n / 10 ^ j ≤ n := Nat.div_le_self _ _; omega
      clear hq hd hn
      go_wp2
      go_roundw
      case rel => exact ⟨j + 1, by omega, by rw [HQ.out]; try go_num, by rw [HL.out]; rfl, by go_num, trivial⟩
      case measure => simp [intOf]; omega
    · obtain rfl : j = k := by omega
      go_wp2
      go_ret
      exact ⟨rfl, rfl⟩
theorem chk_step {t : Tx} {k : Nat} (h : k < t.length) : chk (t.take (k + 1)) = (10 * chk (t.take k) + (dv t[k]).1) % 7 := by
  unfold chk val
  rw [take_dv h, sumD_snoc]
  omega
set_option maxRecDepth 100000 in
set_option maxHeartbeats 1600000 in
theorem rleft_any (t : Tx) (ha : t.all dgt = true) (ht : t.length ≤ 1000) (w : World) : Calls Tryz.prog 69 #[str t] w fun e w' => e = .returned (.int .i64 (chk t : Int)) ∧ w = w' := by
  have hsz : (tx t).size = t.length := tx_size t
  have HA := Lib.hid (fun (k : Nat) (h : k < t.length) => List.all_eq_true.1 ha t[k] (List.getElem_mem h))
  have hti : (t.length : Int) ≤ 1000 := by omega
  clear ha ht
  go_enter Tryz.func69, Tryz.ntmps69
  go_wp2
  go_loopw [3, 4] (fun v i wr => ∃ k : Nat, k ≤ t.length ∧ v = .int .i64 (chk (t.take k) : Int) ∧ i = .int .i64 (k : Int) ∧ w = wr) (fun _ i _ => t.length - (intOf i).toNat)
  case atStart => exact ⟨0, Nat.zero_le _, rfl, rfl, rfl⟩
  case round =>
    obtain ⟨k, hk, rfl, rfl, rfl⟩ := hrel
    by_cases hlt : (k : Int) < (t.length : Int)
    · have hkl : k < t.length := by omega
      have hk2 : k < (tx t).size := by omega
      have hk0 : (0 : Int) ≤ (k : Int) := Int.natCast_nonneg _
      obtain ⟨h1, h2⟩ := (show (48 : Int) ≤ (((tx t)[k]'hk2).toNat : Int) ∧ (((tx t)[k]'hk2).toNat : Int) ≤ 57 from dgt_le (HA.out k hkl))
      have HS := Lib.hid (show ((chk (t.take (k + 1)) : Nat) : Int) = (10 * (chk (t.take k) : Int) + ((((tx t)[k]'hk2).toNat : Int) - 48)) % 7 by
        have e := dv_int (HA.out k hkl)
        rw [chk_step hkl]
        have e2 : (((tx t)[k]'hk2).toNat : Int) = (t[k].toNat : Int) := rfl
        rw [e2, ← e]; omega)
      have hc := chk_lt (t.take k)
      have hc0 : (0 : Int) ≤ (chk (t.take k) : Int) := Int.natCast_nonneg _
      have hc1 : (chk (t.take k) : Int) ≤ 6 := by omega
      clear hc
      go_wp2
      go_roundw
      case rel => exact ⟨k + 1, by omega, by rw [HS.out]; try go_num, by go_num, trivial⟩
      case measure => simp [intOf]; omega
    · obtain rfl : k = t.length := by omega
      rw [List.take_length]
      go_wp2
      go_ret
      exact ⟨rfl, rfl⟩
end Go.Proofs.YtjkdhdficaacaaaGreatDoor.Nu
namespace Go.Proofs.YtjkdhdficaacaaaGreatDoor
open Go.RowKit Go.Edi Go.Wrap Go.Lib

def monB (x : Int) : Bool := decide (-1125899906842624 ≤ x) && decide (x ≤ 1125899906842624)
set_option maxHeartbeats 1600000 in
theorem money_any (x : Int) (w : World) : Calls Tryz.prog 70 #[.int .i64 x] w fun e w' => e = .returned (.bool (monB x)) ∧ w' = w := by
  unfold monB
  by_cases h1 : -1125899906842624 ≤ x
  · by_cases h2 : x ≤ 1125899906842624
    · rw [decide_eq_true h1, decide_eq_true h2]
      go_enter Tryz.func70, Tryz.ntmps70
      go_wp2
      go_ret
      exact ⟨rfl, rfl⟩
    · rw [decide_eq_true h1, decide_eq_false h2]
      go_enter Tryz.func70, Tryz.ntmps70
      go_wp2
      go_ret
      exact ⟨rfl, rfl⟩
  · rw [decide_eq_false h1]
    go_enter Tryz.func70, Tryz.ntmps70
    go_wp2
    go_ret
    exact ⟨rfl, rfl⟩
theorem results_tmp4 {P : Program} {fn : Func} {t u v x : Tmp} (h : fn.results = #[.tmp t, .tmp u, .tmp v, .tmp x]) (tmps : Array Value) (w : World) : (results fn tmps).run P w = .ok (.tuple #[tmps.getD t undef, tmps.getD u undef, tmps.getD v undef, tmps.getD x undef]) w := by
  simp [results, h]
def hC (k : Nat) : Bool := decide (k = 2) || decide (k = 5)
def hA (k : Nat) : Bool := decide (k = 6) || decide (k = 7) || decide (k = 8)
def hD (k : Nat) : Bool := decide (k = 3) || decide (k = 8)
def hI (k : Nat) : Bool := decide (1 ≤ k) && decide (k ≤ 8)
set_option maxHeartbeats 3200000 in
theorem has_any (k : Nat) (w : World) : Calls Tryz.prog 27 #[.int .u8 (k : Int)] w fun e w' => e = .returned (.tuple #[.bool (hC k), .bool (hA k), .bool (hD k), .bool (hI k)]) ∧ w' = w := by
  by_cases hk : 1 ≤ k ∧ k ≤ 8
  · obtain ⟨h1, h2⟩ := hk
    rcases (by omega : k = 1 ∨ k = 2 ∨ k = 3 ∨ k = 4 ∨ k = 5 ∨ k = 6 ∨ k = 7 ∨ k = 8) with rfl | rfl | rfl | rfl | rfl | rfl | rfl | rfl
    all_goals clear h1 h2
    all_goals go_enter Tryz.func27, Tryz.ntmps27
    all_goals go_wp2
    all_goals refine bodyPost_ret (results_tmp4 rfl _ _) rfl ?_
    all_goals exact ⟨rfl, rfl⟩
  · have e1 : hC k = false := by simp [hC]; omega
    have e2 : hA k = false := by simp [hA]; omega
    have e3 : hD k = false := by simp [hD]; omega
    have e4 : hI k = false := by simp [hI]; omega
    rw [e1, e2, e3, e4]
    have n1 : ¬ (k : Int) = 1 := by omega
    have n2 : ¬ (k : Int) = 2 := by omega
    have n3 : ¬ (k : Int) = 3 := by omega
    have n4 : ¬ (k : Int) = 4 := by omega
    have n5 : ¬ (k : Int) = 5 := by omega
    have n6 : ¬ (k : Int) = 6 := by omega
    have n7 : ¬ (k : Int) = 7 := by omega
    have n8 : ¬ (k : Int) = 8 := by omega
    clear e1 e2 e3 e4 hk
    go_enter Tryz.func27, Tryz.ntmps27
    go_wp2
    refine bodyPost_ret (results_tmp4 rfl _ _) rfl ?_
    exact ⟨rfl, rfl⟩
abbrev cpC (m : Ms) : Array Value := #[.int .u8 (m.lc : Int), .int .u16 (m.lf : Int), .int .u32 (m.lw : Int), .int .i64 m.val, .int .u8 (m.st : Int), .int .u32 (m.non : Int)]
def cpB (m : Ms) : Bool := decide (m.lc < 8) && (monB m.val && (decide (1 ≤ m.st) && decide (m.st ≤ 7)))
set_option maxRecDepth 100000 in
set_option maxHeartbeats 3200000 in
theorem coupon_any (m : Ms) (w : World) : Calls Tryz.prog 71 #[.agg (cpC m)] w fun e w' => e = .returned (.bool (cpB m)) ∧ Below w.heap.size w w' := by
  have HB := Lib.hid (show ∀ o, Below w.heap.size w (w.alloc o) from fun o => (Below.refl _ _).alloc (Nat.le_refl _) _)
  have HM := Lib.hid (fun W => money_any m.val W)
  unfold cpB
  by_cases h1 : m.lc < 8
  · have g1 : (m.lc : Int) < 8 := by omega
    rw [decide_eq_true h1]
    cases hm : monB m.val with
    | false =>
      rw [hm] at HM
      clear h1
      go_enter Tryz.func71, Tryz.ntmps71
      go_wp2_with (go_at_call 70; refine (HM.out _).mono ?_; rintro e w' ⟨rfl, rfl⟩)
      go_ret
      exact ⟨rfl, HB.out _⟩
    | true =>
      rw [hm] at HM
      by_cases h2 : 1 ≤ m.st
      · have g2 : (1 : Int) ≤ (m.st : Int) := by omega
        rw [decide_eq_true h2]
        by_cases h3 : m.st ≤ 7
        · have g3 : (m.st : Int) ≤ 7 := by omega
          rw [decide_eq_true h3]
          clear h1 h2 h3
          go_enter Tryz.func71, Tryz.ntmps71
          go_wp2_with (go_at_call 70; refine (HM.out _).mono ?_; rintro e w' ⟨rfl, rfl⟩)
          go_ret
          exact ⟨rfl, HB.out _⟩
        · have g3 : ¬ (m.st : Int) ≤ 7 := by omega
          rw [decide_eq_false h3]
          clear h1 h2 h3
          go_enter Tryz.func71, Tryz.ntmps71
          go_wp2_with (go_at_call 70; refine (HM.out _).mono ?_; rintro e w' ⟨rfl, rfl⟩)
          go_ret
          exact ⟨ret_bool (show decide ((m.st : Int) ≤ 7) = _ from decide_eq_false (by omega)), HB.out _⟩
      · have g2 : ¬ (1 : Int) ≤ (m.st : Int) := by omega
        rw [decide_eq_false h2]
        clear h1 h2
        go_enter Tryz.func71, Tryz.ntmps71
        go_wp2_with (go_at_call 70; refine (HM.out _).mono ?_; rintro e w' ⟨rfl, rfl⟩)
        go_ret
        exact ⟨rfl, HB.out _⟩
  · have g1 : ¬ (m.lc : Int) < 8 := by omega
    rw [decide_eq_false h1]
    clear h1
    go_enter Tryz.func71, Tryz.ntmps71
    go_wp2
    go_ret
    exact ⟨rfl, HB.out _⟩
theorem neq_cp (m : Ms) (w : World) : (binOp .neq 33 (.agg (cpC m)) (.agg #[.int .u8 0, .int .u16 0, .int .u32 0, .int .i64 0, .int .u8 0, .int .u32 0])).run Tryz.prog w = .ok (.bool (!decide (m.lc = 0 ∧ m.lf = 0 ∧ m.lw = 0 ∧ m.val = 0 ∧ m.st = 0 ∧ m.non = 0))) w := by
  have hS : Tryz.prog.underlying 33 = some (.struct (Tryz.prog.fieldsOf 33)) := by kernel_rfl
  have hp : Tryz.prog.stoodInHeld 33 = false := by kernel_rfl
  rw [run_neq_struct, show (10000 : Nat) = 9999 + 1 from rfl, run_equalIn_agg w 9999 33 _ _ hS hp]
  simp only [Program.fieldsOf, Tryz.underlying33, cpC]
  by_cases e : m.lc = 0 ∧ m.lf = 0 ∧ m.lw = 0 ∧ m.val = 0 ∧ m.st = 0 ∧ m.non = 0
  · rw [decide_eq_true e]
    obtain ⟨h1, h2, h3, h4, h5, h6⟩ := e
    rw [h1, h2, h3, h4, h5, h6]
    go_simp
    try simp
  · have hd : decide (m.lc = 0 ∧ m.lf = 0 ∧ m.lw = 0 ∧ m.val = 0 ∧ m.st = 0 ∧ m.non = 0) = false := decide_eq_false e
    rw [hd]
    clear hd hS hp
    go_simp
    intros
    try intro _
    try exfalso
    apply e
    refine ⟨?_, ?_, ?_, ?_, ?_, ?_⟩ <;> first | assumption | omega
end Go.Proofs.YtjkdhdficaacaaaGreatDoor
