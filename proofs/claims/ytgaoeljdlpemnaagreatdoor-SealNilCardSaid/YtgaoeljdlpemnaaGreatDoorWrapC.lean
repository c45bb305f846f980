/- The closures that read one number each: carrier's and whole's. -/
import Derived.Test.YtgaoeljdlpemnaaGreatDoorEdiPure2
import Derived.Test.YtgaoeljdlpemnaaGreatDoorEdiW5
import Derived.Deep.RegionLaw
/- The plain model of numbers in texts: digits read one by one, up to a greatest number. -/
namespace Go.Wrap
open Go.Edi
def dgt (c : UInt8) : Bool := decide (48 ≤ c) && decide (c ≤ 57)
/-- digits behind a number -/
def rdN (most : Nat) : Nat → Tx → Option Nat
  | n, [] => some n
  | n, c :: t => if dgt c then (if n * 10 + (c.toNat - 48) ≤ most then rdN most (n * 10 + (c.toNat - 48)) t else none) else none
def lead0 : Tx → Bool
  | [] => true
  | c :: t => c == 48 && decide (0 < t.length)
def numL (most : Nat) (t : Tx) : Option Nat := if lead0 t then none else rdN most 0 t
theorem rdN_snoc (most : Nat) (t : Tx) (c : UInt8) : ∀ n, rdN most n (t ++ [c]) = (rdN most n t).bind fun m => if dgt c then (if m * 10 + (c.toNat - 48) ≤ most then some (m * 10 + (c.toNat - 48)) else none) else none := by
  induction t with
  | nil => intro n; simp [rdN]
  | cons a t ih =>
    intro n
    simp only [List.cons_append, rdN]
    split
    · split
      · exact ih _
      · simp
    · simp
theorem rdN_none_app (most : Nat) (t u : Tx) : ∀ n, rdN most n t = none → rdN most n (t ++ u) = none := by
  induction t with
  | nil => intro n h; simp [rdN] at h
  | cons a t ih =>
    intro n h
    simp only [List.cons_append, rdN] at h ⊢
    split
    · rename_i h1; rw [if_pos h1] at h
      split
      · rename_i h2; rw [if_pos h2] at h; exact ih _ h
      · rfl
    · rfl
theorem rdN_le (most : Nat) (t : Tx) : ∀ n m, n ≤ most → rdN most n t = some m → m ≤ most := by
  induction t with
  | nil => intro n m h0 h; simp [rdN] at h; omega
  | cons a t ih =>
    intro n m h0 h
    simp only [rdN] at h
    split at h
    · split at h
      · exact ih _ _ (by assumption) h
      · cases h
    · cases h
end Go.Wrap
/- The generic number of wrap, at both its sizes: what a text's digits tell. -/
namespace Go.Proofs.YtgaoeljdlpemnaaGreatDoor
open Go.RowKit Go.Edi Go.Wrap

abbrev numV (k : IntKind) (r : Option Nat) : Value := .tuple #[.int k ((r.getD 0 : Nat) : Int), .bool r.isSome]
theorem take_len {t : Tx} {k : Nat} (h : k = t.length) : t.take k = t := by subst h; exact List.take_length
theorem take_snoc (t : Tx) (k : Nat) (h : k < t.length) : t.take (k + 1) = t.take k ++ [t[k]] := by rw [List.take_succ_eq_append_getElem h]
theorem run_step {most : Nat} {t : Tx} {k n : Nat} (h : k < t.length) (hn : rdN most 0 (t.take k) = some n) (x d : Int) (hx : x = (t[k].toNat : Int)) (h1 : 48 ≤ x) (h2 : x ≤ 57) (hd : d = x - 48) (hm : (n : Int) * 10 + d ≤ (most : Int)) :
    ∃ m : Nat, (m : Int) = n * 10 + d ∧ rdN most 0 (t.take (k + 1)) = some m := by
  refine ⟨n * 10 + (t[k].toNat - 48), by omega, ?_⟩
  have hdg : dgt t[k] = true := by simp only [dgt, Bool.and_eq_true, decide_eq_true_eq, UInt8.le_iff_toNat_le]; exact ⟨by show 48 ≤ _; omega, by show _ ≤ 57; omega⟩
  rw [take_snoc t k h, rdN_snoc, hn]
  simp only [Option.bind_some, hdg, if_true]
  rw [if_pos (by omega)]
theorem run_fail {most : Nat} {t : Tx} {k n : Nat} (h : k < t.length) (hn : rdN most 0 (t.take k) = some n) (x : Int) (hx : x = (t[k].toNat : Int)) (hf : x < 48 ∨ 57 < x ∨ (most : Int) < n * 10 + (x - 48)) :
    rdN most 0 t = none := by
  have e : t = t.take (k + 1) ++ t.drop (k + 1) := (List.take_append_drop ..).symm
  rw [e]
  apply rdN_none_app
  rw [take_snoc t k h, rdN_snoc, hn]
  simp only [Option.bind_some]
  by_cases hdg : dgt t[k] = true
  · rw [if_pos hdg]
    simp only [dgt, Bool.and_eq_true, decide_eq_true_eq, UInt8.le_iff_toNat_le] at hdg
    obtain ⟨g1, g2⟩ := hdg
    have g1' : 48 ≤ t[k].toNat := g1
    have g2' : t[k].toNat ≤ 57 := g2
    rw [if_neg (by omega)]
  · rw [if_neg hdg]
theorem numL_run {most : Nat} {t : Tx} (h : lead0 t = false) : numL most t = rdN most 0 t := by unfold numL; rw [h]; rfl
theorem lead0_nil {t : Tx} (h : t.length = 0) : lead0 t = true := by obtain rfl := List.length_eq_zero_iff.1 h; rfl
theorem toList_nil {t : Tx} (h : t.length = 0) : (tx t).toList = [] := by obtain rfl := List.length_eq_zero_iff.1 h; simp [tx]
theorem isEmpty_ne {t : Tx} (h : ¬ t.length = 0) : (tx t).toList.isEmpty = false := by
  have e : (tx t).toList = t := by simp [tx, ByteArray.toList_eq]
  rw [e]
  cases t with
  | nil => simp at h
  | cons c r => rfl
theorem lead0_at (t : Tx) (g : 0 < (tx t).size) : lead0 t = (decide ((((tx t)[0]'g).toNat : Int) = 48) && decide ((1 : Int) < (t.length : Int))) := by
  cases t with
  | nil => exact absurd g (by decide)
  | cons c r =>
    have : (tx (c :: r))[0]'g = c := rfl
    rw [this, Bool.eq_iff_iff]
    simp only [lead0, List.length_cons, Bool.and_eq_true, beq_iff_eq, decide_eq_true_eq, eq8']
    constructor
    · rintro ⟨h1, h2⟩; exact ⟨h1, by omega⟩
    · rintro ⟨h1, h2⟩; exact ⟨h1, by omega⟩
set_option maxRecDepth 100000 in
set_option maxHeartbeats 1600000 in
theorem number64_any (t : Tx) (most : Nat) (hm : most < 18446744073709551616) (w : World) (hl : t.length ≤ 1000000000000) :
    Calls Tryz.prog 86 #[str t, .int .u64 (most : Int)] w fun e w' => e = .returned (numV .u64 (numL most t)) ∧ w = w' := by
  have hsz : (tx t).size = t.length := by simp [tx, ByteArray.size]
  have hbz : (t.length : Int) ≤ 1000000000000 := by omega
  clear hl
  by_cases h0 : t.length = 0
  · have hE := toList_nil h0
    have HL := Lib.hid (lead0_nil h0)
    clear h0
    go_enter Tryz.func86, Tryz.ntmps86
    go_wp2
    go_ret2
    exact ⟨by unfold numL; rw [HL.out]; rfl, rfl⟩
  · have hE := isEmpty_ne h0
    have g0 : 0 < (tx t).size := by omega
    have hL := lead0_at t g0
    by_cases hz : (((tx t)[0]'g0).toNat : Int) = 48 ∧ (1 : Int) < (t.length : Int)
    · obtain ⟨z1, z2⟩ := hz
      have HL := Lib.hid (show lead0 t = true by rw [hL]; simp [z1, z2])
      clear hL
      go_enter Tryz.func86, Tryz.ntmps86
      go_wp2
      go_ret2
      exact ⟨by unfold numL; rw [HL.out]; rfl, rfl⟩
    · have HN := Lib.hid (numL_run (most := most) (show lead0 t = false by rw [hL]; simpa using hz))
      clear hL
      have hxs : ∀ k (h : k < t.length), (t[k].toNat : Int) ≤ 255 := fun k h => by have := t[k].toNat_lt; omega
      have HX := Lib.hid hxs
      have HM := Lib.hid hm
      clear hxs
      have two : ((((tx t)[0]'g0).toNat : Int) = 48 ∧ (t.length : Int) ≤ 1) ∨ ¬ (((tx t)[0]'g0).toNat : Int) = 48 := by omega
      clear hz
      rcases two with ⟨z1, z2⟩ | z1
      all_goals
        go_enter Tryz.func86, Tryz.ntmps86
        go_wp2
        clear h0 hE z1
        try clear z2
        go_loopw [6, 23] (fun n i wr => ∃ (m k : Nat), n = .int .u64 m ∧ i = .int .i64 k ∧ k ≤ t.length ∧ rdN most 0 (t.take k) = some m ∧ m ≤ most ∧ w = wr) (fun _ i _ => t.length - (intOf i).toNat)
        case atStart => exact ⟨0, 0, rfl, rfl, Nat.zero_le _, rfl, Nat.zero_le _, rfl⟩
        case round =>
          obtain ⟨m, k, rfl, rfl, hk, hrd, hmm, rfl⟩ := hrel
          have HR := Lib.hid hrd
          have HMM := Lib.hid hmm
          clear hrd hmm
          by_cases hlt : (k : Int) < (t.length : Int)
          · have hkl : k < t.length := by omega
            have hk2 : k < (tx t).size := by omega
            have hk0 : (0 : Int) ≤ (k : Int) := Int.natCast_nonneg _
            have HF := Lib.hid (run_fail hkl HR.out (((tx t)[k]'hk2).toNat : Int) rfl)
            have HS := Lib.hid (run_step hkl HR.out (((tx t)[k]'hk2).toNat : Int) ((((tx t)[k]'hk2).toNat : Int) - 48) rfl)
            go_wp2
            case roundEnd =>
              obtain ⟨m', e1, e2⟩ := HS.out (by omega) (by omega) rfl (by omega)
              go_roundw
              case rel => exact ⟨m', k + 1, by rw [e1], by go_num, by omega, e2, rdN_le _ _ _ _ (Nat.zero_le _) e2, trivial⟩
              case measure => simp [intOf]; omega
            all_goals
              go_ret2
              exact ⟨by rw [HN.out, HF.out (by omega)]; rfl, rfl⟩
          · obtain rfl : k = t.length := by omega
            rw [take_len rfl] at HR
            go_wp2
            go_ret2
            exact ⟨by rw [HN.out, HR.out]; rfl, rfl⟩
set_option maxRecDepth 100000 in
set_option maxHeartbeats 1600000 in
theorem number8_any (t : Tx) (most : Nat) (hm : most < 256) (w : World) (hl : t.length ≤ 1000000000000) :
    Calls Tryz.prog 84 #[str t, .int .u8 (most : Int)] w fun e w' => e = .returned (numV .u8 (numL most t)) ∧ w = w' := by
  have hsz : (tx t).size = t.length := by simp [tx, ByteArray.size]
  have hbz : (t.length : Int) ≤ 1000000000000 := by omega
  clear hl
  by_cases h0 : t.length = 0
  · have hE := toList_nil h0
    have HL := Lib.hid (lead0_nil h0)
    clear h0
    go_enter Tryz.func84, Tryz.ntmps84
    go_wp2
    go_ret2
    exact ⟨by unfold numL; rw [HL.out]; rfl, rfl⟩
  · have hE := isEmpty_ne h0
    have g0 : 0 < (tx t).size := by omega
    have hL := lead0_at t g0
    by_cases hz : (((tx t)[0]'g0).toNat : Int) = 48 ∧ (1 : Int) < (t.length : Int)
    · obtain ⟨z1, z2⟩ := hz
      have HL := Lib.hid (show lead0 t = true by rw [hL]; simp [z1, z2])
      clear hL
      go_enter Tryz.func84, Tryz.ntmps84
      go_wp2
      go_ret2
      exact ⟨by unfold numL; rw [HL.out]; rfl, rfl⟩
    · have HN := Lib.hid (numL_run (most := most) (show lead0 t = false by rw [hL]; simpa using hz))
      clear hL
      have hxs : ∀ k (h : k < t.length), (t[k].toNat : Int) ≤ 255 := fun k h => by have := t[k].toNat_lt; omega
      have HX := Lib.hid hxs
      have HM := Lib.hid hm
      clear hxs
      have two : ((((tx t)[0]'g0).toNat : Int) = 48 ∧ (t.length : Int) ≤ 1) ∨ ¬ (((tx t)[0]'g0).toNat : Int) = 48 := by omega
      clear hz
      rcases two with ⟨z1, z2⟩ | z1
      all_goals
        go_enter Tryz.func84, Tryz.ntmps84
        go_wp2
        clear h0 hE z1
        try clear z2
        go_loopw [6, 23] (fun n i wr => ∃ (m k : Nat), n = .int .u8 m ∧ i = .int .i64 k ∧ k ≤ t.length ∧ rdN most 0 (t.take k) = some m ∧ m ≤ most ∧ w = wr) (fun _ i _ => t.length - (intOf i).toNat)
        case atStart => exact ⟨0, 0, rfl, rfl, Nat.zero_le _, rfl, Nat.zero_le _, rfl⟩
        case round =>
          obtain ⟨m, k, rfl, rfl, hk, hrd, hmm, rfl⟩ := hrel
          have HR := Lib.hid hrd
          have HMM := Lib.hid hmm
          clear hrd hmm
          by_cases hlt : (k : Int) < (t.length : Int)
          · have hkl : k < t.length := by omega
            have hk2 : k < (tx t).size := by omega
            have hk0 : (0 : Int) ≤ (k : Int) := Int.natCast_nonneg _
            have HF := Lib.hid (run_fail hkl HR.out (((tx t)[k]'hk2).toNat : Int) rfl)
            have HS := Lib.hid (run_step hkl HR.out (((tx t)[k]'hk2).toNat : Int) ((((tx t)[k]'hk2).toNat : Int) - 48) rfl)
            go_wp2
            case roundEnd =>
              obtain ⟨m', e1, e2⟩ := HS.out (by omega) (by omega) rfl (by omega)
              go_roundw
              case rel => exact ⟨m', k + 1, by rw [e1], by go_num, by omega, e2, rdN_le _ _ _ _ (Nat.zero_le _) e2, trivial⟩
              case measure => simp [intOf]; omega
            all_goals
              go_ret2
              exact ⟨by rw [HN.out, HF.out (by omega)]; rfl, rfl⟩
          · obtain rfl : k = t.length := by omega
            rw [take_len rfl] at HR
            go_wp2
            go_ret2
            exact ⟨by rw [HN.out, HR.out]; rfl, rfl⟩
end Go.Proofs.YtgaoeljdlpemnaaGreatDoor
namespace Go.Proofs.YtgaoeljdlpemnaaGreatDoor
open Go.RowKit Go.Edi Go.Wrap

set_option maxRecDepth 100000 in
set_option maxHeartbeats 1600000 in
theorem carrier1_any (t : Tx) (p : Nat) (a : Addr) (old : Value) (w : World) (hl : t.length ≤ 1000000000000) (hp : w.cell? ⟨p, 0, none⟩ = some (.pointer (some a))) (ha : w.cell? a = some old) (hf : w.frozen? a = false) :
    Calls Tryz.prog 83 #[str t, .pointer (some ⟨p, 0, none⟩)] w fun e w' => e = .returned (.bool (numL 7 t).isSome) ∧ w' = (w.setCell a (.int .u8 (((numL 7 t).getD 0 : Nat) : Int))).drew := by
  have hq := fun w' => number8_any t 7 (by decide) w' hl
  obtain ⟨n, hn⟩ : ∃ n : Int, (((numL 7 t).getD 0 : Nat) : Int) = n := ⟨_, rfl⟩
  obtain ⟨b, hb⟩ : ∃ b : Bool, (numL 7 t).isSome = b := ⟨_, rfl⟩
  simp only [numV, hn, hb] at hq ⊢
  clear hn hb
  have HQ := Lib.hid hq
  clear hl hq
  go_enter Tryz.func83, Tryz.ntmps83
  go_wp2
  go_region_law
    (go_simp
     refine (HQ.out _).mono ?_
     rintro e w' ⟨rfl, rfl⟩)
  all_goals
    go_wp2
    go_ret
    exact ⟨rfl, rfl⟩
set_option maxRecDepth 100000 in
set_option maxHeartbeats 1600000 in
theorem whole1_any (t : Tx) (p : Nat) (a : Addr) (old : Value) (w : World) (hl : t.length ≤ 1000000000000) (hp : w.cell? ⟨p, 0, none⟩ = some (.pointer (some a))) (ha : w.cell? a = some old) (hf : w.frozen? a = false) :
    Calls Tryz.prog 85 #[str t, .pointer (some ⟨p, 0, none⟩)] w fun e w' => e = .returned (.bool (numL 18446744073709551615 t).isSome) ∧ w' = (w.setCell a (.int .u64 (((numL 18446744073709551615 t).getD 0 : Nat) : Int))).drew := by
  have hq := fun w' => number64_any t 18446744073709551615 (by decide) w' hl
  obtain ⟨n, hn⟩ : ∃ n : Int, (((numL 18446744073709551615 t).getD 0 : Nat) : Int) = n := ⟨_, rfl⟩
  obtain ⟨b, hb⟩ : ∃ b : Bool, (numL 18446744073709551615 t).isSome = b := ⟨_, rfl⟩
  simp only [numV, hn, hb] at hq ⊢
  clear hn hb
  have HQ := Lib.hid hq
  clear hl hq
  go_enter Tryz.func85, Tryz.ntmps85
  go_wp2
  go_region_law
    (go_simp
     refine (HQ.out _).mono ?_
     rintro e w' ⟨rfl, rfl⟩)
  all_goals
    go_wp2
    go_ret
    exact ⟨rfl, rfl⟩
end Go.Proofs.YtgaoeljdlpemnaaGreatDoor
