/- Contracts of the journal's numbers as bytes: read, lay. -/
import Derived.Test.YtabahkeologbmaaDkRs
import Derived.Test.YtabahkeologbmaaDkWr
import Derived.Test.YtabahkeologbmaaDkSy
import Derived.Test.YtabahkeologbmaaJnPure
namespace Go.Proofs.Ytabahkeologbmaa.Jn
open Go.RowKit Go.Shelf Go.Dk Go.Jn Go.Sha Go.Proofs.Ytabahkeologbmaa.Dk
open Go.Maps (Keyed)

theorem u64_in {x : Int} (h0 : 0 ≤ x) (h1 : x < 18446744073709551616) : IntKind.u64.wrap x = x := by
  have e : IntKind.u64.wrap x = x % 18446744073709551616 := rfl
  rw [e, Int.emod_eq_of_lt h0 h1]
theorem or_byte (m : Nat) (c : UInt8) (h : m < 72057594037927936) : bits .or .u64 (IntKind.u64.wrap ((m : Int) * 256)) (IntKind.u64.wrap (c.toNat : Int)) = ((m * 256 + c.toNat : Nat) : Int) := by
  have hc := c.toNat_lt
  rw [u64_in (by omega) (by omega), u64_in (by omega) (by omega), show (m : Int) * 256 = ((m * 256 : Nat) : Int) by omega, u64_or_nat _ _ (by omega) (by omega)]
  have := Nat.shiftLeft_add_eq_or_of_lt (i := 8) (b := c.toNat) (by omega) m
  rw [Nat.shiftLeft_eq] at this
  rw [show m * 256 = m * 2 ^ 8 by rfl, this]
set_option maxRecDepth 100000 in
theorem read_num (l : By) (hl : l.length ≤ 8) (v : Value) (F : Nat → Prop) (w : World) (h : BysF w F v l) : Calls Try.prog 49 #[v] w fun e w' => e = .returned (.int .u64 (valB l : Int)) ∧ w = w' := by
  obtain ⟨p, cap, rfl, hc, hp⟩ := h
  have hl1 : (l.length : Int) ≤ 8 := by omega
  go_enter Try.func49, Try.ntmps49
  go_wp2
  go_loopw [3, 8] (fun n i wr => ∃ k m : Nat, k ≤ l.length ∧ i = .int .i64 (k : Int) ∧ n = .int .u64 (m : Int) ∧ Hid (m = valB (l.take k)) ∧ w = wr) (fun _ i _ => l.length - (intOf i).toNat)
  case atStart => exact ⟨0, 0, Nat.zero_le _, rfl, rfl, Lib.hid (by simp [valB]), rfl⟩
  case round =>
    obtain ⟨k, m, hk, rfl, rfl, hm, rfl⟩ := hrel
    have hk0 : (0 : Int) ≤ (k : Int) := Int.natCast_nonneg _
    by_cases hlt : (k : Int) < (l.length : Int)
    · have hlt2 : k < l.length := by omega
      obtain ⟨b, o, rfl, _, hcell⟩ := hp (by omega)
      have cc := hcell k (.int .u8 ((l[k]).toNat : Int)) (by unfold Lib.byteCells; rw [List.getElem?_map, List.getElem?_eq_getElem hlt2]; rfl)
      clear hcell hp
      go_wp2
      go_roundw
      case rel =>
        have hlen : (l.take k).length = k := by rw [List.length_take]; omega
        have hm2 := valB_lt (l.take k)
        rw [← hm.out, hlen] at hm2
        have hm3 : m < 72057594037927936 := Nat.lt_of_lt_of_le hm2 (show 256 ^ k ≤ 256 ^ 7 from Nat.pow_le_pow_right (by omega) (by omega))
        refine ⟨k + 1, m * 256 + (l[k]).toNat, by omega, by go_num, by rw [or_byte m _ hm3], Lib.hid ?_, trivial⟩
        rw [List.take_succ_eq_append_getElem hlt2, valB_snoc, ← hm.out]
      case measure => simp [intOf]; omega
    · obtain rfl : k = l.length := by omega
      have e := hm.out
      rw [List.take_length] at e
      clear hp
      go_wp2
      go_ret
      exact ⟨by rw [← e]; rfl, rfl⟩
end Go.Proofs.Ytabahkeologbmaa.Jn
