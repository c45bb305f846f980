/- Contracts of the statements' own: bytes of one kind; a known disk keeps what it must. -/
import Derived.Test.YtiegicdfgbpmiaaDkR
import Derived.Test.YtiegicdfgbpmiaaDkWr
import Derived.Test.YtiegicdfgbpmiaaDkRs
namespace Go.Proofs.Ytiegicdfgbpmiaa.Dk
open Go.RowKit Go.Shelf Go.Dk Go.Sha
open Go.Maps (Keyed)

def fulL (c : UInt8) (n k : Nat) : By := List.replicate k c ++ List.replicate (n - k) 0
theorem fulL_len (c : UInt8) {n k : Nat} (h : k ≤ n) : (fulL c n k).length = n := by simp [fulL]; omega
theorem bc_set (l : By) (k : Nat) (c : UInt8) : (bc l).setIfInBounds k (.int .u8 (c.toNat : Int)) = bc (l.set k c) := by
  have e1 : ((bc l).setIfInBounds k (.int .u8 (c.toNat : Int))).toList = (bc (l.set k c)).toList := by
    rw [Array.toList_setIfInBounds, bc_list, bc_list]
    unfold Lib.byteCells
    rw [List.map_set]
  exact Array.toList_inj.1 e1
theorem fulL_set (c : UInt8) {n k : Nat} (h : k < n) : (fulL c n k).set k c = fulL c n (k + 1) := by
  unfold fulL
  rw [List.set_append_right _ _ (by simp), List.length_replicate, Nat.sub_self, List.replicate_succ', List.append_assoc]
  congr 1
  obtain ⟨m, hm⟩ : ∃ m, n - k = m + 1 := ⟨n - k - 1, by omega⟩
  rw [hm, List.replicate_succ, List.set_cons_zero, show n - (k + 1) = m by omega]
  rfl
theorem made_bc (n : Nat) : madeCells #[Value.int .u8 0] n = bc (List.replicate n 0) := by
  apply Array.ext_getElem?
  intro k
  rw [bc_get]
  unfold Lib.byteCells
  rw [List.getElem?_map, List.getElem?_replicate]
  by_cases h : k < n
  · rw [if_pos h]
    simp [madeCells, h, Nat.mod_one]
  · rw [if_neg h, Array.getElem?_eq_none (by rw [size_madeCells]; omega)]
    rfl
theorem mk_bytes (n : Nat) (hn : n ≤ 1000000) (w : World) : (Instr.makeSlice 29 (.int .i64 (n : Int)) (.int .i64 (n : Int))).run Try.prog w = .ok (.slice (some ⟨w.heap.size, 0, none⟩) n n) (w.alloc (.cells (bc (List.replicate n 0)) 5)) := by
  obtain ⟨i, hi, h0, h1, h2⟩ := info_parts par_u8
  have := run_make (P := Try.prog) w 29 5 i (.int .u8 0) Try.underlying29 hi h0 .i64 .i64 (n : Int) (n : Int) (by omega) (by omega) (by rw [h2]; omega) (by omega)
  rw [h1, show ((n : Nat) : Int).toNat = n from rfl, Nat.mul_one] at this
  rw [← made_bc]
  exact this
def FullP (c : UInt8) (n : Nat) (w : World) (e : Ending) (w' : World) : Prop := e = .returned (.slice (some ⟨w.heap.size, 0, none⟩) n n) ∧ w'.heap[w.heap.size]? = some (.cells (bc (List.replicate n c)) 5 (0, 0)) ∧ Below w.heap.size w w'
set_option maxRecDepth 100000 in
set_option maxHeartbeats 800000 in
theorem full_any (c : UInt8) (n : Nat) (hn : n ≤ 1000000) (w : World) : Calls Try.prog 15 #[.int .u8 (c.toNat : Int), .int .i64 (n : Int)] w (FullP c n w) := by
  have hmk := mk_bytes n hn
  have n0 : (0 : Int) ≤ (n : Int) := Int.natCast_nonneg _
  have n1 : (n : Int) ≤ 1000000 := by omega
  have hB0 := Lib.hid (show Below w.heap.size w (w.alloc (.cells (bc (List.replicate n 0)) 5)) from (Below.refl _ w).alloc (Nat.le_refl _) _)
  have hH0 := Lib.hid (show (w.alloc (.cells (bc (List.replicate n 0)) 5)).heap[w.heap.size]? = some (.cells (bc (fulL c n 0)) 5 (0, 0)) from by
    rw [heap_last _ _ _ rfl]; unfold fulL; rw [Nat.sub_zero]; rfl)
  go_enter Try.func15, Try.ntmps15
  go_wp2
  go_loopw [6] (fun i wr => ∃ k : Nat, k ≤ n ∧ i = .int .i64 (k : Int) ∧ wr.heap[w.heap.size]? = some (.cells (bc (fulL c n k)) 5 (0, 0)) ∧ Below w.heap.size w wr) (fun i _ => n - (intOf i).toNat)
  case atStart => exact ⟨0, Nat.zero_le _, rfl, hH0.out, hB0.out⟩
  case round =>
    obtain ⟨k, hk, rfl, hh, hb⟩ := hrel
    have hk0 : (0 : Int) ≤ (k : Int) := Int.natCast_nonneg _
    have HB := Lib.hid hb
    by_cases hlt : (k : Int) < (n : Int)
    · have hlt2 : k < n := by omega
      have cc : wr.cell? ⟨w.heap.size, k, none⟩ = some (.int .u8 (((fulL c n k)[k]'(by rw [fulL_len c hk]; exact hlt2)).toNat : Int)) := by
        rw [cell_of_arr hh, bc_get]; unfold Lib.byteCells
        rw [List.getElem?_map, List.getElem?_eq_getElem (by rw [fulL_len c hk]; exact hlt2)]; rfl
      have cf : wr.frozen? ⟨w.heap.size, k, none⟩ = false := froz_of_arr hh k
      have HH := Lib.hid hh
      clear hb hh
      go_wp2
      go_roundw
      case rel => exact ⟨k + 1, by omega, by go_num, by rw [set_heap HH.out, bc_set, fulL_set c hlt2], HB.out.setCell (p := ⟨w.heap.size, k, none⟩) (Nat.le_refl _) _⟩
      case measure => simp [intOf]; omega
    · obtain rfl : k = n := by omega
      have HH := Lib.hid hh
      clear hb hh
      go_wp2
      go_ret
      exact ⟨rfl, by rw [HH.out]; unfold fulL; rw [Nat.sub_self]; simp, HB.out⟩

/-- the known disk -/
def k1 : Dk := (Dk.new 2).burn.wrote 0 (List.replicate 64 97)
def k2 : Dk := k1.rst [3]
theorem k1_wait : (keysW k1.wt k1.n).length = 1 := by kernel_rfl
theorem k2_read : rdsL k2 0 1 = [97, 97, 97] ++ List.replicate 61 0 := by kernel_rfl
theorem bys_four {w : World} {B : Nat} {v : Value} {l : By} (h : OwnB w B v l) (hl : l.length = 64) : ∃ p cap, v = .slice p 64 cap ∧ 64 ≤ cap ∧ (convert 29 9 (.slice p 4 cap)).run Try.prog w = .ok (str (l.take 4)) w := by
  obtain ⟨p, cap, rfl, hc, hp⟩ := row_own (F := fun _ => True) h (fun _ _ => trivial)
  obtain ⟨b, o, rfl, _, hcell⟩ := hp (by omega)
  rw [hl] at hc
  refine ⟨_, cap, by rw [hl], hc, ?_⟩
  have h4 : (l.take 4).length = 4 := by rw [List.length_take]; omega
  have : BysF w (fun _ => True) (.slice (some ⟨b, o, none⟩) 4 cap) (l.take 4) := ⟨_, cap, by rw [h4], by omega, fun _ => ⟨b, o, rfl, trivial, fun j u hu => hcell j u (by
    rw [← byl_take, List.getElem?_take] at hu
    split at hu
    · exact hu
    · cases hu)⟩⟩
  exact bys_str this
set_option maxRecDepth 100000 in
set_option maxHeartbeats 1600000 in
theorem keeps_any (w : World) : Calls Try.prog 17 #[] w fun e w' => e = .returned (.bool true) ∧ Below w.heap.size w w' := by
  go_enter Try.func17, Try.ntmps17
  go_wp2_with fail
  refine (new_any 2 (by omega) (by omega) w).mono ?_
  rintro e w1 ⟨D, L, M, rfl, hd1, hb1, h1, h2, h3⟩
  have HB1 := Lib.hid hb1
  have HD1 := Lib.hid hd1
  clear hb1 hd1
  go_wp2_with fail
  refine (full_any 97 64 (by omega) w1).mono ?_
  rintro e w2 ⟨rfl, hf2, hb2⟩
  have HD2 := Lib.hid (HD1.out.below hb2 HD1.out.ltD HD1.out.ltL HD1.out.ltM)
  have HB2 := Lib.hid (HB1.out.trans (hb2.mono HB1.out.size))
  have HV := Lib.hid (show BysF w2 (· = w1.heap.size) (.slice (some ⟨w1.heap.size, 0, none⟩) 64 64) (List.replicate 64 97) from ⟨_, _, rfl, Nat.le_refl _, fun _ => ⟨_, 0, rfl, rfl, fun j u hu => by rw [Nat.zero_add, cell_of_arr hf2, bc_get]; exact hu⟩⟩)
  have HLT := Lib.hid (lt_of_heap hf2)
  clear hf2 hb2
  go_wp2_with fail
  refine (write_any (d := Dk.new 2) HD2.out rfl (by show (-1 : Int) ≠ 0; omega) 0 1 (by show 0 + 1 ≤ 2; omega) (List.replicate 64 97) _ (· = w1.heap.size) rfl HV.out (fun x hx => ⟨by subst hx; exact HLT.out, by subst hx; have := HD1.out.ltD; omega, by subst hx; have := HD1.out.ltM; omega⟩)).mono ?_
  rintro e w3 ⟨rfl, hd3, hf3⟩
  have HD3 := Lib.hid (show DkAt w3 D L M k1 from hd3)
  have HB3 := Lib.hid (HB2.out.trans (hf3.below (B := w.heap.size) HB2.out.size (fun k h => h.elim (fun e => by omega) (fun e => by omega))))
  clear hd3 hf3
  go_wp2_with fail
  refine (waiting_any HD3.out).mono ?_
  rw [k1_wait]
  rintro e w4 ⟨rfl, rfl⟩
  go_wp2_with fail
  have hb4 : Below w3.heap.size w3 (w3.alloc (.cells #[.int .i64 3] 3)) := (Below.refl _ _).alloc (Nat.le_refl _) _
  refine (restart_any (HD3.out.below hb4 HD3.out.ltD HD3.out.ltL HD3.out.ltM) [3] _ (· = w3.heap.size) (by decide) ⟨_, _, rfl, Nat.le_refl _, fun _ => ⟨_, 0, rfl, rfl, fun j u hu => by
    rw [Nat.zero_add, cell_of_arr (heap_last w3 _ _ rfl)]; simpa using hu⟩⟩ (fun x hx => by subst hx; have := HD3.out.ltL; simp; omega)).mono ?_
  rintro e w5 ⟨rfl, hd5, hf5⟩
  have HD5 := Lib.hid (show DkAt w5 D L M k2 from hd5)
  have HB5 := Lib.hid (show Below w.heap.size w w5 from (HB3.out.trans (hb4.mono HB3.out.size)).trans (hf5.below (B := w.heap.size) (by have := HB3.out.size; simp; omega) (fun k h => by omega)))
  clear hd5 hf5 hb4
  go_wp2_with fail
  refine (read_any (d := k2) HD5.out rfl 0 1 (by show 0 + 1 ≤ 2; omega)).mono ?_
  rintro e w6 ⟨v, rfl, hrow, hb6⟩
  rw [k2_read] at hrow
  obtain ⟨p, cap, rfl, hcap, hcv⟩ := bys_four hrow rfl
  have HD6 := Lib.hid (HD5.out.below hb6 HD5.out.ltD HD5.out.ltL HD5.out.ltM)
  have HB6 := Lib.hid (HB5.out.trans (hb6.mono HB5.out.size))
  have hcap2 : (64 : Int) ≤ (cap : Int) := by omega
  clear hrow hb6
  have ht : (tx [97, 97, 97, 0]).toList = [97, 97, 97, 0] := by kernel_rfl
  go_wp2_with fail
  refine (size_any HD6.out).mono ?_
  rintro e w7 ⟨rfl, rfl⟩
  rw [show ((k2.n : Nat) : Int) = 2 from rfl]
  go_wp2_with fail
  go_ret
  exact ⟨rfl, HB6.out⟩
end Go.Proofs.Ytiegicdfgbpmiaa.Dk
