/- Contract of number.Text. -/
import Derived.Shelf.Bits.Mul64
import Derived.Shelf.Strings.Repeat
import Derived.Test.YtgaoeljdlpemnaaGreatDoorProg
import Derived.Test.YtgaoeljdlpemnaaGreatDoorNuV
import Derived.Outline
import Derived.KernelRfl
import Derived.Deep.QuietTactic
import Derived.BigQuiet
import Derived.BigRegion
import Derived.RegionTactic
import Derived.Deep.RegionLaw
import Derived.Lib.Hide
import Derived.WalkSmall
/- strings.Repeat, by the contract that the library has, at this program's numbers (made first by lay-shelf.mjs and lay-plain.mjs). -/
namespace Go.Proofs
open Go.Shelf
def Tryz.lays105_ren : Go.Shelf.Ren := ⟨fun | 105 => 121 | 212 => 136 | 99 => 137 | 165 => 138 | 166 => 101 | 170 => 139 | 169 => 102 | 263 => 154 | 264 => 155 | 206 => 156 | 240 => 126 | 241 => 157 | 276 => 144 | 277 => 167 | n => n, fun | 9 => 9 | 3 => 3 | 4 => 4 | 20 => 20 | 0 => 0 | 46 => 166 | 109 => 226 | 5 => 5 | 72 => 185 | 76 => 188 | 51 => 28 | 146 => 241 | 53 => 22 | 148 => 243 | 70 => 183 | 37 => 39 | 75 => 187 | 127 => 137 | 164 => 231 | 80 => 190 | n => n, fun | n => n⟩
theorem Tryz.lays105 : Go.Proofs.Lays.n105 Tryz.prog Tryz.lays105_ren := {
  mixed := by kernel_rfl
  f99 := Tryz.func137.trans (congrArg some (by kernel_rfl))
  f105 := Tryz.func121.trans (congrArg some (by kernel_rfl))
  f165 := Tryz.func138.trans (congrArg some (by kernel_rfl))
  f166 := Tryz.func101.trans (congrArg some (by kernel_rfl))
  f169 := Tryz.func102.trans (congrArg some (by kernel_rfl))
  f170 := Tryz.func139.trans (congrArg some (by kernel_rfl))
  f206 := Tryz.func156.trans (congrArg some (by kernel_rfl))
  f212 := Tryz.func136.trans (congrArg some (by kernel_rfl))
  f240 := Tryz.func126.trans (congrArg some (by kernel_rfl))
  f241 := Tryz.func157.trans (congrArg some (by kernel_rfl))
  f263 := Tryz.func154.trans (congrArg some (by kernel_rfl))
  f264 := Tryz.func155.trans (congrArg some (by kernel_rfl))
  f276 := Tryz.func144.trans (congrArg some (by kernel_rfl))
  f277 := Tryz.func167.trans (congrArg some (by kernel_rfl))
  t0 := Tryz.underlying0
  a0 := Tryz.isAgg0
  z0 := Tryz.sizeOf0
  v0 := Tryz.zeroValue0
  t3 := Tryz.underlying3
  a3 := Tryz.isAgg3
  z3 := Tryz.sizeOf3
  v3 := Tryz.zeroValue3
  t4 := Tryz.underlying4
  a4 := Tryz.isAgg4
  z4 := Tryz.sizeOf4
  v4 := Tryz.zeroValue4
  t5 := Tryz.underlying5
  a5 := Tryz.isAgg5
  z5 := Tryz.sizeOf5
  v5 := Tryz.zeroValue5
  t9 := Tryz.underlying9
  a9 := Tryz.isAgg9
  z9 := Tryz.sizeOf9
  v9 := Tryz.zeroValue9
  t20 := Tryz.underlying20
  a20 := Tryz.isAgg20
  z20 := Tryz.sizeOf20
  v20 := Tryz.zeroValue20
  t37 := Tryz.underlying39
  a37 := Tryz.isAgg39
  z37 := Tryz.sizeOf39
  v37 := Tryz.zeroValue39
  t46 := Tryz.underlying166
  a46 := Tryz.isAgg166
  z46 := Tryz.sizeOf166
  v46 := Tryz.zeroValue166
  t51 := Tryz.underlying28
  a51 := Tryz.isAgg28
  z51 := Tryz.sizeOf28
  v51 := Tryz.zeroValue28
  t53 := Tryz.underlying22
  a53 := Tryz.isAgg22
  z53 := Tryz.sizeOf22
  v53 := Tryz.zeroValue22
  t70 := Tryz.underlying183
  a70 := Tryz.isAgg183
  z70 := Tryz.sizeOf183
  v70 := Tryz.zeroValue183
  t72 := Tryz.underlying185
  a72 := Tryz.isAgg185
  z72 := Tryz.sizeOf185
  v72 := Tryz.zeroValue185
  t75 := Tryz.underlying187
  a75 := Tryz.isAgg187
  z75 := Tryz.sizeOf187
  v75 := Tryz.zeroValue187
  t76 := Tryz.underlying188
  a76 := Tryz.isAgg188
  z76 := Tryz.sizeOf188
  v76 := Tryz.zeroValue188
  t109 := Tryz.underlying226
  a109 := Tryz.isAgg226
  z109 := Tryz.sizeOf226
  v109 := Tryz.zeroValue226
  t127 := Tryz.underlying137
  a127 := Tryz.isAgg137
  z127 := Tryz.sizeOf137
  v127 := Tryz.zeroValue137
  t146 := Tryz.underlying241
  a146 := Tryz.isAgg241
  z146 := Tryz.sizeOf241
  v146 := Tryz.zeroValue241
  t148 := Tryz.underlying243
  a148 := Tryz.isAgg243
  z148 := Tryz.sizeOf243
  v148 := Tryz.zeroValue243
  t164 := Tryz.underlying231
  a164 := Tryz.isAgg231
  z164 := Tryz.sizeOf231
  v164 := Tryz.zeroValue231 }
theorem Tryz.Builder_Extra_105 : Builder.Extra Tryz.prog Tryz.lays105_ren := {
  sizeBuilder := by kernel_rfl
  liesBuilder := by kernel_rfl
  t5 := Tryz.underlying5
  a5 := Tryz.isAgg5
  z5 := Tryz.sizeOf5
  v5 := Tryz.zeroValue5
  infoByte := by kernel_rfl
  cellsByte := by kernel_rfl
  sizeByte := by kernel_rfl
  neB5 := by decide }
open Go.RowKit Go.Lib in
theorem Tryz.strings_Repeat (s : ByteArray) (c : Nat) (w : World) (hc : c ≤ 9223372036854775807) (hlen : s.size * c ≤ 140737488355328) :
    Calls Tryz.prog 121 #[.string s, .int .i64 c] w fun e w' => e = .returned (.string ⟨(Lib.repeatL s.data.toList c).toArray⟩) ∧ Below w.heap.size w w' := Any.strings_Repeat Tryz.lays105 Tryz.Builder_Extra_105 s c w hc hlen
end Go.Proofs
/- Contracts of a number's text: whether a ticket may be, a padded number, the text. -/
namespace Go.Proofs.YtgaoeljdlpemnaaGreatDoor.Nu
open Go.RowKit Go.Shelf Go.Number

theorem tx_app (a b : Tx) : tx a ++ tx b = tx (a ++ b) := by
  apply ByteArray.ext
  simp [ByteArray.data_append]
theorem rep48 (k : Nat) : Lib.repeatL [48] k = List.replicate k 48 := by
  have := Lib.repeatL_replicate 48 1 k
  simpa using this
theorem ret_bool {a b : Bool} (h : a = b) : Ending.returned (.bool a) = .returned (.bool b) := by rw [h]
theorem size_a (w : World) (o : Obj) : (w.alloc o).heap.size = w.heap.size + 1 := by simp
set_option maxRecDepth 100000 in
theorem mayBe_any (c s : Nat) (w : World) : Calls Tryz.prog 93 #[.int .u64 (c : Int), .int .u64 (s : Int)] w fun e w' => e = .returned (.bool (decide (may c s))) ∧ w = w' := by
  have e : decide (may c s) = ((decide ((c : Int) < 8) && decide ((1 : Int) ≤ (s : Int))) && decide ((s : Int) ≤ 9999999999)) := by
    rw [Bool.eq_iff_iff, decide_eq_true_iff]; unfold may; simp only [Bool.and_eq_true, decide_eq_true_eq]; omega
  rw [e]
  generalize (c : Int) = x
  generalize (s : Int) = y
  go_enter Tryz.func93, Tryz.ntmps93
  go_wp2
  all_goals go_ret
  all_goals exact ⟨ret_bool (by first | rfl | (simp [*]; done) | (simp [*]; omega) | (simp at *; omega)), rfl⟩
set_option maxRecDepth 100000 in
set_option maxHeartbeats 1600000 in
theorem padded_any (n k : Nat) (hk : 1 ≤ k ∧ k ≤ 10) (hn : n < 10 ^ k) (B : Nat) (w : World) (htab : Tab B w) (hB : B ≤ w.heap.size) :
    Calls Tryz.prog 94 #[.int .u64 (n : Int), .int .i64 (k : Int)] w fun e w' => e = .returned (str (last k n)) ∧ Below w.heap.size w w' := by
  obtain ⟨hp, hl⟩ := pad_last k n hn hk.1
  have hn64 : n < 18446744073709551616 := by
    have : 10 ^ k ≤ 10 ^ 10 := Nat.pow_le_pow_right (by decide) hk.2
    have e : (10 : Nat) ^ 10 = 10000000000 := by decide
    omega
  have HF := Lib.hid (format_any n hn64 B w htab hB)
  have HR := Lib.hid (fun W => Tryz.strings_Repeat (tx [48]) (k - (Lib.decDigits n).length) W (by omega) (by show 1 * _ ≤ _; omega))
  have hdn : ((k - (Lib.decDigits n).length : Nat) : Int) = (k : Int) - ((Lib.decDigits n).length : Int) := by omega
  have HDN := Lib.hid hdn
  have hsz : (tx (Lib.decDigits n)).size = (Lib.decDigits n).length := by simp [ByteArray.size]
  have hk0 : (0 : Int) ≤ (k : Int) := Int.natCast_nonneg _
  have hk1 : (k : Int) ≤ 10 := by omega
  have hl0 : (0 : Int) ≤ ((Lib.decDigits n).length : Int) := Int.natCast_nonneg _
  have hl1 : ((Lib.decDigits n).length : Int) ≤ (k : Int) := by omega
  have HP := Lib.hid hp
  clear htab hB hp hdn hl hn hn64 hk
  go_enter Tryz.func94, Tryz.ntmps94
  go_wp2_with (go_at_call 77; refine (HF.out).mono ?_; rintro e w1 ⟨rfl, hb1⟩; have HB1 := Lib.hid hb1; clear hb1)
  go_at_call 121
  rw [← HDN.out]
  refine (HR.out _).mono ?_
  rintro e w2 ⟨rfl, hb2⟩
  have HB2 := Lib.hid (HB1.out.trans (hb2.mono HB1.out.size))
  clear hb2
  have hrep : (⟨(Lib.repeatL (tx [48]).data.toList (k - (Lib.decDigits n).length)).toArray⟩ : ByteArray) = tx (List.replicate (k - (Lib.decDigits n).length) 48) := by
    show tx (Lib.repeatL [48] _) = _; rw [rep48]
  rw [hrep]
  have hfin : tx (List.replicate (k - (Lib.decDigits n).length) 48) ++ tx (Lib.decDigits n) = tx (last k n) := by rw [tx_app]; exact congrArg tx HP.out
  have hs2 : (tx (List.replicate (k - (Lib.decDigits n).length) 48)).size = k - (Lib.decDigits n).length := by simp [ByteArray.size]
  go_wp2
  go_ret
  exact ⟨rfl, HB2.out⟩
end Go.Proofs.YtgaoeljdlpemnaaGreatDoor.Nu
namespace Go.Proofs.YtgaoeljdlpemnaaGreatDoor.Nu
open Go.RowKit Go.Shelf Go.Number

abbrev tkV (c s : Nat) : Array Value := #[.int .u8 (c : Int), .int .u64 (s : Int)]
theorem tx_app2 (a b c : Tx) : tx a ++ tx b ++ tx c = tx (a ++ b ++ c) := by rw [tx_app, tx_app]
theorem tx_size (a : Tx) : (tx a).size = a.length := by simp [ByteArray.size]
def padI (n k : Int) : Tx := last k.toNat n.toNat
def GoodP (n k : Int) : Prop := ∃ n' k' : Nat, n = (n' : Int) ∧ k = (k' : Int) ∧ (1 ≤ k' ∧ k' ≤ 10) ∧ n' < 10 ^ k'
set_option maxRecDepth 100000 in
set_option maxHeartbeats 6400000 in
theorem text_any (c s : Nat) (hc : c < 256) (B : Nat) (w : World) (htab : Tab B w) (hB : B ≤ w.heap.size) :
    Calls Tryz.prog 68 #[.agg (tkV c s)] w fun e w' => e = .returned (.tuple #[str (textL c s).1, .int .i64 ((textL c s).2 : Nat)]) ∧ Below w.heap.size w w' := by
  have hc0 : (0 : Int) ≤ (c : Int) := Int.natCast_nonneg _
  have hc1 : (c : Int) < 256 := by omega
  have hs0 : (0 : Int) ≤ (s : Int) := Int.natCast_nonneg _
  by_cases hm : may c s
  · rw [text_in hm]
    have hdm : decide (may c s) = true := decide_eq_true hm
    obtain ⟨wb, hwb⟩ : ∃ wb, wb = w.alloc (.cells (tkV c s) 24) := ⟨_, rfl⟩
    have hbw : Below w.heap.size w wb := by rw [hwb]; exact (Below.refl _ _).alloc (Nat.le_refl _) _
    have hws : wb.heap.size = w.heap.size + 1 := by rw [hwb, size_a]
    have hb0 : wb.heap[w.heap.size]? = some (.cells (tkV c s) 24 (0, 0)) := by rw [hwb]; exact World.alloc_heap_new w _
    have cell1 : ∀ wz : World, wz.heap[w.heap.size]? = some (.cells (tkV c s) 24 (0, 0)) → wz.cell? ⟨w.heap.size, 1, none⟩ = some (.int .u64 (s : Int)) := fun wz h => by simp [World.cell?, h]
    have CB : ∀ wz : World, Below wb.heap.size wb wz → wz.cell? ⟨w.heap.size, 1, none⟩ = some (.int .u64 (s : Int)) := fun wz hz => cell1 wz ((hz.block _ (by rw [hws]; exact Nat.lt_succ_self _)).trans hb0)
    have hP : ∀ (n k : Int) (wz : World), GoodP n k → Below wb.heap.size wb wz → Calls Tryz.prog 94 #[.int .u64 n, .int .i64 k] wz fun e w' => e = .returned (str (padI n k)) ∧ Below wb.heap.size wb w' := by
      rintro n k wz ⟨n', k', rfl, rfl, g1, g2⟩ hz
      exact (padded_any n' k' g1 g2 B wz (htab.on ((hbw.mono hB).trans (hz.mono (Nat.le_trans hB hbw.size)))) (Nat.le_trans hB (Nat.le_trans hbw.size hz.size))).mono fun e w' h => ⟨h.1, hz.trans (h.2.mono hz.size)⟩
    have G3 : GoodP (c : Int) 3 := ⟨c, 3, rfl, rfl, by omega, by have := hm.1; omega⟩
    have G10 : GoodP (s : Int) 10 := ⟨s, 10, rfl, rfl, by omega, by have := hm.2.2; omega⟩
    have G1 : GoodP (chk (body c s) : Int) 1 := ⟨_, 1, rfl, rfl, by omega, by have := chk_lt (body c s); omega⟩
    have PC : ∀ wz : World, Below wb.heap.size wb wz → Calls Tryz.prog 95 #[.string (tx (body c s))] wz fun e w' => e = .returned (.int .u64 (chk (body c s) : Int)) ∧ Below wb.heap.size wb w' := fun wz hz =>
      (check_any (body c s) (body_all c s) (by rw [body_len]; omega) wz).mono fun e w' h => ⟨h.1, hz.trans (h.2.mono hz.size)⟩
    have HM := Lib.hid (fun W => mayBe_any c s W)
    have HCB := Lib.hid CB
    have HP := Lib.hid hP
    have HPC := Lib.hid PC
    have HFIN := Lib.hid (show ∀ wz : World, Below wb.heap.size wb wz → Below w.heap.size w wz from fun wz hz => hbw.trans (hz.mono hbw.size))
    have c0 := CB _ (show Below wb.heap.size wb wb.drew from (Below.refl _ wb).drew)
    have HB0 := Lib.hid (show Below wb.heap.size wb wb.drew from (Below.refl _ wb).drew)
    have ha1 : tx (padI (c : Int) 3) ++ tx (padI (s : Int) 10) = tx (body c s) := tx_app _ _
    have ha2 : tx (body c s) ++ tx (padI (chk (body c s) : Int) 1) = tx (full c s) := tx_app _ _
    have z3 : (tx (padI (c : Int) 3)).size = 3 := by rw [tx_size]; exact last_len _ _
    have z10 : (tx (padI (s : Int) 10)).size = 10 := by rw [tx_size]; exact last_len _ _
    have z13 : (tx (body c s)).size = 13 := by rw [tx_size, body_len]
    have z1 : (tx (padI (chk (body c s) : Int) 1)).size = 1 := by rw [tx_size]; exact last_len _ _
    clear CB hP PC cell1 hbw hws hb0 htab hB hm
    go_enter Tryz.func68, Tryz.ntmps68
    go_wp2_with (go_at_call 93; refine (HM.out _).mono ?_; rintro e w' ⟨rfl, rfl⟩; simp only [hdm])
    rw [← hwb]
    clear hwb
    go_region_law
      (go_simp
       first
         | (refine (HP.out _ _ _ (by first | exact G3 | exact G10) HB0.out).mono ?_
            rintro e w1 ⟨rfl, hb1⟩
            have c1 := HCB.out _ hb1
            have HB1 := Lib.hid hb1
            clear hb1 HB0)
         | (refine (HP.out _ _ _ (by first | exact G3 | exact G10) HB1.out).mono ?_
            rintro e w2 ⟨rfl, hb2⟩
            have HB2 := Lib.hid hb2
            clear hb2 HB1))
    all_goals
      go_wp2_with first
        | (go_at_call 95; refine (HPC.out _ HB2.out).mono ?_; rintro e w3 ⟨rfl, hb3⟩; have HB3 := Lib.hid hb3; clear hb3)
        | (go_at_call 94; refine (HP.out _ _ _ G1 HB3.out).mono ?_; rintro e w4 ⟨rfl, hb4⟩; have HB4 := Lib.hid hb4; clear hb4)
      go_ret2
      exact ⟨rfl, HFIN.out _ HB4.out⟩
  · rw [text_out hm]
    have hdm : decide (may c s) = false := decide_eq_false hm
    have HM := Lib.hid (fun W => mayBe_any c s W)
    have HFIN := Lib.hid (show Below w.heap.size w (w.alloc (.cells (tkV c s) 24)) from (Below.refl _ _).alloc (Nat.le_refl _) _)
    clear hm htab
    go_enter Tryz.func68, Tryz.ntmps68
    go_wp2_with (go_at_call 93; refine (HM.out _).mono ?_; rintro e w' ⟨rfl, rfl⟩; simp only [hdm])
    go_ret2
    exact ⟨rfl, HFIN.out⟩
end Go.Proofs.YtgaoeljdlpemnaaGreatDoor.Nu
