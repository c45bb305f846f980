/- Contracts of the loops over a text's digits: how many, their number, what is left of it. -/
import Derived.Test.YtgaoeljdlpemnaaGreatDoorEdiPure2
import Derived.Test.YtgaoeljdlpemnaaGreatDoorNuPure
import Derived.Lib.ItoaMem
import Derived.Lib.AppendIntMem
import Derived.Lib.Walk
import Derived.BigCall
import Derived.BigGuard
import Derived.RangeFuncNested
import Derived.RangeFuncBound
import Derived.RangeFuncCalls
import Derived.RangeFuncLeaves
import Derived.Shelf.Abstract
import Derived.Shelf.RegionOpen
import Derived.WalkKit
import Derived.OwnWalkIn
import Derived.TacticsInMore
import Derived.LoopNIn
import Derived.LoopIn
import Derived.Laws.EntriesVeiled
/- strconv.FormatUint at base 10: the number's decimal digits. -/
namespace Go.Proofs.YtgaoeljdlpemnaaGreatDoor.Nu
open Go.RowKit Go.Number Go.Sort Go.Lib

abbrev tx (t : Tx) : ByteArray := ⟨t.toArray⟩
abbrev str (t : Tx) : Value := .string (tx t)
abbrev Tab (B : Nat) (w : World) : Prop := Lib.TabBelow Tryz.prog B w "internal/strconv.uint64pow10" .u64 Lib.pow10Tab
theorem below_fin (w : World) (o : Obj) (dk : Array UInt8) (k : Nat) : Below w.heap.size w ((putRow (fun (b : UInt8) => Value.int .u8 (b.toNat : Int)) (w.alloc o) w.heap.size 0 dk).drewN k) := by
  rw [alloc_eq_grow]
  obtain ⟨os', _, e⟩ := putRow_grow_new (fun (b : UInt8) => Value.int .u8 (b.toNat : Int)) w #[o] w.heap.size 0 dk (Nat.le_refl _)
  rw [e]
  refine ⟨rfl, rfl, rfl, ?_, fun i hi => ?_⟩
  · show w.heap.size ≤ (w.heap ++ os').size
    simp
  · show (w.heap ++ os')[i]? = w.heap[i]?
    simp [Array.getElem?_append, hi]
set_option maxRecDepth 100000 in
set_option maxHeartbeats 3200000 in
theorem iformat_any (u : Nat) (hu64 : u < 18446744073709551616) (B : Nat) (w : World) (htab : Tab B w) (hB : B ≤ w.heap.size) :
    Calls Tryz.prog 103 #[.int .u64 (u : Int), .int .i64 10] w fun e w' => e = .returned (str (Lib.decDigits u)) ∧ Below w.heap.size w w' := by
  by_cases hs : (u : Int) < 100
  · have hi : u < 100 := by omega
    have h0 : (0 : Int) ≤ (u : Int) := Int.natCast_nonneg _
    have hsm := Tryz.internal_strconv_small u hi
    go_enter Tryz.func103, Tryz.ntmps103
    go_wp2_with (go_at_call 127; refine (hsm _).mono ?_; rintro e w' ⟨rfl, rfl⟩)
    go_ret
    exact ⟨rfl, Below.refl _ _⟩
  · have hu1 : 1 ≤ u := by omega
    have hnd20 : Lib.nDigits u ≤ 20 := by have := Lib.numDigits_eq u hu1 hu64; split at this <;> omega
    have hb3 : Lib.nDigits u ≤ 24 := by omega
    have hal : Tryz.prog.arrayLen 219 = 24 := by simp [Program.arrayLen, Tryz.underlying219]
    have hsl1 : ∀ W, (Instr.sliceAt 219 (.pointer (some ⟨w.heap.size, 0, none⟩)) none (some (.int .i64 (Lib.nDigits u : Int))) none).run Tryz.prog W = .ok (.slice (some ⟨w.heap.size, 0, none⟩) (Lib.nDigits u) 24) W := fun W => by
      rw [run_sliceAt_array_h W 219 ⟨w.heap.size, 0, none⟩ (by simp [Program.arrayLen, Program.elem, Tryz.underlying219]) .i64 (Lib.nDigits u : Int) (by omega) (by rw [hal]; omega)]
      go_simp
    have hH0 := Lib.holds_zero0 w 219 (Lib.nDigits u) (by omega)
    have hfmt := Tryz.internal_strconv_formatBase10 w.heap.size 0 24 u (Array.replicate (Lib.nDigits u) 0) (w.alloc (.cells Lib.zeros24 219)) hH0 (by rw [Array.size_replicate]; exact Lib.lt_pow_nDigits u) hu64 (by rw [Array.size_replicate]; omega)
    rw [Array.size_replicate] at hfmt
    have hdig := Tryz.internal_strconv_numDigits u hu1 hu64 (w.alloc (.cells Lib.zeros24 219)) (htab _ ((Below.refl _ _).alloc hB _))
    have HH0 := Lib.hid hH0
    have HF := Lib.hid hfmt
    have HD := Lib.hid hdig
    have HT := Lib.hid htab
    clear hH0 hal htab hfmt hdig
    go_enter Tryz.func103, Tryz.ntmps103
    go_wp2_with (go_at_call 128; refine (HD.out).mono ?_; rintro e w' ⟨rfl, rfl⟩)
    go_at_call 129
    refine (HF.out).mono ?_
    rintro e w' ⟨rfl, k, v', dk, rfl, hF⟩
    have hcv : (convert 39 9 (.slice (some ⟨w.heap.size, 0, none⟩) (Lib.nDigits u) 24)).run Tryz.prog ((putRow (fun (b : UInt8) => Value.int .u8 (b.toNat : Int)) (w.alloc (.cells Lib.zeros24 219)) w.heap.size 0 dk).drewN k) = .ok (.string ⟨(Lib.decDigits u).toArray⟩) ((putRow (fun (b : UInt8) => Value.int .u8 (b.toNat : Int)) (w.alloc (.cells Lib.zeros24 219)) w.heap.size 0 dk).drewN k) := by
      have h := run_convert_bytes_back (P := Tryz.prog) ((putRow (fun (b : UInt8) => Value.int .u8 (b.toNat : Int)) (w.alloc (.cells Lib.zeros24 219)) w.heap.size 0 dk).drewN k) 39 9 5 ⟨w.heap.size, 0, none⟩ 24 (Lib.decDigits u) Tryz.underlying39 Tryz.underlying5 Tryz.underlying9 (fun j hj => by
        rw [Lib.row_is_numeral hF j hj, Lib.add_plain, World.cell?_drewN]
        exact cell?_putRow (fun (b : UInt8) => Value.int .u8 (b.toNat : Int)) _ w.heap.size 0 _ dk HH0.out (by rw [hF.size, Array.size_replicate]) j (by rw [hF.size]; rw [Lib.decDigits_length] at hj; exact hj))
      rw [Lib.decDigits_length] at h
      exact h
    have hbb := Lib.hid (below_fin w (.cells Lib.zeros24 219) dk k)
    go_wp2
    go_ret
    exact ⟨rfl, hbb.out⟩
set_option maxRecDepth 100000 in
theorem format_any (u : Nat) (hu64 : u < 18446744073709551616) (B : Nat) (w : World) (htab : Tab B w) (hB : B ≤ w.heap.size) :
    Calls Tryz.prog 77 #[.int .u64 (u : Int), .int .i64 10] w fun e w' => e = .returned (str (Lib.decDigits u)) ∧ Below w.heap.size w w' := by
  have HQ := Lib.hid (iformat_any u hu64 B w htab hB)
  clear htab hB
  go_enter Tryz.func77, Tryz.ntmps77
  go_wp2_with (go_at_call 103; refine (HQ.out).mono ?_; rintro e w' ⟨rfl, hb⟩; have HB := Lib.hid hb; clear hb)
  go_ret
  exact ⟨rfl, HB.out⟩
end Go.Proofs.YtgaoeljdlpemnaaGreatDoor.Nu
/- Contract of the iterator over the digits that a text begins with. -/
namespace Go.Proofs.YtgaoeljdlpemnaaGreatDoor.Nu
open Go.RowKit Go.Shelf Go.Number
attribute [local go_sem] Oper.semAt_some

/-- what the iterator asks of a round: the captured text's box stays -/
def KpB (B : Nat) (W W' : World) : Prop := W'.heap[B]? = W.heap[B]?
theorem KpB.cell {B : Nat} {W W' : World} (h : KpB B W W') : W'.cell? ⟨B, 0, none⟩ = W.cell? ⟨B, 0, none⟩ := by simp [World.cell?, show W'.heap[B]? = W.heap[B]? from h]
theorem kpB_t {B : Nat} {X Y Z : World} (h : KpB B X Y) (k : KpB B Y Z) : KpB B X Z := Eq.trans k h
theorem kpB_b {B : Nat} {w : World} (hn : B < w.heap.size) (W : World) (l : Nat) (o o' : Obj) (hl : w.heap.size ≤ l) (_ : W.heap[l]? = some o) (_ : o.isCells = false) (_ : o.isWalk = false) : KpB B W (W.putObj l o') :=
  World.putObj_heap_other (by omega)
theorem kpB_set {B b : Nat} (W : World) (v : Value) (h : B ≠ b) : KpB B W (W.setCell ⟨b, 0, none⟩ v) := Below.heap_setCell _ _ _ B h
theorem cell_of_box_l {W : World} {B : Nat} {v : Value} {t : TypeId} (h : W.heap[B]? = some (.cells #[v] t (0, 0))) : W.cell? ⟨B, 0, none⟩ = some v ∧ W.frozen? ⟨B, 0, none⟩ = false := by
  constructor <;> simp [World.cell?, World.frozen?, h]
theorem cell_new_l (W : World) (v : Value) (t : TypeId) : (W.alloc (.cells #[v] t)).cell? ⟨W.heap.size, 0, none⟩ = some v ∧ (W.alloc (.cells #[v] t)).frozen? ⟨W.heap.size, 0, none⟩ = false :=
  cell_of_box_l (World.alloc_heap_new W _)
theorem cell_alloc_l {W : World} {a : Addr} {v : Value} (o : Obj) (h : W.cell? a = some v) : (W.alloc o).cell? a = some v := cell_kept h (World.grownBy_alloc W o none) (fun r e => by cases e)
theorem frozen_alloc_l {W : World} {a : Addr} {v : Value} (o : Obj) (h : W.cell? a = some v) (hf : W.frozen? a = false) : (W.alloc o).frozen? a = false := (frozen_kept h (World.grownBy_alloc W o none) (fun r e => by cases e)).trans hf

set_option maxRecDepth 100000 in
set_option maxHeartbeats 2000000 in
theorem digits1_in (F : Fence) (n : Nat) (hF : F.fn 141) (hro : F.round = none) (hn : 1 ≤ n) (l Bn : Nat) (t : Tx) (ht : t.length ≤ 1000000000000) (J Jx : List (Fin 10) → World → Prop)
    (hY : ∀ pre (x : Fin 10) W, J pre W → pre.length < t.length → YieldAt F (n - 1) Tryz.prog l #[.int .u64 (x.1 : Int)] W fun e W' =>
      (e = .returned (.bool true) ∧ J (pre ++ [x]) W' ∧ KpB Bn W W') ∨ (e = .returned (.bool false) ∧ Jx (pre ++ [x]) W'))
    (W : World) (hBn : W.cell? ⟨Bn, 0, none⟩ = some (str t)) (h0 : J [] W) :
    CallsIn F n Tryz.prog 141 #[.func (.yield l) #[] #[], .pointer (some ⟨Bn, 0, none⟩)] W fun e W' => (∃ v, e = .returned v) ∧
      ((∃ ys, ys = lead t ∧ J ys W') ∨ (∃ pre, True ∧ Jx pre W')) := by
  have hsz : (tx t).size = t.length := by simp [ByteArray.size]
  have hbz : (t.length : Int) ≤ 1000000000000 := by omega
  clear ht
  refine callsIn_of_wp Tryz.func141 rfl hF ?_ hro
  simp only [Tryz.ntmps141, List.size_toArray, List.length_cons, List.length_nil, Nat.reduceAdd, Nat.reduceSub, Array.replicate_succ, Array.replicate_zero, List.push_toArray, List.append_toArray, List.nil_append, List.cons_append]
  gi_wp2
  gi_loopw [7] (fun i wr => ∃ k : Nat, k ≤ t.length ∧ i = .int .i64 k ∧ (t.take k).all dgt = true ∧ J ((t.take k).map dv) wr ∧ KpB Bn W wr)
    (fun i _ => t.length - (intOf i).toNat)
  case atStart => exact ⟨0, Nat.zero_le _, rfl, rfl, h0, rfl⟩
  case round =>
    obtain ⟨k, hk, rfl, hA, hJs, hnx⟩ := hrel
    have HA := Lib.hid hA
    have HX := Lib.hid hnx
    have hcb : wr.cell? ⟨Bn, 0, none⟩ = some (str t) := hnx.cell.trans hBn
    clear hA hnx
    by_cases hlt : (k : Int) < (t.length : Int)
    · have hkl : k < t.length := by omega
      have hk2 : k < (tx t).size := by omega
      have hk0 : (0 : Int) ≤ (k : Int) := Int.natCast_nonneg _
      cases hd : dgt t[k]
      · have HE := Lib.hid (lead_at hkl HA.out hd)
        have HD := dgt_not hd
        clear hd
        have two : (decide ((((tx t)[k]'hk2).toNat : Int) < 48) = true) ∨ (decide ((((tx t)[k]'hk2).toNat : Int) < 48) = false ∧ decide ((57 : Int) < (((tx t)[k]'hk2).toNat : Int)) = true) := by
          rcases (show (((tx t)[k]'hk2).toNat : Int) < 48 ∨ (57 : Int) < (((tx t)[k]'hk2).toNat : Int) from HD) with h1 | h1
          · exact .inl (decide_eq_true h1)
          · exact .inr ⟨decide_eq_false (by omega), decide_eq_true h1⟩
        clear HD
        rcases two with h1 | ⟨h1, h2⟩
        all_goals
          gi_wp2
          refine ⟨fun _ h => (by cases h), ?_⟩
          gi_wp2
          refine bodyPost_ret (results_none rfl _ _ _) rfl ?_
          exact ⟨⟨_, rfl⟩, .inl ⟨_, HE.out.symm, hJs⟩⟩
      · obtain ⟨fn, tmps, assign, body, hy, hR⟩ := hY _ (dv t[k]) wr hJs (by rw [List.length_map, List.length_take]; omega)
        rw [show ((dv t[k]).1 : Int) = (((tx t)[k]'hk2).toNat : Int) - 48 from dv_int hd] at hy
        have HT := Lib.hid (take_all hkl HA.out hd)
        obtain ⟨h1, h2⟩ := (show (48 : Int) ≤ (((tx t)[k]'hk2).toNat : Int) ∧ (((tx t)[k]'hk2).toNat : Int) ≤ 57 from dgt_le hd)
        have h3 : decide ((((tx t)[k]'hk2).toNat : Int) < 48) = false := decide_eq_false (by omega)
        have h4 : decide ((57 : Int) < (((tx t)[k]'hk2).toNat : Int)) = false := decide_eq_false (by omega)
        clear hd
        gi_wp2
        refine hR.mono ?_
        rintro e W3 (⟨rfl, hJ3, hk3⟩ | ⟨rfl, hJx3⟩)
        · gi_wp2
          go_roundw
          case rel => exact ⟨k + 1, by omega, by go_num, HT.out, by rw [take_dv hkl]; exact hJ3, kpB_t HX.out hk3⟩
          case measure => simp [intOf]; omega
        · gi_wp2
          refine bodyPost_ret (results_none rfl _ _ _) rfl ?_
          exact ⟨⟨_, rfl⟩, .inr ⟨_, trivial, hJx3⟩⟩
    · obtain rfl : k = t.length := by omega
      rw [List.take_length] at HA hJs
      rw [← lead_all HA.out] at hJs
      gi_wp2
      go_end0
      exact ⟨⟨_, rfl⟩, .inl hJs⟩
theorem digits_in (F : Fence) (n : Nat) (hF : F.fn 123) (hro : F.round = none) (t : Tx) (w : World) :
    CallsIn F n Tryz.prog 123 #[str t] w fun e w' => e = .returned (.func (.func 141) #[] #[.pointer (some ⟨w.heap.size, 0, none⟩)]) ∧ w' = w.alloc (.cells #[str t] 9) := by
  refine callsIn_of_wp Tryz.func123 rfl hF ?_ hro
  simp only [Tryz.ntmps123, List.size_toArray, List.length_cons, List.length_nil, Nat.reduceAdd, Nat.reduceSub, Array.replicate_succ, Array.replicate_zero, List.push_toArray, List.append_toArray, List.nil_append, List.cons_append]
  gi_wp2
  go_ret
  exact ⟨rfl, rfl⟩
theorem digits_stops (F : Fence) (n : Nat) (hF : F.fn 141) (hro : F.round = none) (hn : 1 ≤ n) (Bn : Nat) (t : Tx) (ht : t.length ≤ 1000000000000) (w : World) (hBn : Bn < w.heap.size) (hc : w.cell? ⟨Bn, 0, none⟩ = some (str t)) :
    SeqStopsK F n Tryz.prog 141 #[.pointer (some ⟨Bn, 0, none⟩)] (fun x : Fin 10 => #[Value.int .u64 (x.1 : Int)]) (KpB Bn) (fun ys => ys = lead t) (fun _ => True) t.length w := fun l J Jx W hW _ _ hY h0 =>
  digits1_in F n hF hro hn l Bn t ht J Jx hY W ((hW.cell (p := ⟨Bn, 0, none⟩) hBn).trans hc) h0
end Go.Proofs.YtgaoeljdlpemnaaGreatDoor.Nu
namespace Go.Proofs.YtgaoeljdlpemnaaGreatDoor.Nu
open Go.RowKit Go.Shelf Go.Number
attribute [local go_sem] Oper.semAt_some

theorem cell_other (W : World) {a b : Nat} {v : Value} (h : a ≠ b) : (W.setCell ⟨a, 0, none⟩ v).cell? ⟨b, 0, none⟩ = W.cell? ⟨b, 0, none⟩ := World.cell?_setCell_other _ _ _ _ (by intro e; exact h (by cases e; rfl))
set_option maxRecDepth 100000 in
set_option maxHeartbeats 2000000 in
theorem areDigits_any (t : Tx) (ht : t.length ≤ 1000000000000) (w : World) : Calls Tryz.prog 133 #[str t] w fun e w' => e = .returned (.bool (t.all dgt)) ∧ Below w.heap.size w w' := by
  have hsz : (tx t).size = t.length := by simp [ByteArray.size]
  rw [← lead_full t]
  refine (callsIn_wide (n := 5)).1 ?_
  refine callsIn_of_wp_marks Tryz.func133 rfl trivial ?_ rfl
  simp only [Tryz.ntmps133, List.size_toArray, List.length_cons, List.length_nil, Nat.reduceAdd, Nat.reduceSub, Array.replicate_succ, Array.replicate_zero, List.push_toArray, List.append_toArray, List.nil_append, List.cons_append]
  gi_wp2_with (refine ⟨trivial, ?_⟩; gi_at_call 123; refine (digits_in Fence.wide _ trivial rfl t _).mono ?_; rintro e w' ⟨rfl, rfl⟩)
  have c0 := cell_new_l w (.int .i64 0) 3
  have c1 := cell_new_l (w.alloc (.cells #[.int .i64 0] 3)) (str t) 9
  simp only [World.size_alloc] at c1
  have hB0 : Below w.heap.size w ((w.alloc (.cells #[.int .i64 0] 3)).alloc (.cells #[str t] 9)) := ((Below.refl _ w).alloc (Nat.le_refl _) _).alloc (by simp) _
  refine wpIn_rangeFunc_ownF rfl (by omega) (gf := 141) (lb := #[.pointer (some ⟨w.heap.size + 1, 0, none⟩)]) rfl trivial (enters_of Tryz.func141 (by kernel_rfl) rfl)
    (digits_stops Fence.wide _ trivial rfl (by omega) (w.heap.size + 1) t ht _ (by simp) c1.1) kpB_t (kpB_b (by simp)) (Below.refl _ _) (fun _ => rfl)
    (fun pre W => (W.cell? ⟨w.heap.size, 0, none⟩ = some (.int .i64 (pre.length : Int)) ∧ W.frozen? ⟨w.heap.size, 0, none⟩ = false) ∧ Below w.heap.size w W)
    (fun _ _ _ => False)
    (OwnFrom.and (Own.from (fun s A B row hs hg hr => ⟨cell_kept hs.1 hg hr, (frozen_kept hs.1 hg hr).trans hs.2⟩) _) (ownFrom_below (Nat.le_refl _) (by simp; omega)))
    (fun _ _ _ _ _ hs _ _ => hs)
    ⟨⟨cell_alloc_l _ c0.1, frozen_alloc_l _ c0.1 c0.2⟩, hB0⟩
    (fun x => { tmps := #[str t, undef, .bool false, .pointer (some ⟨w.heap.size, 0, none⟩), str t, .func (.func 141) #[] #[.pointer (some ⟨w.heap.size + 1, 0, none⟩)], .int .u64 (x.1 : Int), undef, undef, undef, undef, undef, undef], defers := [] }) ?assign ?body ?done ?stop
  case assign =>
    intro l x W K hK
    gi_wp2
    simp
    exact hK
  case body =>
    rintro l pre x W ⟨⟨hc, hf⟩, hB⟩ hlen
    have hb1 : (pre.length : Int) < 1000000000000 := by omega
    have hb0 : (0 : Int) ≤ (pre.length : Int) := Int.natCast_nonneg _
    gi_wp2
    exact ⟨KeepsOthers.setCell _ _ _, kpB_set _ _ (by omega), ⟨by rw [List.length_append, List.length_singleton]; exact World.cell?_setCell_same' _ _ _ (by rw [hc]; rfl), by rw [World.frozen?_setCell]; exact hf⟩, hB.setCell (p := ⟨w.heap.size, 0, none⟩) (Nat.le_refl _) _⟩
  case done =>
    rintro D ys W hD rfl ⟨⟨hc, _⟩, hB⟩ hK
    gi_wp2
    refine ⟨by simp, .inl ⟨_, _, rfl, run_takeDeferred hK, ?_⟩⟩
    have hq : (((lead t).length : Int) == (t.length : Int)) = decide ((lead t).length = t.length) := by rw [Bool.eq_iff_iff]; simp; omega
    exact ⟨_, results_tmp rfl _ _ _, by show Ending.returned (.bool (((lead t).length : Int) == (t.length : Int))) = _; rw [hq], hB.trans (belowK_b (w := w) (Nat.le_refl _) W D _ _ (by simp at hD; omega) hK rfl rfl)⟩
  case stop =>
    rintro D c pre W _ _ h _
    exact h.elim
theorem sum_small {pre : List (Fin 10)} (h : pre.length < 19) : ((sumD pre : Nat) : Int) < 1000000000000000000 := by
  have h1 := sumD_lt pre
  have h2 : 10 ^ pre.length ≤ 10 ^ 18 := Nat.pow_le_pow_right (by decide) (by omega)
  have e : (10 : Nat) ^ 18 = 1000000000000000000 := by decide
  omega
set_option maxRecDepth 100000 in
set_option maxHeartbeats 2000000 in
theorem value_any (t : Tx) (ha : t.all dgt = true) (ht : t.length ≤ 19) (w : World) : Calls Tryz.prog 134 #[str t] w fun e w' => e = .returned (.int .u64 (val t : Int)) ∧ Below w.heap.size w w' := by
  rw [← sum_lead ha]
  clear ha
  refine (callsIn_wide (n := 5)).1 ?_
  refine callsIn_of_wp_marks Tryz.func134 rfl trivial ?_ rfl
  simp only [Tryz.ntmps134, List.size_toArray, List.length_cons, List.length_nil, Nat.reduceAdd, Nat.reduceSub, Array.replicate_succ, Array.replicate_zero, List.push_toArray, List.append_toArray, List.nil_append, List.cons_append]
  gi_wp2_with (refine ⟨trivial, ?_⟩; gi_at_call 123; refine (digits_in Fence.wide _ trivial rfl t _).mono ?_; rintro e w' ⟨rfl, rfl⟩)
  have c0 := cell_new_l w (.int .u64 0) 22
  have c1 := cell_new_l (w.alloc (.cells #[.int .u64 0] 22)) (str t) 9
  simp only [World.size_alloc] at c1
  have hB0 : Below w.heap.size w ((w.alloc (.cells #[.int .u64 0] 22)).alloc (.cells #[str t] 9)) := ((Below.refl _ w).alloc (Nat.le_refl _) _).alloc (by simp) _
  refine wpIn_rangeFunc_ownF rfl (by omega) (gf := 141) (lb := #[.pointer (some ⟨w.heap.size + 1, 0, none⟩)]) rfl trivial (enters_of Tryz.func141 (by kernel_rfl) rfl)
    (digits_stops Fence.wide _ trivial rfl (by omega) (w.heap.size + 1) t (by omega) _ (by simp) c1.1) kpB_t (kpB_b (by simp)) (Below.refl _ _) (fun _ => rfl)
    (fun pre W => (W.cell? ⟨w.heap.size, 0, none⟩ = some (.int .u64 (sumD pre : Int)) ∧ W.frozen? ⟨w.heap.size, 0, none⟩ = false) ∧ Below w.heap.size w W)
    (fun _ _ _ => False)
    (OwnFrom.and (Own.from (fun s A B row hs hg hr => ⟨cell_kept hs.1 hg hr, (frozen_kept hs.1 hg hr).trans hs.2⟩) _) (ownFrom_below (Nat.le_refl _) (by simp; omega)))
    (fun _ _ _ _ _ hs _ _ => hs)
    ⟨⟨cell_alloc_l _ c0.1, frozen_alloc_l _ c0.1 c0.2⟩, hB0⟩
    (fun x => { tmps := #[str t, undef, .int .u64 0, .pointer (some ⟨w.heap.size, 0, none⟩), .int .u64 (x.1 : Int), str t, .func (.func 141) #[] #[.pointer (some ⟨w.heap.size + 1, 0, none⟩)], .int .u64 (x.1 : Int), undef, undef, undef, undef, undef], defers := [] }) ?assign ?body ?done ?stop
  case assign =>
    intro l x W K hK
    gi_wp2
    exact hK
  case body =>
    rintro l pre x W ⟨⟨hc, hf⟩, hB⟩ hlen
    have hb1 := sum_small (pre := pre) (by omega)
    have hb0 : (0 : Int) ≤ ((sumD pre : Nat) : Int) := Int.natCast_nonneg _
    have hx0 : (0 : Int) ≤ ((x.1 : Nat) : Int) := Int.natCast_nonneg _
    have hx1 : ((x.1 : Nat) : Int) ≤ 9 := by have := x.2; omega
    gi_wp2
    exact ⟨KeepsOthers.setCell _ _ _, kpB_set _ _ (by omega), ⟨by rw [sumD_snoc]; exact World.cell?_setCell_same' _ _ _ (by rw [hc]; rfl), by rw [World.frozen?_setCell]; exact hf⟩, hB.setCell (p := ⟨w.heap.size, 0, none⟩) (Nat.le_refl _) _⟩
  case done =>
    rintro D ys W hD rfl ⟨⟨hc, _⟩, hB⟩ hK
    gi_wp2
    refine ⟨by simp, .inl ⟨_, _, rfl, run_takeDeferred hK, ?_⟩⟩
    exact ⟨_, results_tmp rfl _ _ _, rfl, hB.trans (belowK_b (w := w) (Nat.le_refl _) W D _ _ (by simp at hD; omega) hK rfl rfl)⟩
  case stop =>
    rintro D c pre W _ _ h _
    exact h.elim
theorem remainder_in (F : Fence) (n : Nat) (hF : F.fn 122) (hro : F.round = none) (w : World) :
    CallsIn F n Tryz.prog 122 #[] w fun e w' => e = .returned (.func (.func 140) #[] #[.pointer (some ⟨w.heap.size, 0, none⟩)]) ∧ w' = w.alloc (.cells #[.int .u64 0] 22) := by
  refine callsIn_of_wp Tryz.func122 rfl hF ?_ hro
  simp only [Tryz.ntmps122, List.size_toArray, List.length_nil, Nat.reduceSub, Array.replicate_succ, Array.replicate_zero, List.push_toArray, List.append_toArray, List.nil_append, List.cons_append]
  gi_wp2
  go_ret
  exact ⟨rfl, rfl⟩
theorem remainder1_in (F : Fence) (n : Nat) (hF : F.fn 140) (hro : F.round = none) (R r d : Nat) (hr : r < 7) (hd : d ≤ 9) (w : World) (hc : w.cell? ⟨R, 0, none⟩ = some (.int .u64 (r : Int))) (hf : w.frozen? ⟨R, 0, none⟩ = false) :
    CallsIn F n Tryz.prog 140 #[.int .u64 (d : Int), .pointer (some ⟨R, 0, none⟩)] w fun e w' => e = .returned (.int .u64 (((r * 10 + d) % 7 : Nat) : Int)) ∧ w' = w.setCell ⟨R, 0, none⟩ (.int .u64 (((r * 10 + d) % 7 : Nat) : Int)) := by
  refine callsIn_of_wp Tryz.func140 rfl hF ?_ hro
  simp only [Tryz.ntmps140, List.size_toArray, List.length_cons, List.length_nil, Nat.reduceAdd, Nat.reduceSub, Array.replicate_succ, Array.replicate_zero, List.push_toArray, List.append_toArray, List.nil_append, List.cons_append]
  have h0 : (0 : Int) ≤ (r : Int) := Int.natCast_nonneg _
  have h1 : (r : Int) < 7 := by omega
  have h2 : (0 : Int) ≤ (d : Int) := Int.natCast_nonneg _
  have h3 : (d : Int) ≤ 9 := by omega
  have hs : ∀ v, (w.setCell ⟨R, 0, none⟩ v).cell? ⟨R, 0, none⟩ = some v := fun v => World.cell?_setCell_same' _ _ _ (by rw [hc]; rfl)
  gi_wp2
  go_ret
  exact ⟨rfl, rfl⟩
set_option maxRecDepth 100000 in
set_option maxHeartbeats 2000000 in
theorem check_any (t : Tx) (ha : t.all dgt = true) (ht : t.length ≤ 1000000000000) (w : World) : Calls Tryz.prog 95 #[str t] w fun e w' => e = .returned (.int .u64 (chk t : Int)) ∧ Below w.heap.size w w' := by
  rw [← rem_lead ha]
  clear ha
  refine (callsIn_wide (n := 5)).1 ?_
  refine callsIn_of_wp_marks Tryz.func95 rfl trivial ?_ rfl
  simp only [Tryz.ntmps95, List.size_toArray, List.length_cons, List.length_nil, Nat.reduceAdd, Nat.reduceSub, Array.replicate_succ, Array.replicate_zero, List.push_toArray, List.append_toArray, List.nil_append, List.cons_append]
  gi_wp2_with first
    | (refine ⟨trivial, ?_⟩; gi_at_call 122; refine (remainder_in Fence.wide _ trivial rfl _).mono ?_; rintro e w' ⟨rfl, rfl⟩)
    | (refine ⟨trivial, ?_⟩; gi_at_call 123; refine (digits_in Fence.wide _ trivial rfl t _).mono ?_; rintro e w' ⟨rfl, rfl⟩)
  have c0 := cell_new_l w (.int .u64 0) 22
  have c1 := cell_new_l (w.alloc (.cells #[.int .u64 0] 22)) (.int .u64 0) 22
  have c2 := cell_new_l ((w.alloc (.cells #[.int .u64 0] 22)).alloc (.cells #[.int .u64 0] 22)) (.func (.func 140) #[] #[.pointer (some ⟨w.heap.size + 1, 0, none⟩)]) 212
  have c3 := cell_new_l (((w.alloc (.cells #[.int .u64 0] 22)).alloc (.cells #[.int .u64 0] 22)).alloc (.cells #[.func (.func 140) #[] #[.pointer (some ⟨w.heap.size + 1, 0, none⟩)]] 212)) (str t) 9
  simp only [World.size_alloc] at c1 c2 c3
  have hB0 : Below w.heap.size w ((((w.alloc (.cells #[.int .u64 0] 22)).alloc (.cells #[.int .u64 0] 22)).alloc (.cells #[.func (.func 140) #[] #[.pointer (some ⟨w.heap.size + 1, 0, none⟩)]] 212)).alloc (.cells #[str t] 9)) := ((((Below.refl _ w).alloc (Nat.le_refl _) _).alloc (by simp) _).alloc (by simp; omega) _).alloc (by simp; omega) _
  refine wpIn_rangeFunc_ownF rfl (by omega) (gf := 141) (lb := #[.pointer (some ⟨w.heap.size + 1 + 1 + 1, 0, none⟩)]) rfl trivial (enters_of Tryz.func141 (by kernel_rfl) rfl)
    (digits_stops Fence.wide _ trivial rfl (by omega) (w.heap.size + 1 + 1 + 1) t ht _ (by simp) c3.1) kpB_t (kpB_b (by simp)) (Below.refl _ _) (fun _ => rfl)
    (fun pre W => ((W.cell? ⟨w.heap.size, 0, none⟩ = some (.int .u64 (remD pre : Int)) ∧ W.frozen? ⟨w.heap.size, 0, none⟩ = false) ∧ (W.cell? ⟨w.heap.size + 1, 0, none⟩ = some (.int .u64 (remD pre : Int)) ∧ W.frozen? ⟨w.heap.size + 1, 0, none⟩ = false) ∧ W.cell? ⟨w.heap.size + 1 + 1, 0, none⟩ = some (.func (.func 140) #[] #[.pointer (some ⟨w.heap.size + 1, 0, none⟩)])) ∧ Below w.heap.size w W)
    (fun _ _ _ => False)
    (OwnFrom.and (Own.from (fun s A B row hs hg hr => ⟨⟨cell_kept hs.1.1 hg hr, (frozen_kept hs.1.1 hg hr).trans hs.1.2⟩, ⟨cell_kept hs.2.1.1 hg hr, (frozen_kept hs.2.1.1 hg hr).trans hs.2.1.2⟩, cell_kept hs.2.2 hg hr⟩) _) (ownFrom_below (Nat.le_refl _) (by simp; omega)))
    (fun _ _ _ _ _ hs _ _ => hs)
    ⟨⟨⟨cell_alloc_l _ (cell_alloc_l _ (cell_alloc_l _ c0.1)), frozen_alloc_l _ (cell_alloc_l _ (cell_alloc_l _ c0.1)) (frozen_alloc_l _ (cell_alloc_l _ c0.1) (frozen_alloc_l _ c0.1 c0.2))⟩,
      ⟨cell_alloc_l _ (cell_alloc_l _ c1.1), frozen_alloc_l _ (cell_alloc_l _ c1.1) (frozen_alloc_l _ c1.1 c1.2)⟩, cell_alloc_l _ c2.1⟩, hB0⟩
    (fun x => { tmps := #[str t, undef, .int .u64 0, .pointer (some ⟨w.heap.size, 0, none⟩), .pointer (some ⟨w.heap.size + 1 + 1, 0, none⟩), .int .u64 (x.1 : Int), .func (.func 140) #[] #[.pointer (some ⟨w.heap.size + 1, 0, none⟩)], str t, .func (.func 141) #[] #[.pointer (some ⟨w.heap.size + 1 + 1 + 1, 0, none⟩)], .int .u64 (x.1 : Int), undef, undef, undef, undef], defers := [] }) ?assign ?body ?done ?stop
  case assign =>
    intro l x W K hK
    gi_wp2
    exact hK
  case body =>
    rintro l pre x W ⟨⟨⟨hc, hf⟩, ⟨hr, hg⟩, ht⟩, hB⟩ hlen
    have hs1 : ∀ v, (W.setCell ⟨w.heap.size + 1, 0, none⟩ v).cell? ⟨w.heap.size, 0, none⟩ = some (.int .u64 (remD pre : Int)) := fun v => by rw [cell_other _ (by omega)]; exact hc
    have hs2 : ∀ v, (W.setCell ⟨w.heap.size + 1, 0, none⟩ v).frozen? ⟨w.heap.size, 0, none⟩ = false := fun v => by rw [World.frozen?_setCell]; exact hf
    have HC := Lib.hid hc
    have hR := fun n => remainder1_in Fence.wide n trivial rfl (w.heap.size + 1) (remD pre) x.1 (remD_lt _) (by have := x.2; omega) W hr hg
    rw [← remD_snoc] at hR
    have HR := Lib.hid hR
    clear hc hR
    gi_wp2_with (refine ⟨trivial, ?_⟩; gi_at_call 140; refine (CallsIn.inRound l (HR.out _)).mono ?_; rintro e w' ⟨rfl, rfl⟩)
    exact ⟨(KeepsOthers.setCell _ _ _).trans (KeepsOthers.setCell _ _ _), kpB_t (kpB_set _ _ (by omega)) (kpB_set _ _ (by omega)), ⟨⟨World.cell?_setCell_same' _ _ _ (by rw [hs1]; rfl), by rw [World.frozen?_setCell]; exact hs2 _⟩, ⟨by rw [cell_other _ (by omega)]; exact World.cell?_setCell_same' _ _ _ (by rw [hr]; rfl), by rw [World.frozen?_setCell, World.frozen?_setCell]; exact hg⟩, by rw [cell_other _ (by omega), cell_other _ (by omega)]; exact ht⟩, (hB.setCell (p := ⟨w.heap.size + 1, 0, none⟩) (by simp) _).setCell (p := ⟨w.heap.size, 0, none⟩) (Nat.le_refl _) _⟩
  case done =>
    rintro D ys W hD rfl ⟨⟨⟨hc, _⟩, _⟩, hB⟩ hK
    gi_wp2
    refine ⟨by simp, .inl ⟨_, _, rfl, run_takeDeferred hK, ?_⟩⟩
    exact ⟨_, results_tmp rfl _ _ _, rfl, hB.trans (belowK_b (w := w) (Nat.le_refl _) W D _ _ (by simp at hD; omega) hK rfl rfl)⟩
  case stop =>
    rintro D c pre W _ _ h _
    exact h.elim
end Go.Proofs.YtgaoeljdlpemnaaGreatDoor.Nu
