/- Contract of the iterator over the digits that a text begins with. -/
import Derived.RangeFuncNested
import Derived.RangeFuncBound
import Derived.RangeFuncCalls
import Derived.RangeFuncLeaves
import Derived.Shelf.Abstract
import Derived.Shelf.RegionOpen
import Derived.WalkKit
import Derived.OwnWalkIn
import Derived.TacticsInMore
import Derived.LoopNIn
import Derived.LoopIn
import Derived.Test.YtjlifjgljejabaaGreatDoorNuF
namespace Go.Proofs.YtjlifjgljejabaaGreatDoor.Nu
open Go.RowKit Go.Shelf Go.Number
attribute [local go_sem] Oper.semAt_some

/-- what the iterator asks of a round: the captured text's box stays -/
def KpB (B : Nat) (W W' : World) : Prop := W'.heap[B]? = W.heap[B]?
theorem KpB.cell {B : Nat} {W W' : World} (h : KpB B W W') : W'.cell? ⟨B, 0, none⟩ = W.cell? ⟨B, 0, none⟩ := by simp [World.cell?, show W'.heap[B]? = W.heap[B]? from h]
theorem kpB_t {B : Nat} {X Y Z : World} (h : KpB B X Y) (k : KpB B Y Z) : KpB B X Z := Eq.trans k h
theorem kpB_b {B : Nat} {w : World} (hn : B < w.heap.size) (W : World) (l : Nat) (o o' : Obj) (hl : w.heap.size ≤ l) (_ : W.heap[l]? = some o) (_ : o.isCells = false) (_ : o.isWalk = false) : KpB B W (W.putObj l o') :=
  World.putObj_heap_other (by omega)
theorem kpB_set {B b : Nat} (W : World) (v : Value) (h : B ≠ b) : KpB B W (W.setCell ⟨b, 0, none⟩ v) := Below.heap_setCell _ _ _ B h
theorem cell_of_box_l {W : World} {B : Nat} {v : Value} {t : TypeId} (h : W.heap[B]? = some (.cells #[v] t (0, 0))) : W.cell? ⟨B, 0, none⟩ = some v ∧ W.frozen? ⟨B, 0, none⟩ = false := by
  constructor <;> simp [World.cell?, World.frozen?, h]
theorem cell_new_l (W : World) (v : Value) (t : TypeId) : (W.alloc (.cells #[v] t)).cell? ⟨W.heap.size, 0, none⟩ = some v ∧ (W.alloc (.cells #[v] t)).frozen? ⟨W.heap.size, 0, none⟩ = false :=
  cell_of_box_l (World.alloc_heap_new W _)
theorem cell_alloc_l {W : World} {a : Addr} {v : Value} (o : Obj) (h : W.cell? a = some v) : (W.alloc o).cell? a = some v := cell_kept h (World.grownBy_alloc W o none) (fun r e => by cases e)
theorem frozen_alloc_l {W : World} {a : Addr} {v : Value} (o : Obj) (h : W.cell? a = some v) (hf : W.frozen? a = false) : (W.alloc o).frozen? a = false := (frozen_kept h (World.grownBy_alloc W o none) (fun r e => by cases e)).trans hf

set_option maxRecDepth 100000 in
set_option maxHeartbeats 2000000 in
theorem digits1_in (F : Fence) (n : Nat) (hF : F.fn 126) (hro : F.round = none) (hn : 1 ≤ n) (l Bn : Nat) (t : Tx) (ht : t.length ≤ 1000000000000) (J Jx : List (Fin 10) → World → Prop)
    (hY : ∀ pre (x : Fin 10) W, J pre W → pre.length < t.length → YieldAt F (n - 1) Tryz.prog l #[.int .u64 (x.1 : Int)] W fun e W' =>
      (e = .returned (.bool true) ∧ J (pre ++ [x]) W' ∧ KpB Bn W W') ∨ (e = .returned (.bool false) ∧ Jx (pre ++ [x]) W'))
    (W : World) (hBn : W.cell? ⟨Bn, 0, none⟩ = some (str t)) (h0 : J [] W) :
    CallsIn F n Tryz.prog 126 #[.func (.yield l) #[] #[], .pointer (some ⟨Bn, 0, none⟩)] W fun e W' => (∃ v, e = .returned v) ∧
      ((∃ ys, ys = lead t ∧ J ys W') ∨ (∃ pre, True ∧ Jx pre W')) := by
  have hsz : (tx t).size = t.length := by simp [ByteArray.size]
  have hbz : (t.length : Int) ≤ 1000000000000 := by omega
  clear ht
  refine callsIn_of_wp Tryz.func126 rfl hF ?_ hro
  simp only [Tryz.ntmps126, List.size_toArray, List.length_cons, List.length_nil, Nat.reduceAdd, Nat.reduceSub, Array.replicate_succ, Array.replicate_zero, List.push_toArray, List.append_toArray, List.nil_append, List.cons_append]
  gi_wp2
  gi_loopw [7] (fun i wr => ∃ k : Nat, k ≤ t.length ∧ i = .int .i64 k ∧ (t.take k).all dgt = true ∧ J ((t.take k).map dv) wr ∧ KpB Bn W wr)
    (fun i _ => t.length - (intOf i).toNat)
  case atStart => exact ⟨0, Nat.zero_le _, rfl, rfl, h0, rfl⟩
  case round =>
    obtain ⟨k, hk, rfl, hA, hJs, hnx⟩ := hrel
    have HA := Lib.hid hA
    have HX := Lib.hid hnx
    have hcb : wr.cell? ⟨Bn, 0, none⟩ = some (str t) := hnx.cell.trans hBn
    clear hA hnx
    by_cases hlt : (k : Int) < (t.length : Int)
    · have hkl : k < t.length := by omega
      have hk2 : k < (tx t).size := by omega
      have hk0 : (0 : Int) ≤ (k : Int) := Int.natCast_nonneg _
      cases hd : dgt t[k]
      · have HE := Lib.hid (lead_at hkl HA.out hd)
        have HD := dgt_not hd
        clear hd
        have two : (decide ((((tx t)[k]'hk2).toNat : Int) < 48) = true) ∨ (decide ((((tx t)[k]'hk2).toNat : Int) < 48) = false ∧ decide ((57 : Int) < (((tx t)[k]'hk2).toNat : Int)) = true) := by
          rcases (show (((tx t)[k]'hk2).toNat : Int) < 48 ∨ (57 : Int) < (((tx t)[k]'hk2).toNat : Int) from HD) with h1 | h1
          · exact .inl (decide_eq_true h1)
          · exact .inr ⟨decide_eq_false (by omega), decide_eq_true h1⟩
        clear HD
        rcases two with h1 | ⟨h1, h2⟩
        all_goals
          gi_wp2
          refine ⟨fun _ h => (by cases h), ?_⟩
          gi_wp2
          refine bodyPost_ret (results_none rfl _ _ _) rfl ?_
          exact ⟨⟨_, rfl⟩, .inl ⟨_, HE.out.symm, hJs⟩⟩
      · obtain ⟨fn, tmps, assign, body, hy, hR⟩ := hY _ (dv t[k]) wr hJs (by rw [List.length_map, List.length_take]; omega)
        rw [show ((dv t[k]).1 : Int) = (((tx t)[k]'hk2).toNat : Int) - 48 from dv_int hd] at hy
        have HT := Lib.hid (take_all hkl HA.out hd)
        obtain ⟨h1, h2⟩ := (show (48 : Int) ≤ (((tx t)[k]'hk2).toNat : Int) ∧ (((tx t)[k]'hk2).toNat : Int) ≤ 57 from dgt_le hd)
        have h3 : decide ((((tx t)[k]'hk2).toNat : Int) < 48) = false := decide_eq_false (by omega)
        have h4 : decide ((57 : Int) < (((tx t)[k]'hk2).toNat : Int)) = false := decide_eq_false (by omega)
        clear hd
        gi_wp2
        refine hR.mono ?_
        rintro e W3 (⟨rfl, hJ3, hk3⟩ | ⟨rfl, hJx3⟩)
        · gi_wp2
          go_roundw
          case rel => exact ⟨k + 1, by omega, by go_num, HT.out, by rw [take_dv hkl]; exact hJ3, kpB_t HX.out hk3⟩
          case measure => simp [intOf]; omega
        · gi_wp2
          refine bodyPost_ret (results_none rfl _ _ _) rfl ?_
          exact ⟨⟨_, rfl⟩, .inr ⟨_, trivial, hJx3⟩⟩
    · obtain rfl : k = t.length := by omega
      rw [List.take_length] at HA hJs
      rw [← lead_all HA.out] at hJs
      gi_wp2
      go_end0
      exact ⟨⟨_, rfl⟩, .inl hJs⟩
theorem digits_in (F : Fence) (n : Nat) (hF : F.fn 109) (hro : F.round = none) (t : Tx) (w : World) :
    CallsIn F n Tryz.prog 109 #[str t] w fun e w' => e = .returned (.func (.func 126) #[] #[.pointer (some ⟨w.heap.size, 0, none⟩)]) ∧ w' = w.alloc (.cells #[str t] 9) := by
  refine callsIn_of_wp Tryz.func109 rfl hF ?_ hro
  simp only [Tryz.ntmps109, List.size_toArray, List.length_cons, List.length_nil, Nat.reduceAdd, Nat.reduceSub, Array.replicate_succ, Array.replicate_zero, List.push_toArray, List.append_toArray, List.nil_append, List.cons_append]
  gi_wp2
  go_ret
  exact ⟨rfl, rfl⟩
theorem digits_stops (F : Fence) (n : Nat) (hF : F.fn 126) (hro : F.round = none) (hn : 1 ≤ n) (Bn : Nat) (t : Tx) (ht : t.length ≤ 1000000000000) (w : World) (hBn : Bn < w.heap.size) (hc : w.cell? ⟨Bn, 0, none⟩ = some (str t)) :
    SeqStopsK F n Tryz.prog 126 #[.pointer (some ⟨Bn, 0, none⟩)] (fun x : Fin 10 => #[Value.int .u64 (x.1 : Int)]) (KpB Bn) (fun ys => ys = lead t) (fun _ => True) t.length w := fun l J Jx W hW _ _ hY h0 =>
  digits1_in F n hF hro hn l Bn t ht J Jx hY W ((hW.cell (p := ⟨Bn, 0, none⟩) hBn).trans hc) h0
end Go.Proofs.YtjlifjgljejabaaGreatDoor.Nu
