/- The walk of byRest. -/
import Derived.Test.YtpapcilffkpjjaaPrB
namespace Go.Proofs.Ytpapcilffkpjjaa
open Go.Shelf Go.RowKit Go.Lib Go.Sort Go.Stb Go.Money Go.Pror

/-- n cells of zero -/
def zI (n : Nat) : Array Value := madeCells #[.int .i64 0] n
theorem zI_eq (n : Nat) : zI n = ((List.replicate n (0 : Int)).map (Value.int .i64)).toArray := by
  unfold zI
  apply Array.toList_inj.1
  rw [toList_madeCells_one, List.map_replicate]
theorem par_int : (Try.prog.info? 3).map (fun i => (i.zero, i.size, i.bytes)) = some (some (.int .i64 0), 1, 8) := by kernel_rfl
theorem mk_ints (n : Nat) (hn : n ≤ 1000000) (w : World) : (Instr.makeSlice 81 (.int .i64 (n : Int)) (.int .i64 (n : Int))).run Try.prog w = .ok (.slice (some ⟨w.heap.size, 0, none⟩) n n) (w.alloc (.cells (zI n) 3)) :=
  run_make_row' 81 3 (.int .i64 0) 8 Try.underlying81 par_int rfl .i64 .i64 n (by omega) (by omega) w
theorem mk_i64s (n : Nat) (hn : n ≤ 1000000) (w : World) : (Instr.makeSlice 29 (.int .i64 (n : Int)) (.int .i64 (n : Int))).run Try.prog w = .ok (.slice (some ⟨w.heap.size, 0, none⟩) n n) (w.alloc (.cells (zI n) 2)) :=
  run_make_row' 29 2 (.int .i64 0) 8 Try.underlying29 par_i64 rfl .i64 .i64 n (by omega) (by omega) w
attribute [irreducible] zI
theorem blk_zero (w : World) (n : Nat) (ty : TypeId) : BlkI (w.alloc (.cells (zI n) ty)) w.heap.size ty (List.replicate n 0) := ⟨by rw [heap_last w _ _ rfl, zI_eq]⟩
/-- the first k of n places are filled -/
def fillL (k n : Nat) : List Int := (List.range n).map fun i => if i < k then (i : Int) else 0
theorem fill_zero (n : Nat) : fillL 0 n = List.replicate n 0 := by
  unfold fillL
  apply List.ext_getElem
  · simp
  · intro i h1 h2; simp
theorem fill_len (k n : Nat) : (fillL k n).length = n := by simp [fillL]
theorem fill_set (k n : Nat) : (fillL k n).set k (k : Int) = fillL (k + 1) n := by
  apply List.ext_getElem
  · simp [fillL]
  · intro i h1 h2
    rw [List.getElem_set]
    simp only [fillL, List.getElem_map, List.getElem_range]
    by_cases c : k = i
    · subst c; rw [if_pos rfl, if_pos (by omega)]
    · rw [if_neg c]
      by_cases c2 : i < k
      · rw [if_pos c2, if_pos (by omega)]
      · rw [if_neg c2, if_neg (by omega)]
theorem fill_all (n : Nat) : fillL n n = (List.range n).map fun (i : Nat) => (i : Int) := by
  unfold fillL
  apply List.map_congr_left
  intro i hi
  rw [if_pos (List.mem_range.1 hi)]
attribute [irreducible] fillL
/-- the memory of byRest: the box of the rests, the places -/
structure BrM (w : World) (v : Value) (k n : Nat) (wr : World) : Prop where
  box : wr.heap[w.heap.size]? = some (.cells #[v] 29 (0, 0))
  row : BlkI wr (w.heap.size + 1) 3 (fillL k n)
  bel : Below w.heap.size w wr
set_option maxRecDepth 100000 in
set_option maxHeartbeats 1600000 in
theorem byRest_any (l : List Int) (p : Option Addr) (cap : Nat) (w : World) (h1 : 1 ≤ l.length) (h2 : l.length ≤ 1000000) (hN : Nums w .i64 p l) :
    Calls Try.prog 38 #[.slice p l.length cap] w fun e w' => ∃ q L, e = .returned (.slice (some ⟨q, 0, none⟩) l.length l.length) ∧ Srt l L ∧ Nums w' .i64 (some ⟨q, 0, none⟩) (L.map fun (i : Nat) => (i : Int)) ∧ w.heap.size ≤ q ∧ Below w.heap.size w w' := by
  have HN := Lib.hid hN
  have HL := Lib.hid (And.intro h1 h2)
  have mk : ∀ w : World, (Instr.makeSlice 81 (.int .i64 (l.length : Int)) (.int .i64 (l.length : Int))).run Try.prog w = .ok (.slice (some ⟨w.heap.size, 0, none⟩) l.length l.length) (w.alloc (.cells (zI l.length) 3)) := fun w => mk_ints l.length h2 w
  have l1 : (l.length : Int) ≤ 1000000 := by omega
  clear hN h1 h2
  go_enter Try.func38, Try.ntmps38
  go_wp2
  clear mk
  have hM : Hid (BrM w (.slice p l.length cap) 0 l.length ((w.alloc (.cells #[.slice p l.length cap] 29)).alloc (.cells (zI l.length) 3))) := by
    have hs : (w.alloc (.cells #[.slice p l.length cap] 29)).heap.size = w.heap.size + 1 := by simp
    refine ⟨?_, ?_, ?_⟩
    · rw [heap_prev _ _ _ (by omega), heap_last _ _ _ rfl]
    · have := blk_zero (w.alloc (.cells #[.slice p l.length cap] 29)) l.length 3
      rw [hs] at this
      rw [fill_zero]; exact this
    · exact ((Below.refl _ _).alloc (Nat.le_refl _) _).alloc (by omega) _
  go_loopw [4, 10] (fun _ j wr => ∃ (k : Nat), j = .int .i64 k ∧ k ≤ l.length ∧ Hid (BrM w (.slice p l.length cap) k l.length wr)) (fun _ j _ => l.length - (intOf j).toNat)
  case atStart => exact ⟨0, rfl, Nat.zero_le _, hM⟩
  case round =>
    obtain ⟨k, rfl, hk, HM⟩ := hrel
    clear hM
    by_cases hlt : (k : Int) < (l.length : Int)
    · have hk0 : (0 : Int) ≤ (k : Int) := Int.natCast_nonneg _
      rename World => wr
      have cf := HM.out.row.cell (j := k) (by rw [fill_len]; omega)
      have ff := HM.out.row.frozen k
      generalize (fillL k l.length).getD k 0 = old at cf
      go_wp2
      go_roundw
      case rel => exact ⟨k + 1, by go_num, by omega, ⟨by rw [heap_setCell_other _ _ _ _ (by simp)]; exact HM.out.box, by rw [← fill_set]; exact HM.out.row.set k _, HM.out.bel.setCell (by simp) _⟩⟩
      case measure => simp [intOf]; omega
    · obtain rfl : k = l.length := by omega
      rename World => wr
      have hrow := HM.out.row
      rw [fill_all] at hrow
      have HS := Lib.hid (sort_places l p cap w.heap.size (w.heap.size + 1) w wr HL.out.1 HL.out.2 HN.out HM.out.bel (by omega) (cell_of_row _ _ 0 _ _ _ HM.out.box) (by omega) hrow)
      clear hrow
      go_wp2_with (go_at_call 62; refine HS.out.mono ?_; rintro e w2 ⟨rfl, L, hs, hn, hb⟩)
      go_ret
      exact ⟨w.heap.size + 1, L, rfl, hs, hn, by omega, HM.out.bel.trans (hb.mono (by omega))⟩
end Go.Proofs.Ytpapcilffkpjjaa
