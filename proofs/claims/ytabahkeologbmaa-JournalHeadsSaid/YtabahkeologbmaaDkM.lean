/- A disk in memory: its struct, its sectors, its map. -/
import Derived.Test.YtabahkeologbmaaDkK
namespace Go.Proofs.Ytabahkeologbmaa.Dk
open Go.RowKit Go.Shelf Go.Dk Go.Sha
open Go.Maps (Keyed)

/-- how an element of the map reads: as it is -/
def RV (v : Value) : Option (DataW Value × List MemPlace) := some (.held v, [])
theorem KInt : Keyed Try.prog 3 := Maps.int_keyed Try.underlying3
/-- the map of what waits -/
def MpAt (w : World) (M n : Nat) (wt : Nat → Option By) : Prop := w.ownsMap Try.prog 3 RV M n (Dm n wt)
theorem MpAt.heap {w w' : World} {M n : Nat} {wt : Nat → Option By} (h : MpAt w M n wt) (hm : w'.heap[M]? = w.heap[M]?) : MpAt w' M n wt := by
  obtain ⟨es, clock, e1, e2⟩ := h
  exact ⟨es, clock, hm.trans e1, e2⟩
theorem MpAt.obj {w : World} {M n : Nat} {wt : Nat → Option By} (h : MpAt w M n wt) : ∃ es clock, w.heap[M]? = some (.map es clock) := by
  obtain ⟨es, clock, e1, _⟩ := h
  exact ⟨es, clock, e1⟩
theorem MpAt.lt {w : World} {M n : Nat} {wt : Nat → Option By} (h : MpAt w M n wt) : M < w.heap.size := World.ownsMap.lt h
theorem own_tight {w : World} {M m n : Nat} {D : DataW Value} (h : w.ownsMap Try.prog 3 RV M m D) (hs : Maps.size D ≤ n) : w.ownsMap Try.prog 3 RV M n D := by
  obtain ⟨es, clock, hb, F, _, rfl⟩ := h
  refine ⟨es, clock, hb, F, ?_, rfl⟩
  simpa [Maps.size, length_sorted] using hs
theorem keyI {i n : Nat} (hi : i < n) (hn : n ≤ 4096) : keyOf Try.prog 3 (.int .i64 (i : Int)) = some (.int .i64 (i : Int)) :=
  Maps.keyOf_int_mk Try.underlying3 (by
    have e1 : IntKind.i64.min = -9223372036854775808 := rfl
    have e2 : IntKind.i64.max = 9223372036854775807 := rfl
    simp only [Lit.wf, e1, e2, Bool.and_eq_true, decide_eq_true_eq]
    omega)
theorem MpAt.put {w : World} {M n i : Nat} {wt : Nat → Option By} {s : By} (hi : i < n)
    (h : w.ownsMap Try.prog 3 RV M (n + 1) ((Dm n wt).put (.int .i64 (i : Int)) (.held (.agg (bc s))))) : MpAt w M n (upd wt i (some s)) := by
  have hc := World.ownsMap.canon h KInt
  rw [put_Dm hi s hc] at h
  exact own_tight h (by rw [size_Dm]; exact keysW_len _ _)
/-- a disk -/
structure DkAt (w : World) (D L M : Nat) (d : Dk) : Prop where
  ok : d.Ok
  hd : w.heap[D]? = some (.cells #[.slice (some ⟨L, 0, none⟩) d.n d.n, .map (some M), .bool d.dead, .int .i64 d.fuse] 55 (0, 0))
  hl : w.heap[L]? = some (.cells (bc (flat d.la d.n)) 74 (0, 0))
  hm : MpAt w M d.n d.wt
  ne : D ≠ L
theorem DkAt.kept {w w' : World} {D L M : Nat} {d : Dk} (h : DkAt w D L M d) (h1 : w'.heap[D]? = w.heap[D]?) (h2 : w'.heap[L]? = w.heap[L]?) (h3 : w'.heap[M]? = w.heap[M]?) : DkAt w' D L M d :=
  ⟨h.ok, h1.trans h.hd, h2.trans h.hl, h.hm.heap h3, h.ne⟩
theorem DkAt.below {w w' : World} {D L M B : Nat} {d : Dk} (h : DkAt w D L M d) (hb : Below B w w') (h1 : D < B) (h2 : L < B) (h3 : M < B) : DkAt w' D L M d := h.kept (hb.block _ h1) (hb.block _ h2) (hb.block _ h3)
theorem DkAt.ltD {w : World} {D L M : Nat} {d : Dk} (h : DkAt w D L M d) : D < w.heap.size := lt_of_heap h.hd
theorem DkAt.ltL {w : World} {D L M : Nat} {d : Dk} (h : DkAt w D L M d) : L < w.heap.size := lt_of_heap h.hl
theorem DkAt.ltM {w : World} {D L M : Nat} {d : Dk} (h : DkAt w D L M d) : M < w.heap.size := h.hm.lt
theorem DkAt.nDM {w : World} {D L M : Nat} {d : Dk} (h : DkAt w D L M d) : D ≠ M := fun e => by
  obtain ⟨es, c, hm⟩ := h.hm.obj
  rw [← e, h.hd] at hm; cases hm
theorem DkAt.nLM {w : World} {D L M : Nat} {d : Dk} (h : DkAt w D L M d) : L ≠ M := fun e => by
  obtain ⟨es, c, hm⟩ := h.hm.obj
  rw [← e, h.hl] at hm; cases hm
theorem DkAt.c0 {w : World} {D L M : Nat} {d : Dk} (h : DkAt w D L M d) : w.cell? ⟨D, 0, none⟩ = some (.slice (some ⟨L, 0, none⟩) d.n d.n) := by rw [cell_of_arr h.hd]; rfl
theorem DkAt.c1 {w : World} {D L M : Nat} {d : Dk} (h : DkAt w D L M d) : w.cell? ⟨D, 1, none⟩ = some (.map (some M)) := by rw [cell_of_arr h.hd]; rfl
theorem DkAt.c2 {w : World} {D L M : Nat} {d : Dk} (h : DkAt w D L M d) : w.cell? ⟨D, 2, none⟩ = some (.bool d.dead) := by rw [cell_of_arr h.hd]; rfl
theorem DkAt.c3 {w : World} {D L M : Nat} {d : Dk} (h : DkAt w D L M d) : w.cell? ⟨D, 3, none⟩ = some (.int .i64 d.fuse) := by rw [cell_of_arr h.hd]; rfl
theorem DkAt.fr {w : World} {D L M : Nat} {d : Dk} (h : DkAt w D L M d) (i : Nat) : w.frozen? ⟨D, i, none⟩ = false := froz_of_arr h.hd i
/-- the sectors of a new disk -/
def zS (n : Nat) : Array Value := madeCells (Value.agg (bc zero64)).cells (n * 64)
theorem par_sector : (Try.prog.info? 74).map (fun i => (i.zero, i.size, i.bytes)) = some (some (.agg (bc zero64)), 64, 64) := by
  have : (Try.prog.info? 74).map (fun i => (i.zero, i.size, i.bytes)) = some (some (.agg (Lib.byteCells zero64).toArray), 64, 64) := by kernel_rfl
  rw [this]
  have e : (Lib.byteCells zero64).toArray = bc zero64 := by rw [← bc_list]
  rw [e]
theorem mk_sectors (n : Nat) (hn : n ≤ 4096) (w : World) : (Instr.makeSlice 52 (.int .i64 (n : Int)) (.int .i64 (n : Int))).run Try.prog w = .ok (.slice (some ⟨w.heap.size, 0, none⟩) n n) (w.alloc (.cells (zS n) 74)) := by
  obtain ⟨i, hi, h0, h1, h2⟩ := info_parts par_sector
  have := run_make (P := Try.prog) w 52 74 i (.agg (bc zero64)) Try.underlying52 hi h0 .i64 .i64 (n : Int) (n : Int) (by omega) (by omega) (by rw [h2]; omega) (by omega)
  rw [h1, show ((n : Nat) : Int).toNat = n from rfl] at this
  exact this
theorem zS_flat (n : Nat) : zS n = bc (flat (fun _ => zero64) n) := by
  have hz : ∀ i : Nat, ((fun _ => zero64) i : By).length = 64 := fun _ => zero64_len
  have hl := flat_len hz n
  apply Array.ext_getElem?
  intro k
  have hs : (zS n).size = n * 64 := size_madeCells _ _
  by_cases hk : k < n * 64
  · have e : k = 64 * (k / 64) + k % 64 := by omega
    rw [bc_get]
    unfold Lib.byteCells
    rw [List.getElem?_map]
    conv => rhs; rw [e]
    rw [flat_get hz (by omega) (Nat.mod_lt _ (by decide))]
    have h1 : (zS n)[k]? = some (.int .u8 0) := by
      unfold zS madeCells
      simp [hk, Value.cells, bc_size]
      have h64 := zero64_len
      have hm : k % 64 < 64 := Nat.mod_lt _ (by decide)
      have : (bc zero64)[k % 64]? = some (.int .u8 0) := by
        rw [bc_get]; unfold Lib.byteCells zero64
        rw [List.getElem?_map, List.getElem?_replicate, if_pos hm]; rfl
      rw [h64]
      obtain ⟨h, e2⟩ := Array.getElem?_eq_some_iff.1 this
      rw [getElem!_pos (bc zero64) (k % 64) h]
      exact e2
    rw [h1]
    unfold zero64
    rw [List.getElem?_replicate, if_pos (Nat.mod_lt _ (by decide))]
    rfl
  · rw [Array.getElem?_eq_none (by omega), Array.getElem?_eq_none (by rw [bc_size, hl]; omega)]
end Go.Proofs.Ytabahkeologbmaa.Dk
