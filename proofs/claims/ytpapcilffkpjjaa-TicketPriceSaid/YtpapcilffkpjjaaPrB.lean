/- Contract of byRest: the places of the rests, sorted. -/
import Derived.Test.YtpapcilffkpjjaaPrC
namespace Go.Proofs.Ytpapcilffkpjjaa
open Go.Shelf Go.RowKit Go.Lib Go.Sort Go.Stb Go.Money Go.Pror

/-- a block of the ints L -/
structure BlkI (w : World) (g : Nat) (ty : TypeId) (L : List Int) : Prop where
  row : w.heap[g]? = some (.cells (L.map (Value.int .i64)).toArray ty (0, 0))
theorem BlkI.lt {w : World} {g : Nat} {ty : TypeId} {L : List Int} (h : BlkI w g ty L) : g < w.heap.size := (Array.getElem?_eq_some_iff.1 h.row).1
theorem BlkI.cell {w : World} {g : Nat} {ty : TypeId} {L : List Int} (h : BlkI w g ty L) {j : Nat} (hj : j < L.length) : w.cell? ⟨g, j, none⟩ = some (.int .i64 (L.getD j 0)) := by
  rw [cell_of_row w g j _ _ _ h.row, List.getElem?_toArray, List.getElem?_map, List.getElem?_eq_getElem hj, List.getD_eq_getElem?_getD, List.getElem?_eq_getElem hj]
  rfl
theorem BlkI.frozen {w : World} {g : Nat} {ty : TypeId} {L : List Int} (h : BlkI w g ty L) (j : Nat) : w.frozen? ⟨g, j, none⟩ = false := frozen_of_row w g j _ ty h.row
theorem BlkI.set {w : World} {g : Nat} {ty : TypeId} {L : List Int} (h : BlkI w g ty L) (j : Nat) (x : Int) : BlkI (w.setCell ⟨g, j, none⟩ (.int .i64 x)) g ty (L.set j x) := by
  refine ⟨?_⟩
  rw [heap_setCell_same w g j _ ty _ h.row, List.map_set, List.setIfInBounds_toArray]
theorem BlkI.other {w : World} {g : Nat} {ty : TypeId} {L : List Int} (h : BlkI w g ty L) (a : Addr) (v : Value) (ha : g ≠ a.block) : BlkI (w.setCell a v) g ty L := ⟨by rw [heap_setCell_other w a g v ha]; exact h.row⟩
theorem BlkI.keep {w w' : World} {B g : Nat} {ty : TypeId} {L : List Int} (h : BlkI w g ty L) (hb : Below B w w') (hg : g < B) : BlkI w' g ty L := ⟨by rw [hb.block g hg]; exact h.row⟩
theorem BlkI.nums {w : World} {g : Nat} {ty : TypeId} {L : List Int} (h : BlkI w g ty L) : Nums w .i64 (some ⟨g, 0, none⟩) L := ⟨fun _ => ⟨g, 0, rfl, h.lt, fun j hj => by rw [Nat.zero_add]; exact h.cell hj⟩⟩

theorem putRow_below {α : Type} [Inhabited α] (enc : α → Value) (w : World) (blk off : Nat) (d : Array α) (k : Nat) : Below blk w ((putRow enc w blk off d).drewN k) := by
  refine ⟨rfl, rfl, rfl, ?_, fun j hj => ?_⟩
  · show _ ≤ (putRow enc w blk off d).heap.size
    rw [size_putRow]; exact Nat.le_refl _
  · show (putRow enc w blk off d).heap[j]? = _
    unfold putRow mapBlock
    rw [Array.getElem?_modify, if_neg (by omega)]
theorem sw_size {α : Type} [Inhabited α] (enc : α → Value) (w : World) (blk off m : Nat) (d : Array α) (os : Array Obj) : w.heap.size ≤ (sortWorld enc w blk off m d os).heap.size := by
  unfold sortWorld grow
  simp only [Array.size_append, size_putRow]
  show w.heap.size ≤ w.heap.size + _
  omega
theorem sw_cell {α : Type} [Inhabited α] (enc : α → Value) (w : World) (blk off m : Nat) (d : Array α) (os : Array Obj) (a : Addr) (h1 : a.block ≠ blk) (h2 : a.block < w.heap.size) : (sortWorld enc w blk off m d os).cell? a = w.cell? a := by
  unfold sortWorld
  rw [cell?_grow _ _ _ (by rw [size_putRow]; exact h2), cell?_putRow_other enc _ blk off _ _ (Or.inl h1)]
  rfl
def encF (N : Nat) (x : Fin (N + 1)) : Value := .int .i64 ((x.val : Nat) : Int)
def idF (N : Nat) : Array (Fin (N + 1)) := Array.ofFn fun x => x
theorem idF_size (N : Nat) : (idF N).size = N + 1 := by simp [idF]
theorem idF_get (N : Nat) (i : Nat) (h : i < N + 1) : ((idF N)[i]!).val = i := by
  rw [getElem!_pos _ i (by rw [idF_size]; exact h)]; simp [idF]
def RF (l : List Int) (N : Nat) (x y : Fin (N + 1)) : Bool := before l x.val y.val
def cfF (l : List Int) (N : Nat) (x y : Fin (N + 1)) : Int := cmpI (l.getD y.val 0) (l.getD x.val 0)
theorem odrF (l : List Int) (N : Nat) : Odr (RF l N) (ltOf (cfF l N)) (fun x => x.val) where
  swo := ⟨fun x => by unfold RF; rw [before_no]; omega, fun x y z h1 h2 => by unfold RF at *; rw [before_iff] at *; omega, fun x y z h1 h2 => by unfold RF at *; rw [before_no] at *; omega⟩
  ok := fun x y hxy => by
    unfold ltOf cfF RF before cmpI
    by_cases h1 : l.getD x.val 0 < l.getD y.val 0
    · rw [if_pos h1, decide_eq_true (by omega), decide_eq_true (Or.inl h1)]
    · rw [if_neg h1]
      have e : decide ((if l.getD y.val 0 < l.getD x.val 0 then (1 : Int) else 0) < 0) = false := by
        split <;> rfl
      rw [e, decide_eq_false (by omega)]
theorem ext_whole {β : Type} (d : Array β) (n : Nat) (h : d.size = n) : d.extract 0 n = d := by subst h; simp
theorem srt_of (l : List Int) (N : Nat) (hl : l.length = N + 1) (d : Array (Fin (N + 1))) (h : Mg (RF l N) 0 (N + 1) (idF N) d) : Srt l (d.toList.map fun x => x.val) := by
  have hs : d.size = N + 1 := h.1.1.trans (idF_size N)
  have hp : (d.toList.map fun x => x.val).Perm (List.range l.length) := by
    have := h.1.2.2
    rw [ext_whole d _ hs, ext_whole (idF N) _ (idF_size N)] at this
    have h2 := this.map (fun x : Fin (N + 1) => x.val)
    have e : (idF N).toList.map (fun x => x.val) = List.range l.length := by
      apply List.ext_getElem
      · simp [idF_size, hl]
      · intro i h1 h2
        simp only [List.getElem_map, Array.getElem_toList, List.getElem_range]
        unfold idF
        rw [Array.getElem_ofFn]
    rw [e] at h2; exact h2
  refine ⟨hp, fun p q hpq hq => ?_⟩
  have hq' : q < N + 1 := by simpa [hs] using hq
  have g : ∀ i, i < N + 1 → (d.toList.map fun x => x.val).getD i 0 = (d[i]!).val := fun i hi => by
    rw [List.getD_eq_getElem?_getD, List.getElem?_map, Array.getElem?_toList, Array.getElem?_eq_getElem (by omega), getElem!_pos d i (by omega)]; rfl
  have hnd : (d.toList.map fun x => x.val).Nodup := hp.nodup_iff.2 List.nodup_range
  have hne : (d.toList.map fun x => x.val).getD p 0 ≠ (d.toList.map fun x => x.val).getD q 0 := by
    have hp' : p < (d.toList.map fun x => x.val).length := by omega
    rw [List.getD_eq_getElem?_getD, List.getElem?_eq_getElem hp', List.getD_eq_getElem?_getD, List.getElem?_eq_getElem hq]
    exact (List.pairwise_iff_getElem.1 hnd) p q hp' hq hpq
  rw [g p (by omega), g q hq'] at hne ⊢
  have := h.2 p q (Nat.zero_le _) hpq hq'
  unfold RF at this
  rw [before_no] at this
  rw [before_iff]
  omega
theorem sort_places (l : List Int) (p : Option Addr) (cap bx B : Nat) (w W : World) (h1 : 1 ≤ l.length) (h2 : l.length ≤ 1000000) (hN : Nums w .i64 p l) (hb : Below w.heap.size w W) (hB : w.heap.size ≤ B)
    (hbox : W.cell? ⟨bx, 0, none⟩ = some (.slice p l.length cap)) (hx : bx < B) (hR : BlkI W B 3 ((List.range l.length).map fun (i : Nat) => (i : Int))) :
    Calls Try.prog 62 #[.slice (some ⟨B, 0, none⟩) l.length l.length, .func (.func 63) #[] #[.pointer (some ⟨bx, 0, none⟩)]] W fun e w' =>
      e = .returned (.tuple #[]) ∧ ∃ L, Srt l L ∧ Nums w' .i64 (some ⟨B, 0, none⟩) (L.map fun (i : Nat) => (i : Int)) ∧ Below B W w' := by
  obtain ⟨N, hl⟩ : ∃ N, l.length = N + 1 := ⟨l.length - 1, by omega⟩
  have hlow := hR.lt
  have hbx : bx < W.heap.size := by omega
  have hA : Ask (encF N) (cfF l N) 63 #[.pointer (some ⟨bx, 0, none⟩)] B 0 W (idF N) (RF l N) (fun x => x.val) := {
    one := fun _ => rfl
    eg := enters_of Try.func63 (by kernel_rfl) rfl
    cmp := by
      intro m os dk hdk x y
      have hc : (sortWorld (encF N) W B 0 m dk os).cell? ⟨bx, 0, none⟩ = some (.slice p l.length cap) := by
        rw [sw_cell _ _ _ _ _ _ _ _ (by show bx ≠ B; omega) hbx]; exact hbox
      have hN' : Nums (sortWorld (encF N) W B 0 m dk os) .i64 p l := ⟨fun h0 => by
        obtain ⟨b, o, e1, e2, e3⟩ := hN.at_ h0
        have := hb.size
        have := sw_size (encF N) W B 0 m dk os
        refine ⟨b, o, e1, by omega, fun j hj => ?_⟩
        rw [sw_cell _ _ _ _ _ _ _ _ (by show b ≠ B; omega) (by show b < _; omega)]
        exact (hb.cell (p := ⟨b, o + j, none⟩) e2).trans (e3 j hj)⟩
      exact less_any l p cap bx x.val y.val _ (by omega) (by omega) hc hN'
    row := fun j hj => by
      rw [idF_size] at hj
      rw [Nat.zero_add]
      refine ⟨?_, hR.frozen j⟩
      rw [hR.cell (by simp; omega)]
      unfold encF
      rw [idF_get N j hj, List.getD_eq_getElem?_getD, List.getElem?_map, List.getElem?_range (by omega)]
      rfl
    size := by rw [idF_size]; omega
    odr := odrF l N }
  have hasc : Asc (fun x : Fin (N + 1) => x.val) (idF N).size (idF N) := fun p q hpq hq => by
    rw [idF_size] at hq
    show ((idF N)[p]!).val < ((idF N)[q]!).val
    rw [idF_get N p (by omega), idF_get N q hq]; exact hpq
  have h := sortStable_any (encF N) (cfF l N) 63 #[.pointer (some ⟨bx, 0, none⟩)] B 0 l.length W (idF N) (RF l N) (fun x => x.val) hA hlow hasc
  rw [idF_size] at h
  rw [show dataV B 0 (N + 1) l.length = .slice (some ⟨B, 0, none⟩) l.length l.length from by rw [hl]] at h
  refine h.mono ?_
  rintro e w' ⟨rfl, d', k, rfl, hm⟩
  refine ⟨rfl, d'.toList.map fun x => x.val, srt_of l N hl d' hm, ⟨fun h0 => ⟨B, 0, rfl, ?_, fun j hj => ?_⟩⟩, putRow_below _ _ _ _ _ _⟩
  · show B < (putRow (encF N) W B 0 d').heap.size
    rw [size_putRow]; exact hlow
  · have hj' : j < d'.size := by simpa using hj
    have := (holds_putRow (encF N) W B 0 (idF N) d' hA.row hm.1.1 j hj').1
    show (putRow (encF N) W B 0 d').cell? _ = _
    rw [this]
    unfold encF
    rw [List.getD_eq_getElem?_getD, List.getElem?_map, List.getElem?_map, Array.getElem?_toList, Array.getElem?_eq_getElem hj', getElem!_pos d' j hj']
    rfl
end Go.Proofs.Ytpapcilffkpjjaa
