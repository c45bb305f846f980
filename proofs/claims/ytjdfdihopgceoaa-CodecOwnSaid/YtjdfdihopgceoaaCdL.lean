/- Contracts: slices.Grow of nothing; lists. (Written by tools/cd-list.py.) -/
import Derived.Test.YtjdfdihopgceoaaCdT
namespace Go.Proofs.Ytjdfdihopgceoaa.Cd
open Go.RowKit Go.Shelf Go.Dk Go.Jn Go.Cod

/-- n times the same cells -/
def reps : Nat → List Value → List Value
  | 0, _ => []
  | n + 1, l => l ++ reps n l
theorem reps_len (l : List Value) : ∀ n, (reps n l).length = n * l.length
  | 0 => by simp [reps]
  | n + 1 => by rw [reps, List.length_append, reps_len l n, Nat.succ_mul]; omega
theorem reps_get (l : List Value) (hl : 0 < l.length) : ∀ (n j : Nat), j < n * l.length → (reps n l)[j]? = l[j % l.length]?
  | 0, j, h => by simp at h
  | n + 1, j, h => by
    rw [reps]
    by_cases hj : j < l.length
    · rw [List.getElem?_append_left hj, Nat.mod_eq_of_lt hj]
    · rw [List.getElem?_append_right (by omega), reps_get l hl n _ (by rw [Nat.succ_mul] at h; omega), Nat.mod_eq_sub_mod (by omega : j ≥ l.length)]
theorem at_zeros (n cap : Nat) {l : List Value} (h0 : 0 < l.length) (z : Value) (hz : z.cells.toList = l) : At (([] : List Value).toArray ++ Builtin.zeroCells z.cells n ++ Builtin.zeroCells z.cells (cap - n)) 0 (reps n l) := by
  subst hz
  intro j u hu
  have hj := (List.getElem?_eq_some_iff.1 hu).1
  rw [reps_len] at hj
  rw [reps_get _ h0 _ _ hj] at hu
  have hzs : (Builtin.zeroCells z.cells n).size = n * z.cells.size := size_zeroCells _ _
  have hl : z.cells.toList.length = z.cells.size := by simp
  rw [hl] at hj hu
  rw [Nat.zero_add, Array.getElem?_append_left (by simp only [Array.size_append, hzs]; omega)]
  rw [Array.getElem?_append_right (by simp), show j - ([] : List Value).toArray.size = j by simp]
  unfold Builtin.zeroCells
  rw [Array.getElem?_map]
  have hr : (Array.range (n * z.cells.size))[j]? = some j := by simp [hj]
  rw [hr, Option.map_some, ← hu]
  rw [Array.getElem?_toList]
  have hm : j % z.cells.size < z.cells.size := Nat.mod_lt _ (by rw [← hl]; exact h0)
  rw [getElem!_pos z.cells _ hm, Array.getElem?_eq_getElem hm]
abbrev zLeg : List Value := [.int .u8 0, .int .u16 0, .int .u32 0]
theorem parLeg : (Try.prog.info? 36).map (fun i => (i.zero, i.size, i.bytes)) = some (some (.agg #[.int .u8 0, .int .u16 0, .int .u32 0]), 3, 8) := by kernel_rfl
def GrowLegP (n : Nat) (w : World) (e : Ending) (w' : World) : Prop :=
  (n = 0 ∧ e = .returned (.slice none 0 0) ∧ w' = w) ∨ (0 < n ∧ ∃ cap arr, e = .returned (.slice (some ⟨w.heap.size, 0, none⟩) 0 cap) ∧ n ≤ cap ∧ w'.heap[w.heap.size]? = some (.cells arr 36 (0, 0)) ∧ At arr 0 (reps n zLeg) ∧ arr.size = cap * 3 ∧ Below w.heap.size w w')
set_option maxRecDepth 100000 in
set_option maxHeartbeats 1600000 in
theorem growLeg (n : Nat) (hn : n ≤ 4) (w : World) : Calls Try.prog 62 #[.slice none 0 0, .int .i64 (n : Int)] w (GrowLegP n w) := by
  have n0 : (0 : Int) ≤ (n : Int) := Int.natCast_nonneg _
  have n1 : (n : Int) ≤ 4 := by omega
  by_cases hz : n = 0
  · subst hz
    go_enter Try.func62, Try.ntmps62
    go_wp2
    go_ret
    exact .inl ⟨rfl, rfl, rfl⟩
  · obtain ⟨i, hi, z0, z1, z2⟩ := info_parts parLeg
    have hcz : Builtin.nextslicecap (0 + n) 0 * i.bytes ≤ 281474976710656 := growslice_fits (by omega) (by rw [z2]; omega)
    have hr := Lib.run_append_grow_zeros (P := Try.prog) w 25 3 25 36 i (.agg #[.int .u8 0, .int .u16 0, .int .u32 0]) .i64 .i64 Try.underlying25 Try.underlying3 hi z0 none 0 0 [] (by rfl) n (by omega) (by rw [z1]; omega) (by omega) (by omega) (by rw [z2]; omega) hcz
    rw [Nat.zero_add] at hr
    obtain ⟨cap, hcap⟩ : ∃ cap, grownCap w n 0 36 = cap := ⟨_, rfl⟩
    have hge := grownCap_ge w n 0 36
    rw [hcap] at hr hge
    obtain ⟨arr, harr⟩ : ∃ arr, (([] : List Value).toArray ++ Builtin.zeroCells (Value.agg #[.int .u8 0, .int .u16 0, .int .u32 0]).cells n ++ Builtin.zeroCells (Value.agg #[.int .u8 0, .int .u16 0, .int .u32 0]).cells (cap - n)) = arr := ⟨_, rfl⟩
    have hat : At arr 0 (reps n zLeg) := by
      rw [← harr]
      exact at_zeros n cap (l := zLeg) (by decide) _ (by rfl)
    have hsz : arr.size = cap * 3 := by
      rw [← harr]
      simp only [Array.size_append, size_zeroCells]
      show 0 + n * 3 + (cap - n) * 3 = cap * 3
      omega
    rw [harr] at hr
    have HR := Lib.hid (And.intro hat hsz)
    clear hat harr hcz hi z0 z1 z2 hcap hsz
    have hp : 0 < n := by omega
    go_enter Try.func62, Try.ntmps62
    go_wp2_with ((with_reducible refine wl_appX (.slice none 0 0) (.int .i64 (n : Int)) (.slice (some ⟨w.heap.size, 0, none⟩) n cap) ?_ ?_ hr ?_); (· rfl); (· rfl))
    go_ret
    exact .inr ⟨hp, cap, arr, rfl, hge, heap_alloc_new w.drew _, HR.out.1, HR.out.2, ((Below.refl _ _).drew).alloc (Nat.le_refl _) _⟩
abbrev zTax : List Value := [.string ⟨#[]⟩, .int .i64 0]
theorem parTax : (Try.prog.info? 58).map (fun i => (i.zero, i.size, i.bytes)) = some (some (.agg #[.string ⟨#[]⟩, .int .i64 0]), 2, 24) := by kernel_rfl
def GrowTaxP (n : Nat) (w : World) (e : Ending) (w' : World) : Prop :=
  (n = 0 ∧ e = .returned (.slice none 0 0) ∧ w' = w) ∨ (0 < n ∧ ∃ cap arr, e = .returned (.slice (some ⟨w.heap.size, 0, none⟩) 0 cap) ∧ n ≤ cap ∧ w'.heap[w.heap.size]? = some (.cells arr 58 (0, 0)) ∧ At arr 0 (reps n zTax) ∧ arr.size = cap * 2 ∧ Below w.heap.size w w')
set_option maxRecDepth 100000 in
set_option maxHeartbeats 1600000 in
theorem growTax (n : Nat) (hn : n ≤ 4) (w : World) : Calls Try.prog 64 #[.slice none 0 0, .int .i64 (n : Int)] w (GrowTaxP n w) := by
  have n0 : (0 : Int) ≤ (n : Int) := Int.natCast_nonneg _
  have n1 : (n : Int) ≤ 4 := by omega
  by_cases hz : n = 0
  · subst hz
    go_enter Try.func64, Try.ntmps64
    go_wp2
    go_ret
    exact .inl ⟨rfl, rfl, rfl⟩
  · obtain ⟨i, hi, z0, z1, z2⟩ := info_parts parTax
    have hcz : Builtin.nextslicecap (0 + n) 0 * i.bytes ≤ 281474976710656 := growslice_fits (by omega) (by rw [z2]; omega)
    have hr := Lib.run_append_grow_zeros (P := Try.prog) w 26 3 26 58 i (.agg #[.string ⟨#[]⟩, .int .i64 0]) .i64 .i64 Try.underlying26 Try.underlying3 hi z0 none 0 0 [] (by rfl) n (by omega) (by rw [z1]; omega) (by omega) (by omega) (by rw [z2]; omega) hcz
    rw [Nat.zero_add] at hr
    obtain ⟨cap, hcap⟩ : ∃ cap, grownCap w n 0 58 = cap := ⟨_, rfl⟩
    have hge := grownCap_ge w n 0 58
    rw [hcap] at hr hge
    obtain ⟨arr, harr⟩ : ∃ arr, (([] : List Value).toArray ++ Builtin.zeroCells (Value.agg #[.string ⟨#[]⟩, .int .i64 0]).cells n ++ Builtin.zeroCells (Value.agg #[.string ⟨#[]⟩, .int .i64 0]).cells (cap - n)) = arr := ⟨_, rfl⟩
    have hat : At arr 0 (reps n zTax) := by
      rw [← harr]
      exact at_zeros n cap (l := zTax) (by decide) _ (by rfl)
    have hsz : arr.size = cap * 2 := by
      rw [← harr]
      simp only [Array.size_append, size_zeroCells]
      show 0 + n * 2 + (cap - n) * 2 = cap * 2
      omega
    rw [harr] at hr
    have HR := Lib.hid (And.intro hat hsz)
    clear hat harr hcz hi z0 z1 z2 hcap hsz
    have hp : 0 < n := by omega
    go_enter Try.func64, Try.ntmps64
    go_wp2_with ((with_reducible refine wl_appX (.slice none 0 0) (.int .i64 (n : Int)) (.slice (some ⟨w.heap.size, 0, none⟩) n cap) ?_ ?_ hr ?_); (· rfl); (· rfl))
    go_ret
    exact .inr ⟨hp, cap, arr, rfl, hge, heap_alloc_new w.drew _, HR.out.1, HR.out.2, ((Below.refl _ _).drew).alloc (Nat.le_refl _) _⟩
end Go.Proofs.Ytjdfdihopgceoaa.Cd
