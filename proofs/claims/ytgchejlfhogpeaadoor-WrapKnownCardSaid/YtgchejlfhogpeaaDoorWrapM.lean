/- A made list of segments: all of them zero; one of like ones, appended one by one. -/
import Derived.Test.YtgchejlfhogpeaaDoorWrapPure3
import Derived.Laws.MakeOwn
namespace Go.Proofs.YtgchejlfhogpeaaDoor
open Go.RowKit Go.Edi Go.Wrap

def zv : Nat → List Value
  | 0 => []
  | n + 1 => str [] :: .slice none 0 0 :: zv n
theorem zv_get : ∀ (n j : Nat) (u : Value), (zv n)[j]? = some u → j < n * 2 ∧ (if j % 2 = 0 then str [] else .slice none 0 0) = u
  | 0, j, u, h => by simp [zv] at h
  | n + 1, 0, u, h => ⟨by omega, by simpa [zv] using h⟩
  | n + 1, 1, u, h => ⟨by omega, by simpa [zv] using h⟩
  | n + 1, j + 2, u, h => by
    have := zv_get n j u (by simpa [zv] using h)
    rw [show (j + 2) % 2 = j % 2 by omega]
    exact ⟨by omega, this.2⟩
theorem els_nil (w : World) (F : Nat → Prop) : ElsF w F (.slice none 0 0) [] := ⟨[], ⟨none, 0, rfl, Nat.le_refl _, fun h => absurd h (by simp)⟩, True.intro⟩
theorem zv_sgc (w : World) (F : Nat → Prop) : ∀ n, SgC w F (List.replicate n ⟨[], []⟩) (zv n)
  | 0 => True.intro
  | n + 1 => ⟨rfl, els_nil w F, zv_sgc w F n⟩
def zA (n : Nat) : Array Value := madeCells (Value.agg #[.string ⟨#[]⟩, .slice none 0 0]).cells (n * 2)
theorem mkS_run (n : Nat) (hn : n ≤ 1000) (w : World) : (Instr.makeSlice 23 (.int .i64 (n : Int)) (.int .i64 (n : Int))).run Tryd.prog w = .ok (.slice (some ⟨w.heap.size, 0, none⟩) n n) (w.alloc (.cells (zA n) 36)) := by
  obtain ⟨i, hi, h0, h1, h2⟩ := info_parts par_seg
  have := run_make (P := Tryd.prog) w 23 36 i (.agg #[.string ⟨#[]⟩, .slice none 0 0]) Tryd.underlying23 hi h0 .i64 .i64 (n : Int) (n : Int) (by omega) (by omega) (by rw [h2]; omega) (by omega)
  rw [h1, show ((n : Nat) : Int).toNat = n from rfl] at this
  exact this
theorem mkS_segs (n : Nat) (w : World) : SegsF (w.alloc (.cells (zA n) 36)) (· < (w.alloc (.cells (zA n) 36)).heap.size) (.slice (some ⟨w.heap.size, 0, none⟩) n n) (List.replicate n ⟨[], []⟩) := by
  refine ⟨zv n, ⟨_, _, by rw [List.length_replicate], by rw [List.length_replicate]; exact Nat.le_refl _, fun _ => ⟨w.heap.size, 0, rfl, by show _ < _; rw [size_a]; omega, fun j u hu => ?_⟩⟩, zv_sgc _ _ n⟩
  obtain ⟨g1, g2⟩ := zv_get n j u hu
  rw [Nat.zero_add, cell_of_arr (at_last w _) j, ← g2]
  unfold zA
  rcases (show j % 2 = 0 ∨ j % 2 = 1 by omega) with e | e
  · simp [madeCells, Value.cells, g1, e]; rfl
  · simp [madeCells, Value.cells, g1, e]
attribute [irreducible] zA
theorem mk63 (w : World) : (Instr.makeSlice 23 (.int .i64 63) (.int .i64 63)).run Tryd.prog w = .ok (.slice (some ⟨w.heap.size, 0, none⟩) 63 63) (w.alloc (.cells (zA 63) 36)) := mkS_run 63 (by decide) w
theorem mk62 (w : World) : (Instr.makeSlice 23 (.int .i64 62) (.int .i64 62)).run Tryd.prog w = .ok (.slice (some ⟨w.heap.size, 0, none⟩) 62 62) (w.alloc (.cells (zA 62) 36)) := mkS_run 62 (by decide) w
theorem sane_zero (n : Nat) (hn : n ≤ 1000) : sane (List.replicate n ⟨[], []⟩) := ⟨by simp; omega, fun s hs => by rw [(List.mem_replicate.1 hs).2]; exact ⟨by simp, fun e he => by simp at he⟩⟩
/-- the list of like segments that is appended one by one -/
def abc (n : Nat) : List Sg := List.replicate n ⟨[65, 66, 67], []⟩
def av : Nat → List Value
  | 0 => []
  | n + 1 => av n ++ [str [65, 66, 67], .slice none 0 0]
theorem abc_succ (n : Nat) : abc (n + 1) = abc n ++ [⟨[65, 66, 67], []⟩] := by unfold abc; rw [List.replicate_succ']
theorem av_sgc (w : World) (F : Nat → Prop) : ∀ n, SgC w F (abc n) (av n)
  | 0 => True.intro
  | n + 1 => by rw [abc_succ]; exact SgC.snoc (s := ⟨[65, 66, 67], []⟩) (els_nil w F) (av_sgc w F n)
theorem sane_abc (n : Nat) (hn : n ≤ 1000) : sane (abc n) := ⟨by simp [abc]; omega, fun s hs => by rw [(List.mem_replicate.1 hs).2]; exact ⟨by simp, fun e he => by simp at he⟩⟩
theorem digs62 : digs 62 = [54, 50] := by show Lib.decDigits 62 = _; rw [Lib.decDigits_two (by omega) (by omega)]; rfl
theorem digs0 : digs 0 = [48] := digs_small (by omega)
theorem wp63 : wprintL ⟨0, 0, 0, List.replicate 63 ⟨[], []⟩⟩ = ([], 2) := rfl
theorem wp62 : wprintL ⟨0, 0, 0, List.replicate 62 ⟨[], []⟩⟩ = ([], 1) := by
  have e : closeL 0 0 0 (List.replicate 62 ⟨[], []⟩) = headS 0 0 0 :: (List.replicate 62 ⟨[], []⟩ ++ [tailS 62 0]) := rfl
  unfold wprintL
  rw [if_neg (by decide), if_neg (by decide)]
  show printL (closeL 0 0 0 (List.replicate 62 ⟨[], []⟩)) = _
  have hw : (closeL 0 0 0 (List.replicate 62 ⟨[], []⟩)).all wholeS = false := by
    rw [e, List.all_cons, List.all_append, List.all_replicate]
    simp [show wholeS ⟨[], []⟩ = false from rfl]
  unfold printL
  rw [hw]
  rfl
theorem wpabc : (wprintL ⟨0, 0, 0, abc 62⟩).2 = 0 := by
  have e : closeL 0 0 0 (abc 62) = ⟨[85, 78, 66], [[[48]], [[48]], [[48]]]⟩ :: (abc 62 ++ [⟨[85, 78, 90], [[[54, 50]], [[48]]]⟩]) := by
    show Sg.mk [85, 78, 66] [[digs 0], [digs 0], [digs 0]] :: (abc 62 ++ [Sg.mk [85, 78, 90] [[digs 62], [digs 0]]]) = _
    rw [digs62, digs0]
  unfold wprintL
  rw [if_neg (by decide), if_neg (by decide)]
  show (printL (closeL 0 0 0 (abc 62))).2 = 0
  rw [e]
  kernel_rfl
end Go.Proofs.YtgchejlfhogpeaaDoor
