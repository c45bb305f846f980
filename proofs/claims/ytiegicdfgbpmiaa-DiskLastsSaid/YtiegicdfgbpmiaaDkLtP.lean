/- What DiskLasts' walk leans on: cut rows of bytes, a row of Booleans, and what a Restart leaves of a sector. -/
import Derived.Test.YtiegicdfgbpmiaaDkLc
namespace Go.Proofs.Ytiegicdfgbpmiaa.Dk
open Go.ChangeShapes Go.WideShapes Go.ChangeAt Go.RowKit Go.ChangeMaps Go.Deep Go.Dk

/-- a disk with power and without a fuse -/
def dm (n : Nat) (la : Nat → By) (wt : Nat → Option By) : Dk := ⟨n, la, wt, false, -1⟩
theorem dm_new (n : Nat) : Dk.new n = dm n (fun _ => zero64) (fun _ => none) := rfl
theorem burn_dm (n : Nat) (la : Nat → By) (wt : Nat → Option By) : (dm n la wt).burn = dm n la wt := by
  unfold Dk.burn
  rw [if_neg (show ¬ ((dm n la wt).fuse = 0) by show ¬ ((-1 : Int) = 0); omega), if_neg (show ¬ (0 < (dm n la wt).fuse) by show ¬ ((0 : Int) < -1); omega)]
theorem wr_dm (n : Nat) (la : Nat → By) (wt : Nat → Option By) (a : Int) (b : By) : ∃ er wt', Dk.wr (dm n la wt) a b = (er, dm n la wt') ∧ ((er = 1 ∧ wt' = wt) ∨ (er = 0 ∧ ∃ a' m : Nat, a = (a' : Int) ∧ b.length = 64 * m ∧ a' + m ≤ n ∧ wt' = wtW wt a' b m)) := by
  rcases wr_part (dm n la wt) a b with hh | ⟨a', m, rfl, e2, e3⟩
  · exact ⟨1, wt, wr_bad rfl hh, .inl ⟨rfl, rfl⟩⟩
  · refine ⟨0, wtW wt a' b m, ?_, .inr ⟨rfl, a', m, rfl, e2, e3, rfl⟩⟩
    rw [wr_good rfl (show (-1 : Int) ≠ 0 by omega) e2 e3, burn_dm]
    unfold Dk.wrote
    rw [e2, show 64 * m / 64 = m by omega]
    rfl
theorem sy_dm (n : Nat) (la : Nat → By) (wt : Nat → Option By) : Dk.sy (dm n la wt) = (0, dm n (fun i => (wt i).getD (la i)) (fun _ => none)) := by
  unfold Dk.sy
  rw [if_neg (show ¬ ((dm n la wt).dead = true) by simp [dm]), if_neg (show ¬ ((dm n la wt).fuse = 0) by show ¬ ((-1 : Int) = 0); omega), burn_dm]
  rfl
theorem rst_dm (n : Nat) (la : Nat → By) (wt : Nat → Option By) (fs : List Int) : (dm n la wt).rst fs = dm n (rstL fs la wt) (fun _ => none) := rfl
/-- a row of Booleans -/
theorem par_bool : (Try.prog.info? 4).map (fun i => (i.zero, i.size, i.bytes)) = some (some (.bool false), 1, 1) := by kernel_rfl
def offA (n : Nat) : Array Value := madeCells #[Value.bool false] n
theorem mk_bools (n : Nat) (hn : n ≤ 1000000) (w : World) : (Instr.makeSlice 38 (.int .i64 (n : Int)) (.int .i64 (n : Int))).run Try.prog w = .ok (.slice (some ⟨w.heap.size, 0, none⟩) n n) (w.alloc (.cells (offA n) 4)) := by
  obtain ⟨i, hi, h0, h1, h2⟩ := info_parts par_bool
  have := run_make (P := Try.prog) w 38 4 i (.bool false) Try.underlying38 hi h0 .i64 .i64 (n : Int) (n : Int) (by omega) (by omega) (by rw [h2]; omega) (by omega)
  rw [h1, show ((n : Nat) : Int).toNat = n from rfl, Nat.mul_one] at this
  exact this
structure BoA (n : Nat) (wt : Nat → Option By) (A : Array Value) : Prop where
  size : A.size = n
  get : ∀ j, j < n → A[j]? = some (.bool (wt j).isSome)
theorem boA_new (n : Nat) : BoA n (fun _ => none) (offA n) := ⟨size_madeCells _ _, fun j hj => by simp [offA, madeCells, hj, Nat.mod_one]⟩
theorem BoA.put {n j : Nat} {wt : Nat → Option By} {A : Array Value} {s : By} (h : BoA n wt A) (hj : j < n) : BoA n (upd wt j (some s)) (A.setIfInBounds j (.bool true)) := by
  refine ⟨by rw [Array.size_setIfInBounds]; exact h.size, fun i hi => ?_⟩
  by_cases e : i = j
  · subst e; rw [upd_same, Array.getElem?_setIfInBounds_self_of_lt (by rw [h.size]; exact hi)]; rfl
  · rw [upd_other _ _ e, Array.getElem?_setIfInBounds_ne (Ne.symm e)]
    exact h.get i hi
/-- the rest of a row of 64 bytes -/
def subB (b o cap k : Nat) : Option Addr := if cap = k then some ⟨b, o, none⟩ else some ⟨b, o + k, none⟩
theorem run_from (w : World) (b o cap k : Nat) (hk : k ≤ 64) :
    (Instr.sliceAt 29 (.slice (some ⟨b, o, none⟩) 64 cap) (some (.int .i64 (k : Int))) none none).run Try.prog w = .ok (.slice (subB b o cap k) (64 - k) (cap - k)) w := by
  rw [run_sliceAt_slice _ _ _ _ _ _ undBytes, run_slice_l _ _ _ _ _ undBytes _ _ (by omega) (by omega), elemBytes, run_size1, Result.andThen_ok]
  unfold sliced subB
  rw [Int.toNat_natCast]
  by_cases h : cap = k
  · rw [if_pos h, if_pos h]
  · rw [if_neg h, if_neg h, Option.map_some, Nat.mul_one, Addr.add_mid]
theorem fromY {a : Act} {w : World} {x y : Operand} {dst : Option Tmp} {typ : TypeId} {pos : String} {after : Array Edge} {g : Option (Nat × Bool)} (b o cap k : Nat) (hx : a.eval x = .slice (some ⟨b, o, none⟩) 64 cap) (hy : a.eval y = .int .i64 (k : Int)) (hk : k ≤ 64) :
    (execOp a.eval ⟨dst, .slice 29 x (some y) none none, typ, pos, after, g⟩).run Try.prog w = .ok (.value (.slice (subB b o cap k) (64 - k) (cap - k))) w := by
  unfold execOp
  simp only [hx, hy, Option.map_some, Option.map_none, Sem.run_bind, run_from w b o cap k hk, Result.andThen_ok, Sem.run_pure]
theorem bys_from {w : World} {F : Nat → Prop} {b o cap k : Nat} {s : By} (h : BysF w F (.slice (some ⟨b, o, none⟩) 64 cap) s) (hs : s.length = 64) (hk : k ≤ 64) : BysF w F (.slice (subB b o cap k) (64 - k) (cap - k)) (s.drop k) := by
  obtain ⟨p, c, e, hc, hp⟩ := h
  simp only [Value.slice.injEq] at e
  obtain ⟨e1, _, e3⟩ := e
  subst e3
  obtain ⟨b', o', e2, hF, hcell⟩ := hp (by omega)
  rw [← e1] at e2
  simp only [Option.some.injEq, Addr.mk.injEq, and_true] at e2
  obtain ⟨rfl, rfl⟩ := e2
  have hl : (s.drop k).length = 64 - k := by rw [List.length_drop, hs]
  refine ⟨_, _, by rw [hl], by rw [hl]; omega, fun h0 => ⟨b, o + k, ?_, hF, fun j u hu => ?_⟩⟩
  · unfold subB; rw [if_neg (by omega)]
  · rw [← byl_drop, List.getElem?_drop] at hu
    rw [Nat.add_assoc]
    exact hcell _ _ hu
theorem row_pin {w : World} {F : Nat → Prop} {b o n cap : Nat} {xs : List Value} (h : RowF w F (.slice (some ⟨b, o, none⟩) n cap) n xs) (h0 : 0 < n) : F b ∧ n ≤ cap ∧ RowF w (· = b) (.slice (some ⟨b, o, none⟩) n cap) n xs := by
  obtain ⟨p, c, e, hc, hp⟩ := h
  obtain ⟨b', o', e2, hF, hcell⟩ := hp h0
  cases e; cases e2
  exact ⟨hF, hc, _, _, rfl, hc, fun _ => ⟨b, o, rfl, rfl, hcell⟩⟩
/-- a sector of what was read -/
theorem row_sec {w : World} {F : Nat → Prop} {b o cap n j : Nat} {la : Nat → By} (hla : ∀ i, (la i).length = 64) (h : RowF w F (.slice (some ⟨b, o, none⟩) (64 * n) cap) (64 * n) (Lib.byteCells (flat la n))) (hj : j < n) :
    64 * j + 64 ≤ cap ∧ BysF w F (.slice (some ⟨b, o + 64 * j, none⟩) 64 (cap - 64 * j)) (la j) := by
  have hl := flat_len hla n
  have h2 : BysF w F (.slice (some ⟨b, o, none⟩) (flat la n).length cap) (flat la n) := by unfold BysF; rw [hl]; exact h
  obtain ⟨h3, _, h4⟩ := row_cut (k := j) h2 (by rw [hl]; omega)
  have : chunk (flat la n) j = la j := flat_row hla hj
  rw [this] at h4
  exact ⟨h3, h4⟩
theorem bys_cell {w : World} {F : Nat → Prop} {b o cap k : Nat} {s : By} (h : BysF w F (.slice (some ⟨b, o, none⟩) 64 cap) s) (hs : s.length = 64) (hk : k < 64) : w.cell? ⟨b, o + k, none⟩ = some (.int .u8 ((s.getD k 0).toNat : Int)) := by
  obtain ⟨p, c, e, _, hp⟩ := h
  simp only [Value.slice.injEq] at e
  obtain ⟨e1, _, e3⟩ := e
  subst e3
  obtain ⟨b', o', e2, _, hcell⟩ := hp (by omega)
  rw [← e1] at e2
  simp only [Option.some.injEq, Addr.mk.injEq, and_true] at e2
  obtain ⟨rfl, rfl⟩ := e2
  refine hcell k _ ?_
  unfold Lib.byteCells
  rw [List.getElem?_map, List.getElem?_eq_getElem (by omega), List.getD_eq_getElem?_getD, List.getElem?_eq_getElem (by omega)]
  rfl
/-- behind what a sector has of the new, it has the old -/
theorem rst_drop {fs : List Int} {la : Nat → By} {wt : Nat → Option By} (hwt : ∀ i s, wt i = some s → s.length = 64) (i k : Nat)
    (h : k = 64 ∨ (rstL fs la wt i).getD k 0 ≠ ((wt i).getD (la i)).getD k 0) : (rstL fs la wt i).drop k = (la i).drop k := by
  unfold rstL at h ⊢
  cases e : wt i with
  | none => rfl
  | some s =>
    rw [e] at h
    dsimp only [Option.getD_some] at h ⊢
    have hs := hwt i s e
    have hm := fateN_le fs (keysW wt i).length
    generalize fateN fs (keysW wt i).length = m at *
    have hmk : m ≤ k := by
      rcases h with h | h
      · omega
      · rcases Nat.lt_or_ge k m with h1 | h1
        · exfalso; apply h
          unfold mix
          rw [List.getD_eq_getElem?_getD, List.getD_eq_getElem?_getD, List.getElem?_append_left (by rw [List.length_take]; omega), List.getElem?_take, if_pos h1]
        · exact h1
    unfold mix
    rw [List.drop_append, List.length_take, Nat.min_eq_left (by omega), List.drop_of_length_le (by rw [List.length_take]; omega), List.nil_append, List.drop_drop]
    congr 1; omega
theorem rst_len {fs : List Int} {la : Nat → By} {wt : Nat → Option By} (hla : ∀ i, (la i).length = 64) (hwt : ∀ i s, wt i = some s → s.length = 64) (i : Nat) : (rstL fs la wt i).length = 64 := by
  unfold rstL
  cases e : wt i with
  | none => exact hla i
  | some s => exact mix_len (hwt i s e) (hla i) (fateN_le _ _)
end Go.Proofs.Ytiegicdfgbpmiaa.Dk
