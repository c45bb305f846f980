/- Laws of the walk inside a fence: whole sectors loaded and stored; the map asked and stored into. -/
import Derived.Test.YtabahkeologbmaaDkO
namespace Go.Proofs.Ytabahkeologbmaa.Dk
open Go.RowKit Go.Shelf Go.Dk Go.Sha
open Go.Maps (Keyed)

section
variable {F : Fence} {nF : Nat} {P : Program} {ops : Array Oper} {rest : List Oper} {a : Act} {w : World} {Q : Exit → Act → World → Prop}
theorem rangeAt_arr {w : World} {g off : Nat} {cur : Array Value} {t : TypeId} {cs : List Value} (hg : w.heap[g]? = some (.cells cur t (0, 0))) (hA : ∀ j v, cs[j]? = some v → cur[off + j]? = some v) : w.rangeAt g off cs := fun j v hv => by
  rw [cell_of_arr hg]; exact hA j v hv
theorem wlI_load {dst : Tmp} {ty typ : TypeId} {x : Operand} {pos : String} {after : Array Edge} (g off : Nat) (cs : Array Value) (d : TypeDesc) (hu : P.underlying ty = some d) (hd : d.isRow = true)
    (hx : a.eval x = .pointer (some ⟨g, off, none⟩)) (hc : w.rangeAt g off cs.toList) (hi : (P.info? ty).map (·.size) = some cs.size)
    (h : wpListIn F nF P ops Q rest (a.put (some dst) (.agg cs)) w) : wpListIn F nF P ops Q (⟨some dst, .load ty x, typ, pos, after, none⟩ :: rest) a w := by
  refine wpListIn_plain rfl fun K' hK' => ?_
  unfold Oper.wpIn
  refine ⟨by simp [Oper.about], ?_⟩
  rw [Oper.semAt_plain F _ _ (by intro c hc'; cases hc')]
  unfold execOp
  simp only [hx, Instr.loadAt, Instr.sureAddr, Sem.run_bind, Sem.run_pure, Result.andThen_ok, run_loadVar_mid w g off ty cs.toList d hc hu hd (by rw [Array.length_toList]; exact hi)]
  exact hK' _ _ h
theorem wlI_store {ty typ : TypeId} {x y : Operand} {pos : String} {after : Array Edge} (g off : Nat) (cells cur row : Array Value) (t : TypeId) (hx : a.eval x = .pointer (some ⟨g, off, none⟩)) (hy : a.eval y = .agg cells)
    (hg : w.heap[g]? = some (.cells cur t (0, 0))) (hi : (P.info? ty).map (·.size) = some cells.size) (hf : off + cells.size ≤ cur.size) (h1 : cells.all (·.oneCell') = true)
    (hrow : (cur.toList.take off ++ cells.toList ++ cur.toList.drop (off + cells.size)).toArray = row)
    (h : wpListIn F nF P ops Q rest (a.put none undef) (w.setRow g row)) : wpListIn F nF P ops Q (⟨none, .store ty x y, typ, pos, after, none⟩ :: rest) a w := by
  refine wpListIn_plain rfl fun K' hK' => ?_
  unfold Oper.wpIn
  refine ⟨by simp [Oper.about], ?_⟩
  rw [Oper.semAt_plain F _ _ (by intro c hc'; cases hc')]
  unfold execOp
  simp only [hx, hy, Instr.storeAt, Instr.sureAddr, Sem.run_bind, Sem.run_pure, Result.andThen_ok, run_storeVar_part w g off t ty cur cells hg hi hf h1, hrow]
  exact hK' _ _ h
/-- into the block that was made last, whole -/
theorem wlI_storeL {ty typ t : TypeId} {x y : Operand} {pos : String} {after : Array Edge} {W : World} {old : Array Value} (g : Nat) (cs : Array Value) (hx : a.eval x = .pointer (some ⟨g, 0, none⟩)) (hy : a.eval y = .agg cs) (hg : g = W.heap.size)
    (hi : (P.info? ty).map (·.size) = some cs.size) (hold : old.size = cs.size) (h1 : cs.all (·.oneCell') = true)
    (h : wpListIn F nF P ops Q rest (a.put none undef) (W.alloc (.cells cs t))) : wpListIn F nF P ops Q (⟨none, .store ty x y, typ, pos, after, none⟩ :: rest) a (W.alloc (.cells old t)) :=
  wlI_store g 0 cs old cs t hx hy (heap_last _ _ _ hg) hi (by omega) h1 (by rw [List.take_zero, List.nil_append, Nat.zero_add, List.drop_of_length_le (by rw [Array.length_toList]; omega), List.append_nil, Array.toArray_toList]) (by rw [setRow_alloc_at _ _ _ _ _ hg]; exact h)
end
/-- one step of a region that draws its order, inside a fence: an append whose run is known -/
theorem stI_app {F : Fence} {nF : Nat} {P : Program} {a : Act} {w w' : World} {K : Act → World → Prop} {Q : Exit → Act → World → Prop} {E : Prop} {ys : Nat → Option Bool} {dst : Tmp} {s x : Operand} {t typ : TypeId} {pos : String} {after : Array Edge} {v u v' : Value}
    (hs : a.eval s = v) (hx : a.eval x = u) (hr : (Builtin.append_ #[t, t] typ #[v, u]).run P w = .ok v' w') (hK : K (a.put (some dst) v') w') :
    if Region.wanted (⟨some dst, .call { callee := .builtin .append, args := #[s, x], argTypes := #[t, t] }, typ, pos, after, none⟩ : Oper) ys = true then Oper.wpIn F nF P ⟨some dst, .call { callee := .builtin .append, args := #[s, x], argTypes := #[t, t] }, typ, pos, after, none⟩ a w K Q else E := by
  rw [if_pos (by simp [Region.wanted])]
  unfold Oper.wpIn
  refine ⟨by simp [Oper.about, resolve, Target.leads, Sem.run_pure], ?_⟩
  rw [Oper.semAt_plain F _ _ (by intro c hc'; cases hc')]
  unfold execOp
  simp only [resolve, invoke, builtin, Sem.run_bind, Sem.run_pure, Result.andThen_ok, List.map_toArray, List.map_cons, List.map_nil, hs, hx, hr]
  exact hK
theorem cell_alloc_l {W : World} {a : Addr} {v : Value} (o : Obj) (h : W.cell? a = some v) : (W.alloc o).cell? a = some v := cell_kept h (World.grownBy_alloc W o none) (fun r e => by cases e)
theorem frozen_alloc_l {W : World} {a : Addr} {v : Value} (o : Obj) (h : W.cell? a = some v) (hf : W.frozen? a = false) : (W.alloc o).frozen? a = false := (frozen_kept h (World.grownBy_alloc W o none) (fun r e => by cases e)).trans hf
/-- the map asked -/
theorem look_Dm {n i : Nat} {wt : Nat → Option By} (hi : i < n) {v : Value} {ps : List MemPlace} (h : RV v = some ((Dm n wt).atKey (.int .i64 (i : Int)) (.held (.agg (bc zero64))), ps)) : v = .agg (bc ((wt i).getD zero64)) := by
  unfold RV at h
  simp only [Option.some.injEq, Prod.mk.injEq] at h
  cases e : wt i with
  | some s =>
    rw [at_Dm hi e] at h
    have := h.1
    simp only [DataW.held.injEq] at this
    rw [this]; rfl
  | none =>
    have hh : Maps.has (Dm n wt) (.int .i64 (i : Int)) = false := by
      cases e2 : Maps.has (Dm n wt) (.int .i64 (i : Int)) with
      | false => rfl
      | true =>
        obtain ⟨j, s, _, h2, h3⟩ := (has_Dm _ _ _).1 e2
        simp only [Lit.int.injEq, true_and] at h3
        obtain rfl : i = j := by omega
        rw [e] at h2; cases h2
    rw [Maps.atKey_of_not_has hh] at h
    have := h.1
    simp only [DataW.held.injEq] at this
    rw [this]; rfl
theorem has_Dm' {n i : Nat} {wt : Nat → Option By} (hi : i < n) : Maps.has (Dm n wt) (.int .i64 (i : Int)) = (wt i).isSome := by
  rw [Bool.eq_iff_iff, has_Dm, Option.isSome_iff_exists]
  constructor
  · rintro ⟨j, s, _, h2, h3⟩
    simp only [Lit.int.injEq, true_and] at h3
    obtain rfl : i = j := by omega
    exact ⟨s, h2⟩
  · rintro ⟨s, hs⟩
    exact ⟨i, s, hi, hs, rfl⟩
theorem run_look {w : World} {M n i : Nat} {wt : Nat → Option By} (h : MpAt w M n wt) (hi : i < n) (hn : n ≤ 4096) :
    (Instr.lookup 53 (.map (some M)) (.int .i64 (i : Int)) true).run Try.prog w = .ok (.tuple #[.agg (bc ((wt i).getD zero64)), .bool (wt i).isSome]) w := by
  obtain ⟨v, ps, hr, hv⟩ := World.ownsMap.look_ok h KInt Try.underlying53 (zero_sector w) (zd := .held (.agg (bc zero64))) (zp := []) rfl (keyI hi hn)
  rw [hr, look_Dm hi hv, has_Dm' hi]
theorem run_look1 {w : World} {M n i : Nat} {wt : Nat → Option By} (h : MpAt w M n wt) (hi : i < n) (hn : n ≤ 4096) :
    (Instr.lookup 53 (.map (some M)) (.int .i64 (i : Int)) false).run Try.prog w = .ok (.agg (bc ((wt i).getD zero64))) w := by
  obtain ⟨v, ps, hr, hv⟩ := World.ownsMap.lookup h KInt Try.underlying53 (zero_sector w) (zd := .held (.agg (bc zero64))) (zp := []) rfl (keyI hi hn)
  rw [hr, look_Dm hi hv]
theorem run_look_some {w : World} {M n i : Nat} {wt : Nat → Option By} {s : By} (e : wt i = some s) (h : MpAt w M n wt) (hi : i < n) (hn : n ≤ 4096) :
    (Instr.lookup 53 (.map (some M)) (.int .i64 (i : Int)) true).run Try.prog w = .ok (.tuple #[.agg (bc s), .bool true]) w := by rw [run_look h hi hn, e]; rfl
theorem run_look_none {w : World} {M n i : Nat} {wt : Nat → Option By} (e : wt i = none) (h : MpAt w M n wt) (hi : i < n) (hn : n ≤ 4096) :
    (Instr.lookup 53 (.map (some M)) (.int .i64 (i : Int)) true).run Try.prog w = .ok (.tuple #[.agg (bc zero64), .bool false]) w := by rw [run_look h hi hn, e]; rfl
theorem run_look1_some {w : World} {M n i : Nat} {wt : Nat → Option By} {s : By} (e : wt i = some s) (h : MpAt w M n wt) (hi : i < n) (hn : n ≤ 4096) :
    (Instr.lookup 53 (.map (some M)) (.int .i64 (i : Int)) false).run Try.prog w = .ok (.agg (bc s)) w := by rw [run_look1 h hi hn, e]; rfl
/-- a sector into a variable that was made last -/
theorem wlI_sc {F : Fence} {nF : Nat} {ops : Array Oper} {rest : List Oper} {a : Act} {Q : Exit → Act → World → Prop} {typ t : TypeId} {x y : Operand} {pos : String} {after : Array Edge} {W : World} (s0 : By) (g : Nat) (s : By) (h0 : s0.length = 64) (hs : s.length = 64) (hx : a.eval x = .pointer (some ⟨g, 0, none⟩)) (hy : a.eval y = .agg (bc s)) (hg : g = W.heap.size)
    (h : wpListIn F nF Try.prog ops Q rest (a.put none undef) (W.alloc (.cells (bc s) t))) : wpListIn F nF Try.prog ops Q (⟨none, .store 74 x y, typ, pos, after, none⟩ :: rest) a (W.alloc (.cells (bc s0) t)) :=
  wlI_storeL g (bc s) hx hy hg (by rw [bc_size, hs]; exact info_sector) (by rw [bc_size, bc_size, hs, h0]) (bc_one s) h
theorem wlI_ldsc {F : Fence} {nF : Nat} {ops : Array Oper} {rest : List Oper} {a : Act} {w : World} {Q : Exit → Act → World → Prop} {dst : Tmp} {typ t : TypeId} {x : Operand} {pos : String} {after : Array Edge} (g : Nat) (s : By) (hs : s.length = 64) (hx : a.eval x = .pointer (some ⟨g, 0, none⟩)) (hg : w.heap[g]? = some (.cells (bc s) t (0, 0)))
    (h : wpListIn F nF Try.prog ops Q rest (a.put (some dst) (.agg (bc s))) w) : wpListIn F nF Try.prog ops Q (⟨some dst, .load 74 x, typ, pos, after, none⟩ :: rest) a w :=
  wlI_load g 0 (bc s) _ Try.underlying74 rfl hx (rangeAt_arr hg (fun j v hv => by rw [Nat.zero_add]; simpa using hv)) (by rw [bc_size, hs]; exact info_sector) h
/-- a sector out of many -/
theorem wlI_ldrow {F : Fence} {nF : Nat} {ops : Array Oper} {rest : List Oper} {a : Act} {w : World} {Q : Exit → Act → World → Prop} {dst : Tmp} {typ : TypeId} {x : Operand} {pos : String} {after : Array Edge} (L i n off : Nat) (la : Nat → By) (hla : ∀ i, (la i).length = 64) (hi : i < n) (ho : off = 64 * i) (hx : a.eval x = .pointer (some ⟨L, off, none⟩)) (hg : w.heap[L]? = some (.cells (bc (flat la n)) 74 (0, 0)))
    (h : wpListIn F nF Try.prog ops Q rest (a.put (some dst) (.agg (bc (la i)))) w) : wpListIn F nF Try.prog ops Q (⟨some dst, .load 74 x, typ, pos, after, none⟩ :: rest) a w :=
  wlI_load L off (bc (la i)) _ Try.underlying74 rfl hx (rangeAt_arr hg (fun j v hv => by
    subst ho
    rw [bc_list] at hv
    have hj : j < 64 := by have := (List.getElem?_eq_some_iff.1 hv).1; rw [byl_len, hla] at this; exact this
    rw [bc_get]
    unfold Lib.byteCells at hv ⊢
    rw [List.getElem?_map, flat_get hla hi hj, ← List.getElem?_map]; exact hv)) (by rw [bc_size, hla]; exact info_sector) h
end Go.Proofs.Ytabahkeologbmaa.Dk
